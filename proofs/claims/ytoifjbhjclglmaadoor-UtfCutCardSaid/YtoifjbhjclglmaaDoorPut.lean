/-
  What is proved here: the contracts of utf.Put, utf.Next, utf.Valid and strings.IndexRune at the escaped bytes; conditions: the library's two tables hold what is laid, and those that each fact states.
-/
import Derived.Test.YtoifjbhjclglmaaDoorUnq
import Derived.Lib.OthersKept
import Derived.Lib.TrimUEq
import Derived.Lib.MapLaws
import Derived.Shelf.Unicode.ValidAny
namespace Go.Proofs.YtoifjbhjclglmaaDoor
open Go.RowKit Ut Go.Lib

theorem encode_enc {r : Nat} (h : scal r) : Utf8.encode (r : Int) = str (enc r) := by
  unfold scal at h
  have hv : Utf8.valid (r : Int) = true := by unfold Utf8.valid; simp; omega
  unfold Utf8.encode str enc encN
  rw [hv]
  simp only [if_true, Int.toNat_natCast]
  repeat' split
  all_goals rfl

theorem put_yes (r : Nat) (w : World) (h : scal r) :
    Calls Tryd.prog 14 #[.int .i32 (r : Int)] w fun e w' => e = .returned (.tuple #[.string (str (enc r)), .bool true]) ∧ w = w' := by
  have hv : Lib.validRune (r : Int) = true := by unfold scal at h; unfold Lib.validRune; simp; omega
  have he := encode_enc h
  have C := Tryd.utf8_ValidRune (r : Int) w
  rw [hv] at C
  have HC := Lib.hid C
  have HE := Lib.hid he
  clear C he hv
  go_enter Tryd.func14, Tryd.ntmps14
  go_wp2_with (go_at_call 32; refine HC.out.mono ?_; rintro e w1 ⟨rfl, hw⟩; subst hw)
  go_ret2
  rw [HE.out]
  exact ⟨rfl, rfl⟩
theorem put_no (r : Int) (w : World) (h : Lib.validRune r = false) :
    Calls Tryd.prog 14 #[.int .i32 r] w fun e w' => e = .returned (.tuple #[.string ⟨#[]⟩, .bool false]) ∧ w = w' := by
  have C := Tryd.utf8_ValidRune r w
  rw [h] at C
  have HC := Lib.hid C
  clear C h
  go_enter Tryd.func14, Tryd.ntmps14
  go_wp2_with (go_at_call 32; refine HC.out.mono ?_; rintro e w1 ⟨rfl, hw⟩; subst hw)
  go_ret2
  exact ⟨rfl, rfl⟩

/-- What Next hands back. -/
def dec (l : List UInt8) : Nat × Nat := if l = [] then (65533, 0) else decodeL l
def nx (l : List UInt8) : Nat × Nat × Bool := if (dec l).1 = 65533 ∧ (dec l).2 ≠ 3 then (0, 0, false) else ((dec l).1, (dec l).2, true)
theorem decodeGo_dec (s : ByteArray) : Lib.decodeGo s = dec s.data.toList := by
  unfold Lib.decodeGo dec
  have hsz := Lib.size_eq s
  by_cases h : s.size = 0
  · rw [if_pos h, if_pos (List.eq_nil_of_length_eq_zero (by omega))]
  · rw [if_neg h, if_neg (by intro h0; apply h; rw [hsz, h0]; rfl)]
    have := decodeL_drop s 0
    rw [List.drop_zero] at this
    exact this.symm
def nxR (r : Nat × Nat × Bool) : Value := .tuple #[.int .i32 (r.1 : Int), .int .i64 (r.2.1 : Int), .bool r.2.2]
theorem next_any (s : ByteArray) (w : World) (hT : Lib.Utf8Tabs 0 1 w) :
    Calls Tryd.prog 12 #[.string s] w fun e w' => e = .returned (nxR (nx s.data.toList)) ∧ Below w.heap.size w w' := by
  have C := Tryd.utf8_DecodeRuneInString s w hT
  rw [decodeGo_dec] at C
  unfold nx
  obtain ⟨r, hr⟩ : ∃ r, (dec s.data.toList).1 = r := ⟨_, rfl⟩
  obtain ⟨n, hn⟩ : ∃ n, (dec s.data.toList).2 = n := ⟨_, rfl⟩
  rw [hr, hn] at C ⊢
  have HC := Lib.hid C
  have HRL := Lib.hid (show Lib.runeLen 65533 = 3 by decide)
  clear C hr hn hT
  by_cases h1 : r = 65533
  · subst h1
    by_cases h2 : n = 3
    · subst h2
      rw [if_neg (by simp)]
      go_enter Tryd.func12, Tryd.ntmps12
      go_wp2_with (first
        | (go_at_call 29; refine HC.out.mono ?_; rintro e w1 ⟨rfl, hb⟩; have HB := Lib.hid hb; clear hb)
        | (go_at_call 30; refine (Tryd.utf8_RuneLen _ _).mono ?_; rintro e w2 ⟨rfl, hw⟩; subst hw; rw [HRL.out]))
      go_ret3
      exact ⟨rfl, HB.out⟩
    · rw [if_pos ⟨rfl, h2⟩]
      have h3 : ((n : Int) == 3) = false := by simp; omega
      have h4 : ((n : Int) != 3) = true := by simp; omega
      go_enter Tryd.func12, Tryd.ntmps12
      go_wp2_with (first
        | (go_at_call 29; refine HC.out.mono ?_; rintro e w1 ⟨rfl, hb⟩; have HB := Lib.hid hb; clear hb)
        | (go_at_call 30; refine (Tryd.utf8_RuneLen _ _).mono ?_; rintro e w2 ⟨rfl, hw⟩; subst hw; rw [HRL.out]))
      go_ret3
      exact ⟨rfl, HB.out⟩
  · rw [if_neg (by intro h; exact h1 h.1)]
    have h3 : ((r : Int) == 65533) = false := by simp; omega
    have H1 := Lib.hid h1
    clear h1
    go_enter Tryd.func12, Tryd.ntmps12
    go_wp2_with (first
        | (go_at_call 29; refine HC.out.mono ?_; rintro e w1 ⟨rfl, hb⟩; have HB := Lib.hid hb; clear hb)
        | (go_at_call 30; refine (Tryd.utf8_RuneLen _ _).mono ?_; rintro e w2 ⟨rfl, hw⟩; subst hw))
    go_ret3
    exact ⟨rfl, HB.out⟩

theorem valid_any (s : ByteArray) (w : World) (hT : Lib.Utf8Tabs 0 1 w) (hs : s.size ≤ 9223372036854775807) :
    Calls Tryd.prog 18 #[.string s] w fun e w' => e = .returned (.bool (Lib.validD s.data.toList)) ∧ Below w.heap.size w w' := by
  have C : Calls Tryd.prog 36 #[.string s] w fun e w' => e = .returned (.bool (Lib.validD s.data.toList)) ∧ Below w.heap.size w w' := Any.utf8_ValidString Tryd.lays196 s w hs hT
  have HC := Lib.hid C
  clear C hT hs
  go_enter Tryd.func18, Tryd.ntmps18
  go_wp2_with (go_at_call 36; refine HC.out.mono ?_; rintro e w1 ⟨rfl, hb⟩; have HB := Lib.hid hb; clear hb)
  go_ret
  exact ⟨rfl, HB.out⟩
end Go.Proofs.YtoifjbhjclglmaaDoor
