/-
  What is proved here: contracts of the laws' helpers comes, reads, fails, works and of accordionref00.Short; conditions: the library's two tables hold what is laid, and those that each fact states.
-/
import Derived.Test.YtoifjbhjclglmaaDoorQuote
namespace Go.Proofs.YtoifjbhjclglmaaDoor
open Go.RowKit Ut Go.Lib

/-- Between two calls of a law: the tables hold, and of what was there nothing has turned. -/
def St (w0 w : World) : Prop := TB w0.heap.size w ∧ Below w0.heap.size w0 w
theorem St.start {w : World} (h : TB w.heap.size w) : St w w := ⟨h, Below.refl _ _⟩
theorem St.tb {w0 w : World} (h : St w0 w) : TB w.heap.size w := ⟨Nat.le_trans h.1.1 h.1.2.1, Nat.le_refl _, h.1.2.2⟩
theorem St.step {w0 w w' : World} (h : St w0 w) (hb : Below w.heap.size w w') : St w0 w' := by
  have hb' := hb.mono h.2.size
  exact ⟨h.1.below hb', h.2.trans hb'⟩
def SE (w0 : World) (v : Value) (e : Ending) (w' : World) : Prop := e = .returned v ∧ St w0 w'

theorem bytes_eq {a b : ByteArray} : (a.toList == b.toList) = (a.data.toList == b.data.toList) := by
  rw [Lib.toList_data, Lib.toList_data]

def rdB (s want : ByteArray) (n : Int) : Bool := (unq s.data.toList).1 == want.data.toList && ((unq s.data.toList).2.1 : Int) == n && (unq s.data.toList).2.2.1 == 0 && (unq s.data.toList).2.2.2 == 0
def flB (s : ByteArray) (at_ e : Int) : Bool := (unq s.data.toList).1 == [] && (unq s.data.toList).2.1 == 0 && ((unq s.data.toList).2.2.1 : Int) == at_ && ((unq s.data.toList).2.2.2 : Int) == e
def cmB (s : ByteArray) (r n : Int) : Bool := ((nx s.data.toList).1 : Int) == r && ((nx s.data.toList).2.1 : Int) == n && (nx s.data.toList).2.2 == decide (0 < n)

theorem unq_S {w0 w : World} (s : ByteArray) (hs : s.size ≤ 65536) (hS : St w0 w) : Calls Tryd.prog 21 #[.string s] w (SE w0 (uR (unq s.data.toList))) := by
  refine (unquote_any s w hS.tb hs).mono ?_
  rintro e w' ⟨rfl, hb⟩
  exact ⟨rfl, hS.step hb⟩
set_option maxRecDepth 100000 in
theorem reads_S {w0 w : World} (s want : ByteArray) (n : Int) (h : rdB s want n = true) (hs : s.size ≤ 65536) (hS : St w0 w) :
    Calls Tryd.prog 24 #[.string s, .string want, .int .i64 n] w (SE w0 (.bool true)) := by
  have C := unq_S s hs hS
  unfold rdB at h
  simp only [Bool.and_eq_true, beq_iff_eq] at h
  obtain ⟨⟨⟨h1, h2⟩, h3⟩, h4⟩ := h
  have hw : str (unq s.data.toList).1 = want := by rw [h1, str_list]
  unfold uR at C
  rw [hw, h2, h3, h4] at C
  have HC := Lib.hid C
  clear C h1 h2 h3 h4 hw hS hs
  go_enter Tryd.func24, Tryd.ntmps24
  go_wp2_with (go_at_call 21; refine HC.out.mono ?_; rintro e w1 ⟨rfl, hb⟩; have HB := Lib.hid hb; clear hb)
  go_ret
  exact ⟨ret_bool (by simp), HB.out⟩
set_option maxRecDepth 100000 in
theorem fails_S {w0 w : World} (s : ByteArray) (at_ x : Int) (h : flB s at_ x = true) (hs : s.size ≤ 65536) (hS : St w0 w) :
    Calls Tryd.prog 27 #[.string s, .int .i64 at_, .int .i64 x] w (SE w0 (.bool true)) := by
  have C := unq_S s hs hS
  unfold flB at h
  simp only [Bool.and_eq_true, beq_iff_eq] at h
  obtain ⟨⟨⟨h1, h2⟩, h3⟩, h4⟩ := h
  unfold uR at C
  rw [h1, h2, h3, h4, show str [] = ⟨#[]⟩ from rfl] at C
  have HC := Lib.hid C
  clear C h1 h2 h3 h4 hS hs
  go_enter Tryd.func27, Tryd.ntmps27
  go_wp2_with (go_at_call 21; refine HC.out.mono ?_; rintro e w1 ⟨rfl, hb⟩; have HB := Lib.hid hb; clear hb)
  go_ret
  exact ⟨ret_bool (by simp), HB.out⟩
theorem next_S {w0 w : World} (s : ByteArray) (hS : St w0 w) : Calls Tryd.prog 12 #[.string s] w (SE w0 (nxR (nx s.data.toList))) := by
  refine (next_any s w hS.1.2.2).mono ?_
  rintro e w' ⟨rfl, hb⟩
  exact ⟨rfl, hS.step hb⟩
set_option maxRecDepth 100000 in
theorem comes_S {w0 w : World} (s : ByteArray) (r n : Int) (h : cmB s r n = true) (hS : St w0 w) :
    Calls Tryd.prog 37 #[.string s, .int .i32 r, .int .i64 n] w (SE w0 (.bool true)) := by
  have C := next_S s hS
  unfold cmB at h
  simp only [Bool.and_eq_true, beq_iff_eq] at h
  obtain ⟨⟨h1, h2⟩, h3⟩ := h
  unfold nxR at C
  rw [h1, h2, h3] at C
  have HC := Lib.hid C
  clear C h1 h2 h3 hS
  go_enter Tryd.func37, Tryd.ntmps37
  go_wp2_with (go_at_call 12; refine HC.out.mono ?_; rintro e w1 ⟨rfl, hb⟩; have HB := Lib.hid hb; clear hb)
  go_ret
  exact ⟨ret_bool (by simp), HB.out⟩
theorem quote_S {w0 w : World} (s : ByteArray) (hs : s.size ≤ 65536) (hS : St w0 w) : Calls Tryd.prog 16 #[.string s] w (SE w0 (quR s.data.toList)) := by
  refine (quote_any s w hS.tb hs).mono ?_
  rintro e w' ⟨rfl, hb⟩
  exact ⟨rfl, hS.step hb⟩
theorem valid_S {w0 w : World} (s : ByteArray) (hs : s.size ≤ 65536) (hS : St w0 w) : Calls Tryd.prog 18 #[.string s] w (SE w0 (.bool (validD s.data.toList))) := by
  refine (valid_any s w hS.1.2.2 (by omega)).mono ?_
  rintro e w' ⟨rfl, hb⟩
  exact ⟨rfl, hS.step hb⟩

theorem q_one : quR [97, 34, 98, 10, 31] = .tuple #[.string ⟨#[34, 97, 92, 34, 98, 92, 110, 92, 117, 48, 48, 49, 102, 34]⟩, .int .i64 0] := by
  have hv : validD [97, 34, 98, 10, 31] = true := by decide +kernel
  unfold quR
  rw [if_pos hv]
  rfl
theorem q_two : quR [195] = .tuple #[.string ⟨#[]⟩, .int .i64 40] := by
  have hv : ¬ (validD [195] = true) := by decide +kernel
  unfold quR
  rw [if_neg hv]
set_option maxHeartbeats 2000000 in
set_option maxRecDepth 1000000 in
theorem works_S {w0 w : World} (hS : St w0 w) : Calls Tryd.prog 20 #[] w (SE w0 (.bool true)) := by
  have P1 := fun W : World => put_yes 228 W (by unfold scal; omega)
  rw [show str (enc 228) = ⟨#[195, 164]⟩ from rfl] at P1
  have HP1 := Lib.hid P1
  have HP2 := Lib.hid (fun W : World => put_no 57343 W (by decide))
  have Q1 := fun (W : World) (h : St w0 W) => quote_S (w0 := w0) (w := W) ⟨#[97, 34, 98, 10, 31]⟩ (by decide) h
  rw [show (⟨#[97, 34, 98, 10, 31]⟩ : ByteArray).data.toList = [97, 34, 98, 10, 31] from rfl, q_one] at Q1
  have HQ1 := Lib.hid Q1
  have Q2 := fun (W : World) (h : St w0 W) => quote_S (w0 := w0) (w := W) ⟨#[195]⟩ (by decide) h
  rw [show (⟨#[195]⟩ : ByteArray).data.toList = [195] from rfl, q_two] at Q2
  have HQ2 := Lib.hid Q2
  clear P1 Q1 Q2
  go_enter Tryd.func20, Tryd.ntmps20
  go_wp2_with (first
    | (go_at_call 14; refine (HP1.out _).mono ?_; rintro e w1 ⟨rfl, hw⟩; subst hw)
    | (go_at_call 14; refine (HP2.out _).mono ?_; rintro e w1 ⟨rfl, hw⟩; subst hw)
    | (go_at_call 16; (with_reducible refine (HQ1.out _ (by assumption)).mono ?_); rintro e w1 ⟨rfl, hS⟩)
    | (go_at_call 16; (with_reducible refine (HQ2.out _ (by assumption)).mono ?_); rintro e w1 ⟨rfl, hS⟩)
    | (go_at_call 37; refine (comes_S (w0 := w0) _ _ _ (by decide +kernel) (by assumption)).mono ?_; rintro e w1 ⟨rfl, hS⟩)
    | (go_at_call 24; refine (reads_S (w0 := w0) _ _ _ (by decide +kernel) (by decide) (by assumption)).mono ?_; rintro e w1 ⟨rfl, hS⟩)
    | (go_at_call 27; refine (fails_S (w0 := w0) _ _ _ (by decide +kernel) (by decide) (by assumption)).mono ?_; rintro e w1 ⟨rfl, hS⟩))
  go_ret
  exact ⟨rfl, by assumption⟩
end Go.Proofs.YtoifjbhjclglmaaDoor
