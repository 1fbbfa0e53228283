/-
  What is proved here: the walk of accordionlaw04.UtfPlace; conditions: the library's two tables hold what is laid.
-/
import Derived.Test.YtoifjbhjclglmaaDoorShort
namespace Go.Proofs.YtoifjbhjclglmaaDoor
open Go.RowKit Ut Go.Lib

theorem str_size (l : List UInt8) : (str l).size = l.length := by simp [str, ByteArray.size]
theorem str_app (a b : List UInt8) : str a ++ str b = str (a ++ b) := by
  unfold str
  apply ByteArray.ext
  simp
theorem cut_str (l : List UInt8) (n : Nat) : (str l).extract 0 n = str (l.take n) := by rw [extract_str, str_data]
theorem short_S {w0 w : World} (l : ByteArray) (m : Int) (n : Nat) (hm : m = (n : Int)) (hs : l.size ≤ 9223372036854775807) (hS : St w0 w) :
    Calls Tryd.prog 11 #[.string l, .int .i64 m] w (SE w0 (.string (str (l.data.toList.take n)))) := by
  subst hm
  refine (short_any l n w hs).mono ?_
  rintro e w' ⟨rfl, rfl⟩
  exact ⟨rfl, hS⟩
set_option maxHeartbeats 2000000 in
set_option maxRecDepth 1000000 in
theorem place_ok (a b : ByteArray) (w : World) (hT : TB w.heap.size w) (ha : a.size ≤ 9223372036854775807) (hb : b.size ≤ 9223372036854775807) (he : (unq (a.data.toList.take 300)).2.2.2 = 0) :
    Calls Tryd.prog 8 #[.string a, .string b] w fun e w' => e = .returned (.bool true) ∧ Below w.heap.size w w' := by
  have hS0 := St.start hT
  obtain ⟨l, hl⟩ : ∃ l, a.data.toList.take 300 = l := ⟨_, rfl⟩
  have hll : l.length ≤ 300 := by rw [← hl, List.length_take]; omega
  rw [hl] at he
  have h2 := unq_two he
  obtain ⟨t, n, at_, e, hr⟩ : ∃ t n at_ e, unq l = (t, n, at_, e) := ⟨_, _, _, _, rfl⟩
  rw [hr] at he h2
  dsimp only at he h2
  subst he
  have d1 : decide (2 ≤ (n : Int)) = true := decide_eq_true (by omega)
  have d2 : decide ((n : Int) ≤ ((str l).size : Int)) = true := decide_eq_true (by rw [str_size]; omega)
  have d2' : decide (n ≤ (str l).size) = true := decide_eq_true (by rw [str_size]; omega)
  have HL := Lib.hid hl
  have HR := Lib.hid hr
  have HZ := Lib.hid hll
  have HA := Lib.hid ha
  have HB := Lib.hid hb
  clear hl hr hll ha hb h2 hT
  go_enter Tryd.func8, Tryd.ntmps8
  go_wp2_with (first
    | (go_at_call 11; (with_reducible refine (short_S (w0 := w) a 300 300 rfl HA.out (by assumption)).mono ?_); rintro e w1 ⟨rfl, hS1⟩; rw [HL.out])
    | (go_at_call 11; (with_reducible refine (short_S (w0 := w) b 60 60 rfl HB.out (by assumption)).mono ?_); rintro e w1 ⟨rfl, hS1⟩)
    | (go_at_call 21; refine (unq_S (w0 := w) (str l) (by rw [str_size]; have := HZ.out; omega) (by assumption)).mono ?_; rintro e w1 ⟨rfl, hS1⟩; rw [str_data, HR.out]; unfold uR; dsimp only)
    | (go_at_call 20; refine (works_S (w0 := w) (by assumption)).mono ?_; rintro e w1 ⟨rfl, hS1⟩))
  go_ret
  exact ⟨rfl, (show St w _ by assumption).2⟩
set_option maxHeartbeats 2000000 in
set_option maxRecDepth 1000000 in
theorem place_trunc (a b : ByteArray) (w : World) (hT : TB w.heap.size w) (ha : a.size ≤ 9223372036854775807) (hb : b.size ≤ 9223372036854775807) (l : List UInt8) (hl : a.data.toList.take 300 = l) (at_ x : Nat) (hr : unq l = ([], 0, at_, x)) 
    (h1 : unq (l.take at_) = ([], 0, at_, 3)) (hx3 : x = 3) (hal : at_ = l.length) :
    Calls Tryd.prog 8 #[.string a, .string b] w fun e w' => e = .returned (.bool true) ∧ Below w.heap.size w w' := by
  have hS0 := St.start hT
  have hll : l.length ≤ 300 := by rw [← hl, List.length_take]; omega
  have hz := str_size l
  have hxe : x = 3 := hx3
  subst hxe
  have hae : at_ = (str l).size := by rw [hz]; exact hal
  have b2 : ((at_ : Int) == ((str l).size : Int)) = true := by simp; omega
  have b3 : (at_ == (str l).size) = true := by simp; omega
  have d1 : decide (((str l).size : Int) < (at_ : Int)) = false := decide_eq_false (by omega)
  have d2 : decide ((str l).size < at_) = false := decide_eq_false (by omega)
  have d3 : at_ ≤ (str l).size := by omega
  have hf1 : flB ((str l).extract 0 at_) (at_ : Int) 3 = true := by
    unfold flB
    rw [cut_str, str_data, h1]
    simp
  have hf1s : ((str l).extract 0 at_).size ≤ 65536 := by rw [cut_str, str_size, List.length_take]; omega
  clear hae hal
  have HF1 := Lib.hid hf1
  have HF1S := Lib.hid hf1s
  have HL := Lib.hid hl
  have HR := Lib.hid hr
  have HZ := Lib.hid hll
  have HA := Lib.hid ha
  have HB := Lib.hid hb
  have HZ2 := Lib.hid hz
  clear hl hr hll ha hb hT hf1 hf1s hz h1
  go_enter Tryd.func8, Tryd.ntmps8
  go_wp2_with (first
    | (go_at_call 11; (with_reducible refine (short_S (w0 := w) a 300 300 rfl HA.out (by assumption)).mono ?_); rintro e w1 ⟨rfl, hS1⟩; rw [HL.out])
    | (go_at_call 11; (with_reducible refine (short_S (w0 := w) b 60 60 rfl HB.out (by assumption)).mono ?_); rintro e w1 ⟨rfl, hS1⟩)
    | (go_at_call 21; refine (unq_S (w0 := w) (str l) (by rw [str_size]; have := HZ.out; omega) (by assumption)).mono ?_; rintro e w1 ⟨rfl, hS1⟩; rw [str_data, HR.out]; unfold uR; dsimp only)
    | (go_at_call 27; (with_reducible refine (fails_S (w0 := w) _ _ _ HF1.out HF1S.out (by assumption)).mono ?_); rintro e w1 ⟨rfl, hS1⟩)
    | (go_at_call 20; refine (works_S (w0 := w) (by assumption)).mono ?_; rintro e w1 ⟨rfl, hS1⟩))
  go_ret
  exact ⟨rfl, (show St w _ by assumption).2⟩
set_option maxHeartbeats 2000000 in
set_option maxRecDepth 1000000 in
theorem place_bad (a b : ByteArray) (w : World) (hT : TB w.heap.size w) (ha : a.size ≤ 9223372036854775807) (hb : b.size ≤ 9223372036854775807) (l : List UInt8) (hl : a.data.toList.take 300 = l) (at_ x : Nat) (hr : unq l = ([], 0, at_, x)) (_hx0 : x ≠ 0) (_hx : x < 100)
    (h1 : unq (l.take at_) = ([], 0, at_, 3)) (hx3 : x ≠ 3) (hal : at_ < l.length) (h2 : unq (l.take (at_ + 1) ++ b.data.toList.take 60) = unq l) :
    Calls Tryd.prog 8 #[.string a, .string b] w fun e w' => e = .returned (.bool true) ∧ Below w.heap.size w w' := by
  have hS0 := St.start hT
  have hll : l.length ≤ 300 := by rw [← hl, List.length_take]; omega
  have hz := str_size l
  have b1 : ((x : Int) == 3) = false := by simp; omega
  have b0 : ((x : Int) == 0) = false := by simp; omega
  have b2 : ((at_ : Int) == ((str l).size : Int)) = false := by simp; omega
  have b3 : (at_ == (str l).size) = false := by simp; omega
  have d1 : decide (((str l).size : Int) < (at_ : Int)) = false := decide_eq_false (by omega)
  have d2 : decide ((str l).size < at_) = false := decide_eq_false (by omega)
  have d3 : at_ ≤ (str l).size := by omega
  have d4 : at_ + 1 ≤ (str l).size := by omega
  have d5 : at_ ≤ 300 := by omega
  have d6 : (str (b.data.toList.take 60)).size ≤ 60 := by rw [str_size, List.length_take]; omega
  have d7 : ((str l).extract 0 (at_ + 1)).size ≤ 301 := by rw [cut_str, str_size, List.length_take]; omega
  have hf1 : flB ((str l).extract 0 at_) (at_ : Int) 3 = true := by
    unfold flB
    rw [cut_str, str_data, h1]
    simp
  have hf1s : ((str l).extract 0 at_).size ≤ 65536 := by rw [cut_str, str_size, List.length_take]; omega
  have hf2 : flB ((str l).extract 0 (at_ + 1) ++ str (b.data.toList.take 60)) (at_ : Int) (x : Int) = true := by
    unfold flB
    rw [cut_str, str_app, str_data, h2, hr]
    simp
  have hf2s : ((str l).extract 0 (at_ + 1) ++ str (b.data.toList.take 60)).size ≤ 65536 := by rw [cut_str, str_app, str_size, List.length_append, List.length_take, List.length_take]; omega
  have HF2 := Lib.hid hf2
  have HF2S := Lib.hid hf2s
  clear hf2 hf2s h2 hx3 hal
  have HF1 := Lib.hid hf1
  have HF1S := Lib.hid hf1s
  have HL := Lib.hid hl
  have HR := Lib.hid hr
  have HZ := Lib.hid hll
  have HA := Lib.hid ha
  have HB := Lib.hid hb
  have HZ2 := Lib.hid hz
  clear hl hr hll ha hb hT hf1 hf1s hz h1
  go_enter Tryd.func8, Tryd.ntmps8
  go_wp2_with (first
    | (go_at_call 11; (with_reducible refine (short_S (w0 := w) a 300 300 rfl HA.out (by assumption)).mono ?_); rintro e w1 ⟨rfl, hS1⟩; rw [HL.out])
    | (go_at_call 11; (with_reducible refine (short_S (w0 := w) b 60 60 rfl HB.out (by assumption)).mono ?_); rintro e w1 ⟨rfl, hS1⟩)
    | (go_at_call 21; refine (unq_S (w0 := w) (str l) (by rw [str_size]; have := HZ.out; omega) (by assumption)).mono ?_; rintro e w1 ⟨rfl, hS1⟩; rw [str_data, HR.out]; unfold uR; dsimp only)
    | (go_at_call 27; (with_reducible refine (fails_S (w0 := w) _ _ _ HF1.out HF1S.out (by assumption)).mono ?_); rintro e w1 ⟨rfl, hS1⟩)
    | (go_at_call 27; (with_reducible refine (fails_S (w0 := w) _ _ _ HF2.out HF2S.out (by assumption)).mono ?_); rintro e w1 ⟨rfl, hS1⟩)
    | (go_at_call 20; refine (works_S (w0 := w) (by assumption)).mono ?_; rintro e w1 ⟨rfl, hS1⟩))
  go_ret
  exact ⟨rfl, (show St w _ by assumption).2⟩
theorem utfPlace_walk (a b : ByteArray) (w : World) (hT : TB w.heap.size w) (ha : a.size ≤ 9223372036854775807) (hb : b.size ≤ 9223372036854775807) :
    Calls Tryd.prog 8 #[.string a, .string b] w fun e w' => e = .returned (.bool true) ∧ Below w.heap.size w w' := by
  by_cases he : (unq (a.data.toList.take 300)).2.2.2 = 0
  · exact place_ok a b w hT ha hb he
  · obtain ⟨l, hl⟩ : ∃ l, a.data.toList.take 300 = l := ⟨_, rfl⟩
    rw [hl] at he
    rcases go_facts l q0 0 with h | ⟨h1, h2, h3, h4, h5, h6, h7, h8⟩
    · exact absurd h.1 he
    · change (unq l).2.2.2 ≠ 0 at h1
      obtain ⟨at_, hat⟩ : ∃ at_, (go q0 l 0).2.2.1 = at_ := ⟨_, rfl⟩
      obtain ⟨x, hx⟩ : ∃ x, (go q0 l 0).2.2.2 = x := ⟨_, rfl⟩
      have h1' : x ≠ 0 := by rw [← hx]; exact h1
      rw [hat, hx] at h2 h5
      rw [hx] at h6
      rw [hat] at h3 h4 h7 h8
      rw [Nat.sub_zero] at h7
      by_cases h3x : x = 3
      · exact place_trunc a b w hT ha hb l hl at_ x h2 h7 h3x (by have := h5.1 h3x; omega)
      · have hlt : at_ < l.length := by
          rcases Nat.lt_or_ge at_ l.length with h | h
          · exact h
          · exact absurd (h5.2 (by omega)) h3x
        have h9 := h8 (by omega) (b.data.toList.take 60)
        rw [Nat.sub_zero] at h9
        exact place_bad a b w hT ha hb l hl at_ x h2 h1' (by omega) h7 h3x hlt h9
end Go.Proofs.YtoifjbhjclglmaaDoor
