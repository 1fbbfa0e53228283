/-
  What is proved here: the walk of accordionlaw05.B64Only; no condition.
-/
import Derived.Test.YtddgmpmfdgfcdaaWorksB
import Derived.Test.YtddgmpmfdgfcdaaPlain
namespace Go.Proofs.Ytddgmpmfdgfcdaa
open Go.RowKit Bs

theorem short_S {w0 w : World} (l : ByteArray) (m : Int) (n : Nat) (hm : m = (n : Int)) (hs : l.size ≤ 9223372036854775807) (hS : Below w0.heap.size w0 w) :
    Calls Try.prog 16 #[.string l, .int .i64 m] w (SE w0 (.string (str (l.data.toList.take n)))) := by
  subst hm
  refine (short_any l n w hs).mono ?_
  rintro e w' ⟨rfl, rfl⟩
  exact ⟨rfl, hS⟩
set_option maxHeartbeats 2000000 in
set_option maxRecDepth 1000000 in
theorem only_ok (a : ByteArray) (w : World) (ha : a.size ≤ 9223372036854775807) (l q : List UInt8) (hl : a.data.toList.take 400 = l) (hd : dec l = (some q, 0)) :
    Calls Try.prog 6 #[.string a] w fun e w' => e = .returned (.bool true) ∧ Below w.heap.size w w' := by
  have hS0 := Below.refl w.heap.size w
  have hll : l.length ≤ 400 := by rw [← hl, List.length_take]; omega
  have hen := (enc_dec l q 0 hd).2
  have hql : q.length ≤ 10000 := by
    have := enc_len q
    rw [hen] at this
    omega
  have G := fun (W : World) (h : Below w.heap.size w W) => get_S (w0 := w) (w := W) (str l) l (str_data l) (by rw [str_size]; omega) h
  rw [hd] at G
  have HG := Lib.hid G
  have HL := Lib.hid hl
  have HA := Lib.hid ha
  have HEN := Lib.hid hen
  have HQ := Lib.hid hql
  clear hl hd hen hql ha hll G
  go_enter Try.func6, Try.ntmps6
  go_wp2_with (first
    | (go_at_call 15; refine (works_S (w0 := w) (by assumption)).mono ?_; rintro e w1 ⟨rfl, hS1⟩)
    | (go_at_call 16; (with_reducible refine (short_S (w0 := w) a 400 400 rfl HA.out (by assumption)).mono ?_); rintro e w1 ⟨rfl, hS1⟩; rw [HL.out])
    | (go_at_call 17; (with_reducible refine (HG.out _ (by assumption)).mono ?_); rintro e w2 ⟨v, rfl, ho, _, hS2⟩; have HO := Lib.hid (show Rdm w2 v q from Rdm.own ho); clear ho)
    | (go_at_call 12; (with_reducible refine (put_S (w0 := w) _ _ HO.out HQ.out (by assumption)).mono ?_); rintro e w3 ⟨rfl, _, hS3⟩; rw [HEN.out]))
  go_ret
  exact ⟨rfl, by assumption⟩
set_option maxHeartbeats 2000000 in
set_option maxRecDepth 1000000 in
theorem only_no (a : ByteArray) (w : World) (ha : a.size ≤ 9223372036854775807) (l : List UInt8) (k : Nat) (hl : a.data.toList.take 400 = l) (hd : dec l = (none, k)) :
    Calls Try.prog 6 #[.string a] w fun e w' => e = .returned (.bool true) ∧ Below w.heap.size w w' := by
  have hS0 := Below.refl w.heap.size w
  have hll : l.length ≤ 400 := by rw [← hl, List.length_take]; omega
  have hkl := (dec_place l k hd).1
  have d1 : decide ((k : Int) ≤ ((str l).size : Int)) = true := decide_eq_true (by rw [str_size]; omega)
  have d2 : decide (k ≤ (str l).size) = true := decide_eq_true (by rw [str_size]; omega)
  have d3 : decide (0 ≤ (k : Int)) = true := decide_eq_true (by omega)
  have G := fun (W : World) (h : Below w.heap.size w W) => get_S (w0 := w) (w := W) (str l) l (str_data l) (by rw [str_size]; omega) h
  rw [hd] at G
  have HG := Lib.hid G
  have HL := Lib.hid hl
  have HA := Lib.hid ha
  clear hl hd ha hll G hkl
  go_enter Try.func6, Try.ntmps6
  go_wp2_with (first
    | (go_at_call 15; refine (works_S (w0 := w) (by assumption)).mono ?_; rintro e w1 ⟨rfl, hS1⟩)
    | (go_at_call 16; (with_reducible refine (short_S (w0 := w) a 400 400 rfl HA.out (by assumption)).mono ?_); rintro e w1 ⟨rfl, hS1⟩; rw [HL.out])
    | (go_at_call 17; (with_reducible refine (HG.out _ (by assumption)).mono ?_); rintro e w2 ⟨v, rfl, ho, _, hS2⟩; obtain ⟨A, n, c, rfl, hr⟩ := Rd.of_own ho; have hn : n = 0 := hr.1.symm; subst hn; clear ho hr))
  go_ret
  exact ⟨ret_bool (by simp), by assumption⟩
theorem b64Only_walk (a : ByteArray) (w : World) (ha : a.size ≤ 9223372036854775807) :
    Calls Try.prog 6 #[.string a] w fun e w' => e = .returned (.bool true) ∧ Below w.heap.size w w' := by
  rcases hd : dec (a.data.toList.take 400) with ⟨_ | q, k⟩
  · exact only_no a w ha _ k rfl hd
  · obtain rfl := (enc_dec _ _ _ hd).1
    exact only_ok a w ha _ q rfl hd
end Go.Proofs.Ytddgmpmfdgfcdaa
