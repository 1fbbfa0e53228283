/-
  What is proved here: the law KeyLess returns true; condition: the table of package tree holds what is laid.
-/
import Derived.Test.YtjbmghfgbdnjjaaDoorKWorks
import Derived.Test.YtjbmghfgbdnjjaaDoorTexts
namespace Go.Proofs.YtjbmghfgbdnjjaaDoor
open Go.RowKit Go.Sort

theorem bl_app : ∀ (a b c : List UInt8), Op.bytesLess (a ++ b) (a ++ c) = Op.bytesLess b c
  | [], _, _ => rfl
  | x :: a, b, c => by
    rw [List.cons_append, List.cons_append, less_head, bl_app a b c]
    simp
theorem toL_app (a b : ByteArray) : (a ++ b).toList = a.toList ++ b.toList := by simp [ByteArray.toList_eq]
theorem lt_app (a b c : ByteArray) : lt (a ++ b) (a ++ c) = lt b c := by unfold lt; rw [toL_app, toL_app, bl_app]
theorem lt_app_r (a b : ByteArray) : lt a (a ++ b) = !b.toList.isEmpty := by
  unfold lt
  have h := bl_app a.toList [] b.toList
  rw [List.append_nil] at h
  rw [toL_app, h, less_nil]
theorem lt_app_l (a b : ByteArray) : lt (a ++ b) a = false := by
  unfold lt
  have h := bl_app a.toList b.toList []
  rw [List.append_nil] at h
  rw [toL_app, h]
  cases b.toList with
  | nil => rfl
  | cons x s => exact less_cons_nil x s
theorem less_lt (a b : ByteArray) (W : World) : Calls Tryd.prog 18 #[.string a, .string b] W fun e w1 => e = .returned (.bool (lt a b)) ∧ W = w1 := (keyLess_any a b W).mono fun _ _ h => ⟨h.1, h.2.symm⟩
theorem strNe_true {x y : ByteArray} (h : x = y) : (x.toList != y.toList) = false := by subst h; simp
theorem strNe_false {x y : ByteArray} (h : x ≠ y) : (x.toList != y.toList) = true := by
  have := strEq_false h
  simp [bne, this]

set_option maxRecDepth 100000 in
set_option maxHeartbeats 1000000 in
theorem keyLess_walk (a b c : ByteArray) (w : World) (hT : Tab w) (ha : a.size ≤ maxLen) (hb : b.size ≤ maxLen) (hc : c.size ≤ maxLen) :
    Calls Tryd.prog 6 #[.string a, .string b, .string c] w fun e w' => e = .returned (.bool true) ∧ Below w.heap.size w w' := by
  have HT := Lib.hid hT
  have HS1 : Hid (∀ W, Calls Tryd.prog 12 #[.string a, .int .i64 200] W fun e w' => e = .returned (.string (shN 200 a)) ∧ Below W.heap.size W w') := Lib.hid fun W => shortN_any 200 a W ha (by omega)
  have HS2 : Hid (∀ W, Calls Tryd.prog 12 #[.string b, .int .i64 200] W fun e w' => e = .returned (.string (shN 200 b)) ∧ Below W.heap.size W w') := Lib.hid fun W => shortN_any 200 b W hb (by omega)
  have HS3 : Hid (∀ W, Calls Tryd.prog 12 #[.string c, .int .i64 200] W fun e w' => e = .returned (.string (shN 200 c)) ∧ Below W.heap.size W w') := Lib.hid fun W => shortN_any 200 c W hc (by omega)
  have z1 := shN_size 200 a
  have z2 := shN_size 200 b
  have z3 := shN_size 200 c
  obtain ⟨x, hx⟩ : ∃ x, shN 200 a = x := ⟨_, rfl⟩
  obtain ⟨y, hy⟩ : ∃ x, shN 200 b = x := ⟨_, rfl⟩
  obtain ⟨z, hz⟩ : ∃ x, shN 200 c = x := ⟨_, rfl⟩
  rw [hx] at HS1 z1
  rw [hy] at HS2 z2
  rw [hz] at HS3 z3
  clear hx hy hz hT ha hb hc
  have e0 := lt_irrefl x
  have HX : Hid (x = y ∨ (lt x y = true ∧ lt y x = false) ∨ (lt y x = true ∧ lt x y = false)) := Lib.hid (lt_tri x y)
  go_enter Tryd.func6, Tryd.ntmps6
  go_wp2_with fail
  with_reducible refine (HS1.out _).mono ?_
  rintro e w1 ⟨rfl, hb1⟩
  go_wp2_with fail
  with_reducible refine (HS2.out _).mono ?_
  rintro e w2 ⟨rfl, hb2⟩
  go_wp2_with fail
  with_reducible refine (HS3.out _).mono ?_
  rintro e w3 ⟨rfl, hb3⟩
  have HB3 : Hid (Below w.heap.size w w3) := Lib.hid ((hb1.trans (hb2.mono hb1.size)).trans (hb3.mono (Nat.le_trans hb1.size hb2.size)))
  have HW := Lib.hid (works_true w3 (HT.out.keep HB3.out))
  clear hb1 hb2 hb3 HT HS1 HS2 HS3
  have f1 := lt_app_r x y
  have f2 := lt_app_l x y
  have f3 := lt_app x y z
  by_cases hxy : x = y
  · subst hxy
    have n1 := strNe_true (rfl : x = x)
    go_wp2_with (first | (go_at_call 18; with_reducible refine (less_lt _ _ _).mono ?_; rintro e w' ⟨rfl, rfl⟩) | (go_at_call 22; with_reducible refine HW.out.mono ?_; rintro e w4 ⟨rfl, hb4⟩))
    go_ret
    exact ⟨rfl, HB3.out.trans (hb4.mono HB3.out.size)⟩
  · have m1 := strEq_false hxy
    rcases HX.out with h | ⟨e1, e2⟩ | ⟨e2, e1⟩
    · exact absurd h hxy
    · obtain ⟨r, hr⟩ : ∃ r, lt y z = r := ⟨_, rfl⟩
      have HT2 : Hid (r = true → lt x z = true) := Lib.hid fun h => lt_trans e1 (hr.trans h)
      cases r with
      | true =>
        have e3 := HT2.out rfl
        go_wp2_with (first | (go_at_call 18; with_reducible refine (less_lt _ _ _).mono ?_; rintro e w' ⟨rfl, rfl⟩) | (go_at_call 22; with_reducible refine HW.out.mono ?_; rintro e w4 ⟨rfl, hb4⟩))
        go_ret
        exact ⟨rfl, HB3.out.trans (hb4.mono HB3.out.size)⟩
      | false =>
        go_wp2_with (first | (go_at_call 18; with_reducible refine (less_lt _ _ _).mono ?_; rintro e w' ⟨rfl, rfl⟩) | (go_at_call 22; with_reducible refine HW.out.mono ?_; rintro e w4 ⟨rfl, hb4⟩))
        go_ret
        exact ⟨rfl, HB3.out.trans (hb4.mono HB3.out.size)⟩
    · skip
      go_wp2_with (first | (go_at_call 18; with_reducible refine (less_lt _ _ _).mono ?_; rintro e w' ⟨rfl, rfl⟩) | (go_at_call 22; with_reducible refine HW.out.mono ?_; rintro e w4 ⟨rfl, hb4⟩))
      go_ret
      exact ⟨rfl, HB3.out.trans (hb4.mono HB3.out.size)⟩
end Go.Proofs.YtjbmghfgbdnjjaaDoor
