/-
  What is proved here: contracts of key.Check, key.Less and of the reference's Zero, Check, Less; condition: strings no longer than the form reads.
-/
import Derived.Test.YtjbmghfgbdnjjaaDoorRows
import Derived.Test.YtjbmghfgbdnjjaaDoorRefA
import Derived.Test.YtjbmghfgbdnjjaaDoorLow0
import Derived.Test.YtjbmghfgbdnjjaaDoorKShelf
import Derived.WalkKit
import Derived.WalkSpells
import Derived.WalkLawsBesides
import Derived.Lib.Hide
import Derived.Deep.QuietTactic
import Derived.Deep.LoopGhost
import Derived.Laws.OwnMore
import Derived.Maps.AppendAt
import Derived.Below
import Derived.OwnWalk
namespace Go.Proofs.YtjbmghfgbdnjjaaDoor
open Go.RowKit

theorem keyLess_any (a b : ByteArray) (w : World) : Calls Tryd.prog 18 #[.string a, .string b] w fun e w' => e = .returned (.bool (Op.bytesLess a.toList b.toList)) ∧ w' = w := by
  go_enter Tryd.func18, Tryd.ntmps18
  go_wp2
  go_ret
  exact ⟨rfl, rfl⟩
/-- What Check says of a key. -/
def keyZ (s : ByteArray) : Int := if hasZ s = true then 70 else 0
theorem keyCheck_any (s : ByteArray) (w : World) : Calls Tryd.prog 16 #[.string s] w fun e w' => e = .returned (.int .i64 (keyZ s)) ∧ w' = w := by
  have hz := hasZ_index s
  obtain ⟨i, hi⟩ : ∃ i, Lib.indexByte s.data.toList 0 = i := ⟨_, rfl⟩
  have hcall : ∀ W, Calls Tryd.prog 43 #[.string s, .int .u8 0] W fun e w' => e = .returned (.int .i64 i) ∧ w' = W := fun W => (Tryd.strings_IndexByte s 0 W).mono fun e w' h => ⟨by rw [h.1, ← hi]; rfl, h.2⟩
  rw [hi] at hz
  clear hi
  by_cases h0 : 0 ≤ i
  · have hd : hasZ s = true := by rw [← hz]; exact decide_eq_true h0
    go_enter Tryd.func16, Tryd.ntmps16
    go_wp2_with (go_at_call 43; refine (hcall _).mono ?_; rintro e w' ⟨rfl, rfl⟩)
    go_ret
    exact ⟨by unfold keyZ; rw [if_pos hd]; rfl, rfl⟩
  · have hd : ¬ hasZ s = true := by rw [← hz]; simp; omega
    go_enter Tryd.func16, Tryd.ntmps16
    go_wp2_with (go_at_call 43; refine (hcall _).mono ?_; rintro e w' ⟨rfl, rfl⟩)
    go_ret
    exact ⟨by unfold keyZ; rw [if_neg hd]; rfl, rfl⟩

theorem less_head (x y : UInt8) (s t : List UInt8) : Op.bytesLess (x :: s) (y :: t) = (decide (x < y) || (x == y && Op.bytesLess s t)) := rfl
theorem less_nil (t : List UInt8) : Op.bytesLess [] t = !t.isEmpty := by cases t <;> simp [Op.bytesLess]
theorem less_cons_nil (x : UInt8) (s : List UInt8) : Op.bytesLess (x :: s) [] = false := by simp [Op.bytesLess]
/-- The order looks at the first place where two strings part. -/
theorem less_drop : ∀ (a b : List UInt8) (j : Nat), a.take j = b.take j → j ≤ a.length → j ≤ b.length → Op.bytesLess a b = Op.bytesLess (a.drop j) (b.drop j)
  | a, b, 0, _, _, _ => rfl
  | [], _, j + 1, _, h, _ => by simp at h
  | x :: s, [], j + 1, _, _, h => by simp at h
  | x :: s, y :: t, j + 1, h, h1, h2 => by
    simp only [List.take_succ_cons, List.cons.injEq] at h
    obtain ⟨rfl, h⟩ := h
    have hx : decide (x < x) = false := by simp
    rw [less_head, hx, Bool.false_or, beq_self_eq_true, Bool.true_and]
    simp only [List.drop_succ_cons]
    exact less_drop s t j h (by simpa using h1) (by simpa using h2)
theorem less_at {a b : List UInt8} {j : Nat} {x y : UInt8} (h : a.take j = b.take j) (hx : a[j]? = some x) (hy : b[j]? = some y) (hn : x ≠ y) : Op.bytesLess a b = decide (x < y) := by
  have h1 := List.getElem?_eq_some_iff.1 hx
  have h2 := List.getElem?_eq_some_iff.1 hy
  have l1 := h1.1
  have l2 := h2.1
  rw [less_drop a b j h (by omega) (by omega), List.drop_eq_getElem_cons h1.1, h1.2, List.drop_eq_getElem_cons h2.1, h2.2, less_head, beq_eq_false_iff_ne.2 hn]
  simp
theorem less_end {a b : List UInt8} {j : Nat} (h : a.take j = b.take j) (h1 : j ≤ a.length) (h2 : j ≤ b.length) (hj : j = a.length ∨ j = b.length) : Op.bytesLess a b = decide (a.length < b.length) := by
  rw [less_drop a b j h h1 h2]
  rcases hj with rfl | rfl
  · rw [List.drop_length, less_nil]
    by_cases hl : a.length < b.length
    · rw [decide_eq_true hl]
      cases hd : b.drop a.length with
      | nil => have := congrArg List.length hd; simp at this; omega
      | cons _ _ => rfl
    · rw [decide_eq_false hl, List.drop_eq_nil_of_le (by omega)]
      rfl
  · rw [List.drop_length (l := b), decide_eq_false (by omega)]
    cases hd : a.drop b.length with
    | nil => rfl
    | cons x s => exact less_cons_nil x s

set_option maxRecDepth 100000 in
set_option maxHeartbeats 1000000 in
theorem refLess_any (a b : ByteArray) (w : World) (ha : a.size ≤ maxLen) (hb : b.size ≤ maxLen) : Calls Tryd.prog 19 #[.string a, .string b] w fun e w' => e = .returned (.bool (Op.bytesLess a.toList b.toList)) ∧ Below w.heap.size w w' := by
  have hma : a.size ≤ 9223372036854775807 := ha
  have hmb : b.size ≤ 9223372036854775807 := hb
  obtain ⟨β, hβ⟩ : ∃ β, Op.bytesLess a.toList b.toList = β := ⟨_, rfl⟩
  have HB := Lib.hid hβ
  rw [hβ]
  clear hβ ha hb
  go_enter Tryd.func19, Tryd.ntmps19
  go_wp2_with fail
  go_loopw [5] (fun i wr => ∃ j : Nat, j ≤ a.size ∧ j ≤ b.size ∧ i = .int .i64 (j : Int) ∧ Hid (a.toList.take j = b.toList.take j) ∧ Hid (Below w.heap.size w wr)) (fun i wr => a.size - (intOf i).toNat)
  case atStart => exact ⟨0, Nat.zero_le _, Nat.zero_le _, rfl, Lib.hid rfl, Lib.hid (Below.refl _ _)⟩
  case round =>
    obtain ⟨j, hja, hjb, rfl, HT, HW⟩ := hrel
    by_cases h1 : j < a.size
    · by_cases h2 : j < b.size
      · have hx : a.toList[j]? = some a[j] := by
          rw [ByteArray.toList_eq, List.getElem?_eq_getElem (by simpa using h1)]
          rfl
        have hy : b.toList[j]? = some b[j] := by
          rw [ByteArray.toList_eq, List.getElem?_eq_getElem (by simpa using h2)]
          rfl
        have HX := Lib.hid hx
        have HY := Lib.hid hy
        clear hx hy
        by_cases hxy : a[j] = b[j]
        · have hne : (((a[j].toNat : Nat) : Int) != ((b[j].toNat : Nat) : Int)) = false := by rw [hxy]; simp
          have HN : Hid (a.toList.take (j + 1) = b.toList.take (j + 1)) := Lib.hid (by rw [List.take_add_one, List.take_add_one, HT.out, HX.out, HY.out, hxy])
          clear hxy
          go_wp2_with fail
          go_quiet (fail)
          go_wp2_with fail
          go_roundw
          case rel => exact ⟨j + 1, by omega, by omega, by simp, HN, Lib.hid (HW.out.drewN _)⟩
          case measure => simp [intOf]; omega
        · have hne : (((a[j].toNat : Nat) : Int) != ((b[j].toNat : Nat) : Int)) = true := by
            simp only [bne_iff_ne, ne_eq]
            intro h
            exact hxy (UInt8.toNat_inj.1 (by omega))
          have HZ : Hid (decide (a[j].toNat < b[j].toNat) = β) := Lib.hid (by
            rw [← HB.out, less_at HT.out HX.out HY.out hxy]
            exact decide_eq_decide.2 UInt8.lt_iff_toNat_lt.symm)
          clear hxy
          go_wp2_with fail
          go_quiet (fail)
          go_wp2_with fail
          go_quiet (fail)
          go_wp2_with fail
          go_ret
          exact ⟨by rw [← HZ.out]; rfl, (HW.out.drewN _).drewN _⟩
      · have HZ : Hid (decide (a.size < b.size) = β) := Lib.hid (by
          have := less_end HT.out (by simp [ByteArray.toList_eq]; omega) (by simp [ByteArray.toList_eq]; omega) (.inr (by simp [ByteArray.toList_eq]; omega))
          rw [← HB.out, this]
          simp [ByteArray.toList_eq])
        go_wp2_with fail
        go_ret
        exact ⟨by rw [← HZ.out]; rfl, HW.out⟩
    · have HZ : Hid (decide (a.size < b.size) = β) := Lib.hid (by
          have := less_end HT.out (by simp [ByteArray.toList_eq]; omega) (by simp [ByteArray.toList_eq]; omega) (.inl (by simp [ByteArray.toList_eq]; omega))
          rw [← HB.out, this]
          simp [ByteArray.toList_eq])
      go_wp2_with fail
      go_ret
      exact ⟨by rw [← HZ.out]; rfl, HW.out⟩
end Go.Proofs.YtjbmghfgbdnjjaaDoor
