/-
  What is proved here: contracts of the reference's Zero, part, Leaf, such; conditions: at most 100000 children.
-/
import Derived.Test.YtnplkamkeadlgaaDoorRefA
import Derived.Test.YtnplkamkeadlgaaDoorKeys
namespace Go.Proofs.YtnplkamkeadlgaaDoor
open Go.RowKit

theorem hasZ_drop (s : ByteArray) (j : Nat) (c : UInt8) (h : s.data.toList[j]? = some c) (h0 : (s.data.toList.take j).any (fun c => c == 0) = false) (hc : (c == 0) = false) : (s.data.toList.take (j + 1)).any (fun c => c == 0) = false := by
  rw [List.take_add_one, h, List.any_append, h0]
  simp [hc]
set_option maxRecDepth 100000 in
set_option maxHeartbeats 1000000 in
theorem refZero_any (s : ByteArray) (w : World) (hs : s.size ≤ maxLen) : Calls Tryd.prog 41 #[.string s] w fun e w' => e = .returned (.bool (hasZ s)) ∧ Below w.heap.size w w' := by
  have hm : s.size ≤ 9223372036854775807 := hs
  go_enter Tryd.func41, Tryd.ntmps41
  go_wp2_with fail
  go_loopw [3] (fun i wr => ∃ j : Nat, j ≤ s.size ∧ i = .int .i64 (j : Int) ∧ Hid ((s.data.toList.take j).any (fun c => c == 0) = false) ∧ Hid (Below w.heap.size w wr)) (fun i wr => s.size - (intOf i).toNat)
  case atStart => exact ⟨0, Nat.zero_le _, rfl, by simp [Hid], Below.refl _ _⟩
  case round =>
    obtain ⟨j, hj, rfl, HA, HB⟩ := hrel
    by_cases hlt : j < s.size
    · have hx : s.data.toList[j]? = some s[j] := by
        rw [List.getElem?_eq_getElem (by simpa using hlt)]
        rfl
      have HX : Hid ((((s[j].toNat : Nat) : Int) == 0) = false → (s.data.toList.take (j + 1)).any (fun c => c == 0) = false) := Lib.hid fun e => hasZ_drop s j _ hx HA.out (by
        have h0 : ¬ ((s[j].toNat : Nat) : Int) = 0 := by simpa using e
        rw [beq_eq_false_iff_ne]
        intro h1
        rw [h1] at h0
        exact h0 rfl)
      have HY : Hid ((((s[j].toNat : Nat) : Int) == 0) = true → hasZ s = true) := Lib.hid fun e => by
        have h0 : ((s[j].toNat : Nat) : Int) = 0 := by simpa using e
        unfold hasZ
        rw [List.any_eq_true]
        refine ⟨s[j], List.mem_of_getElem? hx, ?_⟩
        have h1 : s[j].toNat = 0 := by omega
        have : s[j] = 0 := UInt8.toNat_inj.1 (by rw [h1]; rfl)
        rw [this]; rfl
      clear hx
      go_wp2_with fail
      · rename_i h
        go_ret
        exact ⟨by rw [HY.out h]; rfl, HB.out⟩
      · rename_i h
        have HN := Lib.hid (HX.out h)
        refine ⟨⟨j + 1, by omega, by simp, HN, HB⟩, ?_⟩
        simp [intOf]
        omega
    · go_wp2_with fail
      go_ret
      obtain rfl : j = s.size := by omega
      have := HA.out
      rw [List.take_of_length_le (by simp)] at this
      refine ⟨?_, HB.out⟩
      unfold hasZ
      rw [this]
      rfl

set_option maxRecDepth 100000 in
set_option maxHeartbeats 4000000 in
theorem part_any (k : Int) (w : World) : Calls Tryd.prog 87 #[.int .i64 k] w fun e w' => e = .returned (.int .i64 (partK k)) ∧ w' = w := by
  go_enter Tryd.func87, Tryd.ntmps87
  go_wp2
  all_goals
    go_ret
    refine ⟨?_, rfl⟩
    simp_all [partK]
theorem refLeaf_any (k : Int) (w : World) : Calls Tryd.prog 86 #[.int .i64 k] w fun e w' => e = .returned (.bool (decide (1 ≤ k) && decide (k ≤ 9))) ∧ w' = w := by
  go_enter Tryd.func86, Tryd.ntmps86
  go_wp2
  · rename_i h
    go_ret
    exact ⟨by rw [decide_eq_true h]; rfl, rfl⟩
  · rename_i h
    go_ret
    exact ⟨by rw [decide_eq_false (by omega : ¬ 1 ≤ k)]; rfl, rfl⟩

/-- The box of the node, and what is old. -/
def OB (w : World) (v0 v1 v2 v3 v4 v5 : Value) (W : World) : Prop := Below w.heap.size w W ∧ w.heap.size < W.heap.size ∧ Bx W w.heap.size v0 v1 v2 v3 v4 v5
theorem OB.below {w W W2 : World} {v0 v1 v2 v3 v4 v5 : Value} (h : OB w v0 v1 v2 v3 v4 v5 W) (hb : Below W.heap.size W W2) : OB w v0 v1 v2 v3 v4 v5 W2 :=
  ⟨h.1.trans (hb.mono h.1.size), Nat.lt_of_lt_of_le h.2.1 hb.size, Blk.below h.2.2 hb h.2.1⟩
theorem OB.new (w : World) (v0 v1 v2 v3 v4 v5 : Value) : OB w v0 v1 v2 v3 v4 v5 (w.alloc (.cells #[v0, v1, v2, v3, v4, v5] 31)) := ⟨(Below.refl _ w).alloc (Nat.le_refl _) _, by simp, Blk.new _ _ _⟩
/-- What the definition asks of a node of kind k, its kinds of children apart. -/
def preS (k n u : Int) (sz ksl ll : Nat) : Bool := decide (1 ≤ k) && decide (k ≤ 17) && (decide (k = 2 ∨ k = 3 ∨ k = 8) || decide (n = 0)) && (decide (k = 4 ∨ k = 9) || decide (u = 0)) && (decide (k = 5 ∨ k = 6 ∨ k = 7) || decide (sz = 0)) &&
      (decide (k = 17) || decide (ksl = 0)) && (!(decide (1 ≤ k) && decide (k ≤ 9)) || decide (ll = 0)) && (!decide (k = 2) || decide (n = 0) || decide (n = 1)) && (!decide (k = 17) || decide (ksl = ll)) &&
      (!decide (k = 15 ∨ k = 16) || (decide (2 ≤ ll) && decide (ll ≤ 4)))
theorem such_pre (k n u : Int) (s : ByteArray) (ks : List ByteArray) (l : List T) : suchT (.mk k n u s ks l) = (preS k n u s.size ks.length l.length && (decide (partK k ≤ 0) || l.all fun t => decide (t.k = partK k))) := rfl

end Go.Proofs.YtnplkamkeadlgaaDoor
