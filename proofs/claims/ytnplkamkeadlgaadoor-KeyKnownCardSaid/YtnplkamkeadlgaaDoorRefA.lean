/-
  What is proved here: contracts of the reference's Deep, Zero, part, Leaf; of EqTexts and CopyTexts; no condition but those that each fact states.
-/
import Derived.Test.YtnplkamkeadlgaaDoorMem
namespace Go.Proofs.YtnplkamkeadlgaaDoor
open Go.RowKit

theorem bytes_ext {a b : ByteArray} (h : a.data.toList = b.data.toList) : a = b := by
  cases a; cases b
  simpa using h
theorem strEq_true {x y : ByteArray} (h : x = y) : (x.toList == y.toList) = true := by subst h; simp
theorem strEq_false {x y : ByteArray} (h : x ≠ y) : (x.toList == y.toList) = false := by
  rw [beq_eq_false_iff_ne]
  intro e
  rw [ByteArray.toList_eq, ByteArray.toList_eq] at e
  exact h (bytes_ext e)
theorem _root_.Go.RowKit.Below.drewN {B : Nat} {w w' : World} (h : Below B w w') (n : Nat) : Below B w (w'.drewN n) := below_drewN h n

/-- The cell of one string of a list, in a later world. -/
theorem RdS.at {w : World} {v : Value} {ks : List ByteArray} (h : RdS w v ks) : ∃ A n c, v = .slice A n c ∧ ks.length = n ∧ n ≤ c ∧ c ≤ maxLen ∧ (∀ s ∈ ks, s.size ≤ maxLen) ∧
    (0 < n → ∃ b off, A = some ⟨b, off, none⟩ ∧ b < w.heap.size ∧ ∀ wr, Below w.heap.size w wr → ∀ j s, ks[j]? = some s → wr.cell? ⟨b, off + j, none⟩ = some (.string s)) := by
  obtain ⟨A, n, c, rfl, h1, h2, h3, h4, h5⟩ := h
  refine ⟨A, n, c, rfl, h1, h2, h3, h4, fun hn => ?_⟩
  obtain ⟨b, off, rfl, hlt, hc⟩ := h5 hn
  exact ⟨b, off, rfl, hlt, fun wr hb j s hs => (hb.cell (p := ⟨b, off + j, none⟩) hlt).trans (hc j s hs)⟩

set_option maxRecDepth 100000 in
set_option maxHeartbeats 1000000 in
/-- EqTexts. -/
theorem eqTexts_any (a b : List ByteArray) (v u : Value) (w : World) (ha : RdS w v a) (hb : RdS w u b) (hal : a.length ≤ 1000) :
    Calls Tryd.prog 21 #[v, u] w fun e w' => e = .returned (.bool (decide (a = b))) ∧ Below w.heap.size w w' := by
  obtain ⟨A, n, c, rfl, hn, hnc, hc, hs, hA⟩ := ha.at
  obtain ⟨B, m, d, rfl, hm, hmd, hd, hs', hB⟩ := hb.at
  by_cases hne : n = m
  · subst hne
    go_enter Tryd.func21, Tryd.ntmps21
    go_wp2_with fail
    go_loopw [5] (fun i wr => ∃ k : Nat, k ≤ n ∧ i = .int .i64 k ∧ a.take k = b.take k ∧ Hid (Below w.heap.size w wr)) (fun i _ => n - (intOf i).toNat)
    case atStart => exact ⟨0, Nat.zero_le _, rfl, by simp, Below.refl _ _⟩
    case round =>
      obtain ⟨k, hk, rfl, heq, HB⟩ := hrel
      by_cases hlt : k < n
      · obtain ⟨x, hx⟩ : ∃ x, a[k]? = some x := ⟨_, List.getElem?_eq_getElem (by omega)⟩
        obtain ⟨y, hy⟩ : ∃ y, b[k]? = some y := ⟨_, List.getElem?_eq_getElem (by omega)⟩
        obtain ⟨b1, off1, rfl, _, hc1⟩ := hA (by omega)
        obtain ⟨b2, off2, rfl, _, hc2⟩ := hB (by omega)
        have hcell1 := hc1 wr HB.out k x hx
        have hcell2 := hc2 wr HB.out k y hy
        clear hc1 hc2
        by_cases hxy : x = y
        · have hT := strEq_true hxy
          have hz : a.take (k + 1) = b.take (k + 1) := by rw [List.take_add_one, List.take_add_one, heq, hx, hy, hxy]
          clear hx hy hxy
          go_wp2
          go_quiet (fail)
          go_wp2
          go_roundw
          case rel => exact ⟨k + 1, by omega, by simp, hz, HB.out.drewN _⟩
          case measure => simp [intOf]; omega
        · have hF := strEq_false hxy
          have hne : a ≠ b := by
            intro h; rw [h, hy] at hx; exact hxy (Option.some.inj hx).symm
          clear hx hy hxy
          go_wp2
          go_quiet (fail)
          go_wp2
          go_ret
          exact ⟨by simp [hne], HB.out.drewN _⟩
      · go_wp2
        go_ret
        obtain rfl : k = n := by omega
        rw [List.take_of_length_le (by omega), List.take_of_length_le (by omega)] at heq
        exact ⟨by simp [heq], HB.out⟩
  · have hne2 : a ≠ b := fun h => hne (by rw [← hn, ← hm, h])
    go_enter Tryd.func21, Tryd.ntmps21
    go_wp2_with fail
    go_ret
    exact ⟨by simp [hne2], Below.refl _ _⟩
end Go.Proofs.YtnplkamkeadlgaaDoor
