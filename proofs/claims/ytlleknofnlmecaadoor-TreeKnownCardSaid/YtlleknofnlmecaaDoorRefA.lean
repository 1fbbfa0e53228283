/-
  What is proved here: contracts of the reference's Deep, Zero, part, Leaf; of EqTexts and CopyTexts; no condition but those that each fact states.
-/
import Derived.Test.YtlleknofnlmecaaDoorMem
namespace Go.Proofs.YtlleknofnlmecaaDoor
open Go.RowKit

set_option maxRecDepth 100000 in
set_option maxHeartbeats 1000000 in
/-- The reference's Deep. -/
theorem refDeep_any (k : Nat) : ∀ (t : T) (cs : List Value) (w : World), dp t ≤ k → sz t ≤ 100000 → Nd w t cs →
    Calls Tryd.prog 22 #[.agg cs.toArray] w fun e w' => e = .returned (.int .i64 ((dp t : Nat) : Int)) ∧ Below w.heap.size w w' := by
  induction k with
  | zero => intro t cs w h; exact absurd h (by have := dp_pos t; omega)
  | succ k ih =>
    rintro ⟨kk, nn, uu, s, ks, l⟩ cs w hk hsz ⟨hr, hs, kv, A, m, c, rfl, hks, hl, hm, hmm, hL⟩
    simp only [dp] at hk
    simp only [sz] at hsz
    have hmx : m ≤ 100000 := by have := len_le_szL l; omega
    have hdx : dpL l ≤ 100000 := by have := dp_le_szL l; omega
    go_enter Tryd.func22, Tryd.ntmps22
    go_wp2_with fail
    go_loopw [3, 4] (fun x y wr => ∃ j : Nat, j ≤ m ∧ x = .int .i64 ((dpL (l.take j) : Nat) : Int) ∧ y = .int .i64 (j : Int) ∧ Below w.heap.size w wr ∧ w.heap.size < wr.heap.size ∧ Bx wr w.heap.size (.int .i64 kk) (.int .i64 nn) (.int .u64 uu) (.string s) kv (.slice A m c)) (fun x y wr => m - (intOf y).toNat)
    case atStart => exact ⟨0, Nat.zero_le _, by simp [dpL], rfl, (Below.refl _ w).alloc (Nat.le_refl _) _, by simp, Blk.new _ _ _⟩
    case round =>
      obtain ⟨j, hj, rfl, rfl, hb, hlt, hB⟩ := hrel
      obtain ⟨_, _, _, _, _, c5⟩ := hB.all
      by_cases hjm : j < m
      · obtain ⟨b, off, rfl, hbw, hN⟩ := hL (by omega)
        obtain ⟨t0, ht0⟩ : ∃ t0, l[j]? = some t0 := ⟨_, List.getElem?_eq_getElem (by omega)⟩
        obtain ⟨v0, v1, v2, v3, v4, v5, d0, d1, d2, d3, d4, d5, hn0⟩ := hN.six hb hbw ht0
        have hle := sz_le_of ht0
        have hdl := dp_le_of ht0
        have hmax := dpL_take ht0
        have ihj := ih t0 _ wr (by omega) (by omega) hn0
        obtain ⟨D, hD⟩ : ∃ D, dpL (l.take j) = D := ⟨_, rfl⟩
        rw [hD] at hmax
        go_wp2_with (go_at_call 22; refine ihj.mono ?_; clear ihj; rintro e w2 ⟨rfl, hb2⟩)
        all_goals go_roundw
        all_goals first
          | (case rel => exact ⟨j + 1, by omega, by rw [hmax]; congr 1; omega, by simp, hb.trans (hb2.mono (by omega)), by have := hb2.size; omega, hB.below hb2 hlt⟩)
          | (case measure => simp [intOf]; omega)
      · have hdt : dpL (l.take j) ≤ 100000 := by have := dpL_le_take l j; omega
        go_wp2_with fail
        go_ret
        obtain rfl : j = m := by omega
        refine ⟨?_, hb⟩
        simp only [List.take_of_length_le (show l.length ≤ j by omega), dp]
        exact congrArg (fun x => Ending.returned (.int .i64 x)) (by omega)

theorem bytes_ext {a b : ByteArray} (h : a.data.toList = b.data.toList) : a = b := by
  cases a; cases b
  simpa using h
theorem strEq_true {x y : ByteArray} (h : x = y) : (x.toList == y.toList) = true := by subst h; simp
theorem strEq_false {x y : ByteArray} (h : x ≠ y) : (x.toList == y.toList) = false := by
  rw [beq_eq_false_iff_ne]
  intro e
  rw [ByteArray.toList_eq, ByteArray.toList_eq] at e
  exact h (bytes_ext e)
theorem _root_.Go.RowKit.Below.drewN {B : Nat} {w w' : World} (h : Below B w w') (n : Nat) : Below B w (w'.drewN n) := below_drewN h n

/-- The cell of one string of a list, in a later world. -/
theorem RdS.at {w : World} {v : Value} {ks : List ByteArray} (h : RdS w v ks) : ∃ A n c, v = .slice A n c ∧ ks.length = n ∧ n ≤ c ∧ c ≤ maxLen ∧ (∀ s ∈ ks, s.size ≤ maxLen) ∧
    (0 < n → ∃ b off, A = some ⟨b, off, none⟩ ∧ b < w.heap.size ∧ ∀ wr, Below w.heap.size w wr → ∀ j s, ks[j]? = some s → wr.cell? ⟨b, off + j, none⟩ = some (.string s)) := by
  obtain ⟨A, n, c, rfl, h1, h2, h3, h4, h5⟩ := h
  refine ⟨A, n, c, rfl, h1, h2, h3, h4, fun hn => ?_⟩
  obtain ⟨b, off, rfl, hlt, hc⟩ := h5 hn
  exact ⟨b, off, rfl, hlt, fun wr hb j s hs => (hb.cell (p := ⟨b, off + j, none⟩) hlt).trans (hc j s hs)⟩

set_option maxRecDepth 100000 in
set_option maxHeartbeats 1000000 in
/-- EqTexts. -/
theorem eqTexts_any (a b : List ByteArray) (v u : Value) (w : World) (ha : RdS w v a) (hb : RdS w u b) (hal : a.length ≤ 1000) :
    Calls Tryd.prog 34 #[v, u] w fun e w' => e = .returned (.bool (decide (a = b))) ∧ Below w.heap.size w w' := by
  obtain ⟨A, n, c, rfl, hn, hnc, hc, hs, hA⟩ := ha.at
  obtain ⟨B, m, d, rfl, hm, hmd, hd, hs', hB⟩ := hb.at
  by_cases hne : n = m
  · subst hne
    go_enter Tryd.func34, Tryd.ntmps34
    go_wp2_with fail
    go_loopw [5] (fun i wr => ∃ k : Nat, k ≤ n ∧ i = .int .i64 k ∧ a.take k = b.take k ∧ Hid (Below w.heap.size w wr)) (fun i _ => n - (intOf i).toNat)
    case atStart => exact ⟨0, Nat.zero_le _, rfl, by simp, Below.refl _ _⟩
    case round =>
      obtain ⟨k, hk, rfl, heq, HB⟩ := hrel
      by_cases hlt : k < n
      · obtain ⟨x, hx⟩ : ∃ x, a[k]? = some x := ⟨_, List.getElem?_eq_getElem (by omega)⟩
        obtain ⟨y, hy⟩ : ∃ y, b[k]? = some y := ⟨_, List.getElem?_eq_getElem (by omega)⟩
        obtain ⟨b1, off1, rfl, _, hc1⟩ := hA (by omega)
        obtain ⟨b2, off2, rfl, _, hc2⟩ := hB (by omega)
        have hcell1 := hc1 wr HB.out k x hx
        have hcell2 := hc2 wr HB.out k y hy
        clear hc1 hc2
        by_cases hxy : x = y
        · have hT := strEq_true hxy
          have hz : a.take (k + 1) = b.take (k + 1) := by rw [List.take_add_one, List.take_add_one, heq, hx, hy, hxy]
          clear hx hy hxy
          go_wp2
          go_quiet (fail)
          go_wp2
          go_roundw
          case rel => exact ⟨k + 1, by omega, by simp, hz, HB.out.drewN _⟩
          case measure => simp [intOf]; omega
        · have hF := strEq_false hxy
          have hne : a ≠ b := by
            intro h; rw [h, hy] at hx; exact hxy (Option.some.inj hx).symm
          clear hx hy hxy
          go_wp2
          go_quiet (fail)
          go_wp2
          go_ret
          exact ⟨by simp [hne], HB.out.drewN _⟩
      · go_wp2
        go_ret
        obtain rfl : k = n := by omega
        rw [List.take_of_length_le (by omega), List.take_of_length_le (by omega)] at heq
        exact ⟨by simp [heq], HB.out⟩
  · have hne2 : a ≠ b := fun h => hne (by rw [← hn, ← hm, h])
    go_enter Tryd.func34, Tryd.ntmps34
    go_wp2_with fail
    go_ret
    exact ⟨by simp [hne2], Below.refl _ _⟩
end Go.Proofs.YtlleknofnlmecaaDoor
