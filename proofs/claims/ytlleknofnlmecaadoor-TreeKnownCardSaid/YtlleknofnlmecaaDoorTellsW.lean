/-
  What is proved here: the law's at returns true for every tree of the law and every number, and leaves what was there as it was; no other condition.
-/
import Derived.Test.YtlleknofnlmecaaDoorRefAt
import Derived.Test.YtlleknofnlmecaaDoorSpoil
import Derived.Test.YtlleknofnlmecaaDoorWork
import Derived.Test.YtlleknofnlmecaaDoorChkZ
import Derived.Test.YtlleknofnlmecaaDoorRefC
namespace Go.Proofs.YtlleknofnlmecaaDoor
open Go.RowKit

set_option maxRecDepth 100000 in
set_option maxHeartbeats 4000000 in
theorem at_law (t : T) (cs : List Value) (N : Int) (w : World) (hN : N ≤ 9223372036854775807) (hq : QQ t) (hnd : Nd w t cs) : Calls Tryd.prog 19 #[.agg cs.toArray, .int .i64 N] w fun e w' => e = .returned (.bool true) ∧ Below w.heap.size w w' := by
  obtain ⟨k, n, u, s, A1, m1, c1, A2, m2, c2, rfl⟩ := hnd.shape
  have HCN := Lib.hid (copyNode_any (dp t) t _ (w.alloc (.cells #[.int .i64 k, .int .i64 n, .int .u64 u, .string s, .slice A1 m1 c1, .slice A2 m2 c2] 26)) (Nat.le_refl _) hq.1 hq.2 (hnd.bel (al0 _ _)))
  go_enter Tryd.func19, Tryd.ntmps19
  go_wp2_with fail
  refine HCN.out.mono ?_
  rintro e w1 ⟨⟨cs1, rfl, hn1⟩, hb1⟩
  obtain ⟨k1, i1, u1, s1, B1, a1, b1, C1, d1, e1, rfl⟩ := hn1.shape6
  have HS1 : Hid (Below w.heap.size w w1 ∧ Bx w1 w.heap.size (.int .i64 k) (.int .i64 n) (.int .u64 u) (.string s) (.slice A1 m1 c1) (.slice A2 m2 c2)) := Lib.hid ⟨tr (al0 _ _) hb1, born hb1⟩
  have HN1 := Lib.hid (NdO.nd _ _ hn1)
  have HA0 : Hid (∀ W, Below w1.heap.size w1 W → Calls Tryd.prog 25 #[.agg #[.int .i64 k, .int .i64 n, .int .u64 u, .string s, .slice A1 m1 c1, .slice A2 m2 c2], .int .i64 N] W fun e w' => (∃ cs, e = .returned (.tuple #[.agg cs.toArray, .bool (atI t N).isSome]) ∧ NdO (fun b => W.heap.size ≤ b) w' ((atI t N).getD T0) cs) ∧ Below W.heap.size W w') := Lib.hid fun W h => at_any t _ N W hq.1 hq.2 (hnd.bel (tr HS1.out.1 h))
  have HA1 : Hid (∀ W, Below w1.heap.size w1 W → Calls Tryd.prog 36 #[.agg #[.int .i64 k, .int .i64 n, .int .u64 u, .string s, .slice A1 m1 c1, .slice A2 m2 c2], .int .i64 N] W fun e w' => (∃ cs', e = .returned (.tuple #[.agg cs'.toArray, .bool (atI t N).isSome]) ∧ NdO (fun b => W.heap.size ≤ b) w' ((atI t N).getD T0) cs') ∧ Below W.heap.size W w') := Lib.hid fun W h => refAt_any (dp t) t _ N W (Nat.le_refl _) hq.1 hq.2 hN (hnd.bel (tr HS1.out.1 h))
  have HQ := Lib.hid hq
  have hqx : QQ ((atI t N).getD T0) := by
    cases h : atI t N with
    | none => exact ⟨by decide, by simp [sm, smL, T0] <;> decide⟩
    | some x =>
      unfold atI at h
      by_cases h0 : N < 0
      · rw [if_pos h0] at h; cases h
      · rw [if_neg h0] at h; exact at_QQ hq h
  have HQX := Lib.hid hqx
  obtain ⟨b, hb⟩ : ∃ b, (atI t N).isSome = b := ⟨_, rfl⟩
  rw [hb] at HA0 HA1
  obtain ⟨X, hX⟩ : ∃ X, (atI t N).getD T0 = X := ⟨_, rfl⟩
  rw [hX] at HA0 HA1 HQX
  have HND := Lib.hid hnd
  clear hn1 hb1 hq hqx hb hX HCN hnd
  obtain ⟨z0, z1, z2, z3, z4, z5⟩ := Bx.all (Blk.alloc HS1.out.2 (.cells #[.int .i64 k1, .int .i64 i1, .int .u64 u1, .string s1, .slice B1 a1 b1, .slice C1 d1 e1] 26))
  go_wp2_with fail
  refine (HA0.out _ (al0 _ _)).mono ?_
  rintro e w2 ⟨⟨cs2, rfl, hn2⟩, hb2⟩
  obtain ⟨k2, i2, u2, s2, B2, a2, b2, C2, d2, e2, rfl⟩ := hn2.shape6
  obtain ⟨V1, hV1⟩ : ∃ V1, w1.alloc (.cells #[.int .i64 k1, .int .i64 i1, .int .u64 u1, .string s1, .slice B1 a1 b1, .slice C1 d1 e1] 26) = V1 := ⟨_, rfl⟩
  have HV : Hid (Below w.heap.size w V1 ∧ Bx V1 w.heap.size (.int .i64 k) (.int .i64 n) (.int .u64 u) (.string s) (.slice A1 m1 c1) (.slice A2 m2 c2) ∧ Bx V1 w1.heap.size (.int .i64 k1) (.int .i64 i1) (.int .u64 u1) (.string s1) (.slice B1 a1 b1) (.slice C1 d1 e1) ∧ Nd V1 t [.int .i64 k1, .int .i64 i1, .int .u64 u1, .string s1, .slice B1 a1 b1, .slice C1 d1 e1] ∧ Below w1.heap.size w1 V1) := Lib.hid (by rw [← hV1]; exact ⟨tr HS1.out.1 (al0 _ _), HS1.out.2.alloc _, Blk.new _ _ _, HN1.out.bel (al0 _ _), al0 _ _⟩)
  rw [hV1] at hn2 hb2
  have HN2 := Lib.hid hn2
  have HB2 := Lib.hid hb2
  clear hn2 hb2 hV1 z0 z1 z2 z3 z4 z5 HN1 HS1
  obtain ⟨p1, hp1⟩ : ∃ p1, w1.heap.size = p1 := ⟨_, rfl⟩
  rw [hp1] at HV
  simp only [hp1]
  obtain ⟨z0, z1, z2, z3, z4, z5⟩ := Bx.all (Blk.alloc (Blk.below HV.out.2.1 HB2.out (Blk.lt HV.out.2.1)) (.cells #[.int .i64 k2, .int .i64 i2, .int .u64 u2, .string s2, .slice B2 a2 b2, .slice C2 d2 e2] 26))
  go_wp2_with fail
  refine (HA1.out _ (by rw [hp1]; exact (HV.out.2.2.2.2.trans (Below.mono (tr HB2.out (al0 _ _)) (by have := HV.out.2.2.2.2.size; omega)))) ).mono ?_
  rintro e w3 ⟨⟨cs3, rfl, hn3⟩, hb3⟩
  obtain ⟨k3, i3, u3, s3, B3, a3, b3, C3, d3, e3, rfl⟩ := hn3.shape6
  have HI : Hid (C0 V1 (w3.alloc (.cells #[.int .i64 k3, .int .i64 i3, .int .u64 u3, .string s3, .slice B3 a3 b3, .slice C3 d3 e3] 26)) ∧ Bx (w3.alloc (.cells #[.int .i64 k3, .int .i64 i3, .int .u64 u3, .string s3, .slice B3 a3 b3, .slice C3 d3 e3] 26)) w2.heap.size (.int .i64 k2) (.int .i64 i2) (.int .u64 u2) (.string s2) (.slice B2 a2 b2) (.slice C2 d2 e2) ∧ Bx (w3.alloc (.cells #[.int .i64 k3, .int .i64 i3, .int .u64 u3, .string s3, .slice B3 a3 b3, .slice C3 d3 e3] 26)) w3.heap.size (.int .i64 k3) (.int .i64 i3) (.int .u64 u3) (.string s3) (.slice B3 a3 b3) (.slice C3 d3 e3) ∧ NdO (fun b => V1.heap.size ≤ b) (w3.alloc (.cells #[.int .i64 k3, .int .i64 i3, .int .u64 u3, .string s3, .slice B3 a3 b3, .slice C3 d3 e3] 26)) X [.int .i64 k2, .int .i64 i2, .int .u64 u2, .string s2, .slice B2 a2 b2, .slice C2 d2 e2] ∧ Nd (w3.alloc (.cells #[.int .i64 k3, .int .i64 i3, .int .u64 u3, .string s3, .slice B3 a3 b3, .slice C3 d3 e3] 26)) X [.int .i64 k3, .int .i64 i3, .int .u64 u3, .string s3, .slice B3 a3 b3, .slice C3 d3 e3] ∧ V1.heap.size ≤ w2.heap.size) :=
    Lib.hid ⟨tr HB2.out (al (tr hb3 (al0 _ _))), (born hb3).alloc _, Blk.new _ _ _, NdO.step (fun b hb hl => ⟨(al (tr hb3 (al0 _ _))).block b hl, hb⟩) _ _ HN2.out, (NdO.nd _ _ hn3).bel (al0 _ _), HB2.out.size⟩
  clear hn3 hb3 z0 z1 z2 z3 z4 z5 HA0 HA1 HN2 HB2
  have HV3 : Hid (C0 (w3.alloc (.cells #[.int .i64 k3, .int .i64 i3, .int .u64 u3, .string s3, .slice B3 a3 b3, .slice C3 d3 e3] 26)) (w3.alloc (.cells #[.int .i64 k3, .int .i64 i3, .int .u64 u3, .string s3, .slice B3 a3 b3, .slice C3 d3 e3] 26))) := Lib.hid (Below.refl _ _)
  obtain ⟨V3, hV3⟩ : ∃ V3, w3.alloc (.cells #[.int .i64 k3, .int .i64 i3, .int .u64 u3, .string s3, .slice B3 a3 b3, .slice C3 d3 e3] 26) = V3 := ⟨_, rfl⟩
  rw [hV3] at HI HV3
  have HEQ : Hid (∀ W, C0 V3 W → Calls Tryd.prog 17 #[.agg #[.int .i64 k2, .int .i64 i2, .int .u64 u2, .string s2, .slice B2 a2 b2, .slice C2 d2 e2], .agg #[.int .i64 k3, .int .i64 i3, .int .u64 u3, .string s3, .slice B3 a3 b3, .slice C3 d3 e3]] W fun e w' => e = .returned (.bool true) ∧ C0 V3 w') := Lib.hid fun W h => eq_C h HQX.out ((NdO.nd _ _ HI.out.2.2.2.1).bel h) (HI.out.2.2.2.2.1.bel h)
  have HSP : Hid (∀ W, C0 V3 W → Calls Tryd.prog 28 #[.agg #[.int .i64 k2, .int .i64 i2, .int .u64 u2, .string s2, .slice B2 a2 b2, .slice C2 d2 e2]] W fun e w' => e = .returned (.tuple #[]) ∧ C0 V1 w') := Lib.hid fun W h => by
    refine (spoil_any (dp X) (fun b => V1.heap.size ≤ b) _ W (SX.of_ndo (dp X) X _ (by omega) (NdO.step (fun b hb hl => ⟨h.block b hl, hb⟩) _ _ HI.out.2.2.2.1))).mono ?_
    rintro e w' ⟨rfl, hs⟩
    refine ⟨rfl, ?_⟩
    have h1 : C0 V1 W := tr HI.out.1 h
    exact h1.trans (hs.bel h1.size (fun b hb => hb))
  have HEQ2 : Hid (∀ W, C0 V1 W → Calls Tryd.prog 17 #[.agg #[.int .i64 k, .int .i64 n, .int .u64 u, .string s, .slice A1 m1 c1, .slice A2 m2 c2], .agg #[.int .i64 k1, .int .i64 i1, .int .u64 u1, .string s1, .slice B1 a1 b1, .slice C1 d1 e1]] W fun e w' => e = .returned (.bool true) ∧ C0 V1 w') := Lib.hid fun W h => eq_C h HQ.out (HND.out.bel (tr HV.out.1 h)) (HV.out.2.2.2.1.bel h)
  have hce : ∀ W, C0 V1 W → (W.cell? ⟨w.heap.size, 0, none⟩ = some (.int .i64 k) ∧ W.cell? ⟨w.heap.size, 1, none⟩ = some (.int .i64 n) ∧ W.cell? ⟨w.heap.size, 2, none⟩ = some (.int .u64 u) ∧ W.cell? ⟨w.heap.size, 3, none⟩ = some (.string s) ∧ W.cell? ⟨w.heap.size, 4, none⟩ = some (.slice A1 m1 c1) ∧ W.cell? ⟨w.heap.size, 5, none⟩ = some (.slice A2 m2 c2)) ∧ (W.cell? ⟨p1, 0, none⟩ = some (.int .i64 k1) ∧ W.cell? ⟨p1, 1, none⟩ = some (.int .i64 i1) ∧ W.cell? ⟨p1, 2, none⟩ = some (.int .u64 u1) ∧ W.cell? ⟨p1, 3, none⟩ = some (.string s1) ∧ W.cell? ⟨p1, 4, none⟩ = some (.slice B1 a1 b1) ∧ W.cell? ⟨p1, 5, none⟩ = some (.slice C1 d1 e1)) := fun W h => ⟨Bx.all (Blk.below HV.out.2.1 h (Blk.lt HV.out.2.1)), Bx.all (Blk.below HV.out.2.2.1 h (Blk.lt HV.out.2.2.1))⟩
  obtain ⟨⟨z0, z1, z2, z3, z4, z5⟩, y0, y1, y2, y3, y4, y5⟩ := hce V3 HI.out.1
  obtain ⟨x0, x1, x2, x3, x4, x5⟩ := Bx.all HI.out.2.1
  obtain ⟨v0, v1, v2, v3, v4, v5⟩ := Bx.all HI.out.2.2.1
  have hce2 : ∀ W, C0 V3 W → W.cell? ⟨w2.heap.size, 0, none⟩ = some (.int .i64 k2) ∧ W.cell? ⟨w2.heap.size, 1, none⟩ = some (.int .i64 i2) ∧ W.cell? ⟨w2.heap.size, 2, none⟩ = some (.int .u64 u2) ∧ W.cell? ⟨w2.heap.size, 3, none⟩ = some (.string s2) ∧ W.cell? ⟨w2.heap.size, 4, none⟩ = some (.slice B2 a2 b2) ∧ W.cell? ⟨w2.heap.size, 5, none⟩ = some (.slice C2 d2 e2) := fun W h => Bx.all (Blk.below HI.out.2.1 h (Blk.lt HI.out.2.1))
  have HBW := Lib.hid HV.out.1
  have hbb : (b == b) = true := by simp
  clear HV HND HQ HQX
  go_wp2_with (first
    | (go_at_call 17; refine (HEQ.out _ HV3.out).mono ?_; clear HEQ; rintro e w4 ⟨rfl, hC4⟩; clear z0 z1 z2 z3 z4 z5 y0 y1 y2 y3 y4 y5 x0 x1 x2 x3 x4 x5 v0 v1 v2 v3 v4 v5; obtain ⟨x0, x1, x2, x3, x4, x5⟩ := hce2 w4 hC4)
    | (go_at_call 28; refine (HSP.out _ hC4).mono ?_; clear HSP; rintro e w5 ⟨rfl, hC5⟩; obtain ⟨⟨z0, z1, z2, z3, z4, z5⟩, y0, y1, y2, y3, y4, y5⟩ := hce w5 hC5)
    | (go_at_call 17; refine (HEQ2.out _ hC5).mono ?_; clear HEQ2; rintro e w6 ⟨rfl, hC6⟩))
  go_ret
  exact ⟨rfl, HBW.out.trans (Below.mono hC6 HBW.out.size)⟩

set_option maxRecDepth 100000 in
set_option maxHeartbeats 4000000 in
theorem leaf_any (k : Int) (w : World) (hT : Tab w) : Calls Tryd.prog 23 #[.int .i64 k] w fun e w' => e = .returned (.bool (decide (1 ≤ k) && decide (k ≤ 9))) ∧ Below w.heap.size w w' := by
  by_cases hk : 1 ≤ k ∧ k ≤ 17
  · obtain ⟨kn, rfl⟩ : ∃ kn : Nat, k = (kn : Int) := ⟨k.toNat, by omega⟩
    obtain ⟨h1, h2⟩ := hk
    have hik := fun W => isKind_any (kn : Int) W
    have hd1 : decide (1 ≤ (kn : Int)) = true := decide_eq_true h1
    have hd2 : decide ((kn : Int) ≤ 17) = true := decide_eq_true h2
    simp only [hd1, hd2, Bool.and_self] at hik
    rw [hd1, Bool.true_and]
    obtain ⟨U, hU⟩ : ∃ U, usesK kn = U := ⟨_, rfl⟩
    have htab := fun W (hb : Below w.heap.size w W) => ((hT.keep hb).2 kn (by omega)).1
    rw [hU] at htab
    have hlb : (bits BinOp.and IntKind.i64 U 16 == 0) = decide ((kn : Int) ≤ 9) := by
      rw [← hU]
      have hcases : kn = 1 ∨ kn = 2 ∨ kn = 3 ∨ kn = 4 ∨ kn = 5 ∨ kn = 6 ∨ kn = 7 ∨ kn = 8 ∨ kn = 9 ∨ kn = 10 ∨ kn = 11 ∨ kn = 12 ∨ kn = 13 ∨ kn = 14 ∨ kn = 15 ∨ kn = 16 ∨ kn = 17 := by omega
      rcases hcases with rfl | rfl | rfl | rfl | rfl | rfl | rfl | rfl | rfl | rfl | rfl | rfl | rfl | rfl | rfl | rfl | rfl <;> decide +kernel
    obtain ⟨lb, hl⟩ : ∃ lb, decide ((kn : Int) ≤ 9) = lb := ⟨_, rfl⟩
    rw [hl] at hlb ⊢
    have t0 := htab w (Below.refl _ _)
    have hjb : (0 : Int) ≤ (kn : Int) := by omega
    have hjb2 : (kn : Int) < 18 := by omega
    clear htab hd1 hd2 hU hl h1 h2 hT
    go_enter Tryd.func23, Tryd.ntmps23
    go_wp2_with (go_at_call 37; refine (hik _).mono ?_; rintro e w' ⟨rfl, rfl⟩)
    go_ret
    exact ⟨rfl, Below.refl _ _⟩
  · have hd : (decide (1 ≤ k) && decide (k ≤ 17)) = false := by
      by_cases h : 1 ≤ k
      · rw [decide_eq_true h, decide_eq_false (fun h2 => hk ⟨h, h2⟩)]; rfl
      · rw [decide_eq_false h]; rfl
    have hd9 : (decide (1 ≤ k) && decide (k ≤ 9)) = false := by
      by_cases h : 1 ≤ k
      · rw [decide_eq_true h, decide_eq_false (fun h2 => hk ⟨h, by omega⟩)]; rfl
      · rw [decide_eq_false h]; rfl
    have hik := isKind_any k w
    rw [hd] at hik
    rw [hd9]
    clear hd hd9 hk hT
    go_enter Tryd.func23, Tryd.ntmps23
    go_wp2_with (go_at_call 37; refine hik.mono ?_; rintro e w' ⟨rfl, rfl⟩)
    go_ret
    exact ⟨rfl, Below.refl _ _⟩

set_option maxRecDepth 100000 in
set_option maxHeartbeats 4000000 in
theorem treeTells_walk (t : T) (cs : List Value) (nn kd : Int) (w : World) (hT : Tab w) (hnd : Nd w t cs) (wn : (Lit.int .i64 nn).wf = true) (_wk : (Lit.int .i64 kd).wf = true) : Calls Tryd.prog 6 #[.agg cs.toArray, .int .i64 nn, .int .i64 kd] w fun e w' => e = .returned (.bool true) ∧ Below w.heap.size w w' := by
  obtain ⟨k, n, u, s, A1, m1, c1, A2, m2, c2, rfl⟩ := hnd.shape
  have HNN : Hid (nn ≤ 9223372036854775807) := Lib.hid (wf_i64 wn).2
  clear wn _wk
  have HFW := Lib.hid fun W (h : Below w.heap.size w W) => few_any t _ W (hnd.bel h)
  go_enter Tryd.func6, Tryd.ntmps6
  go_wp2_with fail
  refine (HFW.out _ (al0 _ _)).mono ?_
  rintro e w2 ⟨⟨cs', rfl, hno⟩, hb2⟩
  obtain ⟨k8, i8, u8, s8, C1', m1', d1', C2', m2', d2', rfl⟩ := hno.shape6
  have HI : Hid (Below w.heap.size w (w2.alloc (.cells #[.int .i64 k8, .int .i64 i8, .int .u64 u8, .string s8, .slice C1' m1' d1', .slice C2' m2' d2'] 26)) ∧ Bx (w2.alloc (.cells #[.int .i64 k8, .int .i64 i8, .int .u64 u8, .string s8, .slice C1' m1' d1', .slice C2' m2' d2'] 26)) w2.heap.size (.int .i64 k8) (.int .i64 i8) (.int .u64 u8) (.string s8) (.slice C1' m1' d1') (.slice C2' m2' d2') ∧ Nd (w2.alloc (.cells #[.int .i64 k8, .int .i64 i8, .int .u64 u8, .string s8, .slice C1' m1' d1', .slice C2' m2' d2'] 26)) (fewT t) [.int .i64 k8, .int .i64 i8, .int .u64 u8, .string s8, .slice C1' m1' d1', .slice C2' m2' d2']) := Lib.hid ⟨tr (al0 _ _) (tr hb2 (al0 _ _)), Blk.new _ _ _, (NdO.nd _ _ hno).bel (al0 _ _)⟩
  have hQ : QQ (fewT t) := ⟨Nat.le_trans (fewT_sz t) (by omega), fewT_sm t⟩
  have hZ := fewT_sz t
  clear hno hb2
  go_wp2_with fail
  obtain ⟨ib, hi⟩ : ∃ ib, w2.heap.size = ib := ⟨_, rfl⟩
  rw [hi] at HI
  simp only [hi]
  clear hi
  obtain ⟨W3, hW⟩ : ∃ W3, w2.alloc (.cells #[.int .i64 k8, .int .i64 i8, .int .u64 u8, .string s8, .slice C1' m1' d1', .slice C2' m2' d2'] 26) = W3 := ⟨_, rfl⟩
  rw [hW] at HI
  rw [hW]
  clear hW
  obtain ⟨X, hX⟩ : ∃ X, fewT t = X := ⟨_, rfl⟩
  rw [hX] at HI hQ hZ
  have HQ := Lib.hid hQ
  obtain ⟨z, hz⟩ : ∃ z, sz X = z := ⟨_, rfl⟩
  obtain ⟨y, hy⟩ : ∃ y, dp X = y := ⟨_, rfl⟩
  rw [hz] at hZ
  have HZ := Lib.hid hz
  have HY := Lib.hid hy
  have hzz : (z : Int) ≤ 120 := by omega
  clear hX hQ hz hy hZ
  have HT3 := Lib.hid (hT.keep HI.out.1)
  have hcells : ∀ W, C0 W3 W → C0 W3 W ∧ W.cell? ⟨ib, 0, none⟩ = some (.int .i64 k8) ∧ W.cell? ⟨ib, 1, none⟩ = some (.int .i64 i8) ∧ W.cell? ⟨ib, 2, none⟩ = some (.int .u64 u8) ∧ W.cell? ⟨ib, 3, none⟩ = some (.string s8) ∧ W.cell? ⟨ib, 4, none⟩ = some (.slice C1' m1' d1') ∧ W.cell? ⟨ib, 5, none⟩ = some (.slice C2' m2' d2') := fun W h => ⟨h, Bx.all (Blk.below HI.out.2.1 h (Blk.lt HI.out.2.1))⟩
  have HRS : Hid (∀ W, C0 W3 W → Calls Tryd.prog 18 #[.agg #[.int .i64 k8, .int .i64 i8, .int .u64 u8, .string s8, .slice C1' m1' d1', .slice C2' m2' d2']] W fun e w' => e = .returned (.int .i64 (z : Int)) ∧ C0 W3 w') := Lib.hid fun W h => (refSize_any (dp X) X _ W (Nat.le_refl _) HQ.out.1 (HI.out.2.2.bel h)).mono fun e w' k => ⟨by rw [k.1, HZ.out], h.go k.2⟩
  have HTS : Hid (∀ W, C0 W3 W → Calls Tryd.prog 20 #[.agg #[.int .i64 k8, .int .i64 i8, .int .u64 u8, .string s8, .slice C1' m1' d1', .slice C2' m2' d2']] W fun e w' => e = .returned (.int .i64 (z : Int)) ∧ C0 W3 w') := Lib.hid fun W h => (size_any X _ W HQ.out.1 (HI.out.2.2.bel h)).mono fun e w' k => ⟨by rw [k.1, HZ.out], h.go k.2⟩
  have HRD : Hid (∀ W, C0 W3 W → Calls Tryd.prog 22 #[.agg #[.int .i64 k8, .int .i64 i8, .int .u64 u8, .string s8, .slice C1' m1' d1', .slice C2' m2' d2']] W fun e w' => e = .returned (.int .i64 (y : Int)) ∧ C0 W3 w') := Lib.hid fun W h => (refDeep_any (dp X) X _ W (Nat.le_refl _) HQ.out.1 (HI.out.2.2.bel h)).mono fun e w' k => ⟨by rw [k.1, HY.out], h.go k.2⟩
  have HTD : Hid (∀ W, C0 W3 W → Calls Tryd.prog 21 #[.agg #[.int .i64 k8, .int .i64 i8, .int .u64 u8, .string s8, .slice C1' m1' d1', .slice C2' m2' d2']] W fun e w' => e = .returned (.int .i64 (y : Int)) ∧ C0 W3 w') := Lib.hid fun W h => (deep_any X _ W HQ.out.1 (HI.out.2.2.bel h)).mono fun e w' k => ⟨by rw [k.1, HY.out], h.go k.2⟩
  have HAT : Hid (∀ N W, N ≤ 9223372036854775807 → C0 W3 W → Calls Tryd.prog 19 #[.agg #[.int .i64 k8, .int .i64 i8, .int .u64 u8, .string s8, .slice C1' m1' d1', .slice C2' m2' d2'], .int .i64 N] W fun e w' => e = .returned (.bool true) ∧ C0 W3 w') := Lib.hid fun N W hN h => (at_law X _ N W hN HQ.out (HI.out.2.2.bel h)).mono fun e w' k => ⟨k.1, h.go k.2⟩
  have HLF : Hid (∀ W, C0 W3 W → Calls Tryd.prog 23 #[.int .i64 kd] W fun e w' => e = .returned (.bool (decide (1 ≤ kd) && decide (kd ≤ 9))) ∧ C0 W3 w') := Lib.hid fun W h => (leaf_any kd W (HT3.out.keep h)).mono fun e w' k => ⟨k.1, h.go k.2⟩
  have HRL : Hid (∀ W, C0 W3 W → Calls Tryd.prog 24 #[.int .i64 kd] W fun e w' => e = .returned (.bool (decide (1 ≤ kd) && decide (kd ≤ 9))) ∧ C0 W3 w') := Lib.hid fun W h => (refLeaf_any kd W).mono fun e w' k => ⟨k.1, by rw [k.2]; exact h⟩
  obtain ⟨lf, hlf⟩ : ∃ lf, (decide (1 ≤ kd) && decide (kd ≤ 9)) = lf := ⟨_, rfl⟩
  rw [hlf] at HLF HRL
  clear hlf
  have HWK : Hid (∀ W, C0 W3 W → Calls Tryd.prog 13 #[] W fun e w' => e = .returned (.bool true) ∧ C0 W3 w') := Lib.hid fun W h => (works_true W (HT3.out.keep h)).mono fun e w' k => ⟨k.1, h.go k.2⟩
  have HB3 := Lib.hid HI.out.1
  have HR0 : Hid (C0 W3 W3) := Lib.hid (Below.refl _ _)
  clear HI HFW HQ hnd hT HT3 HZ HY
  go_loopw [8] (fun i wr => ∃ j : Nat, j ≤ z + 3 ∧ i = .int .i64 ((j : Int) - 1) ∧ Hid (C0 W3 wr)) (fun i _ => z + 4 - (intOf i + 1).toNat)
  case atStart => exact ⟨0, Nat.zero_le _, rfl, HR0⟩
  case round =>
    obtain ⟨j, hj, rfl, HC⟩ := hrel
    obtain ⟨-, a0, a1, a2, a3, a4, a5⟩ := hcells wr HC.out
    by_cases hjs : j ≤ z + 2
    · have hle : (j : Int) - 1 ≤ (z : Int) + 1 := by omega
      have hjb : (j : Int) ≤ 200 := by omega
      go_wp2_with (first
        | (go_at_call 18; refine (HRS.out _ HC.out).mono ?_; rintro e V ⟨rfl, hC⟩; clear a0 a1 a2 a3 a4 a5; obtain ⟨-, a0, a1, a2, a3, a4, a5⟩ := hcells V hC)
        | (go_at_call 19; refine (HAT.out _ _ (by omega) hC).mono ?_; rintro e V2 ⟨rfl, hC2⟩))
      refine ⟨⟨j + 1, by omega, by congr 1; omega, Lib.hid hC2⟩, ?_⟩
      simp [intOf]
      omega
    · have hlt : ¬ (j : Int) - 1 ≤ (z : Int) + 1 := by omega
      have hjb : (j : Int) ≤ 200 := by omega
      have hzz2 : ((z : Int) == (z : Int)) = true := by simp
      have hyy2 : ((y : Int) == (y : Int)) = true := by simp
      have hff2 : (lf == lf) = true := by simp
      go_wp2_with (first
        | (go_at_call 18; refine (HRS.out _ HC.out).mono ?_; rintro e V ⟨rfl, hC⟩; clear a0 a1 a2 a3 a4 a5; obtain ⟨-, a0, a1, a2, a3, a4, a5⟩ := hcells V hC))
      have hXd : C0 W3 V.drew := C0.dr hC
      go_region_held3 (fun W => C0 W3 W ∧ W.cell? ⟨ib, 0, none⟩ = some (.int .i64 k8) ∧ W.cell? ⟨ib, 1, none⟩ = some (.int .i64 i8) ∧ W.cell? ⟨ib, 2, none⟩ = some (.int .u64 u8) ∧ W.cell? ⟨ib, 3, none⟩ = some (.string s8) ∧ W.cell? ⟨ib, 4, none⟩ = some (.slice C1' m1' d1') ∧ W.cell? ⟨ib, 5, none⟩ = some (.slice C2' m2' d2')) (first | (with_reducible exact hcells _ (by assumption)))
        (first
          | (go_at_call 19; (with_reducible refine (HAT.out _ _ HNN.out (by assumption)).mono ?_); rintro e V1 ⟨rfl, hC1⟩)
          | (go_at_call 20; (with_reducible refine (HTS.out _ (by assumption)).mono ?_); rintro e V2 ⟨rfl, hC2⟩)
          | (go_at_call 18; (with_reducible refine (HRS.out _ (by assumption)).mono ?_); rintro e V3 ⟨rfl, hC3⟩)
          | (go_at_call 21; (with_reducible refine (HTD.out _ (by assumption)).mono ?_); rintro e V4 ⟨rfl, hC4⟩)
          | (go_at_call 22; (with_reducible refine (HRD.out _ (by assumption)).mono ?_); rintro e V5 ⟨rfl, hC5⟩)
          | (go_at_call 23; (with_reducible refine (HLF.out _ (by assumption)).mono ?_); rintro e V6 ⟨rfl, hC6⟩)
          | (go_at_call 24; (with_reducible refine (HRL.out _ (by assumption)).mono ?_); rintro e V7 ⟨rfl, hC7⟩)
          | (go_at_call 13; (with_reducible refine (HWK.out _ (by assumption)).mono ?_); rintro e V8 ⟨rfl, hC8⟩))
      all_goals go_wp2_with fail
      all_goals go_ret
      all_goals exact ⟨rfl, HB3.out.trans (Below.mono hC8 HB3.out.size)⟩
end Go.Proofs.YtlleknofnlmecaaDoor
