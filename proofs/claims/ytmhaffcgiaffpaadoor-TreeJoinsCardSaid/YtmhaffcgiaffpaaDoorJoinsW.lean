/-
  What is proved here: TreeJoins returns true and leaves old memory as it was; condition: the table holds what is laid.
-/
import Derived.Test.YtmhaffcgiaffpaaDoorJoins
import Derived.Test.YtmhaffcgiaffpaaDoorWork
namespace Go.Proofs.YtmhaffcgiaffpaaDoor
open Go.RowKit

set_option maxRecDepth 100000 in
set_option maxHeartbeats 4000000 in
theorem treeJoins_walk (A : Option Addr) (m c : Nat) (L : List T) (dd : Int) (w : World) (hT : Tab w) (hl : L.length = m) (hmc : m ≤ c) (hmx : c ≤ maxLen) (hL : 0 < m → ∃ b off, A = some ⟨b, off, none⟩ ∧ b < w.heap.size ∧ NdL w b L off) : Calls Tryd.prog 8 #[.slice A m c, .int .i64 dd] w fun e w' => e = .returned (.bool true) ∧ Below w.heap.size w w' := by
  have hmm : m ≤ 9223372036854775807 := Nat.le_trans hmc hmx
  obtain ⟨D, hD⟩ : ∃ D : Nat, dd % 64 = (D : Int) := ⟨(dd % 64).toNat, (Int.toNat_of_nonneg (Int.emod_nonneg _ (by omega))).symm⟩
  have hD63 : D ≤ 63 := by have := Int.emod_lt_of_pos dd (show (0 : Int) < 64 by omega); omega
  have HBR : Hid (Calls Tryd.prog 28 #[.int .i64 dd, .int .i64 64] w fun e w' => e = .returned (.int .i64 (D : Int)) ∧ w = w') := Lib.hid (by have := bring_small dd 64 w (by omega) (by omega); rw [hD] at this; exact this)
  have HNE : Hid (Calls Tryd.prog 27 #[.int .i64 (1 + (D : Int))] w fun e w' => (∃ (k n u : Int) (s : ByteArray) (A1 : Option Addr) (m1 c1 : Nat) (A2 : Option Addr) (m2 c2 : Nat), e = .returned (.agg #[.int .i64 k, .int .i64 n, .int .u64 u, .string s, .slice A1 m1 c1, .slice A2 m2 c2]) ∧ Hid (NdO (fun b => w.heap.size ≤ b) w' (nestT D) [.int .i64 k, .int .i64 n, .int .u64 u, .string s, .slice A1 m1 c1, .slice A2 m2 c2])) ∧ Hid (Below w.heap.size w w')) := Lib.hid (by
    have := nestO_any (1 + D) w (by omega) (by omega)
    rw [show (((1 + D : Nat) : Int)) = 1 + (D : Int) by omega] at this
    refine this.mono ?_
    rintro e w' ⟨⟨cs, rfl, hn⟩, hb⟩
    rw [Nat.add_sub_cancel_left] at hn
    obtain ⟨k, n, u, s, A1, m1, c1, A2, m2, c2, rfl⟩ := hn.shape6
    exact ⟨⟨k, n, u, s, A1, m1, c1, A2, m2, c2, rfl, Lib.hid hn⟩, Lib.hid hb⟩)
  have hDb : (D : Int) ≤ 63 := by omega
  have HD63 := Lib.hid hD63
  clear hD hD63
  go_enter Tryd.func8, Tryd.ntmps8
  go_wp2_with (first
    | (go_at_call 28; refine HBR.out.mono ?_; clear HBR; rintro e w1 ⟨rfl, rfl⟩)
    | (go_at_call 27; refine HNE.out.mono ?_; clear HNE; rintro e w2 ⟨⟨k1, i1, u1, s1, B1, a1, b1, C1, d1, e1, rfl, HN2⟩, HB2⟩))
  have HJ0 : Hid (JR w [nestT D] [.int .i64 k1, .int .i64 i1, .int .u64 u1, .string s1, .slice B1 a1 b1, .slice C1 d1 e1] (.slice (some ⟨w2.heap.size, 0, none⟩) 1 1) (w2.alloc (.cells #[.int .i64 k1, .int .i64 i1, .int .u64 u1, .string s1, .slice B1 a1 b1, .slice C1 d1 e1] 26))) := Lib.hid (JR.start HB2.out HN2.out)
  have HT := Lib.hid hT
  have HL := Lib.hid hL
  clear hL hT HB2 HN2
  go_loopw [5, 6] (fun lv iv wr => ∃ (j : Nat) (K : List T) (ys : List Value), j ≤ m ∧ j ≤ 20 ∧ iv = .int .i64 (j : Int) ∧ Hid (K.length ≤ j) ∧ Hid (∀ t ∈ K, Kept t) ∧ Hid (JR w (nestT D :: K) ys lv wr)) (fun _ iv _ => 20 - (intOf iv).toNat)
  case atStart => exact ⟨0, [], _, Nat.zero_le _, Nat.zero_le _, rfl, Lib.hid (Nat.le_refl _), Lib.hid (fun t h => by simp at h), HJ0⟩
  case round =>
    obtain ⟨j, K, ys, hj, hj20, rfl, HKL, HKK, HJ⟩ := hrel
    by_cases hjm : j < m
    · by_cases hj2 : j < 20
      · obtain ⟨bb, off, rfl, hbb, hN⟩ := HL.out (by omega)
        obtain ⟨t0, ht0⟩ : ∃ t, L[j]? = some t := ⟨_, List.getElem?_eq_getElem (by omega)⟩
        obtain ⟨v0, v1, v2, v3, v4, v5, hS, hn0⟩ := hN.six' HJ.out.bl hbb ht0
        obtain ⟨k2, i2, u2, s2, B2, a2, b2, C2, d2, e2, rfl, rfl, rfl, rfl, rfl, rfl⟩ := hn0.shape6
        obtain ⟨z0, z1, z2, z3, z4, z5⟩ := hS
        have HFW := Lib.hid (few_any t0 _ wr hn0)
        clear hN hn0 ht0
        go_wp2_with fail
        refine HFW.out.mono ?_
        rintro e w3 ⟨⟨cs3, rfl, hn3⟩, hb3⟩
        obtain ⟨k3, i3, u3, s3, B3, a3, b3, C3, d3, e3, rfl⟩ := hn3.shape6
        have HI : Hid (C0 wr (w3.alloc (.cells #[.int .i64 k3, .int .i64 i3, .int .u64 u3, .string s3, .slice B3 a3 b3, .slice C3 d3 e3] 26)) ∧ Bx (w3.alloc (.cells #[.int .i64 k3, .int .i64 i3, .int .u64 u3, .string s3, .slice B3 a3 b3, .slice C3 d3 e3] 26)) w3.heap.size (.int .i64 k3) (.int .i64 i3) (.int .u64 u3) (.string s3) (.slice B3 a3 b3) (.slice C3 d3 e3) ∧ NdO (fun b => wr.heap.size ≤ b) (w3.alloc (.cells #[.int .i64 k3, .int .i64 i3, .int .u64 u3, .string s3, .slice B3 a3 b3, .slice C3 d3 e3] 26)) (fewT t0) [.int .i64 k3, .int .i64 i3, .int .u64 u3, .string s3, .slice B3 a3 b3, .slice C3 d3 e3]) := Lib.hid ⟨tr hb3 (al0 _ _), Blk.new _ _ _, NdO.step (fun b hb hl => ⟨Below.heap_alloc _ _ _ hl, hb⟩) _ _ hn3⟩
        have hQ : QQ (fewT t0) := ⟨Nat.le_trans (fewT_sz t0) (by omega), fewT_sm t0⟩
        have HSZ := Lib.hid (fewT_sz t0)
        clear hn3 hb3 HFW z0 z1 z2 z3 z4 z5
        go_wp2_with fail
        obtain ⟨xb, hxb⟩ : ∃ xb, w3.heap.size = xb := ⟨_, rfl⟩
        rw [hxb] at HI
        simp only [hxb]
        clear hxb
        obtain ⟨V4, hV4⟩ : ∃ V4, w3.alloc (.cells #[.int .i64 k3, .int .i64 i3, .int .u64 u3, .string s3, .slice B3 a3 b3, .slice C3 d3 e3] 26) = V4 := ⟨_, rfl⟩
        rw [hV4] at HI
        rw [hV4]
        clear hV4
        obtain ⟨X, hX⟩ : ∃ X, fewT t0 = X := ⟨_, rfl⟩
        rw [hX] at HI hQ HSZ
        have HQ := Lib.hid hQ
        clear hX hQ
        have HJ4 : Hid (JR w (nestT D :: K) ys u5 V4) := Lib.hid (HJ.out.below HI.out.1)
        have HT4 : Hid (Tab V4) := Lib.hid (HT.out.keep HJ4.out.bl)
        obtain ⟨E, hE⟩ : ∃ E, chk X = E := ⟨_, rfl⟩
        obtain ⟨y, hy⟩ : ∃ y, dp X = y := ⟨_, rfl⟩
        have hyb : (y : Int) ≤ 120 := by have := dp_le_sz X; have := HSZ.out; omega
        have HCK : Hid (∀ W, C0 V4 W → Calls Tryd.prog 12 #[.agg #[.int .i64 k3, .int .i64 i3, .int .u64 u3, .string s3, .slice B3 a3 b3, .slice C3 d3 e3]] W fun e w' => e = .returned (.int .i64 (E : Int)) ∧ C0 V4 w') := Lib.hid fun W h => chk_C HT4.out h HQ.out hE ((NdO.nd _ _ HI.out.2.2).bel h)
        have HDP : Hid (∀ W, C0 V4 W → Calls Tryd.prog 19 #[.agg #[.int .i64 k3, .int .i64 i3, .int .u64 u3, .string s3, .slice B3 a3 b3, .slice C3 d3 e3]] W fun e w' => e = .returned (.int .i64 (y : Int)) ∧ C0 V4 w') := Lib.hid fun W h => (deep_any X _ W HQ.out.1 ((NdO.nd _ _ HI.out.2.2).bel h)).mono fun e w' k => ⟨by rw [k.1, hy], h.go k.2⟩
        have hcells : ∀ W, C0 V4 W → W.cell? ⟨xb, 0, none⟩ = some (.int .i64 k3) ∧ W.cell? ⟨xb, 1, none⟩ = some (.int .i64 i3) ∧ W.cell? ⟨xb, 2, none⟩ = some (.int .u64 u3) ∧ W.cell? ⟨xb, 3, none⟩ = some (.string s3) ∧ W.cell? ⟨xb, 4, none⟩ = some (.slice B3 a3 b3) ∧ W.cell? ⟨xb, 5, none⟩ = some (.slice C3 d3 e3) := fun W h => Bx.all (Blk.below HI.out.2.1 h (Blk.lt HI.out.2.1))
        have HR0 : Hid (C0 V4 V4) := Lib.hid (Below.refl _ _)
        have HEE := Lib.hid hE
        have HYY := Lib.hid hy
        clear hE hy
        have HJG : Hid (∀ W, C0 V4 W → JR w (nestT D :: K) ys u5 W) := Lib.hid fun W h => HJ4.out.below h
        obtain ⟨z0, z1, z2, z3, z4, z5⟩ := hcells V4 HR0.out
        by_cases hE0 : E = 0
        · subst hE0
          by_cases hy6 : y < 64
          · have HKX : Hid (Kept X) := Lib.hid ⟨((chk_zero X).1 HEE.out).1, by have := HYY.out; omega, HSZ.out, HQ.out.2⟩
            obtain ⟨i0, hi, hz0, hz1, hz2⟩ := info_parts infoN
            go_wp2_with (first
              | (go_at_call 12; refine (HCK.out _ HR0.out).mono ?_; rintro e w5 ⟨rfl, hC5⟩; clear z0 z1 z2 z3 z4 z5; obtain ⟨z0, z1, z2, z3, z4, z5⟩ := hcells w5 hC5)
              | (go_at_call 19; refine (HDP.out _ hC5).mono ?_; rintro e w6 ⟨rfl, hC6⟩; clear z0 z1 z2 z3 z4 z5; obtain ⟨z0, z1, z2, z3, z4, z5⟩ := hcells w6 hC6)
              | (at_builtin; refine wpList_append_own_at _ rfl _ _ 24 rfl w.heap.size 26 i0 _ 6 88 Tryd.underlying24 hi hz0 hz1 hz2 rfl (by decide) _ (nestT D :: K).length ys rfl ((HJG.out _ hC6).row.alloc _) ⟨w6.heap.size, 0, none⟩ 1 1 [.int .i64 k3, .int .i64 i3, .int .u64 u3, .string s3, .slice B3 a3 b3, .slice C3 d3 e3] rfl rfl ?q1 ?q2 ?q3 ?q4 ?q5 ?_; rotate_left 5; intro v' w7 hown7 hgrow7 hnil7 hloc7))
            case roundEnd =>
              have hn6 : NdO (fun b => wr.heap.size ≤ b) w6 X [.int .i64 k3, .int .i64 i3, .int .u64 u3, .string s3, .slice B3 a3 b3, .slice C3 d3 e3] := NdO.step (fun b hb hl => ⟨hC6.block b hl, hb⟩) _ _ HI.out.2.2
              have hlv0 : ∀ g, u5.ownBlock = some g → g < wr.heap.size := fun g hg => (HJ.out.row.lt g hg).2
              have HF := Lib.hid (JR.app (HJG.out _ hC6) hn6 HJ.out.bl.size hlv0 hown7 hgrow7 hloc7)
              refine ⟨⟨j + 1, K ++ [X], ys ++ _, by omega, by omega, by simp, Lib.hid (by have := HKL.out; simp; omega), Lib.hid (fun t h => ?_), HF⟩, ?_⟩
              · rcases List.mem_append.1 h with h | h
                · exact HKK.out t h
                · obtain rfl : t = X := by simpa using h
                  exact HKX.out
              · simp [intOf]
                omega
            case q1 => exact cells_new _ _ _
            case q2 => exact NdO.one HI.out.2.2
            case q3 => have := HKL.out; unfold maxLen; simp; omega
            case q4 => have := HKL.out; simp; omega
            case q5 => have := HJ4.out.bl.size; have := hC6.size; rw [World.size_alloc]; omega
          · go_wp2_with (first
              | (go_at_call 12; refine (HCK.out _ HR0.out).mono ?_; rintro e w5 ⟨rfl, hC5⟩; clear z0 z1 z2 z3 z4 z5; obtain ⟨z0, z1, z2, z3, z4, z5⟩ := hcells w5 hC5)
              | (go_at_call 19; refine (HDP.out _ hC5).mono ?_; rintro e w6 ⟨rfl, hC6⟩))
            go_roundw
            case rel => exact ⟨j + 1, K, ys, by omega, by omega, by simp, Lib.hid (Nat.le_succ_of_le HKL.out), HKK, Lib.hid (HJG.out _ hC6)⟩
            case measure => simp [intOf]; omega
        · have hne : ((E : Int) == 0) = false := by simpa using hE0
          go_wp2_with (first
              | (go_at_call 12; refine (HCK.out _ HR0.out).mono ?_; rintro e w5 ⟨rfl, hC5⟩))
          go_roundw
          case rel => exact ⟨j + 1, K, ys, by omega, by omega, by simp, Lib.hid (Nat.le_succ_of_le HKL.out), HKK, Lib.hid (HJG.out _ hC5)⟩
          case measure => simp [intOf]; omega
      · obtain ⟨RA, RC, hu⟩ := (Ow.of HJ.out.row).shape
        subst hu
        obtain ⟨z, hz⟩ : ∃ z : Int, (D : Int) + 1 = z := ⟨_, rfl⟩
        obtain ⟨q, hq⟩ : ∃ q, (nestT D :: K).length = q := ⟨_, rfl⟩
        have hq1 : q = K.length + 1 := by rw [← hq]; simp
        have hq0 : (0 : Int) < (q : Int) := by omega
        have hqb : (q : Int) ≤ 100 := by have := HKL.out; omega
        rw [hq] at HJ
        rw [hq]
        have hkids := HJ.out.kids
        obtain ⟨cs0, ys0, hys, hn0, -⟩ := hkids
        obtain ⟨k2, i2, u2, s2, B2, a2, b2, C2, d2, e2, rfl⟩ := hn0.shape6
        have hg : ∃ g, RA = some ⟨g, 0, none⟩ ∧ g < wr.heap.size ∧ Six wr g 0 (.int .i64 k2) (.int .i64 i2) (.int .u64 u2) (.string s2) (.slice B2 a2 b2) (.slice C2 d2 e2) := by
          have hrow := HJ.out.row
          rw [hq] at hrow
          rcases hrow.2 with ⟨h1, h2⟩ | ⟨g, cap, cur, h1, h2, h3, -⟩
          · omega
          · injection h1 with h1 h1b h1c
            subst h1 h1c
            have hc : ∀ i, i < 6 → wr.cell? ⟨g, i, none⟩ = ys[i]? := fun i hi => hrow.cellAt i (by omega)
            rw [hys] at hc
            exact ⟨g, rfl, (Array.getElem?_eq_some_iff.1 h3).1, hc 0 (by omega), hc 1 (by omega), hc 2 (by omega), hc 3 (by omega), hc 4 (by omega), hc 5 (by omega)⟩
        obtain ⟨g, rfl, hgl, hSix⟩ := hg
        have HSix : Hid (∀ W, C0 wr W → Six W g 0 (.int .i64 k2) (.int .i64 i2) (.int .u64 u2) (.string s2) (.slice B2 a2 b2) (.slice C2 d2 e2)) := Lib.hid fun W h => hSix.below h hgl
        have HN0 := Lib.hid (NdO.nd _ _ hn0)
        have HDR : Hid (∀ W, C0 wr W → Calls Tryd.prog 19 #[.agg #[.int .i64 k2, .int .i64 i2, .int .u64 u2, .string s2, .slice B2 a2 b2, .slice C2 d2 e2]] W fun e w' => e = .returned (.int .i64 z) ∧ Below W.heap.size W w') := Lib.hid fun W h => (deep_any (nestT D) _ W (by have := nest_sz D; have := HD63.out; omega) (HN0.out.bel h)).mono fun e w' k => ⟨by rw [k.1, nest_dp, ← hz]; rfl, k.2⟩
        have HVT := Lib.hid HJ.out.nd
        have HT4 : Hid (Tab wr) := Lib.hid (HT.out.keep HJ.out.bl)
        have HQK : Hid (QQ (vecT (nestT D :: K))) := Lib.hid (kept_QQ HD63.out HKK.out (by have := HKL.out; omega))
        have HWK : Hid (∀ W, C0 wr W → Calls Tryd.prog 15 #[] W fun e w' => e = .returned (.bool true) ∧ C0 wr w') := Lib.hid fun W h => (works_true W (HT4.out.keep h)).mono fun e w' k => ⟨k.1, h.go k.2⟩
        have HVC : Hid (Calls Tryd.prog 29 #[.slice (some ⟨g, 0, none⟩) q RC] wr fun e w' => e = .returned (.agg #[.int .i64 10, .int .i64 0, .int .u64 0, .string ⟨#[]⟩, .slice none 0 0, .slice (some ⟨g, 0, none⟩) q RC]) ∧ C0 wr w') := Lib.hid ((vec_any _ _ _ _).mono fun e w' k => ⟨k.1, k.2⟩)
        have HBW := Lib.hid HJ.out.bl
        clear hys hn0 hSix hgl hq hq1
        by_cases hD3 : D = 63
        · have hz64 : (z == 64) = true := by simp; omega
          have HCK : Hid (∀ W, C0 wr W → Calls Tryd.prog 12 #[.agg #[.int .i64 10, .int .i64 0, .int .u64 0, .string ⟨#[]⟩, .slice none 0 0, .slice (some ⟨g, 0, none⟩) q RC]] W fun e w' => e = .returned (.int .i64 61) ∧ C0 wr w') := Lib.hid fun W h => chk_C HT4.out h HQK.out (by rw [hD3]; exact chk_deep K) (HVT.out.bel h)
          clear hz hD3
          go_wp2_with fail
          refine HVC.out.mono ?_
          clear HVC
          rintro e w8 ⟨rfl, hC8⟩
          have hC9 : C0 wr (w8.alloc (.cells #[.int .i64 10, .int .i64 0, .int .u64 0, .string ⟨#[]⟩, .slice none 0 0, .slice (some ⟨g, 0, none⟩) q RC] 26)) := C0.al hC8
          have HTB : Hid (∀ W, Below (w8.alloc (.cells #[.int .i64 10, .int .i64 0, .int .u64 0, .string ⟨#[]⟩, .slice none 0 0, .slice (some ⟨g, 0, none⟩) q RC] 26)).heap.size (w8.alloc (.cells #[.int .i64 10, .int .i64 0, .int .u64 0, .string ⟨#[]⟩, .slice none 0 0, .slice (some ⟨g, 0, none⟩) q RC] 26)) W → Bx W w8.heap.size (.int .i64 10) (.int .i64 0) (.int .u64 0) (.string ⟨#[]⟩) (.slice none 0 0) (.slice (some ⟨g, 0, none⟩) q RC) ∧ C0 wr W) := Lib.hid fun W h => ⟨Blk.below (Blk.new _ _ _) h (by simp), tr hC9 h⟩
          have HDQ : Hid (Calls Tryd.prog 19 #[.agg #[.int .i64 k2, .int .i64 i2, .int .u64 u2, .string s2, .slice B2 a2 b2, .slice C2 d2 e2]] (w8.alloc (.cells #[.int .i64 10, .int .i64 0, .int .u64 0, .string ⟨#[]⟩, .slice none 0 0, .slice (some ⟨g, 0, none⟩) q RC] 26)) fun e w' => e = .returned (.int .i64 z) ∧ Below (w8.alloc (.cells #[.int .i64 10, .int .i64 0, .int .u64 0, .string ⟨#[]⟩, .slice none 0 0, .slice (some ⟨g, 0, none⟩) q RC] 26)).heap.size (w8.alloc (.cells #[.int .i64 10, .int .i64 0, .int .u64 0, .string ⟨#[]⟩, .slice none 0 0, .slice (some ⟨g, 0, none⟩) q RC] 26)) w') := Lib.hid ((HDR.out _ hC9).mono fun e w' k => k)
          obtain ⟨s0, s1', s2', s3, s4, s5⟩ := HSix.out _ hC9
          go_wp2_with (first
            | (go_at_call 19; refine HDQ.out.mono ?_; rintro e w9 ⟨rfl, hC10⟩; have HTC := Lib.hid (HTB.out _ hC10); obtain ⟨r0, r1, r2, r3, r4, r5⟩ := Bx.all HTC.out.1)
            | (go_at_call 12; refine (HCK.out _ HTC.out.2).mono ?_; rintro e w10 ⟨rfl, hC11⟩)
            | (go_at_call 15; refine (HWK.out _ hC11).mono ?_; rintro e w11 ⟨rfl, hC12⟩))
          go_ret
          exact ⟨rfl, HBW.out.trans (Below.mono hC12 HBW.out.size)⟩
        · have hz64 : (z == 64) = false := by simp; omega
          have HCK : Hid (∀ W, C0 wr W → Calls Tryd.prog 12 #[.agg #[.int .i64 10, .int .i64 0, .int .u64 0, .string ⟨#[]⟩, .slice none 0 0, .slice (some ⟨g, 0, none⟩) q RC]] W fun e w' => e = .returned (.int .i64 0) ∧ C0 wr w') := Lib.hid fun W h => chk_C HT4.out h HQK.out (chk_kept (by have := HD63.out; omega) HKK.out (by have := HKL.out; omega)) (HVT.out.bel h)
          clear hz hD3
          go_wp2_with fail
          refine HVC.out.mono ?_
          clear HVC
          rintro e w8 ⟨rfl, hC8⟩
          have hC9 : C0 wr (w8.alloc (.cells #[.int .i64 10, .int .i64 0, .int .u64 0, .string ⟨#[]⟩, .slice none 0 0, .slice (some ⟨g, 0, none⟩) q RC] 26)) := C0.al hC8
          have HTB : Hid (∀ W, Below (w8.alloc (.cells #[.int .i64 10, .int .i64 0, .int .u64 0, .string ⟨#[]⟩, .slice none 0 0, .slice (some ⟨g, 0, none⟩) q RC] 26)).heap.size (w8.alloc (.cells #[.int .i64 10, .int .i64 0, .int .u64 0, .string ⟨#[]⟩, .slice none 0 0, .slice (some ⟨g, 0, none⟩) q RC] 26)) W → Bx W w8.heap.size (.int .i64 10) (.int .i64 0) (.int .u64 0) (.string ⟨#[]⟩) (.slice none 0 0) (.slice (some ⟨g, 0, none⟩) q RC) ∧ C0 wr W) := Lib.hid fun W h => ⟨Blk.below (Blk.new _ _ _) h (by simp), tr hC9 h⟩
          have HDQ : Hid (Calls Tryd.prog 19 #[.agg #[.int .i64 k2, .int .i64 i2, .int .u64 u2, .string s2, .slice B2 a2 b2, .slice C2 d2 e2]] (w8.alloc (.cells #[.int .i64 10, .int .i64 0, .int .u64 0, .string ⟨#[]⟩, .slice none 0 0, .slice (some ⟨g, 0, none⟩) q RC] 26)) fun e w' => e = .returned (.int .i64 z) ∧ Below (w8.alloc (.cells #[.int .i64 10, .int .i64 0, .int .u64 0, .string ⟨#[]⟩, .slice none 0 0, .slice (some ⟨g, 0, none⟩) q RC] 26)).heap.size (w8.alloc (.cells #[.int .i64 10, .int .i64 0, .int .u64 0, .string ⟨#[]⟩, .slice none 0 0, .slice (some ⟨g, 0, none⟩) q RC] 26)) w') := Lib.hid ((HDR.out _ hC9).mono fun e w' k => k)
          obtain ⟨s0, s1', s2', s3, s4, s5⟩ := HSix.out _ hC9
          go_wp2_with (first
            | (go_at_call 19; refine HDQ.out.mono ?_; rintro e w9 ⟨rfl, hC10⟩; have HTC := Lib.hid (HTB.out _ hC10); obtain ⟨r0, r1, r2, r3, r4, r5⟩ := Bx.all HTC.out.1)
            | (go_at_call 12; refine (HCK.out _ HTC.out.2).mono ?_; rintro e w10 ⟨rfl, hC11⟩)
            | (go_at_call 15; refine (HWK.out _ hC11).mono ?_; rintro e w11 ⟨rfl, hC12⟩))
          go_ret
          exact ⟨rfl, HBW.out.trans (Below.mono hC12 HBW.out.size)⟩
    · obtain ⟨RA, RC, hu⟩ := (Ow.of HJ.out.row).shape
      subst hu
      obtain ⟨z, hz⟩ : ∃ z : Int, (D : Int) + 1 = z := ⟨_, rfl⟩
      obtain ⟨q, hq⟩ : ∃ q, (nestT D :: K).length = q := ⟨_, rfl⟩
      have hq1 : q = K.length + 1 := by rw [← hq]; simp
      have hq0 : (0 : Int) < (q : Int) := by omega
      have hqb : (q : Int) ≤ 100 := by have := HKL.out; omega
      rw [hq] at HJ
      rw [hq]
      have hkids := HJ.out.kids
      obtain ⟨cs0, ys0, hys, hn0, -⟩ := hkids
      obtain ⟨k2, i2, u2, s2, B2, a2, b2, C2, d2, e2, rfl⟩ := hn0.shape6
      have hg : ∃ g, RA = some ⟨g, 0, none⟩ ∧ g < wr.heap.size ∧ Six wr g 0 (.int .i64 k2) (.int .i64 i2) (.int .u64 u2) (.string s2) (.slice B2 a2 b2) (.slice C2 d2 e2) := by
        have hrow := HJ.out.row
        rw [hq] at hrow
        rcases hrow.2 with ⟨h1, h2⟩ | ⟨g, cap, cur, h1, h2, h3, -⟩
        · omega
        · injection h1 with h1 h1b h1c
          subst h1 h1c
          have hc : ∀ i, i < 6 → wr.cell? ⟨g, i, none⟩ = ys[i]? := fun i hi => hrow.cellAt i (by omega)
          rw [hys] at hc
          exact ⟨g, rfl, (Array.getElem?_eq_some_iff.1 h3).1, hc 0 (by omega), hc 1 (by omega), hc 2 (by omega), hc 3 (by omega), hc 4 (by omega), hc 5 (by omega)⟩
      obtain ⟨g, rfl, hgl, hSix⟩ := hg
      have HSix : Hid (∀ W, C0 wr W → Six W g 0 (.int .i64 k2) (.int .i64 i2) (.int .u64 u2) (.string s2) (.slice B2 a2 b2) (.slice C2 d2 e2)) := Lib.hid fun W h => hSix.below h hgl
      have HN0 := Lib.hid (NdO.nd _ _ hn0)
      have HDR : Hid (∀ W, C0 wr W → Calls Tryd.prog 19 #[.agg #[.int .i64 k2, .int .i64 i2, .int .u64 u2, .string s2, .slice B2 a2 b2, .slice C2 d2 e2]] W fun e w' => e = .returned (.int .i64 z) ∧ Below W.heap.size W w') := Lib.hid fun W h => (deep_any (nestT D) _ W (by have := nest_sz D; have := HD63.out; omega) (HN0.out.bel h)).mono fun e w' k => ⟨by rw [k.1, nest_dp, ← hz]; rfl, k.2⟩
      have HVT := Lib.hid HJ.out.nd
      have HT4 : Hid (Tab wr) := Lib.hid (HT.out.keep HJ.out.bl)
      have HQK : Hid (QQ (vecT (nestT D :: K))) := Lib.hid (kept_QQ HD63.out HKK.out (by have := HKL.out; omega))
      have HWK : Hid (∀ W, C0 wr W → Calls Tryd.prog 15 #[] W fun e w' => e = .returned (.bool true) ∧ C0 wr w') := Lib.hid fun W h => (works_true W (HT4.out.keep h)).mono fun e w' k => ⟨k.1, h.go k.2⟩
      have HVC : Hid (Calls Tryd.prog 29 #[.slice (some ⟨g, 0, none⟩) q RC] wr fun e w' => e = .returned (.agg #[.int .i64 10, .int .i64 0, .int .u64 0, .string ⟨#[]⟩, .slice none 0 0, .slice (some ⟨g, 0, none⟩) q RC]) ∧ C0 wr w') := Lib.hid ((vec_any _ _ _ _).mono fun e w' k => ⟨k.1, k.2⟩)
      have HBW := Lib.hid HJ.out.bl
      clear hys hn0 hSix hgl hq hq1
      by_cases hD3 : D = 63
      · have hz64 : (z == 64) = true := by simp; omega
        have HCK : Hid (∀ W, C0 wr W → Calls Tryd.prog 12 #[.agg #[.int .i64 10, .int .i64 0, .int .u64 0, .string ⟨#[]⟩, .slice none 0 0, .slice (some ⟨g, 0, none⟩) q RC]] W fun e w' => e = .returned (.int .i64 61) ∧ C0 wr w') := Lib.hid fun W h => chk_C HT4.out h HQK.out (by rw [hD3]; exact chk_deep K) (HVT.out.bel h)
        clear hz hD3
        go_wp2_with fail
        refine HVC.out.mono ?_
        clear HVC
        rintro e w8 ⟨rfl, hC8⟩
        have hC9 : C0 wr (w8.alloc (.cells #[.int .i64 10, .int .i64 0, .int .u64 0, .string ⟨#[]⟩, .slice none 0 0, .slice (some ⟨g, 0, none⟩) q RC] 26)) := C0.al hC8
        have HTB : Hid (∀ W, Below (w8.alloc (.cells #[.int .i64 10, .int .i64 0, .int .u64 0, .string ⟨#[]⟩, .slice none 0 0, .slice (some ⟨g, 0, none⟩) q RC] 26)).heap.size (w8.alloc (.cells #[.int .i64 10, .int .i64 0, .int .u64 0, .string ⟨#[]⟩, .slice none 0 0, .slice (some ⟨g, 0, none⟩) q RC] 26)) W → Bx W w8.heap.size (.int .i64 10) (.int .i64 0) (.int .u64 0) (.string ⟨#[]⟩) (.slice none 0 0) (.slice (some ⟨g, 0, none⟩) q RC) ∧ C0 wr W) := Lib.hid fun W h => ⟨Blk.below (Blk.new _ _ _) h (by simp), tr hC9 h⟩
        have HDQ : Hid (Calls Tryd.prog 19 #[.agg #[.int .i64 k2, .int .i64 i2, .int .u64 u2, .string s2, .slice B2 a2 b2, .slice C2 d2 e2]] (w8.alloc (.cells #[.int .i64 10, .int .i64 0, .int .u64 0, .string ⟨#[]⟩, .slice none 0 0, .slice (some ⟨g, 0, none⟩) q RC] 26)) fun e w' => e = .returned (.int .i64 z) ∧ Below (w8.alloc (.cells #[.int .i64 10, .int .i64 0, .int .u64 0, .string ⟨#[]⟩, .slice none 0 0, .slice (some ⟨g, 0, none⟩) q RC] 26)).heap.size (w8.alloc (.cells #[.int .i64 10, .int .i64 0, .int .u64 0, .string ⟨#[]⟩, .slice none 0 0, .slice (some ⟨g, 0, none⟩) q RC] 26)) w') := Lib.hid ((HDR.out _ hC9).mono fun e w' k => k)
        obtain ⟨s0, s1', s2', s3, s4, s5⟩ := HSix.out _ hC9
        go_wp2_with (first
          | (go_at_call 19; refine HDQ.out.mono ?_; rintro e w9 ⟨rfl, hC10⟩; have HTC := Lib.hid (HTB.out _ hC10); obtain ⟨r0, r1, r2, r3, r4, r5⟩ := Bx.all HTC.out.1)
          | (go_at_call 12; refine (HCK.out _ HTC.out.2).mono ?_; rintro e w10 ⟨rfl, hC11⟩)
          | (go_at_call 15; refine (HWK.out _ hC11).mono ?_; rintro e w11 ⟨rfl, hC12⟩))
        go_ret
        exact ⟨rfl, HBW.out.trans (Below.mono hC12 HBW.out.size)⟩
      · have hz64 : (z == 64) = false := by simp; omega
        have HCK : Hid (∀ W, C0 wr W → Calls Tryd.prog 12 #[.agg #[.int .i64 10, .int .i64 0, .int .u64 0, .string ⟨#[]⟩, .slice none 0 0, .slice (some ⟨g, 0, none⟩) q RC]] W fun e w' => e = .returned (.int .i64 0) ∧ C0 wr w') := Lib.hid fun W h => chk_C HT4.out h HQK.out (chk_kept (by have := HD63.out; omega) HKK.out (by have := HKL.out; omega)) (HVT.out.bel h)
        clear hz hD3
        go_wp2_with fail
        refine HVC.out.mono ?_
        clear HVC
        rintro e w8 ⟨rfl, hC8⟩
        have hC9 : C0 wr (w8.alloc (.cells #[.int .i64 10, .int .i64 0, .int .u64 0, .string ⟨#[]⟩, .slice none 0 0, .slice (some ⟨g, 0, none⟩) q RC] 26)) := C0.al hC8
        have HTB : Hid (∀ W, Below (w8.alloc (.cells #[.int .i64 10, .int .i64 0, .int .u64 0, .string ⟨#[]⟩, .slice none 0 0, .slice (some ⟨g, 0, none⟩) q RC] 26)).heap.size (w8.alloc (.cells #[.int .i64 10, .int .i64 0, .int .u64 0, .string ⟨#[]⟩, .slice none 0 0, .slice (some ⟨g, 0, none⟩) q RC] 26)) W → Bx W w8.heap.size (.int .i64 10) (.int .i64 0) (.int .u64 0) (.string ⟨#[]⟩) (.slice none 0 0) (.slice (some ⟨g, 0, none⟩) q RC) ∧ C0 wr W) := Lib.hid fun W h => ⟨Blk.below (Blk.new _ _ _) h (by simp), tr hC9 h⟩
        have HDQ : Hid (Calls Tryd.prog 19 #[.agg #[.int .i64 k2, .int .i64 i2, .int .u64 u2, .string s2, .slice B2 a2 b2, .slice C2 d2 e2]] (w8.alloc (.cells #[.int .i64 10, .int .i64 0, .int .u64 0, .string ⟨#[]⟩, .slice none 0 0, .slice (some ⟨g, 0, none⟩) q RC] 26)) fun e w' => e = .returned (.int .i64 z) ∧ Below (w8.alloc (.cells #[.int .i64 10, .int .i64 0, .int .u64 0, .string ⟨#[]⟩, .slice none 0 0, .slice (some ⟨g, 0, none⟩) q RC] 26)).heap.size (w8.alloc (.cells #[.int .i64 10, .int .i64 0, .int .u64 0, .string ⟨#[]⟩, .slice none 0 0, .slice (some ⟨g, 0, none⟩) q RC] 26)) w') := Lib.hid ((HDR.out _ hC9).mono fun e w' k => k)
        obtain ⟨s0, s1', s2', s3, s4, s5⟩ := HSix.out _ hC9
        go_wp2_with (first
          | (go_at_call 19; refine HDQ.out.mono ?_; rintro e w9 ⟨rfl, hC10⟩; have HTC := Lib.hid (HTB.out _ hC10); obtain ⟨r0, r1, r2, r3, r4, r5⟩ := Bx.all HTC.out.1)
          | (go_at_call 12; refine (HCK.out _ HTC.out.2).mono ?_; rintro e w10 ⟨rfl, hC11⟩)
          | (go_at_call 15; refine (HWK.out _ hC11).mono ?_; rintro e w11 ⟨rfl, hC12⟩))
        go_ret
        exact ⟨rfl, HBW.out.trans (Below.mono hC12 HBW.out.size)⟩
end Go.Proofs.YtmhaffcgiaffpaaDoor
