/-
  What is proved here: the walk of PathJoins: true for every tree and two paths; conditions: the tables hold what is laid, the arguments read as a tree and two paths.
-/
import Derived.Test.YtjnfilbdokppiaaGreatDoorPap
import Derived.Deep.DeepCutAuto
import Derived.Deep.RegionHeld3
namespace Go.Proofs.YtjnfilbdokppiaaGreatDoor
open Go.RowKit U U.Ut

set_option maxRecDepth 100000 in
set_option maxHeartbeats 4000000 in
theorem pathJoins_walk (t : T) (cs : List Value) (ps : List Stp) (v : Value) (ps2 : List Stp) (v2 : Value) (w : World) (hL : LP w.heap.size w) (hnd : Nd w t cs) (hp : RdP w v ps) (hp2 : RdP w v2 ps2) :
    Calls Tryz.prog 10 #[.agg cs.toArray, v, v2] w fun e w' => e = .returned (.bool true) ∧ Below w.heap.size w w' := by
  have HL := Lib.hid hL
  obtain ⟨ka0, na0, ua0, sa0, EA0, qa0, fa0, GA0, ra0, ha0, rfl⟩ := hnd.shape
  have HN := Lib.hid hnd
  have HP := Lib.hid hp
  have HP2 := Lib.hid hp2
  obtain ⟨PA, pn, pc, rfl, -, -, -, -, -⟩ := id hp
  obtain ⟨PB, pm, pd, rfl, -, -, -, -, -⟩ := id hp2
  have HLQ : Hid ((cut8 ps).length ≤ 70) := Lib.hid (cut8_len ps)
  have HLR : Hid ((cut8 ps2).length ≤ 70) := Lib.hid (cut8_len ps2)
  obtain ⟨h11, h12⟩ := few_ok t
  have HFW : Hid (∀ W, Below w.heap.size w W → Calls Tryz.prog 21 #[.agg #[.int .i64 ka0, .int .i64 na0, .int .u64 ua0, .string sa0, .slice EA0 qa0 fa0, .slice GA0 ra0 ha0]] W fun e w' => ∃ (ka1 na1 ua1 : Int) (sa1 : ByteArray) (EA1 : Option Addr) (qa1 fa1 : Nat) (GA1 : Option Addr) (ra1 ha1 : Nat), e = .returned (.agg #[.int .i64 ka1, .int .i64 na1, .int .u64 ua1, .string sa1, .slice EA1 qa1 fa1, .slice GA1 ra1 ha1]) ∧ Hid (NdO (fun b => W.heap.size ≤ b) w' (fewT t) [.int .i64 ka1, .int .i64 na1, .int .u64 ua1, .string sa1, .slice EA1 qa1 fa1, .slice GA1 ra1 ha1]) ∧ Hid (Below W.heap.size W w')) := Lib.hid fun W hb => few_S t _ W (HN.out.bel hb)
  have HCU : Hid (∀ W, Hid (Below w.heap.size w W) → Calls Tryz.prog 13 #[.slice PA pn pc] W fun e w' => ∃ A c, e = .returned (.slice A (cut8 ps).length c) ∧ Hid (RdP w' (.slice A (cut8 ps).length c) (cut8 ps)) ∧ Hid (Below W.heap.size W w')) := Lib.hid fun W H => cutP_S ps _ W (HP.out.below H.out)
  have HCV : Hid (∀ W, Hid (Below w.heap.size w W) → Calls Tryz.prog 13 #[.slice PB pm pd] W fun e w' => ∃ A c, e = .returned (.slice A (cut8 ps2).length c) ∧ Hid (RdP w' (.slice A (cut8 ps2).length c) (cut8 ps2)) ∧ Hid (Below W.heap.size W w')) := Lib.hid fun W H => cutP_S ps2 _ W (HP2.out.below H.out)
  obtain ⟨t1, ht1⟩ : ∃ t1, fewT t = t1 := ⟨_, rfl⟩
  obtain ⟨qs, hqs⟩ : ∃ qs, cut8 ps = qs := ⟨_, rfl⟩
  obtain ⟨rs, hrs⟩ : ∃ rs, cut8 ps2 = rs := ⟨_, rfl⟩
  rw [ht1] at HFW h11 h12
  rw [hqs] at HCU HLQ
  rw [hrs] at HCV HLR
  have HQ1 : Hid (sz t1 ≤ 100000 ∧ sm 1000 1000 t1) := Lib.hid ⟨by omega, h12⟩
  clear hL hnd hp hp2 hqs hrs ht1 h11 h12
  go_enter Tryz.func10, Tryz.ntmps10
  go_wp2_with fail
  with_reducible refine (HFW.out _ (al0 w _)).mono ?_
  rintro e w1 ⟨ka1, na1, ua1, sa1, EA1, qa1, fa1, GA1, ra1, ha1, rfl, HN1, hb1⟩
  have HB1 := Lib.hid (al hb1.out)
  have HT1 := Lib.hid (born hb1.out)
  clear hb1
  go_wp2_with fail
  with_reducible refine (HCU.out _ HB1).mono ?_
  rintro e w2 ⟨A2, c2, rfl, HP2', HB2⟩
  have HB2w := Lib.hid (tr HB1.out HB2.out)
  go_wp2_with fail
  with_reducible refine (HCV.out _ HB2w).mono ?_
  rintro e w3 ⟨A3, c3, rfl, HP3, HB3⟩
  have HB3w := Lib.hid (tr HB2w.out HB3.out)
  go_upto_region 2 with fail
  obtain ⟨wB, hwB⟩ : ∃ wB, (w3.alloc (.cells #[.int .i64 ka1, .int .i64 na1, .int .u64 ua1, .string sa1, .slice EA1 qa1 fa1, .slice GA1 ra1 ha1] 38)) = wB := ⟨_, rfl⟩
  obtain ⟨bi, hbi⟩ : ∃ bi, w3.heap.size = bi := ⟨_, rfl⟩
  have HBW : Hid (Below w.heap.size w wB) := Lib.hid (by rw [← hwB]; exact tr HB3w.out (al0 _ _))
  have HDi : Hid (Bd wB bi t1 (.int .i64 ka1) (.int .i64 na1) (.int .u64 ua1) (.string sa1) (.slice EA1 qa1 fa1) (.slice GA1 ra1 ha1)) := Lib.hid (by rw [← hwB, ← hbi]; exact Bd.new (NdO.nd _ _ (NdO.step (U' := fun _ => True) (fun b hb hl => ⟨(tr HB2.out HB3.out).block b hl, trivial⟩) _ _ HN1.out)))
  have HPA : Hid (RdP wB (.slice A2 qs.length c2) qs) := Lib.hid (by rw [← hwB]; exact HP2'.out.below (tr HB3.out (al0 _ _)))
  have HPB : Hid (RdP wB (.slice A3 rs.length c3) rs) := Lib.hid (by rw [← hwB]; exact HP3.out.below (al0 _ _))
  simp only [hwB, hbi]
  clear hwB hbi HB2 HB3 HB2w HB3w HN1 HP2' HP3 HB1 HFW HCU HCV HP HP2 HT1
  obtain ⟨R1, hR1⟩ : ∃ R, getR t1 qs = R := ⟨_, rfl⟩
  obtain ⟨x1, E1⟩ := R1
  obtain ⟨h11, h12⟩ := getR_qq hR1 HQ1.out.1 HQ1.out.2
  obtain ⟨R2, hR2⟩ : ∃ R, getR x1 rs = R := ⟨_, rfl⟩
  obtain ⟨x2, E2⟩ := R2
  obtain ⟨h21, h22⟩ := getR_qq hR2 h11 h12
  obtain ⟨R3, hR3⟩ : ∃ R, getR t1 (qs ++ rs) = R := ⟨_, rfl⟩
  obtain ⟨x3, E3⟩ := R3
  have HF0 : Hid (E1 = 0 → (x3, E3) = (x2, E2)) := Lib.hid fun h => by
    rw [← hR3, getR_app0 (by rw [hR1]; exact h), hR1]
    exact hR2
  have HF8 : Hid (E1 = 80 → E3 = 80) := Lib.hid fun h => by
    have := getR_app8 (t := t1) (a := qs) (b := rs) (by rw [hR1]; exact h)
    rw [hR3] at this
    exact this
  have hE1 : E1 = 0 ∨ E1 = 80 := by have := getR_cases t1 qs; rw [hR1] at this; exact this
  have HE1 := Lib.hid hE1
  have HQ2 : Hid (sz x2 ≤ 100000 ∧ sm 1000 1000 x2) := Lib.hid ⟨h21, h22⟩
  have HG1 := Lib.hid (get_S t1 _ qs _ x1 E1 hR1 wB HDi.out.2 HPA.out HQ1.out.1 HQ1.out.2 (by have := HLQ.out; omega))
  have HG2 : Hid (∀ W (ka2 na2 ua2 : Int) (sa2 : ByteArray) (EA2 : Option Addr) (qa2 fa2 : Nat) (GA2 : Option Addr) (ra2 ha2 : Nat), Hid (Below wB.heap.size wB W) → Nd W x1 [.int .i64 ka2, .int .i64 na2, .int .u64 ua2, .string sa2, .slice EA2 qa2 fa2, .slice GA2 ra2 ha2] → Calls Tryz.prog 22 #[.agg #[.int .i64 ka2, .int .i64 na2, .int .u64 ua2, .string sa2, .slice EA2 qa2 fa2, .slice GA2 ra2 ha2], .slice A3 rs.length c3] W fun e w' => ∃ (ka3 na3 ua3 : Int) (sa3 : ByteArray) (EA3 : Option Addr) (qa3 fa3 : Nat) (GA3 : Option Addr) (ra3 ha3 : Nat), e = .returned (.tuple #[.agg #[.int .i64 ka3, .int .i64 na3, .int .u64 ua3, .string sa3, .slice EA3 qa3 fa3, .slice GA3 ra3 ha3], .int .i64 E2]) ∧ Hid (NdO (fun b => W.heap.size ≤ b) w' x2 [.int .i64 ka3, .int .i64 na3, .int .u64 ua3, .string sa3, .slice EA3 qa3 fa3, .slice GA3 ra3 ha3]) ∧ Hid (Below W.heap.size W w')) := Lib.hid fun W ka2 na2 ua2 sa2 EA2 qa2 fa2 GA2 ra2 ha2 H h => get_S x1 _ rs _ x2 E2 hR2 W h (HPB.out.below H.out) h11 h12 (by have := HLR.out; omega)
  have HG3 : Hid (∀ W v, Hid (Below wB.heap.size wB W) → Hid (RdP W v (qs ++ rs)) → Calls Tryz.prog 22 #[.agg #[.int .i64 ka1, .int .i64 na1, .int .u64 ua1, .string sa1, .slice EA1 qa1 fa1, .slice GA1 ra1 ha1], v] W fun e w' => ∃ (ka4 na4 ua4 : Int) (sa4 : ByteArray) (EA4 : Option Addr) (qa4 fa4 : Nat) (GA4 : Option Addr) (ra4 ha4 : Nat), e = .returned (.tuple #[.agg #[.int .i64 ka4, .int .i64 na4, .int .u64 ua4, .string sa4, .slice EA4 qa4 fa4, .slice GA4 ra4 ha4], .int .i64 E3]) ∧ Hid (NdO (fun b => W.heap.size ≤ b) w' x3 [.int .i64 ka4, .int .i64 na4, .int .u64 ua4, .string sa4, .slice EA4 qa4 fa4, .slice GA4 ra4 ha4]) ∧ Hid (Below W.heap.size W w')) := Lib.hid fun W v H h => get_S t1 _ (qs ++ rs) v x3 E3 hR3 W (HDi.out.below H.out).2 h.out HQ1.out.1 HQ1.out.2 (by rw [List.length_append]; have := HLR.out; have := HLQ.out; omega)
  obtain ⟨y0, y1, y2, y3, y4, y5⟩ := Bx.all HDi.out.1
  clear hE1 h11 h12 h21 h22 hR1 hR2 hR3
  go_wp2_with fail
  with_reducible refine HG1.out.mono ?_
  rintro e w4 ⟨ka2, na2, ua2, sa2, EA2, qa2, fa2, GA2, ra2, ha2, rfl, HO2, HB4⟩
  have HD2 := Lib.hid (Bd.new (NdO.nd _ _ HO2.out))
  have HB4a := Lib.hid (tr HB4.out (al0 w4 (.cells #[.int .i64 ka2, .int .i64 na2, .int .u64 ua2, .string sa2, .slice EA2 qa2 fa2, .slice GA2 ra2 ha2] 38)))
  clear HG1 y0 y1 y2 y3 y4 y5
  go_upto_region 3 with fail
  obtain ⟨wC, hwC⟩ : ∃ wC, (w4.alloc (.cells #[.int .i64 ka2, .int .i64 na2, .int .u64 ua2, .string sa2, .slice EA2 qa2 fa2, .slice GA2 ra2 ha2] 38)) = wC := ⟨_, rfl⟩
  obtain ⟨bx, hbx⟩ : ∃ bx, w4.heap.size = bx := ⟨_, rfl⟩
  rw [hwC] at HD2 HB4a
  rw [hbx] at HD2
  simp only [hwC, hbx]
  clear hwC hbx HO2 HB4
  have HGC := Lib.hid (HG2.out wC _ _ _ _ _ _ _ _ _ _ HB4a HD2.out.2)
  obtain ⟨y0, y1, y2, y3, y4, y5⟩ := Bx.all HD2.out.1
  clear HG2
  go_wp2_with fail
  with_reducible refine HGC.out.mono ?_
  rintro e w5 ⟨ka3, na3, ua3, sa3, EA3, qa3, fa3, GA3, ra3, ha3, rfl, HO3, HB5⟩
  have HD3 := Lib.hid (Bd.new (NdO.nd _ _ HO3.out))
  have HB5a := Lib.hid (tr (tr HB4a.out HB5.out) (al0 w5 (.cells #[.int .i64 ka3, .int .i64 na3, .int .u64 ua3, .string sa3, .slice EA3 qa3 fa3, .slice GA3 ra3 ha3] 38)))
  clear HGC y0 y1 y2 y3 y4 y5
  go_upto_region 4 with fail
  obtain ⟨wD, hwD⟩ : ∃ wD, (w5.alloc (.cells #[.int .i64 ka3, .int .i64 na3, .int .u64 ua3, .string sa3, .slice EA3 qa3 fa3, .slice GA3 ra3 ha3] 38)) = wD := ⟨_, rfl⟩
  obtain ⟨bj, hbj⟩ : ∃ bj, w5.heap.size = bj := ⟨_, rfl⟩
  rw [hwD] at HD3 HB5a
  rw [hbj] at HD3
  simp only [hwD, hbj]
  clear hwD hbj HO3 HB5 HD2 HB4a
  have hall : ∀ W, Hid (Below wD.heap.size wD W) → Hid (Below wD.heap.size wD W) ∧ W.cell? ⟨bi, 0, none⟩ = some (.int .i64 ka1) ∧ W.cell? ⟨bi, 1, none⟩ = some (.int .i64 na1) ∧ W.cell? ⟨bi, 2, none⟩ = some (.int .u64 ua1) ∧ W.cell? ⟨bi, 3, none⟩ = some (.string sa1) ∧ W.cell? ⟨bi, 4, none⟩ = some (.slice EA1 qa1 fa1) ∧ W.cell? ⟨bi, 5, none⟩ = some (.slice GA1 ra1 ha1) := fun W H => ⟨H, Bx.all (HDi.out.below (tr HB5a.out H.out)).1⟩
  have hc5 : ∀ (W : World) (ob : Obj), Hid (Below wD.heap.size wD W) → Hid (Below wD.heap.size wD (W.alloc ob)) ∧ (W.alloc ob).cell? ⟨bi, 0, none⟩ = some (.int .i64 ka1) ∧ (W.alloc ob).cell? ⟨bi, 1, none⟩ = some (.int .i64 na1) ∧ (W.alloc ob).cell? ⟨bi, 2, none⟩ = some (.int .u64 ua1) ∧ (W.alloc ob).cell? ⟨bi, 3, none⟩ = some (.string sa1) ∧ (W.alloc ob).cell? ⟨bi, 4, none⟩ = some (.slice EA1 qa1 fa1) ∧ (W.alloc ob).cell? ⟨bi, 5, none⟩ = some (.slice GA1 ra1 ha1) := fun W ob H => hall _ (Lib.hid (tr H.out (al0 W ob)))
  have hc2 : ∀ (W : World) (p : Nat) (a0 a1 a2 a3 a4 a5 : Value), Hid (Below wD.heap.size wD W) → Hid (wD.heap.size ≤ p) → Hid (Below wD.heap.size wD ((((((W.setCell ⟨p, 0, none⟩ a0).setCell ⟨p, 1, none⟩ a1).setCell ⟨p, 2, none⟩ a2).setCell ⟨p, 3, none⟩ a3).setCell ⟨p, 4, none⟩ a4).setCell ⟨p, 5, none⟩ a5)) ∧ ((((((W.setCell ⟨p, 0, none⟩ a0).setCell ⟨p, 1, none⟩ a1).setCell ⟨p, 2, none⟩ a2).setCell ⟨p, 3, none⟩ a3).setCell ⟨p, 4, none⟩ a4).setCell ⟨p, 5, none⟩ a5).cell? ⟨bi, 0, none⟩ = some (.int .i64 ka1) ∧ ((((((W.setCell ⟨p, 0, none⟩ a0).setCell ⟨p, 1, none⟩ a1).setCell ⟨p, 2, none⟩ a2).setCell ⟨p, 3, none⟩ a3).setCell ⟨p, 4, none⟩ a4).setCell ⟨p, 5, none⟩ a5).cell? ⟨bi, 1, none⟩ = some (.int .i64 na1) ∧ ((((((W.setCell ⟨p, 0, none⟩ a0).setCell ⟨p, 1, none⟩ a1).setCell ⟨p, 2, none⟩ a2).setCell ⟨p, 3, none⟩ a3).setCell ⟨p, 4, none⟩ a4).setCell ⟨p, 5, none⟩ a5).cell? ⟨bi, 2, none⟩ = some (.int .u64 ua1) ∧ ((((((W.setCell ⟨p, 0, none⟩ a0).setCell ⟨p, 1, none⟩ a1).setCell ⟨p, 2, none⟩ a2).setCell ⟨p, 3, none⟩ a3).setCell ⟨p, 4, none⟩ a4).setCell ⟨p, 5, none⟩ a5).cell? ⟨bi, 3, none⟩ = some (.string sa1) ∧ ((((((W.setCell ⟨p, 0, none⟩ a0).setCell ⟨p, 1, none⟩ a1).setCell ⟨p, 2, none⟩ a2).setCell ⟨p, 3, none⟩ a3).setCell ⟨p, 4, none⟩ a4).setCell ⟨p, 5, none⟩ a5).cell? ⟨bi, 4, none⟩ = some (.slice EA1 qa1 fa1) ∧ ((((((W.setCell ⟨p, 0, none⟩ a0).setCell ⟨p, 1, none⟩ a1).setCell ⟨p, 2, none⟩ a2).setCell ⟨p, 3, none⟩ a3).setCell ⟨p, 4, none⟩ a4).setCell ⟨p, 5, none⟩ a5).cell? ⟨bi, 5, none⟩ = some (.slice GA1 ra1 ha1) := fun W p a0 a1 a2 a3 a4 a5 H hp => hall _ (Lib.hid (below_put H.out hp.out a0 a1 a2 a3 a4 a5))
  have HBd : Hid (Below wD.heap.size wD wD.drew) := Lib.hid (Below.refl _ wD).drew
  have HBad : Hid (Below wD.heap.size wD (wD.alloc (.cells #[.int .i64 0, .int .i64 0, .int .u64 0, .string ⟨#[]⟩, .slice none 0 0, .slice none 0 0] 38)).drew) := Lib.hid (al0 wD _).drew
  have HAa := Lib.hid (AP.a wD)
  have HZb := Lib.hid (APZ.b wD)
  have HZc := Lib.hid (APZ.c wD)
  have HKa := Lib.hid HAa.out.1
  have HKb := Lib.hid HZb.out.1.1
  have HKc := Lib.hid HZc.out.1.1
  have HKab : Hid (Below wD.heap.size wD ((wD.alloc (.cells #[.int .i64 0, .int .i64 0, .int .u64 0, .string ⟨#[]⟩, .slice none 0 0, .slice none 0 0] 38)).drew.alloc (.cells #[] 51))) := Lib.hid (tr (al0 wD _).drew (al0 _ _))
  have hq70 := HLQ.out
  have hr70 := HLR.out
  have HPAD : Hid (∀ W, Below wD.heap.size wD W → RdP W (.slice A2 qs.length c2) qs) := Lib.hid fun W h => HPA.out.below (tr HB5a.out h)
  have HPBD : Hid (∀ W, Below wD.heap.size wD W → RdP W (.slice A3 rs.length c3) rs) := Lib.hid fun W h => HPB.out.below (tr HB5a.out h)
  have HOK : Hid (∀ s ∈ qs ++ rs, okR s) := Lib.hid fun s hs => by
    obtain ⟨_, _, _, -, -, -, -, h1, -⟩ := HPA.out
    obtain ⟨_, _, _, -, -, -, -, h2, -⟩ := HPB.out
    rcases List.mem_append.1 hs with hs | hs
    · exact h1 s hs
    · exact h2 s hs
  have HG3D : Hid (∀ W v, Hid (Below wD.heap.size wD W) → Hid (RdP W v (qs ++ rs)) → Calls Tryz.prog 22 #[.agg #[.int .i64 ka1, .int .i64 na1, .int .u64 ua1, .string sa1, .slice EA1 qa1 fa1, .slice GA1 ra1 ha1], v] W fun e w' => ∃ (ka4 na4 ua4 : Int) (sa4 : ByteArray) (EA4 : Option Addr) (qa4 fa4 : Nat) (GA4 : Option Addr) (ra4 ha4 : Nat), e = .returned (.tuple #[.agg #[.int .i64 ka4, .int .i64 na4, .int .u64 ua4, .string sa4, .slice EA4 qa4 fa4, .slice GA4 ra4 ha4], .int .i64 E3]) ∧ Hid (NdO (fun b => W.heap.size ≤ b) w' x3 [.int .i64 ka4, .int .i64 na4, .int .u64 ua4, .string sa4, .slice EA4 qa4 fa4, .slice GA4 ra4 ha4]) ∧ Hid (Below W.heap.size W w')) := Lib.hid fun W v H h => HG3.out W v (Lib.hid (tr HB5a.out H.out)) h
  clear HG3
  go_cut [14, 15] (fun s8 s9 wn => Hid (ZG wD x3 E3 s8 s9 wn))
  case first =>
    go_region_held3 (fun W => Hid (Below wD.heap.size wD W) ∧ W.cell? ⟨bi, 0, none⟩ = some (.int .i64 ka1) ∧ W.cell? ⟨bi, 1, none⟩ = some (.int .i64 na1) ∧ W.cell? ⟨bi, 2, none⟩ = some (.int .u64 ua1) ∧ W.cell? ⟨bi, 3, none⟩ = some (.string sa1) ∧ W.cell? ⟨bi, 4, none⟩ = some (.slice EA1 qa1 fa1) ∧ W.cell? ⟨bi, 5, none⟩ = some (.slice GA1 ra1 ha1)) (first | (with_reducible exact hall _ (by assumption)) | (with_reducible exact hall _ HBd) | (with_reducible exact hall _ HBad) | (with_reducible exact hall _ HKa) | (with_reducible exact hall _ HKb) | (with_reducible exact hall _ HKc) | (with_reducible exact hc5 _ _ (by assumption)) | (with_reducible exact hc2 _ _ _ _ _ _ _ _ (by assumption) (by assumption)))
      (first
        | (refine step_appP (base := wD.heap.size) (n := 0) (m := qs.length) (c := c2) (xs := []) (ys := qs) (A := A2) rfl (.tmp 36) (.tmp 37) rfl rfl rfl HAa.out.2 (HPAD.out _ HKa.out) (by omega) HKa.out.size ?_; intro v6 w6 o6 g6 l6; have HA6 : Hid (AP wD qs v6 w6) := Lib.hid (HAa.out.app (ys := qs) o6 g6); have HZ6 := Lib.hid HA6.out.alloc; have HK6 := Lib.hid HA6.out.1; clear o6 g6 l6)
        | (refine step_appP (base := wD.heap.size) (n := 0) (m := qs.length) (c := c2) (xs := []) (ys := qs) (A := A2) rfl (.tmp 36) (.tmp 37) rfl rfl rfl HZb.out.1.2 (HPAD.out _ HKb.out) (by omega) HKb.out.size ?_; intro v6 w6 o6 g6 l6; have HZ6 : Hid (APZ wD qs v6 _ w6) := Lib.hid (HZb.out.app (ys := qs) o6 g6 l6); have HK6 := Lib.hid HZ6.out.1.1; clear o6 g6 l6)
        | (refine step_appP (base := wD.heap.size) (n := 0) (m := qs.length) (c := c2) (xs := []) (ys := qs) (A := A2) rfl (.tmp 36) (.tmp 37) rfl rfl rfl HZc.out.1.2 (HPAD.out _ HKc.out) (by omega) HKc.out.size ?_; intro v6 w6 o6 g6 l6; have HZ6 : Hid (APZ wD qs v6 _ w6) := Lib.hid (HZc.out.app (ys := qs) o6 g6 l6); have HK6 := Lib.hid HZ6.out.1.1; clear o6 g6 l6)
        | (refine step_appP (base := wD.heap.size) (n := qs.length) (m := rs.length) (c := c3) (xs := pv qs) (ys := rs) (A := A3) rfl (.tmp 38) (.tmp 39) rfl rfl rfl HA6.out.2 (HPBD.out _ HA6.out.1) (by omega) HA6.out.1.size ?_; intro v7 w7 o7 g7 l7; have HA7 : Hid (AP wD (qs ++ rs) v7 w7) := Lib.hid (HA6.out.app (ys := rs) o7 g7); have HZ7 := Lib.hid HA7.out.alloc; have HK7 := Lib.hid HA7.out.1; have HKZ7 := Lib.hid HZ7.out.1.1; have HR7 := Lib.hid (HA7.out.rdp HOK.out); have HRZ7 := Lib.hid (HZ7.out.1.rdp HOK.out); have HBZ7 : Hid (Blk _ _ 38 #[.int .i64 0, .int .i64 0, .int .u64 0, .string ⟨#[]⟩, .slice none 0 0, .slice none 0 0]) := Lib.hid HZ7.out.2.2.1; have HLZ7 := Lib.hid HBZ7.out.lt; have HPZ7 := Lib.hid HZ7.out.2.1; clear o7 g7 l7)
        | (refine step_appP (base := wD.heap.size) (n := qs.length) (m := rs.length) (c := c3) (xs := pv qs) (ys := rs) (A := A3) rfl (.tmp 38) (.tmp 39) rfl rfl rfl HZ6.out.1.2 (HPBD.out _ HZ6.out.1.1) (by omega) HZ6.out.1.1.size ?_; intro v7 w7 o7 g7 l7; have HZ7 : Hid (APZ wD (qs ++ rs) v7 _ w7) := Lib.hid (HZ6.out.app (ys := rs) o7 g7 l7); have HKZ7 := Lib.hid HZ7.out.1.1; have HRZ7 := Lib.hid (HZ7.out.1.rdp HOK.out); have HBZ7 : Hid (Blk _ _ 38 #[.int .i64 0, .int .i64 0, .int .u64 0, .string ⟨#[]⟩, .slice none 0 0, .slice none 0 0]) := Lib.hid HZ7.out.2.2.1; have HLZ7 := Lib.hid HBZ7.out.lt; have HPZ7 := Lib.hid HZ7.out.2.1; clear o7 g7 l7)
        | (go_at_call 22; (with_reducible refine (HG3D.out _ _ (by with_reducible first | exact HK7 | exact HKZ7) (by with_reducible first | exact HR7 | exact HRZ7)).mono ?_); rintro e w8 ⟨ka4, na4, ua4, sa4, EA4, qa4, fa4, GA4, ra4, ha4, rfl, HO8, HB8⟩; have HBB8 : Hid (Below wD.heap.size wD w8) := (by first | exact Lib.hid (tr HK7.out HB8.out) | exact Lib.hid (tr HKZ7.out HB8.out)); first | (with_reducible have HP8 := Lib.hid (Blk.below HBZ7.out HB8.out HLZ7.out); obtain ⟨⟨z0, z1, z2, z3, z4, z5⟩, y0, y1, y2, y3, y4, y5⟩ := Bx.both HP8.out) | skip))
    all_goals
      go_wp2_with fail
      go_meet
    all_goals
      refine Lib.hid ?_
      first
      | (with_reducible exact zg_new HBB8.out HK7.out.size HO8.out)
      | (with_reducible exact zg_put HBB8.out HO8.out HP8.out HPZ7.out HLZ7.out)
  case rest =>
    obtain ⟨wz, hwz⟩ : ∃ wz, wz = wc := ⟨_, rfl⟩
    subst hwz
    obtain ⟨rfl, hbz, p9, ka5, na5, ua5, sa5, EA5, qa5, fa5, GA5, ra5, ha5, rfl, hbo⟩ := hcut.out
    have HBZ := Lib.hid hbz
    have HBZw := Lib.hid (tr HBW.out (tr HB5a.out hbz))
    have HWK := Lib.hid (fun W (h : Below wz.heap.size wz W) => works_S8 HL.out (tr HBZw.out h))
    clear hall hc5 hc2 HBd HBad HAa HZb HZc HKa HKb HKc HKab HPAD HPBD HG3D HOK
    rcases HE1.out with h1 | h1
    · have h3 := HF0.out h1
      subst h1
      injection h3 with hx hE
      subst hx hE
      have HDz := Lib.hid (HD3.out.below hbz)
      have HOz := Lib.hid hbo.bd
      have HSA := Lib.hid (same_S x3 _ _ wz HQ2.out.1 HDz.out.2 HOz.out.2)
      obtain ⟨y0, y1, y2, y3, y4, y5⟩ := Bx.all HDz.out.1
      obtain ⟨z0, z1, z2, z3, z4, z5⟩ := Bx.all HOz.out.1
      have hEE : (E3 == E3) = true := by simp
      clear hcut hbz hbo HF0 HF8 HE1
      go_wp2_with (first
        | (go_at_call 29; (with_reducible refine HSA.out.mono ?_); rintro e w8 ⟨rfl, HB8⟩)
        | (go_at_call 17; (with_reducible refine (HWK.out _ HB8.out).mono ?_); rintro e w9 ⟨rfl, HB9⟩))
      go_ret
      exact ⟨rfl, tr HBZw.out (tr HB8.out HB9.out)⟩
    · have h3 := HF8.out h1
      subst h1 h3
      clear hcut hbz hbo HF0 HF8 HE1
      go_wp2_with (first
        | (go_at_call 17; (with_reducible refine (HWK.out _ (Below.refl _ _)).mono ?_); rintro e w9 ⟨rfl, HB9⟩))
      go_ret
      exact ⟨rfl, tr HBZw.out HB9.out⟩
end Go.Proofs.YtjnfilbdokppiaaGreatDoor
