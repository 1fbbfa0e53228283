/-
  What is proved here: the walk of PathPuts: true for every two trees and two paths; conditions: the tables hold what is laid, the arguments read as trees and paths.
-/
import Derived.Test.YtjnfilbdokppiaaGreatDoorPpu
import Derived.Deep.DeepCutAuto
import Derived.Deep.RegionHeld3
namespace Go.Proofs.YtjnfilbdokppiaaGreatDoor
open Go.RowKit U U.Ut

set_option maxRecDepth 100000 in
set_option maxHeartbeats 4000000 in
theorem pathPuts_walk (t : T) (cs : List Value) (ps : List Stp) (v : Value) (ps2 : List Stp) (v2 : Value) (n : T) (ns : List Value) (w : World) (hL : LP w.heap.size w) (hnd : Nd w t cs) (hp : RdP w v ps) (hp2 : RdP w v2 ps2) (hnn : Nd w n ns) :
    Calls Tryz.prog 9 #[.agg cs.toArray, .agg #[v, v2], .agg ns.toArray] w fun e w' => e = .returned (.bool true) ∧ Below w.heap.size w w' := by
  have HL := Lib.hid hL
  obtain ⟨ka0, na0, ua0, sa0, EA0, qa0, fa0, GA0, ra0, ha0, rfl⟩ := hnd.shape
  obtain ⟨ka5, na5, ua5, sa5, EA5, qa5, fa5, GA5, ra5, ha5, rfl⟩ := hnn.shape
  have HN := Lib.hid hnd
  have HNN := Lib.hid hnn
  have HP := Lib.hid hp
  have HP2 := Lib.hid hp2
  obtain ⟨PA, pn, pc, rfl, -, -, -, -, -⟩ := id hp
  obtain ⟨PB, pm, pd, rfl, -, -, -, -, -⟩ := id hp2
  have HLQ : Hid ((cut8 ps).length ≤ 70) := Lib.hid (cut8_len ps)
  have HLR : Hid ((cut8 ps2).length ≤ 70) := Lib.hid (cut8_len ps2)
  obtain ⟨h11, h12⟩ := few_ok t
  obtain ⟨h21, h22⟩ := few_ok n
  have HFW : Hid (∀ W, Below w.heap.size w W → Calls Tryz.prog 21 #[.agg #[.int .i64 ka0, .int .i64 na0, .int .u64 ua0, .string sa0, .slice EA0 qa0 fa0, .slice GA0 ra0 ha0]] W fun e w' => ∃ (ka1 na1 ua1 : Int) (sa1 : ByteArray) (EA1 : Option Addr) (qa1 fa1 : Nat) (GA1 : Option Addr) (ra1 ha1 : Nat), e = .returned (.agg #[.int .i64 ka1, .int .i64 na1, .int .u64 ua1, .string sa1, .slice EA1 qa1 fa1, .slice GA1 ra1 ha1]) ∧ Hid (NdO (fun b => W.heap.size ≤ b) w' (fewT t) [.int .i64 ka1, .int .i64 na1, .int .u64 ua1, .string sa1, .slice EA1 qa1 fa1, .slice GA1 ra1 ha1]) ∧ Hid (Below W.heap.size W w')) := Lib.hid fun W hb => few_S t _ W (HN.out.bel hb)
  have HFN : Hid (∀ W, Below w.heap.size w W → Calls Tryz.prog 21 #[.agg #[.int .i64 ka5, .int .i64 na5, .int .u64 ua5, .string sa5, .slice EA5 qa5 fa5, .slice GA5 ra5 ha5]] W fun e w' => ∃ (ka1 na1 ua1 : Int) (sa1 : ByteArray) (EA1 : Option Addr) (qa1 fa1 : Nat) (GA1 : Option Addr) (ra1 ha1 : Nat), e = .returned (.agg #[.int .i64 ka1, .int .i64 na1, .int .u64 ua1, .string sa1, .slice EA1 qa1 fa1, .slice GA1 ra1 ha1]) ∧ Hid (NdO (fun b => W.heap.size ≤ b) w' (fewT n) [.int .i64 ka1, .int .i64 na1, .int .u64 ua1, .string sa1, .slice EA1 qa1 fa1, .slice GA1 ra1 ha1]) ∧ Hid (Below W.heap.size W w')) := Lib.hid fun W hb => few_S n _ W (HNN.out.bel hb)
  have HCU : Hid (∀ W, Below w.heap.size w W → Calls Tryz.prog 13 #[.slice PA pn pc] W fun e w' => ∃ A c, e = .returned (.slice A (cut8 ps).length c) ∧ Hid (RdP w' (.slice A (cut8 ps).length c) (cut8 ps)) ∧ Hid (∀ ad, A = some ad → W.heap.size ≤ ad.block ∧ ad.block < w'.heap.size) ∧ Hid (Below W.heap.size W w')) := Lib.hid fun W H => cutP_F ps _ W (HP.out.below H)
  have HCV : Hid (∀ W, Below w.heap.size w W → Calls Tryz.prog 13 #[.slice PB pm pd] W fun e w' => ∃ A c, e = .returned (.slice A (cut8 ps2).length c) ∧ Hid (RdP w' (.slice A (cut8 ps2).length c) (cut8 ps2)) ∧ Hid (∀ ad, A = some ad → W.heap.size ≤ ad.block ∧ ad.block < w'.heap.size) ∧ Hid (Below W.heap.size W w')) := Lib.hid fun W H => cutP_F ps2 _ W (HP2.out.below H)
  obtain ⟨t1, ht1⟩ : ∃ t1, fewT t = t1 := ⟨_, rfl⟩
  obtain ⟨t2, ht2⟩ : ∃ t2, fewT n = t2 := ⟨_, rfl⟩
  obtain ⟨qs, hqs⟩ : ∃ qs, cut8 ps = qs := ⟨_, rfl⟩
  obtain ⟨rs, hrs⟩ : ∃ rs, cut8 ps2 = rs := ⟨_, rfl⟩
  rw [ht1] at HFW h11 h12
  rw [ht2] at HFN h21 h22
  rw [hqs] at HCU HLQ
  rw [hrs] at HCV HLR
  have HQ1 : Hid (sz t1 ≤ 80 ∧ sm 1000 1000 t1) := Lib.hid ⟨h11, h12⟩
  have HQ2 : Hid (sz t2 ≤ 80 ∧ sm 1000 1000 t2) := Lib.hid ⟨h21, h22⟩
  clear hL hnd hnn hp hp2 hqs hrs ht1 ht2 h11 h12 h21 h22
  go_enter Tryz.func9, Tryz.ntmps9
  go_upto_region 1 with fail
  obtain ⟨wB, hwB⟩ : ∃ wB, (((w.alloc (.cells #[.int .i64 ka0, .int .i64 na0, .int .u64 ua0, .string sa0, .slice EA0 qa0 fa0, .slice GA0 ra0 ha0] 38)).alloc (.cells #[.slice PA pn pc, .slice PB pm pd] 48)).alloc (.cells #[.int .i64 ka5, .int .i64 na5, .int .u64 ua5, .string sa5, .slice EA5 qa5 fa5, .slice GA5 ra5 ha5] 38)) = wB := ⟨_, rfl⟩
  obtain ⟨b5, hb5⟩ : ∃ b, w.heap.size + 1 + 1 = b := ⟨_, rfl⟩
  obtain ⟨b4, hb4⟩ : ∃ b, w.heap.size + 1 = b := ⟨_, rfl⟩
  obtain ⟨b3, hb3⟩ : ∃ b, w.heap.size = b := ⟨_, rfl⟩
  obtain ⟨g3, g4, g5, hBw⟩ := three_boxes w #[.int .i64 ka0, .int .i64 na0, .int .u64 ua0, .string sa0, .slice EA0 qa0 fa0, .slice GA0 ra0 ha0] #[.slice PA pn pc, .slice PB pm pd] #[.int .i64 ka5, .int .i64 na5, .int .u64 ua5, .string sa5, .slice EA5 qa5 fa5, .slice GA5 ra5 ha5] 38 48 38
  rw [hwB] at g3 g4 g5 hBw
  rw [hb4] at g4
  rw [hb5] at g5
  simp only [hwB]
  simp only [hb5]
  simp only [hb4]
  simp only [hb3]
  have hBx3 : Bx wB b3 (.int .i64 ka0) (.int .i64 na0) (.int .u64 ua0) (.string sa0) (.slice EA0 qa0 fa0) (.slice GA0 ra0 ha0) := by rw [← hb3]; exact g3
  have HBW : Hid (Below w.heap.size w wB) := Lib.hid hBw
  have HX3 : Hid (∀ W, Hid (Below wB.heap.size wB W) → Bx W b3 (.int .i64 ka0) (.int .i64 na0) (.int .u64 ua0) (.string sa0) (.slice EA0 qa0 fa0) (.slice GA0 ra0 ha0)) := Lib.hid fun W H => hBx3.below H.out hBx3.lt
  have HX4 : Hid (∀ W, Hid (Below wB.heap.size wB W) → Blk W b4 48 #[.slice PA pn pc, .slice PB pm pd]) := Lib.hid fun W H => g4.below H.out g4.lt
  have HX5 : Hid (∀ W, Hid (Below wB.heap.size wB W) → Bx W b5 (.int .i64 ka5) (.int .i64 na5) (.int .u64 ua5) (.string sa5) (.slice EA5 qa5 fa5) (.slice GA5 ra5 ha5)) := Lib.hid fun W H => g5.below H.out g5.lt
  clear g3 g4 g5 hBw hBx3 hwB hb5 hb4 hb3
  have HFB : Hid (∀ W, Hid (Below wB.heap.size wB W) → Calls Tryz.prog 21 #[.agg #[.int .i64 ka0, .int .i64 na0, .int .u64 ua0, .string sa0, .slice EA0 qa0 fa0, .slice GA0 ra0 ha0]] W fun e w' => ∃ (ka1 na1 ua1 : Int) (sa1 : ByteArray) (EA1 : Option Addr) (qa1 fa1 : Nat) (GA1 : Option Addr) (ra1 ha1 : Nat), e = .returned (.agg #[.int .i64 ka1, .int .i64 na1, .int .u64 ua1, .string sa1, .slice EA1 qa1 fa1, .slice GA1 ra1 ha1]) ∧ Hid (NdO (fun b => W.heap.size ≤ b) w' t1 [.int .i64 ka1, .int .i64 na1, .int .u64 ua1, .string sa1, .slice EA1 qa1 fa1, .slice GA1 ra1 ha1]) ∧ Hid (Below W.heap.size W w')) := Lib.hid fun W H => HFW.out W (tr HBW.out H.out)
  have HC1 : Hid (∀ W, Hid (Below wB.heap.size wB W) → Calls Tryz.prog 13 #[.slice PA pn pc] W fun e w' => ∃ A c, e = .returned (.slice A qs.length c) ∧ Hid (RdP w' (.slice A qs.length c) qs) ∧ Hid (∀ ad, A = some ad → W.heap.size ≤ ad.block ∧ ad.block < w'.heap.size) ∧ Hid (Below W.heap.size W w')) := Lib.hid fun W H => HCU.out W (tr HBW.out H.out)
  have HC2 : Hid (∀ W, Hid (Below wB.heap.size wB W) → Calls Tryz.prog 13 #[.slice PB pm pd] W fun e w' => ∃ A c, e = .returned (.slice A rs.length c) ∧ Hid (RdP w' (.slice A rs.length c) rs) ∧ Hid (∀ ad, A = some ad → W.heap.size ≤ ad.block ∧ ad.block < w'.heap.size) ∧ Hid (Below W.heap.size W w')) := Lib.hid fun W H => HCV.out W (tr HBW.out H.out)
  have hall : ∀ W, Hid (Below wB.heap.size wB W) → Hid (Below wB.heap.size wB W) ∧ (W.cell? ⟨b3, 0, none⟩ = some (.int .i64 ka0) ∧ W.cell? ⟨b3, 1, none⟩ = some (.int .i64 na0) ∧ W.cell? ⟨b3, 2, none⟩ = some (.int .u64 ua0) ∧ W.cell? ⟨b3, 3, none⟩ = some (.string sa0) ∧ W.cell? ⟨b3, 4, none⟩ = some (.slice EA0 qa0 fa0) ∧ W.cell? ⟨b3, 5, none⟩ = some (.slice GA0 ra0 ha0)) ∧ W.cell? ⟨b4, 0, none⟩ = some (.slice PA pn pc) ∧ W.cell? ⟨b4, 1, none⟩ = some (.slice PB pm pd) := fun W H => ⟨H, Bx.all (HX3.out W H), two_cells (HX4.out W H)⟩
  have hc5 : ∀ (W : World) (ob : Obj), Hid (Below wB.heap.size wB W) → Hid (Below wB.heap.size wB (W.alloc ob)) ∧ ((W.alloc ob).cell? ⟨b3, 0, none⟩ = some (.int .i64 ka0) ∧ (W.alloc ob).cell? ⟨b3, 1, none⟩ = some (.int .i64 na0) ∧ (W.alloc ob).cell? ⟨b3, 2, none⟩ = some (.int .u64 ua0) ∧ (W.alloc ob).cell? ⟨b3, 3, none⟩ = some (.string sa0) ∧ (W.alloc ob).cell? ⟨b3, 4, none⟩ = some (.slice EA0 qa0 fa0) ∧ (W.alloc ob).cell? ⟨b3, 5, none⟩ = some (.slice GA0 ra0 ha0)) ∧ (W.alloc ob).cell? ⟨b4, 0, none⟩ = some (.slice PA pn pc) ∧ (W.alloc ob).cell? ⟨b4, 1, none⟩ = some (.slice PB pm pd) := fun W ob H => hall _ (Lib.hid (tr H.out (al0 W ob)))
  have hc2 : ∀ (W : World) (p : Nat) (a0 a1 a2 a3 a4 a5 : Value), Hid (Below wB.heap.size wB W) → Hid (wB.heap.size ≤ p) → Hid (Below wB.heap.size wB ((((((W.setCell ⟨p, 0, none⟩ a0).setCell ⟨p, 1, none⟩ a1).setCell ⟨p, 2, none⟩ a2).setCell ⟨p, 3, none⟩ a3).setCell ⟨p, 4, none⟩ a4).setCell ⟨p, 5, none⟩ a5)) ∧ (((((((W.setCell ⟨p, 0, none⟩ a0).setCell ⟨p, 1, none⟩ a1).setCell ⟨p, 2, none⟩ a2).setCell ⟨p, 3, none⟩ a3).setCell ⟨p, 4, none⟩ a4).setCell ⟨p, 5, none⟩ a5).cell? ⟨b3, 0, none⟩ = some (.int .i64 ka0) ∧ ((((((W.setCell ⟨p, 0, none⟩ a0).setCell ⟨p, 1, none⟩ a1).setCell ⟨p, 2, none⟩ a2).setCell ⟨p, 3, none⟩ a3).setCell ⟨p, 4, none⟩ a4).setCell ⟨p, 5, none⟩ a5).cell? ⟨b3, 1, none⟩ = some (.int .i64 na0) ∧ ((((((W.setCell ⟨p, 0, none⟩ a0).setCell ⟨p, 1, none⟩ a1).setCell ⟨p, 2, none⟩ a2).setCell ⟨p, 3, none⟩ a3).setCell ⟨p, 4, none⟩ a4).setCell ⟨p, 5, none⟩ a5).cell? ⟨b3, 2, none⟩ = some (.int .u64 ua0) ∧ ((((((W.setCell ⟨p, 0, none⟩ a0).setCell ⟨p, 1, none⟩ a1).setCell ⟨p, 2, none⟩ a2).setCell ⟨p, 3, none⟩ a3).setCell ⟨p, 4, none⟩ a4).setCell ⟨p, 5, none⟩ a5).cell? ⟨b3, 3, none⟩ = some (.string sa0) ∧ ((((((W.setCell ⟨p, 0, none⟩ a0).setCell ⟨p, 1, none⟩ a1).setCell ⟨p, 2, none⟩ a2).setCell ⟨p, 3, none⟩ a3).setCell ⟨p, 4, none⟩ a4).setCell ⟨p, 5, none⟩ a5).cell? ⟨b3, 4, none⟩ = some (.slice EA0 qa0 fa0) ∧ ((((((W.setCell ⟨p, 0, none⟩ a0).setCell ⟨p, 1, none⟩ a1).setCell ⟨p, 2, none⟩ a2).setCell ⟨p, 3, none⟩ a3).setCell ⟨p, 4, none⟩ a4).setCell ⟨p, 5, none⟩ a5).cell? ⟨b3, 5, none⟩ = some (.slice GA0 ra0 ha0)) ∧ ((((((W.setCell ⟨p, 0, none⟩ a0).setCell ⟨p, 1, none⟩ a1).setCell ⟨p, 2, none⟩ a2).setCell ⟨p, 3, none⟩ a3).setCell ⟨p, 4, none⟩ a4).setCell ⟨p, 5, none⟩ a5).cell? ⟨b4, 0, none⟩ = some (.slice PA pn pc) ∧ ((((((W.setCell ⟨p, 0, none⟩ a0).setCell ⟨p, 1, none⟩ a1).setCell ⟨p, 2, none⟩ a2).setCell ⟨p, 3, none⟩ a3).setCell ⟨p, 4, none⟩ a4).setCell ⟨p, 5, none⟩ a5).cell? ⟨b4, 1, none⟩ = some (.slice PB pm pd) := fun W p a0 a1 a2 a3 a4 a5 H hp => hall _ (Lib.hid (below_put H.out hp.out a0 a1 a2 a3 a4 a5))
  have HBd : Hid (Below wB.heap.size wB wB.drew) := Lib.hid (Below.refl _ wB).drew
  have HS0 : Hid (wB.heap.size ≤ wB.heap.size) := Lib.hid (Nat.le_refl _)
  have HBad : Hid (Below wB.heap.size wB (wB.alloc (.cells #[.int .i64 0, .int .i64 0, .int .u64 0, .string ⟨#[]⟩, .slice none 0 0, .slice none 0 0] 38)).drew) := Lib.hid (al0 wB _).drew
  clear HFW HCU HCV
  go_cut [7, 8, 9] (fun s7 s8 s9 wn => Hid (PV wB t1 qs rs s7 s8 s9 wn))
  case first =>
    go_region_held3 (fun W => Hid (Below wB.heap.size wB W) ∧ (W.cell? ⟨b3, 0, none⟩ = some (.int .i64 ka0) ∧ W.cell? ⟨b3, 1, none⟩ = some (.int .i64 na0) ∧ W.cell? ⟨b3, 2, none⟩ = some (.int .u64 ua0) ∧ W.cell? ⟨b3, 3, none⟩ = some (.string sa0) ∧ W.cell? ⟨b3, 4, none⟩ = some (.slice EA0 qa0 fa0) ∧ W.cell? ⟨b3, 5, none⟩ = some (.slice GA0 ra0 ha0)) ∧ W.cell? ⟨b4, 0, none⟩ = some (.slice PA pn pc) ∧ W.cell? ⟨b4, 1, none⟩ = some (.slice PB pm pd)) (first | (with_reducible exact hall _ (by assumption)) | (with_reducible exact hall _ HBd) | (with_reducible exact hall _ HBad) | (with_reducible exact hc5 _ _ (by assumption)) | (with_reducible exact hc2 _ _ _ _ _ _ _ _ (by assumption) (by assumption)))
      (first
        | (go_at_call 21; (with_reducible refine (HFB.out _ (by first | with_reducible exact HBd | with_reducible exact HBad)).mono ?_); rintro e w3 ⟨ka1, na1, ua1, sa1, EA1, qa1, fa1, GA1, ra1, ha1, rfl, HO3, HB3⟩; have HBB3 : Hid (Below wB.heap.size wB w3) := (by first | exact Lib.hid (tr HBd.out HB3.out) | exact Lib.hid (tr HBad.out HB3.out)); have HS3 : Hid (wB.heap.size ≤ w3.heap.size) := Lib.hid HBB3.out.size; have HBB3a : Hid (Below wB.heap.size wB (w3.alloc (.cells #[.int .i64 0, .int .i64 0, .int .u64 0, .string ⟨#[]⟩, .slice none 0 0, .slice none 0 0] 38))) := Lib.hid (tr HBB3.out (al0 w3 _)); first | (with_reducible have HXa3 := Lib.hid (born_drew HB3.out)) | skip)
        | (go_at_call 13; (with_reducible refine (HC1.out _ (by first | with_reducible exact HBB3 | with_reducible exact HBB3a)).mono ?_); rintro e w4 ⟨A4, c4, rfl, HP4, HF4, HB4⟩; have H34 : Hid (Below w3.heap.size w3 w4) := (by first | exact HB4 | exact Lib.hid (tr (al0 w3 _) HB4.out)); have HBB4 : Hid (Below wB.heap.size wB w4) := Lib.hid (tr HBB3.out H34.out); have HBB4a : Hid (Below wB.heap.size wB (w4.alloc (.cells #[.int .i64 0, .int .i64 0, .int .u64 0, .string ⟨#[]⟩, .slice none 0 0, .slice none 0 0] 38))) := Lib.hid (tr HBB4.out (al0 w4 _)); have HS4 : Hid (wB.heap.size ≤ w4.heap.size) := Lib.hid HBB4.out.size; first | (with_reducible have HXa4 := Lib.hid (Blk.below HXa3.out HB4.out HXa3.out.lt)) | (with_reducible have HXb4 := Lib.hid (born HB4.out)) | skip)
        | (go_at_call 13; (with_reducible refine (HC2.out _ (by first | with_reducible exact HBB4 | with_reducible exact HBB4a)).mono ?_); rintro e w5 ⟨A5, c5, rfl, HP5, HF5, HB5⟩; have H45 : Hid (Below w4.heap.size w4 w5) := (by first | exact HB5 | exact Lib.hid (tr (al0 w4 _) HB5.out)); have HBB5 : Hid (Below wB.heap.size wB w5) := Lib.hid (tr HBB4.out H45.out); have HPP5 := Lib.hid (HP4.out.below H45.out); have H35 := Lib.hid (tr H34.out H45.out); first
            | ((with_reducible have HXa5 := Lib.hid (Blk.below HXa4.out HB5.out HXa4.out.lt)); obtain ⟨⟨z0, z1, z2, z3, z4, z5⟩, y0, y1, y2, y3, y4, y5⟩ := Bx.both HXa5.out)
            | ((with_reducible have HXb5 := Lib.hid (Blk.below HXb4.out HB5.out HXb4.out.lt)); obtain ⟨⟨z0, z1, z2, z3, z4, z5⟩, y0, y1, y2, y3, y4, y5⟩ := Bx.both HXb5.out)
            | ((with_reducible have HXc5 := Lib.hid (born HB5.out)); obtain ⟨⟨z0, z1, z2, z3, z4, z5⟩, y0, y1, y2, y3, y4, y5⟩ := Bx.both HXc5.out)
            | skip))
    all_goals
      go_wp2_with fail
      go_meet
    all_goals
      refine Lib.hid ?_
      first
      | (with_reducible exact pv_new HBB5.out HO3.out H35.out HPP5.out HP5.out)
      | exact pv_put HBB5.out HO3.out H35.out HPP5.out HP5.out HXa5.out (Nat.le_refl _) (.inl (by simp)) (fun ad h => by have a := HF4.out ad h; have b := HB3.out.size; simp at b; omega) (fun ad h => by have a := HF5.out ad h; have b := HB3.out.size; have c := H34.out.size; simp at b; omega)
      | exact pv_put HBB5.out HO3.out H35.out HPP5.out HP5.out HXb5.out HS3.out (.inr (Nat.le_refl _)) (fun ad h => by have a := HF4.out ad h; simp at a; omega) (fun ad h => by have a := HF5.out ad h; have c := HB4.out.size; simp at c; omega)
      | exact pv_put HBB5.out HO3.out H35.out HPP5.out HP5.out HXc5.out HS4.out (.inr H34.out.size) (fun ad h => by have a := HF4.out ad h; omega) (fun ad h => by have a := HF5.out ad h; simp at a; omega)
  case rest =>
    obtain ⟨wx, hwx⟩ : ∃ wx, wx = wc := ⟨_, rfl⟩
    subst hwx
    obtain ⟨hbx, ⟨p7, ka2, na2, ua2, sa2, EA2, qa2, fa2, GA2, ra2, ha2, rfl, hbd⟩, A4, c4, A5, c5, rfl, rfl, r1, r2⟩ := hcut.out
    have HD1 := Lib.hid hbd
    have HR1 := Lib.hid r1
    have HR2 := Lib.hid r2
    have HBX := Lib.hid (tr HBW.out hbx)
    obtain ⟨x0, x1, x2, x3, x4, x5⟩ := Bx.all (HX5.out wx (Lib.hid hbx))
    have HFNx := Lib.hid (HFN.out wx HBX.out)
    clear hcut hbx hbd r1 r2 hall hc5 hc2 HBd HS0 HBad HFB HC1 HC2 HX3 HX4 HX5 HBW HFN HN HNN HP HP2
    go_wp2_with fail
    with_reducible refine HFNx.out.mono ?_
    rintro e w2 ⟨ka3, na3, ua3, sa3, EA3, qa3, fa3, GA3, ra3, ha3, rfl, HO2, HB2⟩
    have hd2 := Bd.new (NdO.nd _ _ HO2.out)
    have hb2 := tr HB2.out (al0 w2 (.cells #[.int .i64 ka3, .int .i64 na3, .int .u64 ua3, .string sa3, .slice EA3 qa3 fa3, .slice GA3 ra3 ha3] 38))
    clear x0 x1 x2 x3 x4 x5 HFNx HO2 HB2
    go_upto_region 3 with fail
    obtain ⟨wC, hwC⟩ : ∃ wC, w2.alloc (.cells #[.int .i64 ka3, .int .i64 na3, .int .u64 ua3, .string sa3, .slice EA3 qa3 fa3, .slice GA3 ra3 ha3] 38) = wC := ⟨_, rfl⟩
    obtain ⟨p10, hp10⟩ : ∃ p, w2.heap.size = p := ⟨_, rfl⟩
    rw [hwC] at hd2 hb2
    rw [hp10] at hd2
    simp only [hwC, hp10]
    clear hwC hp10
    have HD2 := Lib.hid hd2
    replace HD1 := Lib.hid (HD1.out.below hb2)
    replace HR1 := Lib.hid (HR1.out.below hb2)
    replace HR2 := Lib.hid (HR2.out.below hb2)
    replace HBX := Lib.hid (tr HBX.out hb2)
    obtain ⟨R, hR⟩ : ∃ R, setU t1 qs t2 = R := ⟨_, rfl⟩
    obtain ⟨x, E⟩ := R
    have HQX : Hid (sz x ≤ 100000 ∧ sm 1000 1000 x) := Lib.hid (setU_qq hR HQ1.out.1 HQ2.out.1 HQ1.out.2 HQ2.out.2)
    have HST := Lib.hid (setU_S t1 t2 _ _ qs _ x E hR wC (HL.out.keep HBX.out).tab HD1.out.2 HD2.out.2 HR1.out (by have := HQ1.out.1; have := HQ2.out.1; omega) HQ1.out.2 HQ2.out.2 (by have := HLQ.out; omega))
    obtain ⟨x0, x1, x2, x3, x4, x5⟩ := Bx.all HD1.out.1
    obtain ⟨y0, y1, y2, y3, y4, y5⟩ := Bx.all HD2.out.1
    clear hd2 hb2
    have HCS := Lib.hid (setU_cases hR)
    clear hR
    go_wp2_with fail
    with_reducible refine HST.out.mono ?_
    rintro e w3 ⟨ka4, na4, ua4, sa4, EA4, qa4, fa4, GA4, ra4, ha4, rfl, HO3, HB3⟩
    have hd3 := Bd.new (NdO.nd _ _ HO3.out)
    have hb3 := tr HB3.out (al0 w3 (.cells #[.int .i64 ka4, .int .i64 na4, .int .u64 ua4, .string sa4, .slice EA4 qa4 fa4, .slice GA4 ra4 ha4] 38))
    clear x0 x1 x2 x3 x4 x5 y0 y1 y2 y3 y4 y5 HST HO3 HB3
    go_upto_region 4 with fail
    obtain ⟨wD, hwD⟩ : ∃ wD, w3.alloc (.cells #[.int .i64 ka4, .int .i64 na4, .int .u64 ua4, .string sa4, .slice EA4 qa4 fa4, .slice GA4 ra4 ha4] 38) = wD := ⟨_, rfl⟩
    obtain ⟨p11, hp11⟩ : ∃ p, w3.heap.size = p := ⟨_, rfl⟩
    rw [hwD] at hd3 hb3
    rw [hp11] at hd3
    simp only [hwD, hp11]
    clear hwD hp11
    have HD3 := Lib.hid hd3
    replace HD1 := Lib.hid (HD1.out.below hb3)
    replace HD2 := Lib.hid (HD2.out.below hb3)
    replace HR1 := Lib.hid (HR1.out.below hb3)
    replace HR2 := Lib.hid (HR2.out.below hb3)
    replace HBX := Lib.hid (tr HBX.out hb3)
    clear hd3 hb3
    rcases HCS.out with ⟨hE, hx⟩ | ⟨hE, hx, hck⟩
    · subst hx
      have hEb := neB hE
      have HSA := Lib.hid (same_S T0 _ _ wD (by decide) HD3.out.2 (NdO.nd _ _ (ndo_zero (fun _ => True) wD)))
      have HWK := Lib.hid (fun W (h : Below wD.heap.size wD W) => works_S8 HL.out (tr HBX.out h))
      obtain ⟨x0, x1, x2, x3, x4, x5⟩ := Bx.all HD3.out.1
      clear HCS hE
      go_wp2_with (first
        | (go_at_call 29; (with_reducible refine HSA.out.mono ?_); rintro e w8 ⟨rfl, HB8⟩)
        | (go_at_call 17; (with_reducible refine (HWK.out _ HB8.out).mono ?_); rintro e w9 ⟨rfl, HB9⟩))
      go_ret
      exact ⟨rfl, tr HBX.out (tr HB8.out HB9.out)⟩
    subst hE
    have HPT := Lib.hid hx
    have hg1 : getR x qs = (t2, 0) := by unfold getR; rw [get_put t2 qs t1 x hx]
    have HG1 := Lib.hid (get_S x _ qs _ t2 0 hg1 wD HD3.out.2 HR1.out HQX.out.1 HQX.out.2 (by have := HLQ.out; omega))
    have HCX := Lib.hid hck
    obtain ⟨x0, x1, x2, x3, x4, x5⟩ := Bx.all HD3.out.1
    clear HCS hx hck hg1
    go_wp2_with fail
    with_reducible refine HG1.out.mono ?_
    rintro e w4 ⟨ka5, na5, ua5, sa5, EA5, qa5, fa5, GA5, ra5, ha5, rfl, HO4, HB4⟩
    have hd4 := Bd.new (NdO.nd _ _ HO4.out)
    have hb4 := tr HB4.out (al0 w4 (.cells #[.int .i64 ka5, .int .i64 na5, .int .u64 ua5, .string sa5, .slice EA5 qa5 fa5, .slice GA5 ra5 ha5] 38))
    clear x0 x1 x2 x3 x4 x5 HG1 HO4 HB4
    go_upto_region 7 with fail
    obtain ⟨wE, hwE⟩ : ∃ wE, w4.alloc (.cells #[.int .i64 ka5, .int .i64 na5, .int .u64 ua5, .string sa5, .slice EA5 qa5 fa5, .slice GA5 ra5 ha5] 38) = wE := ⟨_, rfl⟩
    obtain ⟨p13, hp13⟩ : ∃ p, w4.heap.size = p := ⟨_, rfl⟩
    rw [hwE] at hd4 hb4
    rw [hp13] at hd4
    simp only [hwE, hp13]
    clear hwE hp13
    have HD4 := Lib.hid hd4
    replace HD1 := Lib.hid (HD1.out.below hb4)
    replace HD2 := Lib.hid (HD2.out.below hb4)
    replace HD3 := Lib.hid (HD3.out.below hb4)
    replace HR1 := Lib.hid (HR1.out.below hb4)
    replace HR2 := Lib.hid (HR2.out.below hb4)
    replace HBX := Lib.hid (tr HBX.out hb4)
    have HSA := Lib.hid (same_S t2 _ _ wE (by have := HQ2.out.1; omega) HD4.out.2 HD2.out.2)
    have HCK : Hid (∀ W, Below wE.heap.size wE W → Calls Tryz.prog 30 #[.agg #[.int .i64 ka4, .int .i64 na4, .int .u64 ua4, .string sa4, .slice EA4 qa4 fa4, .slice GA4 ra4 ha4]] W fun e w' => e = .returned (.int .i64 0) ∧ Hid (Below W.heap.size W w')) := Lib.hid fun W h => (check_any x _ W (HL.out.keep (tr HBX.out h)).tab HQX.out.1 HQX.out.2 (HD3.out.below h).2).mono fun e w' hh => ⟨by rw [hh.1, HCX.out]; rfl, Lib.hid hh.2⟩
    obtain ⟨x0, x1, x2, x3, x4, x5⟩ := Bx.all HD4.out.1
    obtain ⟨y0, y1, y2, y3, y4, y5⟩ := Bx.all HD2.out.1
    clear hd4 hb4
    go_upto_region 9 with (first
      | (go_at_call 29; (with_reducible refine HSA.out.mono ?_); rintro e w5 ⟨rfl, HB5⟩; obtain ⟨z0, z1, z2, z3, z4, z5⟩ := Bx.all (HD3.out.below HB5.out).1)
      | (go_at_call 30; (with_reducible refine (HCK.out _ HB5.out).mono ?_); rintro e w6 ⟨rfl, HB6⟩; have HB56 := Lib.hid (tr HB5.out HB6.out); replace HD1 := Lib.hid (HD1.out.below HB56.out); replace HD3 := Lib.hid (HD3.out.below HB56.out); replace HR1 := Lib.hid (HR1.out.below HB56.out); replace HR2 := Lib.hid (HR2.out.below HB56.out); replace HBX := Lib.hid (tr HBX.out HB56.out); clear x0 x1 x2 x3 x4 x5 y0 y1 y2 y3 y4 y5 z0 z1 z2 z3 z4 z5))
    obtain ⟨R1, hR1⟩ : ∃ R, getR t1 rs = R := ⟨_, rfl⟩
    obtain ⟨a, G⟩ := R1
    obtain ⟨R2, hR2⟩ : ∃ R, getR x rs = R := ⟨_, rfl⟩
    obtain ⟨b, H⟩ := R2
    have HQA : Hid (sz a ≤ 100000 ∧ sm 1000 1000 a) := Lib.hid (getR_qq hR1 (by have := HQ1.out.1; omega) HQ1.out.2)
    have HG1 := Lib.hid (get_S t1 _ rs _ a G hR1 w6 HD1.out.2 HR2.out (by have := HQ1.out.1; omega) HQ1.out.2 (by have := HLR.out; omega))
    have HRA := Lib.hid hR1
    have HRB := Lib.hid hR2
    clear hR1 hR2
    obtain ⟨x0, x1, x2, x3, x4, x5⟩ := Bx.all HD1.out.1
    go_wp2_with fail
    with_reducible refine HG1.out.mono ?_
    rintro e w7 ⟨ka6, na6, ua6, sa6, EA6, qa6, fa6, GA6, ra6, ha6, rfl, HO7, HB7⟩
    have hd5 := Bd.new (NdO.nd _ _ HO7.out)
    have hb7 := tr HB7.out (al0 w7 (.cells #[.int .i64 ka6, .int .i64 na6, .int .u64 ua6, .string sa6, .slice EA6 qa6 fa6, .slice GA6 ra6 ha6] 38))
    clear x0 x1 x2 x3 x4 x5 HG1 HO7 HB7
    go_upto_region 10 with fail
    obtain ⟨wF, hwF⟩ : ∃ wF, w7.alloc (.cells #[.int .i64 ka6, .int .i64 na6, .int .u64 ua6, .string sa6, .slice EA6 qa6 fa6, .slice GA6 ra6 ha6] 38) = wF := ⟨_, rfl⟩
    obtain ⟨p15, hp15⟩ : ∃ p, w7.heap.size = p := ⟨_, rfl⟩
    rw [hwF] at hd5 hb7
    rw [hp15] at hd5
    simp only [hwF, hp15]
    clear hwF hp15
    have HD5 := Lib.hid hd5
    replace HD1 := Lib.hid (HD1.out.below hb7)
    replace HD3 := Lib.hid (HD3.out.below hb7)
    replace HR1 := Lib.hid (HR1.out.below hb7)
    replace HR2 := Lib.hid (HR2.out.below hb7)
    replace HBX := Lib.hid (tr HBX.out hb7)
    have HG1 := Lib.hid (get_S x _ rs _ b H HRB.out wF HD3.out.2 HR2.out HQX.out.1 HQX.out.2 (by have := HLR.out; omega))
    obtain ⟨x0, x1, x2, x3, x4, x5⟩ := Bx.all HD3.out.1
    clear hd5 hb7
    go_wp2_with fail
    with_reducible refine HG1.out.mono ?_
    rintro e w8 ⟨ka7, na7, ua7, sa7, EA7, qa7, fa7, GA7, ra7, ha7, rfl, HO8, HB8⟩
    have hd6 := Bd.new (NdO.nd _ _ HO8.out)
    have hb8 := tr HB8.out (al0 w8 (.cells #[.int .i64 ka7, .int .i64 na7, .int .u64 ua7, .string sa7, .slice EA7 qa7 fa7, .slice GA7 ra7 ha7] 38))
    clear x0 x1 x2 x3 x4 x5 HG1 HO8 HB8
    go_upto_region 11 with fail
    obtain ⟨wL, hwL⟩ : ∃ wL, w8.alloc (.cells #[.int .i64 ka7, .int .i64 na7, .int .u64 ua7, .string sa7, .slice EA7 qa7 fa7, .slice GA7 ra7 ha7] 38) = wL := ⟨_, rfl⟩
    obtain ⟨p17, hp17⟩ : ∃ p, w8.heap.size = p := ⟨_, rfl⟩
    rw [hwL] at hd6 hb8
    rw [hp17] at hd6
    simp only [hwL, hp17]
    clear hwL hp17
    have HD6 := Lib.hid hd6
    replace HD5 := Lib.hid (HD5.out.below hb8)
    replace HD1 := Lib.hid (HD1.out.below hb8)
    replace HR1 := Lib.hid (HR1.out.below hb8)
    replace HR2 := Lib.hid (HR2.out.below hb8)
    replace HBX := Lib.hid (tr HBX.out hb8)
    clear hd6 hb8 HD2 HD3 HD4 HSA HCK HCX
    go_wp2
    go_loopw [19] (fun i wr => ∃ j : Nat, j ≤ qs.length ∧ j ≤ rs.length ∧ i = .int .i64 (j : Int) ∧ Hid (PIn t1 x t2 qs rs j) ∧ Hid (Below wL.heap.size wL wr)) (fun i _ => qs.length - (RowKit.intOf i).toNat)
    case atStart => exact ⟨0, Nat.zero_le _, Nat.zero_le _, rfl, Lib.hid (PIn.zero HPT.out), Lib.hid (Below.refl _ _)⟩
    case round =>
      obtain ⟨j, hj1, hj2, rfl, HPI, HR⟩ := hrel
      by_cases h1 : j < qs.length
      · by_cases h2 : j < rs.length
        · obtain ⟨r, hr⟩ : ∃ r, qs[j]? = some r := ⟨_, List.getElem?_eq_getElem h1⟩
          obtain ⟨s, hs⟩ : ∃ s, rs[j]? = some s := ⟨_, List.getElem?_eq_getElem h2⟩
          have hcA := rdp_at HR1.out
          have hcB := rdp_at HR2.out
          obtain ⟨bA, oA, hAA, hbA, HSA⟩ := hcA.2 (by omega)
          obtain ⟨bB, oB, hBB, hbB, HSB⟩ := hcB.2 (by omega)
          subst hAA hBB
          replace hcA := hcA.1
          replace hcB := hcB.1
          have HSA := Lib.hid HSA
          have HSB := Lib.hid HSB
          have hjA : (j : Int) + 1 ≤ (c4 : Int) := by omega
          have hjB : (j : Int) + 1 ≤ (c5 : Int) := by omega
          have hj0 : (0 : Int) ≤ (j : Int) + 1 := by omega
          have hq70 := HLQ.out
          have hr70 := HLR.out
          have hjW : IntKind.i64.wrap ((j : Int) + 1) = (j : Int) + 1 := by
            simp [IntKind.wrap, IntKind.bits, IntKind.signed]
            omega
          obtain ⟨c, hcT⟩ := get_take HPT.out (j + 1)
          have hgc : getR t1 (qs.take (j + 1)) = (c, 0) := by unfold getR; rw [hcT]
          obtain ⟨R3, hR3⟩ : ∃ R, getR t1 (rs.take (j + 1)) = R := ⟨_, rfl⟩
          obtain ⟨d, K⟩ := R3
          have HGC := Lib.hid hgc
          have HGD := Lib.hid hR3
          have HCT := Lib.hid hcT
          have HRJ := Lib.hid hr
          have HSJ := Lib.hid hs
          have HQC : Hid (sz c ≤ 100000 ∧ sm 1000 1000 c) := Lib.hid (getR_qq hgc (by have := HQ1.out.1; omega) HQ1.out.2)
          clear hgc hR3 hcT hr hs
          have HG3 : Hid (∀ W v, Hid (Below wr.heap.size wr W) → Hid (RdP W v (qs.take (j + 1))) → Calls Tryz.prog 22 #[.agg #[.int .i64 ka2, .int .i64 na2, .int .u64 ua2, .string sa2, .slice EA2 qa2 fa2, .slice GA2 ra2 ha2], v] W fun e w' => ∃ (ka8 na8 ua8 : Int) (sa8 : ByteArray) (EA8 : Option Addr) (qa8 fa8 : Nat) (GA8 : Option Addr) (ra8 ha8 : Nat), e = .returned (.tuple #[.agg #[.int .i64 ka8, .int .i64 na8, .int .u64 ua8, .string sa8, .slice EA8 qa8 fa8, .slice GA8 ra8 ha8], .int .i64 0]) ∧ Hid (NdO (fun b => W.heap.size ≤ b) w' c [.int .i64 ka8, .int .i64 na8, .int .u64 ua8, .string sa8, .slice EA8 qa8 fa8, .slice GA8 ra8 ha8]) ∧ Hid (Below W.heap.size W w')) := Lib.hid fun W v H h => get_S t1 _ _ v c 0 HGC.out W (HD1.out.below (tr HR.out H.out)).2 h.out (by have := HQ1.out.1; omega) HQ1.out.2 (by rw [List.length_take]; have := HLQ.out; omega)
          have hall : ∀ W, Hid (Below wr.heap.size wr W) → Hid (Below wr.heap.size wr W) ∧ W.cell? ⟨p7, 0, none⟩ = some (.int .i64 ka2) ∧ W.cell? ⟨p7, 1, none⟩ = some (.int .i64 na2) ∧ W.cell? ⟨p7, 2, none⟩ = some (.int .u64 ua2) ∧ W.cell? ⟨p7, 3, none⟩ = some (.string sa2) ∧ W.cell? ⟨p7, 4, none⟩ = some (.slice EA2 qa2 fa2) ∧ W.cell? ⟨p7, 5, none⟩ = some (.slice GA2 ra2 ha2) := fun W H => ⟨H, Bx.all (HD1.out.below (tr HR.out H.out)).1⟩
          have hc5 : ∀ (W : World) (ob : Obj), Hid (Below wr.heap.size wr W) → Hid (Below wr.heap.size wr (W.alloc ob)) ∧ (W.alloc ob).cell? ⟨p7, 0, none⟩ = some (.int .i64 ka2) ∧ (W.alloc ob).cell? ⟨p7, 1, none⟩ = some (.int .i64 na2) ∧ (W.alloc ob).cell? ⟨p7, 2, none⟩ = some (.int .u64 ua2) ∧ (W.alloc ob).cell? ⟨p7, 3, none⟩ = some (.string sa2) ∧ (W.alloc ob).cell? ⟨p7, 4, none⟩ = some (.slice EA2 qa2 fa2) ∧ (W.alloc ob).cell? ⟨p7, 5, none⟩ = some (.slice GA2 ra2 ha2) := fun W ob H => hall _ (Lib.hid (tr H.out (al0 W ob)))
          have hc2 : ∀ (W : World) (p : Nat) (a0 a1 a2 a3 a4 a5 : Value), Hid (Below wr.heap.size wr W) → Hid (wr.heap.size ≤ p) → Hid (Below wr.heap.size wr ((((((W.setCell ⟨p, 0, none⟩ a0).setCell ⟨p, 1, none⟩ a1).setCell ⟨p, 2, none⟩ a2).setCell ⟨p, 3, none⟩ a3).setCell ⟨p, 4, none⟩ a4).setCell ⟨p, 5, none⟩ a5)) ∧ ((((((W.setCell ⟨p, 0, none⟩ a0).setCell ⟨p, 1, none⟩ a1).setCell ⟨p, 2, none⟩ a2).setCell ⟨p, 3, none⟩ a3).setCell ⟨p, 4, none⟩ a4).setCell ⟨p, 5, none⟩ a5).cell? ⟨p7, 0, none⟩ = some (.int .i64 ka2) ∧ ((((((W.setCell ⟨p, 0, none⟩ a0).setCell ⟨p, 1, none⟩ a1).setCell ⟨p, 2, none⟩ a2).setCell ⟨p, 3, none⟩ a3).setCell ⟨p, 4, none⟩ a4).setCell ⟨p, 5, none⟩ a5).cell? ⟨p7, 1, none⟩ = some (.int .i64 na2) ∧ ((((((W.setCell ⟨p, 0, none⟩ a0).setCell ⟨p, 1, none⟩ a1).setCell ⟨p, 2, none⟩ a2).setCell ⟨p, 3, none⟩ a3).setCell ⟨p, 4, none⟩ a4).setCell ⟨p, 5, none⟩ a5).cell? ⟨p7, 2, none⟩ = some (.int .u64 ua2) ∧ ((((((W.setCell ⟨p, 0, none⟩ a0).setCell ⟨p, 1, none⟩ a1).setCell ⟨p, 2, none⟩ a2).setCell ⟨p, 3, none⟩ a3).setCell ⟨p, 4, none⟩ a4).setCell ⟨p, 5, none⟩ a5).cell? ⟨p7, 3, none⟩ = some (.string sa2) ∧ ((((((W.setCell ⟨p, 0, none⟩ a0).setCell ⟨p, 1, none⟩ a1).setCell ⟨p, 2, none⟩ a2).setCell ⟨p, 3, none⟩ a3).setCell ⟨p, 4, none⟩ a4).setCell ⟨p, 5, none⟩ a5).cell? ⟨p7, 4, none⟩ = some (.slice EA2 qa2 fa2) ∧ ((((((W.setCell ⟨p, 0, none⟩ a0).setCell ⟨p, 1, none⟩ a1).setCell ⟨p, 2, none⟩ a2).setCell ⟨p, 3, none⟩ a3).setCell ⟨p, 4, none⟩ a4).setCell ⟨p, 5, none⟩ a5).cell? ⟨p7, 5, none⟩ = some (.slice GA2 ra2 ha2) := fun W p a0 a1 a2 a3 a4 a5 H hp => hall _ (Lib.hid (below_put H.out hp.out a0 a1 a2 a3 a4 a5))
          have HBd : Hid (Below wr.heap.size wr wr.drew) := Lib.hid (Below.refl _ wr).drew
          have HBad : Hid (Below wr.heap.size wr (wr.alloc (.cells #[.int .i64 0, .int .i64 0, .int .u64 0, .string ⟨#[]⟩, .slice none 0 0, .slice none 0 0] 38)).drew) := Lib.hid (al0 wr _).drew
          have HS0 : Hid (wr.heap.size ≤ wr.heap.size) := Lib.hid (Nat.le_refl _)
          have HSd : Hid (wr.heap.size ≤ wr.drew.heap.size) := Lib.hid HBd.out.size
          have HLT : Hid (wr.heap.size < (wr.alloc (.cells #[.int .i64 0, .int .i64 0, .int .u64 0, .string ⟨#[]⟩, .slice none 0 0, .slice none 0 0] 38)).drew.heap.size) := Lib.hid (lt_alloc wr _)
          have HT1 : Hid (RdP wr.drew (.slice (some ⟨bA, oA, none⟩) (j + 1) c4) (qs.take (j + 1))) := Lib.hid ((HR1.out.below (tr HR.out HBd.out)).takeA (by omega))
          have HT2 : Hid (RdP (wr.alloc (.cells #[.int .i64 0, .int .i64 0, .int .u64 0, .string ⟨#[]⟩, .slice none 0 0, .slice none 0 0] 38)).drew (.slice (some ⟨bA, oA, none⟩) (j + 1) c4) (qs.take (j + 1))) := Lib.hid ((HR1.out.below (tr HR.out HBad.out)).takeA (by omega))
          go_upto_region 14 with fail
          go_cut [20, 21] (fun s8 s9 wn => Hid (ZG wr c 0 s8 s9 wn))
          case first =>
            go_region_held3 (fun W => Hid (Below wr.heap.size wr W) ∧ W.cell? ⟨p7, 0, none⟩ = some (.int .i64 ka2) ∧ W.cell? ⟨p7, 1, none⟩ = some (.int .i64 na2) ∧ W.cell? ⟨p7, 2, none⟩ = some (.int .u64 ua2) ∧ W.cell? ⟨p7, 3, none⟩ = some (.string sa2) ∧ W.cell? ⟨p7, 4, none⟩ = some (.slice EA2 qa2 fa2) ∧ W.cell? ⟨p7, 5, none⟩ = some (.slice GA2 ra2 ha2)) (first | (with_reducible exact hall _ (by assumption)) | (with_reducible exact hall _ HBd) | (with_reducible exact hall _ HBad) | (with_reducible exact hc5 _ _ (by assumption)) | (with_reducible exact hc2 _ _ _ _ _ _ _ _ (by assumption) (by assumption)))
              (first
                | (go_at_call 22; (with_reducible refine (HG3.out _ _ (by with_reducible first | exact HBd | exact HBad) (by with_reducible first | exact HT1 | exact HT2)).mono ?_); rintro e w4 ⟨ka8, na8, ua8, sa8, EA8, qa8, fa8, GA8, ra8, ha8, rfl, HO4, HB4⟩; have HBB4 : Hid (Below wr.heap.size wr w4) := (by first | exact Lib.hid (tr HBd.out HB4.out) | exact Lib.hid (tr HBad.out HB4.out)); first | ((with_reducible have HP4 := Lib.hid (born_drew HB4.out)); obtain ⟨⟨z0, z1, z2, z3, z4, z5⟩, y0, y1, y2, y3, y4, y5⟩ := Bx.both HP4.out) | skip))
            all_goals
              go_wp2_with fail
              go_meet
            all_goals
              refine Lib.hid ?_
              first
              | (with_reducible exact zg_new HBB4.out HSd.out HO4.out)
              | (with_reducible exact zg_put HBB4.out HO4.out HP4.out HS0.out HLT.out)
          case rest =>
            obtain ⟨wy, hwy⟩ : ∃ wy, wy = wc := ⟨_, rfl⟩
            subst hwy
            obtain ⟨rfl, hby, p20, ka9, na9, ua9, sa9, EA9, qa9, fa9, GA9, ra9, ha9, rfl, hbo⟩ := hcut.out
            have HD7 := Lib.hid hbo.bd
            have HRY := Lib.hid (tr HR.out hby)
            have HBY := Lib.hid (tr HBX.out HRY.out)
            clear hcut hby hbo HG3 hall hc5 hc2 HBd HBad HS0 HLT HT1 HT2
            have HG3 : Hid (∀ W v, Hid (Below wy.heap.size wy W) → Hid (RdP W v (rs.take (j + 1))) → Calls Tryz.prog 22 #[.agg #[.int .i64 ka2, .int .i64 na2, .int .u64 ua2, .string sa2, .slice EA2 qa2 fa2, .slice GA2 ra2 ha2], v] W fun e w' => ∃ (ka8 na8 ua8 : Int) (sa8 : ByteArray) (EA8 : Option Addr) (qa8 fa8 : Nat) (GA8 : Option Addr) (ra8 ha8 : Nat), e = .returned (.tuple #[.agg #[.int .i64 ka8, .int .i64 na8, .int .u64 ua8, .string sa8, .slice EA8 qa8 fa8, .slice GA8 ra8 ha8], .int .i64 K]) ∧ Hid (NdO (fun b => W.heap.size ≤ b) w' d [.int .i64 ka8, .int .i64 na8, .int .u64 ua8, .string sa8, .slice EA8 qa8 fa8, .slice GA8 ra8 ha8]) ∧ Hid (Below W.heap.size W w')) := Lib.hid fun W v H h => get_S t1 _ _ v d K HGD.out W (HD1.out.below (tr HRY.out H.out)).2 h.out (by have := HQ1.out.1; omega) HQ1.out.2 (by rw [List.length_take]; have := HLR.out; omega)
            have hall : ∀ W, Hid (Below wy.heap.size wy W) → Hid (Below wy.heap.size wy W) ∧ W.cell? ⟨p7, 0, none⟩ = some (.int .i64 ka2) ∧ W.cell? ⟨p7, 1, none⟩ = some (.int .i64 na2) ∧ W.cell? ⟨p7, 2, none⟩ = some (.int .u64 ua2) ∧ W.cell? ⟨p7, 3, none⟩ = some (.string sa2) ∧ W.cell? ⟨p7, 4, none⟩ = some (.slice EA2 qa2 fa2) ∧ W.cell? ⟨p7, 5, none⟩ = some (.slice GA2 ra2 ha2) := fun W H => ⟨H, Bx.all (HD1.out.below (tr HRY.out H.out)).1⟩
            have hc5 : ∀ (W : World) (ob : Obj), Hid (Below wy.heap.size wy W) → Hid (Below wy.heap.size wy (W.alloc ob)) ∧ (W.alloc ob).cell? ⟨p7, 0, none⟩ = some (.int .i64 ka2) ∧ (W.alloc ob).cell? ⟨p7, 1, none⟩ = some (.int .i64 na2) ∧ (W.alloc ob).cell? ⟨p7, 2, none⟩ = some (.int .u64 ua2) ∧ (W.alloc ob).cell? ⟨p7, 3, none⟩ = some (.string sa2) ∧ (W.alloc ob).cell? ⟨p7, 4, none⟩ = some (.slice EA2 qa2 fa2) ∧ (W.alloc ob).cell? ⟨p7, 5, none⟩ = some (.slice GA2 ra2 ha2) := fun W ob H => hall _ (Lib.hid (tr H.out (al0 W ob)))
            have hc2 : ∀ (W : World) (p : Nat) (a0 a1 a2 a3 a4 a5 : Value), Hid (Below wy.heap.size wy W) → Hid (wy.heap.size ≤ p) → Hid (Below wy.heap.size wy ((((((W.setCell ⟨p, 0, none⟩ a0).setCell ⟨p, 1, none⟩ a1).setCell ⟨p, 2, none⟩ a2).setCell ⟨p, 3, none⟩ a3).setCell ⟨p, 4, none⟩ a4).setCell ⟨p, 5, none⟩ a5)) ∧ ((((((W.setCell ⟨p, 0, none⟩ a0).setCell ⟨p, 1, none⟩ a1).setCell ⟨p, 2, none⟩ a2).setCell ⟨p, 3, none⟩ a3).setCell ⟨p, 4, none⟩ a4).setCell ⟨p, 5, none⟩ a5).cell? ⟨p7, 0, none⟩ = some (.int .i64 ka2) ∧ ((((((W.setCell ⟨p, 0, none⟩ a0).setCell ⟨p, 1, none⟩ a1).setCell ⟨p, 2, none⟩ a2).setCell ⟨p, 3, none⟩ a3).setCell ⟨p, 4, none⟩ a4).setCell ⟨p, 5, none⟩ a5).cell? ⟨p7, 1, none⟩ = some (.int .i64 na2) ∧ ((((((W.setCell ⟨p, 0, none⟩ a0).setCell ⟨p, 1, none⟩ a1).setCell ⟨p, 2, none⟩ a2).setCell ⟨p, 3, none⟩ a3).setCell ⟨p, 4, none⟩ a4).setCell ⟨p, 5, none⟩ a5).cell? ⟨p7, 2, none⟩ = some (.int .u64 ua2) ∧ ((((((W.setCell ⟨p, 0, none⟩ a0).setCell ⟨p, 1, none⟩ a1).setCell ⟨p, 2, none⟩ a2).setCell ⟨p, 3, none⟩ a3).setCell ⟨p, 4, none⟩ a4).setCell ⟨p, 5, none⟩ a5).cell? ⟨p7, 3, none⟩ = some (.string sa2) ∧ ((((((W.setCell ⟨p, 0, none⟩ a0).setCell ⟨p, 1, none⟩ a1).setCell ⟨p, 2, none⟩ a2).setCell ⟨p, 3, none⟩ a3).setCell ⟨p, 4, none⟩ a4).setCell ⟨p, 5, none⟩ a5).cell? ⟨p7, 4, none⟩ = some (.slice EA2 qa2 fa2) ∧ ((((((W.setCell ⟨p, 0, none⟩ a0).setCell ⟨p, 1, none⟩ a1).setCell ⟨p, 2, none⟩ a2).setCell ⟨p, 3, none⟩ a3).setCell ⟨p, 4, none⟩ a4).setCell ⟨p, 5, none⟩ a5).cell? ⟨p7, 5, none⟩ = some (.slice GA2 ra2 ha2) := fun W p a0 a1 a2 a3 a4 a5 H hp => hall _ (Lib.hid (below_put H.out hp.out a0 a1 a2 a3 a4 a5))
            have HBd : Hid (Below wy.heap.size wy wy.drew) := Lib.hid (Below.refl _ wy).drew
            have HBad : Hid (Below wy.heap.size wy (wy.alloc (.cells #[.int .i64 0, .int .i64 0, .int .u64 0, .string ⟨#[]⟩, .slice none 0 0, .slice none 0 0] 38)).drew) := Lib.hid (al0 wy _).drew
            have HS0 : Hid (wy.heap.size ≤ wy.heap.size) := Lib.hid (Nat.le_refl _)
            have HSd : Hid (wy.heap.size ≤ wy.drew.heap.size) := Lib.hid HBd.out.size
            have HLT : Hid (wy.heap.size < (wy.alloc (.cells #[.int .i64 0, .int .i64 0, .int .u64 0, .string ⟨#[]⟩, .slice none 0 0, .slice none 0 0] 38)).drew.heap.size) := Lib.hid (lt_alloc wy _)
            have HT1 : Hid (RdP wy.drew (.slice (some ⟨bB, oB, none⟩) (j + 1) c5) (rs.take (j + 1))) := Lib.hid ((HR2.out.below (tr HRY.out HBd.out)).takeA (by omega))
            have HT2 : Hid (RdP (wy.alloc (.cells #[.int .i64 0, .int .i64 0, .int .u64 0, .string ⟨#[]⟩, .slice none 0 0, .slice none 0 0] 38)).drew (.slice (some ⟨bB, oB, none⟩) (j + 1) c5) (rs.take (j + 1))) := Lib.hid ((HR2.out.below (tr HRY.out HBad.out)).takeA (by omega))
            go_upto_region 15 with fail
            go_cut [22, 23] (fun s8 s9 wn => Hid (ZG wy d K s8 s9 wn))
            case first =>
              go_region_held3 (fun W => Hid (Below wy.heap.size wy W) ∧ W.cell? ⟨p7, 0, none⟩ = some (.int .i64 ka2) ∧ W.cell? ⟨p7, 1, none⟩ = some (.int .i64 na2) ∧ W.cell? ⟨p7, 2, none⟩ = some (.int .u64 ua2) ∧ W.cell? ⟨p7, 3, none⟩ = some (.string sa2) ∧ W.cell? ⟨p7, 4, none⟩ = some (.slice EA2 qa2 fa2) ∧ W.cell? ⟨p7, 5, none⟩ = some (.slice GA2 ra2 ha2)) (first | (with_reducible exact hall _ (by assumption)) | (with_reducible exact hall _ HBd) | (with_reducible exact hall _ HBad) | (with_reducible exact hc5 _ _ (by assumption)) | (with_reducible exact hc2 _ _ _ _ _ _ _ _ (by assumption) (by assumption)))
                (first
                  | (go_at_call 22; (with_reducible refine (HG3.out _ _ (by with_reducible first | exact HBd | exact HBad) (by with_reducible first | exact HT1 | exact HT2)).mono ?_); rintro e w4 ⟨ka8, na8, ua8, sa8, EA8, qa8, fa8, GA8, ra8, ha8, rfl, HO4, HB4⟩; have HBB4 : Hid (Below wy.heap.size wy w4) := (by first | exact Lib.hid (tr HBd.out HB4.out) | exact Lib.hid (tr HBad.out HB4.out)); first | ((with_reducible have HP4 := Lib.hid (born_drew HB4.out)); obtain ⟨⟨z0, z1, z2, z3, z4, z5⟩, y0, y1, y2, y3, y4, y5⟩ := Bx.both HP4.out) | skip))
              all_goals
                go_wp2_with fail
                go_meet
              all_goals
                refine Lib.hid ?_
                first
                | (with_reducible exact zg_new HBB4.out HSd.out HO4.out)
                | (with_reducible exact zg_put HBB4.out HO4.out HP4.out HS0.out HLT.out)
            case rest =>
              obtain ⟨wz, hwz⟩ : ∃ wz, wz = wc := ⟨_, rfl⟩
              subst hwz
              obtain ⟨rfl, hbz, p22, ka10, na10, ua10, sa10, EA10, qa10, fa10, GA10, ra10, ha10, rfl, hbo⟩ := hcut.out
              have HD8 := Lib.hid hbo.bd
              have HRZ := Lib.hid (tr HRY.out hbz)
              have HBZ := Lib.hid (tr HBX.out HRZ.out)
              replace HD7 := Lib.hid (HD7.out.below hbz)
              have HD5z := Lib.hid (HD5.out.below HRZ.out)
              have HD6z := Lib.hid (HD6.out.below HRZ.out)
              have HWK := Lib.hid (fun W (h : Below wz.heap.size wz W) => works_S8 HL.out (tr HBZ.out h))
              clear hcut hbz hbo HG3 hall hc5 hc2 HBd HBad HS0 HSd HLT HT1 HT2
              rcases getT_K HGD.out with ⟨hK, hdT⟩ | ⟨hK, hdT⟩
              · subst hK
                obtain ⟨n1, n2⟩ := HPI.out.nope HRJ.out HSJ.out hdT
                have hG : G = 80 := getR_none HRA.out n1
                have hH : H = 80 := getR_none HRB.out n2
                subst hG hH
                clear n1 n2 hdT
                go_wp2_with (first
                  | (go_at_call 17; (with_reducible refine (HWK.out _ (Below.refl _ _)).mono ?_); rintro e w9 ⟨rfl, HB9⟩))
                go_ret
                exact ⟨rfl, tr HBZ.out HB9.out⟩
              · subst hK
                obtain ⟨st1, st2⟩ := HPI.out.step HRJ.out HSJ.out HCT.out hdT
                have HST := Lib.hid st1
                have HPN := Lib.hid st2
                clear st1 st2 hdT
                obtain ⟨u0, u1, u2⟩ := HSA.out wz HRZ.out j r HRJ.out
                obtain ⟨v0, v1, v2⟩ := HSB.out wz HRZ.out j s HSJ.out
                have hj3 : (0 : Int) ≤ (j : Int) := by omega
                have hj4 : (j : Int) < (qs.length : Int) := by omega
                have hj5 : (j : Int) < (rs.length : Int) := by omega
                have hG := stpG
                by_cases hrs : r = s
                · have hT := stp_eq hrs
                  have he : ∀ W, (binOp .neq 51 (.agg #[.string r.k, .int .i64 r.a, .bool r.b]) (.agg #[.string s.k, .int .i64 s.a, .bool s.b])).run Tryz.prog W = .ok (.bool false) W := fun W => by rw [neStp, hT]
                  clear hrs hT
                  go_upto_region 20 with fail
                  go_quiet (fail)
                  go_wp2
                  go_roundw
                  case rel => exact ⟨j + 1, by omega, by omega, by simp, HPN, Lib.hid (HRZ.out.drewN _)⟩
                  case measure => simp [RowKit.intOf]; omega
                · have hF := stp_ne hrs
                  have he : ∀ W, (binOp .neq 51 (.agg #[.string r.k, .int .i64 r.a, .bool r.b]) (.agg #[.string s.k, .int .i64 s.a, .bool s.b])).run Tryz.prog W = .ok (.bool true) W := fun W => by rw [neStp, hF]
                  clear hrs hF u0 u1 u2 v0 v1 v2
                  have hall : ∀ W, Hid (Below wz.heap.size wz W) → Hid (Below wz.heap.size wz W) ∧ (W.cell? ⟨p20, 0, none⟩ = some (.int .i64 ka9) ∧ W.cell? ⟨p20, 1, none⟩ = some (.int .i64 na9) ∧ W.cell? ⟨p20, 2, none⟩ = some (.int .u64 ua9) ∧ W.cell? ⟨p20, 3, none⟩ = some (.string sa9) ∧ W.cell? ⟨p20, 4, none⟩ = some (.slice EA9 qa9 fa9) ∧ W.cell? ⟨p20, 5, none⟩ = some (.slice GA9 ra9 ha9)) ∧ (W.cell? ⟨p22, 0, none⟩ = some (.int .i64 ka10) ∧ W.cell? ⟨p22, 1, none⟩ = some (.int .i64 na10) ∧ W.cell? ⟨p22, 2, none⟩ = some (.int .u64 ua10) ∧ W.cell? ⟨p22, 3, none⟩ = some (.string sa10) ∧ W.cell? ⟨p22, 4, none⟩ = some (.slice EA10 qa10 fa10) ∧ W.cell? ⟨p22, 5, none⟩ = some (.slice GA10 ra10 ha10)) ∧ (W.cell? ⟨bA, oA + j * 3, none⟩ = some (.string r.k) ∧ W.cell? ⟨bA, oA + j * 3 + 1, none⟩ = some (.int .i64 r.a) ∧ W.cell? ⟨bA, oA + j * 3 + 2, none⟩ = some (.bool r.b)) ∧ (W.cell? ⟨bB, oB + j * 3, none⟩ = some (.string s.k) ∧ W.cell? ⟨bB, oB + j * 3 + 1, none⟩ = some (.int .i64 s.a) ∧ W.cell? ⟨bB, oB + j * 3 + 2, none⟩ = some (.bool s.b)) := fun W H => ⟨H, Bx.all (HD7.out.below H.out).1, Bx.all (HD8.out.below H.out).1, HSA.out W (tr HRZ.out H.out) j r HRJ.out, HSB.out W (tr HRZ.out H.out) j s HSJ.out⟩
                  have HZd : Hid (Below wz.heap.size wz wz.drew) := Lib.hid (Below.refl _ wz).drew
                  have HZ0 : Hid (Below wz.heap.size wz wz) := Lib.hid (Below.refl _ wz)
                  obtain ⟨_, ⟨x0, x1, x2, x3, x4, x5⟩, ⟨y0, y1, y2, y3, y4, y5⟩, ⟨u0, u1, u2⟩, v0, v1, v2⟩ := hall wz HZ0
                  by_cases hcd : c = d
                  · subst hcd
                    have HSM : Hid (∀ W, Hid (Below wz.heap.size wz W) → Calls Tryz.prog 29 #[.agg #[.int .i64 ka9, .int .i64 na9, .int .u64 ua9, .string sa9, .slice EA9 qa9 fa9, .slice GA9 ra9 ha9], .agg #[.int .i64 ka10, .int .i64 na10, .int .u64 ua10, .string sa10, .slice EA10 qa10 fa10, .slice GA10 ra10 ha10]] W fun e w' => e = .returned (.bool true) ∧ Hid (Below W.heap.size W w')) := Lib.hid fun W H => same_S c _ _ W HQC.out.1 (HD7.out.below H.out).2 (HD8.out.below H.out).2
                    go_upto_region 20 with fail
                    go_region_held3 (fun W => Hid (Below wz.heap.size wz W) ∧ (W.cell? ⟨p20, 0, none⟩ = some (.int .i64 ka9) ∧ W.cell? ⟨p20, 1, none⟩ = some (.int .i64 na9) ∧ W.cell? ⟨p20, 2, none⟩ = some (.int .u64 ua9) ∧ W.cell? ⟨p20, 3, none⟩ = some (.string sa9) ∧ W.cell? ⟨p20, 4, none⟩ = some (.slice EA9 qa9 fa9) ∧ W.cell? ⟨p20, 5, none⟩ = some (.slice GA9 ra9 ha9)) ∧ (W.cell? ⟨p22, 0, none⟩ = some (.int .i64 ka10) ∧ W.cell? ⟨p22, 1, none⟩ = some (.int .i64 na10) ∧ W.cell? ⟨p22, 2, none⟩ = some (.int .u64 ua10) ∧ W.cell? ⟨p22, 3, none⟩ = some (.string sa10) ∧ W.cell? ⟨p22, 4, none⟩ = some (.slice EA10 qa10 fa10) ∧ W.cell? ⟨p22, 5, none⟩ = some (.slice GA10 ra10 ha10)) ∧ (W.cell? ⟨bA, oA + j * 3, none⟩ = some (.string r.k) ∧ W.cell? ⟨bA, oA + j * 3 + 1, none⟩ = some (.int .i64 r.a) ∧ W.cell? ⟨bA, oA + j * 3 + 2, none⟩ = some (.bool r.b)) ∧ (W.cell? ⟨bB, oB + j * 3, none⟩ = some (.string s.k) ∧ W.cell? ⟨bB, oB + j * 3 + 1, none⟩ = some (.int .i64 s.a) ∧ W.cell? ⟨bB, oB + j * 3 + 2, none⟩ = some (.bool s.b))) (first | (with_reducible exact hall _ (by assumption)) | (with_reducible exact hall _ HZd))
                      (first
                        | (go_at_call 29; (with_reducible refine (HSM.out _ (by first | assumption | with_reducible exact HZd)).mono ?_); rintro e w5 ⟨rfl, HB5⟩; have HZ5 : Hid (Below wz.heap.size wz w5) := (by first | exact Lib.hid (tr HZd.out HB5.out) | exact Lib.hid (tr HZ0.out HB5.out))))
                    all_goals
                      go_wp2_with fail
                      go_roundw
                      case rel => exact ⟨j + 1, by omega, by omega, by simp, HPN, Lib.hid (tr HRZ.out HZ5.out)⟩
                      case measure => simp [RowKit.intOf]; omega
                  · have HSM : Hid (∀ W, Hid (Below wz.heap.size wz W) → Calls Tryz.prog 29 #[.agg #[.int .i64 ka9, .int .i64 na9, .int .u64 ua9, .string sa9, .slice EA9 qa9 fa9, .slice GA9 ra9 ha9], .agg #[.int .i64 ka10, .int .i64 na10, .int .u64 ua10, .string sa10, .slice EA10 qa10 fa10, .slice GA10 ra10 ha10]] W fun e w' => e = .returned (.bool false) ∧ Hid (Below W.heap.size W w')) := Lib.hid fun W H => sameD_S c d _ _ W HQC.out.1 (HD7.out.below H.out).2 (HD8.out.below H.out).2 false (by simp [hcd])
                    have hgt := HST.out hcd
                    have hab := getR_congr hgt HRA.out HRB.out
                    obtain ⟨hab1, hab2⟩ := hab
                    subst hab1 hab2
                    have HSN : Hid (∀ W, Hid (Below wz.heap.size wz W) → Calls Tryz.prog 29 #[.agg #[.int .i64 ka6, .int .i64 na6, .int .u64 ua6, .string sa6, .slice EA6 qa6 fa6, .slice GA6 ra6 ha6], .agg #[.int .i64 ka7, .int .i64 na7, .int .u64 ua7, .string sa7, .slice EA7 qa7 fa7, .slice GA7 ra7 ha7]] W fun e w' => e = .returned (.bool true) ∧ Hid (Below W.heap.size W w')) := Lib.hid fun W H => same_S a _ _ W HQA.out.1 (HD5z.out.below H.out).2 (HD6z.out.below H.out).2
                    have hGG : (G == G) = true := by simp
                    clear hgt hcd
                    go_upto_region 20 with fail
                    go_region_held3 (fun W => Hid (Below wz.heap.size wz W) ∧ (W.cell? ⟨p20, 0, none⟩ = some (.int .i64 ka9) ∧ W.cell? ⟨p20, 1, none⟩ = some (.int .i64 na9) ∧ W.cell? ⟨p20, 2, none⟩ = some (.int .u64 ua9) ∧ W.cell? ⟨p20, 3, none⟩ = some (.string sa9) ∧ W.cell? ⟨p20, 4, none⟩ = some (.slice EA9 qa9 fa9) ∧ W.cell? ⟨p20, 5, none⟩ = some (.slice GA9 ra9 ha9)) ∧ (W.cell? ⟨p22, 0, none⟩ = some (.int .i64 ka10) ∧ W.cell? ⟨p22, 1, none⟩ = some (.int .i64 na10) ∧ W.cell? ⟨p22, 2, none⟩ = some (.int .u64 ua10) ∧ W.cell? ⟨p22, 3, none⟩ = some (.string sa10) ∧ W.cell? ⟨p22, 4, none⟩ = some (.slice EA10 qa10 fa10) ∧ W.cell? ⟨p22, 5, none⟩ = some (.slice GA10 ra10 ha10)) ∧ (W.cell? ⟨bA, oA + j * 3, none⟩ = some (.string r.k) ∧ W.cell? ⟨bA, oA + j * 3 + 1, none⟩ = some (.int .i64 r.a) ∧ W.cell? ⟨bA, oA + j * 3 + 2, none⟩ = some (.bool r.b)) ∧ (W.cell? ⟨bB, oB + j * 3, none⟩ = some (.string s.k) ∧ W.cell? ⟨bB, oB + j * 3 + 1, none⟩ = some (.int .i64 s.a) ∧ W.cell? ⟨bB, oB + j * 3 + 2, none⟩ = some (.bool s.b))) (first | (with_reducible exact hall _ (by assumption)) | (with_reducible exact hall _ HZd))
                      (first
                        | (go_at_call 29; (with_reducible refine (HSM.out _ (by first | assumption | with_reducible exact HZd)).mono ?_); rintro e w5 ⟨rfl, HB5⟩; have HZ5 : Hid (Below wz.heap.size wz w5) := (by first | exact Lib.hid (tr HZd.out HB5.out) | exact Lib.hid (tr HZ0.out HB5.out))))
                    all_goals
                      clear x0 x1 x2 x3 x4 x5 y0 y1 y2 y3 y4 y5 u0 u1 u2 v0 v1 v2
                      obtain ⟨x0, x1, x2, x3, x4, x5⟩ := Bx.all (HD5z.out.below HZ5.out).1
                      obtain ⟨y0, y1, y2, y3, y4, y5⟩ := Bx.all (HD6z.out.below HZ5.out).1
                      go_wp2_with (first
                        | (go_at_call 29; (with_reducible refine (HSN.out _ HZ5).mono ?_); rintro e w6 ⟨rfl, HB6⟩; have HZ6 := Lib.hid (tr HZ5.out HB6.out))
                        | (go_at_call 17; (with_reducible refine (HWK.out _ HZ6.out).mono ?_); rintro e w9 ⟨rfl, HB9⟩))
                      go_ret
                      exact ⟨rfl, tr HBZ.out (tr HZ6.out HB9.out)⟩
        · go_wp2_with (first
            | (go_at_call 17; (with_reducible refine (works_S8 HL.out (tr HBX.out HR.out)).mono ?_); rintro e w9 ⟨rfl, HB9⟩))
          go_ret
          exact ⟨rfl, tr HBX.out (tr HR.out HB9.out)⟩
      · go_wp2_with (first
          | (go_at_call 17; (with_reducible refine (works_S8 HL.out (tr HBX.out HR.out)).mono ?_); rintro e w9 ⟨rfl, HB9⟩))
        go_ret
        exact ⟨rfl, tr HBX.out (tr HR.out HB9.out)⟩
end Go.Proofs.YtjnfilbdokppiaaGreatDoor
