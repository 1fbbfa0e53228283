/-
  What is proved here: the walk of PathGets: true for every tree and path; conditions: the tables hold what is laid, the arguments read as a tree and a path.
-/
import Derived.Test.YtjnfilbdokppiaaGreatDoorPlk
import Derived.Deep.DeepCutAuto
import Derived.Deep.RegionHeld3
namespace Go.Proofs.YtjnfilbdokppiaaGreatDoor
open Go.RowKit U U.Ut

set_option maxRecDepth 100000 in
set_option maxHeartbeats 4000000 in
theorem pathGets_walk (t : T) (cs : List Value) (ps : List Stp) (v : Value) (w : World) (hL : LP w.heap.size w) (hnd : Nd w t cs) (hp : RdP w v ps) :
    Calls Tryz.prog 5 #[.agg cs.toArray, v] w fun e w' => e = .returned (.bool true) ∧ Below w.heap.size w w' := by
  have HL := Lib.hid hL
  obtain ⟨ka0, na0, ua0, sa0, EA0, qa0, fa0, GA0, ra0, ha0, rfl⟩ := hnd.shape
  have HN := Lib.hid hnd
  have HP := Lib.hid hp
  obtain ⟨PA, pn, pc, rfl, -, -, -, -, -⟩ := id hp
  have HLQ : Hid ((cut8 ps).length ≤ 100000) := Lib.hid (by have := cut8_len ps; omega)
  obtain ⟨h11, h12⟩ := few_ok t
  have HFW : Hid (∀ W, Below w.heap.size w W → Calls Tryz.prog 21 #[.agg #[.int .i64 ka0, .int .i64 na0, .int .u64 ua0, .string sa0, .slice EA0 qa0 fa0, .slice GA0 ra0 ha0]] W fun e w' => ∃ (ka1 na1 ua1 : Int) (sa1 : ByteArray) (EA1 : Option Addr) (qa1 fa1 : Nat) (GA1 : Option Addr) (ra1 ha1 : Nat), e = .returned (.agg #[.int .i64 ka1, .int .i64 na1, .int .u64 ua1, .string sa1, .slice EA1 qa1 fa1, .slice GA1 ra1 ha1]) ∧ Hid (NdO (fun b => W.heap.size ≤ b) w' (fewT t) [.int .i64 ka1, .int .i64 na1, .int .u64 ua1, .string sa1, .slice EA1 qa1 fa1, .slice GA1 ra1 ha1]) ∧ Hid (Below W.heap.size W w')) := Lib.hid fun W hb => few_S t _ W (HN.out.bel hb)
  have HCU : Hid (∀ W, Hid (Below w.heap.size w W) → Calls Tryz.prog 13 #[.slice PA pn pc] W fun e w' => ∃ A c, e = .returned (.slice A (cut8 ps).length c) ∧ Hid (RdP w' (.slice A (cut8 ps).length c) (cut8 ps)) ∧ Hid (Below W.heap.size W w')) := Lib.hid fun W H => cutP_S ps _ W (HP.out.below H.out)
  obtain ⟨t1, ht1⟩ : ∃ t1, fewT t = t1 := ⟨_, rfl⟩
  obtain ⟨qs, hqs⟩ : ∃ qs, cut8 ps = qs := ⟨_, rfl⟩
  rw [ht1] at HFW h11 h12
  rw [hqs] at HCU HLQ
  obtain ⟨R, hR⟩ : ∃ R, getR t1 qs = R := ⟨_, rfl⟩
  obtain ⟨x, E⟩ := R
  obtain ⟨h21, h22⟩ := getR_qq hR (by omega) h12
  have HQ1 : Hid (sz t1 ≤ 100000 ∧ sm 1000 1000 t1) := Lib.hid ⟨by omega, h12⟩
  have HQX : Hid (sz x ≤ 100000 ∧ sm 1000 1000 x) := Lib.hid ⟨h21, h22⟩
  have HG : Hid (∀ W (ka9 na9 ua9 : Int) (sa9 : ByteArray) (EA9 : Option Addr) (qa9 fa9 : Nat) (GA9 : Option Addr) (ra9 ha9 : Nat) (v : Value), Nd W t1 [.int .i64 ka9, .int .i64 na9, .int .u64 ua9, .string sa9, .slice EA9 qa9 fa9, .slice GA9 ra9 ha9] → RdP W v qs → Calls Tryz.prog 22 #[.agg #[.int .i64 ka9, .int .i64 na9, .int .u64 ua9, .string sa9, .slice EA9 qa9 fa9, .slice GA9 ra9 ha9], v] W fun e w' => ∃ (ka2 na2 ua2 : Int) (sa2 : ByteArray) (EA2 : Option Addr) (qa2 fa2 : Nat) (GA2 : Option Addr) (ra2 ha2 : Nat), e = .returned (.tuple #[.agg #[.int .i64 ka2, .int .i64 na2, .int .u64 ua2, .string sa2, .slice EA2 qa2 fa2, .slice GA2 ra2 ha2], .int .i64 E]) ∧ Hid (NdO (fun b => W.heap.size ≤ b) w' x [.int .i64 ka2, .int .i64 na2, .int .u64 ua2, .string sa2, .slice EA2 qa2 fa2, .slice GA2 ra2 ha2]) ∧ Hid (Below W.heap.size W w')) := Lib.hid fun W ka9 na9 ua9 sa9 EA9 qa9 fa9 GA9 ra9 ha9 v h1 h2 => get_S t1 _ qs v x E hR W h1 h2 HQ1.out.1 HQ1.out.2 HLQ.out
  have HH : Hid (∀ W (ka9 na9 ua9 : Int) (sa9 : ByteArray) (EA9 : Option Addr) (qa9 fa9 : Nat) (GA9 : Option Addr) (ra9 ha9 : Nat) (v : Value), Nd W t1 [.int .i64 ka9, .int .i64 na9, .int .u64 ua9, .string sa9, .slice EA9 qa9 fa9, .slice GA9 ra9 ha9] → RdP W v qs → Calls Tryz.prog 23 #[.agg #[.int .i64 ka9, .int .i64 na9, .int .u64 ua9, .string sa9, .slice EA9 qa9 fa9, .slice GA9 ra9 ha9], v] W fun e w' => ∃ (ka2 na2 ua2 : Int) (sa2 : ByteArray) (EA2 : Option Addr) (qa2 fa2 : Nat) (GA2 : Option Addr) (ra2 ha2 : Nat), e = .returned (.tuple #[.agg #[.int .i64 ka2, .int .i64 na2, .int .u64 ua2, .string sa2, .slice EA2 qa2 fa2, .slice GA2 ra2 ha2], .int .i64 E]) ∧ Hid (NdO (fun b => W.heap.size ≤ b) w' x [.int .i64 ka2, .int .i64 na2, .int .u64 ua2, .string sa2, .slice EA2 qa2 fa2, .slice GA2 ra2 ha2]) ∧ Hid (Below W.heap.size W w')) := Lib.hid fun W ka9 na9 ua9 sa9 EA9 qa9 fa9 GA9 ra9 ha9 v h1 h2 => refGet_S t1 _ qs v x E hR W h1 h2 HQ1.out.1 HQ1.out.2 HLQ.out
  clear hL hnd hp hqs ht1 hR h11 h12 h21 h22
  go_enter Tryz.func5, Tryz.ntmps5
  go_wp2_with fail
  with_reducible refine (HFW.out _ (al0 w _)).mono ?_
  rintro e w1 ⟨ka1, na1, ua1, sa1, EA1, qa1, fa1, GA1, ra1, ha1, rfl, HN1, hb1⟩
  have HB1 := Lib.hid (tr (al hb1.out) (al0 w1 (.cells #[.int .i64 ka1, .int .i64 na1, .int .u64 ua1, .string sa1, .slice EA1 qa1 fa1, .slice GA1 ra1 ha1] 38)))
  have HD1 := Lib.hid (Bd.new (NdO.nd _ _ HN1.out))
  have HT1 := Lib.hid ((born hb1.out).alloc (.cells #[.int .i64 ka1, .int .i64 na1, .int .u64 ua1, .string sa1, .slice EA1 qa1 fa1, .slice GA1 ra1 ha1] 38))
  clear hb1 HN1
  go_upto_region 2 with fail
  obtain ⟨wB, hwB⟩ : ∃ wB, w1.alloc (.cells #[.int .i64 ka1, .int .i64 na1, .int .u64 ua1, .string sa1, .slice EA1 qa1 fa1, .slice GA1 ra1 ha1] 38) = wB := ⟨_, rfl⟩
  obtain ⟨bi, hbi⟩ : ∃ bi, w1.heap.size = bi := ⟨_, rfl⟩
  rw [hwB] at HB1 HD1 HT1
  rw [hbi] at HD1
  simp only [hwB, hbi]
  clear hwB hbi
  have HBWa := HB1
  have HDia := HD1
  have HCBa : Hid (∀ W, Hid (Below wB.heap.size wB W) → Calls Tryz.prog 13 #[.slice PA pn pc] W fun e w' => ∃ A c, e = .returned (.slice A qs.length c) ∧ Hid (RdP w' (.slice A qs.length c) qs) ∧ Hid (Below W.heap.size W w')) := Lib.hid fun W H => HCU.out W (Lib.hid (tr HBWa.out H.out))
  have HGBa : Hid (∀ W v, Hid (Below wB.heap.size wB W) → Hid (RdP W v qs) → Calls Tryz.prog 22 #[.agg #[.int .i64 ka1, .int .i64 na1, .int .u64 ua1, .string sa1, .slice EA1 qa1 fa1, .slice GA1 ra1 ha1], v] W fun e w' => ∃ (ka2 na2 ua2 : Int) (sa2 : ByteArray) (EA2 : Option Addr) (qa2 fa2 : Nat) (GA2 : Option Addr) (ra2 ha2 : Nat), e = .returned (.tuple #[.agg #[.int .i64 ka2, .int .i64 na2, .int .u64 ua2, .string sa2, .slice EA2 qa2 fa2, .slice GA2 ra2 ha2], .int .i64 E]) ∧ Hid (NdO (fun b => W.heap.size ≤ b) w' x [.int .i64 ka2, .int .i64 na2, .int .u64 ua2, .string sa2, .slice EA2 qa2 fa2, .slice GA2 ra2 ha2]) ∧ Hid (Below W.heap.size W w')) := Lib.hid fun W v H1 H2 => HG.out W _ _ _ _ _ _ _ _ _ _ v (HDia.out.below H1.out).2 H2.out
  have halla : ∀ W, Hid (Below wB.heap.size wB W) → Hid (Below wB.heap.size wB W) ∧ W.cell? ⟨bi, 0, none⟩ = some (.int .i64 ka1) ∧ W.cell? ⟨bi, 1, none⟩ = some (.int .i64 na1) ∧ W.cell? ⟨bi, 2, none⟩ = some (.int .u64 ua1) ∧ W.cell? ⟨bi, 3, none⟩ = some (.string sa1) ∧ W.cell? ⟨bi, 4, none⟩ = some (.slice EA1 qa1 fa1) ∧ W.cell? ⟨bi, 5, none⟩ = some (.slice GA1 ra1 ha1) := fun W H => ⟨H, Bx.all (HDia.out.below H.out).1⟩
  have hc5a : ∀ (W : World) (ob : Obj), Hid (Below wB.heap.size wB W) → Hid (Below wB.heap.size wB (W.alloc ob)) ∧ (W.alloc ob).cell? ⟨bi, 0, none⟩ = some (.int .i64 ka1) ∧ (W.alloc ob).cell? ⟨bi, 1, none⟩ = some (.int .i64 na1) ∧ (W.alloc ob).cell? ⟨bi, 2, none⟩ = some (.int .u64 ua1) ∧ (W.alloc ob).cell? ⟨bi, 3, none⟩ = some (.string sa1) ∧ (W.alloc ob).cell? ⟨bi, 4, none⟩ = some (.slice EA1 qa1 fa1) ∧ (W.alloc ob).cell? ⟨bi, 5, none⟩ = some (.slice GA1 ra1 ha1) := fun W ob H => halla _ (Lib.hid (tr H.out (al0 W ob)))
  have hc2a : ∀ (W : World) (p : Nat) (a0 a1 a2 a3 a4 a5 : Value), Hid (Below wB.heap.size wB W) → Hid (wB.heap.size ≤ p) → Hid (Below wB.heap.size wB ((((((W.setCell ⟨p, 0, none⟩ a0).setCell ⟨p, 1, none⟩ a1).setCell ⟨p, 2, none⟩ a2).setCell ⟨p, 3, none⟩ a3).setCell ⟨p, 4, none⟩ a4).setCell ⟨p, 5, none⟩ a5)) ∧ ((((((W.setCell ⟨p, 0, none⟩ a0).setCell ⟨p, 1, none⟩ a1).setCell ⟨p, 2, none⟩ a2).setCell ⟨p, 3, none⟩ a3).setCell ⟨p, 4, none⟩ a4).setCell ⟨p, 5, none⟩ a5).cell? ⟨bi, 0, none⟩ = some (.int .i64 ka1) ∧ ((((((W.setCell ⟨p, 0, none⟩ a0).setCell ⟨p, 1, none⟩ a1).setCell ⟨p, 2, none⟩ a2).setCell ⟨p, 3, none⟩ a3).setCell ⟨p, 4, none⟩ a4).setCell ⟨p, 5, none⟩ a5).cell? ⟨bi, 1, none⟩ = some (.int .i64 na1) ∧ ((((((W.setCell ⟨p, 0, none⟩ a0).setCell ⟨p, 1, none⟩ a1).setCell ⟨p, 2, none⟩ a2).setCell ⟨p, 3, none⟩ a3).setCell ⟨p, 4, none⟩ a4).setCell ⟨p, 5, none⟩ a5).cell? ⟨bi, 2, none⟩ = some (.int .u64 ua1) ∧ ((((((W.setCell ⟨p, 0, none⟩ a0).setCell ⟨p, 1, none⟩ a1).setCell ⟨p, 2, none⟩ a2).setCell ⟨p, 3, none⟩ a3).setCell ⟨p, 4, none⟩ a4).setCell ⟨p, 5, none⟩ a5).cell? ⟨bi, 3, none⟩ = some (.string sa1) ∧ ((((((W.setCell ⟨p, 0, none⟩ a0).setCell ⟨p, 1, none⟩ a1).setCell ⟨p, 2, none⟩ a2).setCell ⟨p, 3, none⟩ a3).setCell ⟨p, 4, none⟩ a4).setCell ⟨p, 5, none⟩ a5).cell? ⟨bi, 4, none⟩ = some (.slice EA1 qa1 fa1) ∧ ((((((W.setCell ⟨p, 0, none⟩ a0).setCell ⟨p, 1, none⟩ a1).setCell ⟨p, 2, none⟩ a2).setCell ⟨p, 3, none⟩ a3).setCell ⟨p, 4, none⟩ a4).setCell ⟨p, 5, none⟩ a5).cell? ⟨bi, 5, none⟩ = some (.slice GA1 ra1 ha1) := fun W p a0 a1 a2 a3 a4 a5 H hp => halla _ (Lib.hid (below_put H.out hp.out a0 a1 a2 a3 a4 a5))
  have HBda : Hid (Below wB.heap.size wB wB.drew) := Lib.hid (Below.refl _ wB).drew
  have HBada : Hid (Below wB.heap.size wB (wB.alloc (.cells #[.int .i64 0, .int .i64 0, .int .u64 0, .string ⟨#[]⟩, .slice none 0 0, .slice none 0 0] 38)).drew) := Lib.hid (al0 wB _).drew
  have HLBa : Hid (wB.heap.size ≤ wB.heap.size) := Lib.hid (Nat.le_refl _)
  go_cut [6, 7] (fun s8 s9 wn => Hid (ZG wB x E s8 s9 wn))
  case first =>
    go_region_held3 (fun W => Hid (Below wB.heap.size wB W) ∧ W.cell? ⟨bi, 0, none⟩ = some (.int .i64 ka1) ∧ W.cell? ⟨bi, 1, none⟩ = some (.int .i64 na1) ∧ W.cell? ⟨bi, 2, none⟩ = some (.int .u64 ua1) ∧ W.cell? ⟨bi, 3, none⟩ = some (.string sa1) ∧ W.cell? ⟨bi, 4, none⟩ = some (.slice EA1 qa1 fa1) ∧ W.cell? ⟨bi, 5, none⟩ = some (.slice GA1 ra1 ha1)) (first | (with_reducible exact halla _ (by assumption)) | (with_reducible exact halla _ HBda) | (with_reducible exact halla _ HBada) | (with_reducible exact hc5a _ _ (by assumption)) | (with_reducible exact hc2a _ _ _ _ _ _ _ _ (by assumption) (by assumption)))
      (first
        | (go_at_call 13; (with_reducible refine (HCBa.out _ (by first | with_reducible exact HBda | with_reducible exact HBada)).mono ?_); rintro e w3 ⟨A3, c3, rfl, HP3, HB3⟩; have HBB3 : Hid (Below wB.heap.size wB w3) := (by first | exact Lib.hid (tr HBda.out HB3.out) | exact Lib.hid (tr HBada.out HB3.out)); have HLB3 : Hid (wB.heap.size ≤ w3.heap.size) := Lib.hid HBB3.out.size; have HBB3a := Lib.hid (tr HBB3.out (al0 w3 (.cells #[.int .i64 0, .int .i64 0, .int .u64 0, .string ⟨#[]⟩, .slice none 0 0, .slice none 0 0] 38))); first | (with_reducible have HPB3 := Lib.hid (born_drew HB3.out)) | skip)
        | (go_at_call 22; (with_reducible refine (HGBa.out _ _ (by first | with_reducible exact HBB3 | with_reducible exact HBB3a) (by first | with_reducible exact HP3 | exact Lib.hid (HP3.out.below (al0 _ _)))).mono ?_); rintro e w4 ⟨ka4, na4, ua4, sa4, EA4, qa4, fa4, GA4, ra4, ha4, rfl, HO4, HB4⟩; have HBB4 : Hid (Below wB.heap.size wB w4) := (by first | exact Lib.hid (tr HBB3.out HB4.out) | exact Lib.hid (tr HBB3a.out HB4.out)); (try (have HP4 := Lib.hid (Blk.below HPB3.out HB4.out HPB3.out.lt); obtain ⟨⟨z0, z1, z2, z3, z4, z5⟩, y0, y1, y2, y3, y4, y5⟩ := Bx.both HP4.out)); (try ((with_reducible have HP5 := Lib.hid (born HB4.out)); obtain ⟨⟨z0, z1, z2, z3, z4, z5⟩, y0, y1, y2, y3, y4, y5⟩ := Bx.both HP5.out))))
    all_goals
      go_wp2_with fail
      go_meet
    all_goals
      refine Lib.hid ?_
      first
      | (with_reducible exact zg_new HBB4.out HLB3.out HO4.out)
      | (with_reducible exact zg_put HBB4.out HO4.out HP4.out (Nat.le_refl _) HPB3.out.lt)
      | (with_reducible exact zg_put HBB4.out HO4.out HP5.out HLB3.out (lt_alloc _ _))
  case rest =>
    obtain ⟨wx, hwx⟩ : ∃ wx, wx = wc := ⟨_, rfl⟩
    subst hwx
    obtain ⟨rfl, hbx, p6, ka5, na5, ua5, sa5, EA5, qa5, fa5, GA5, ra5, ha5, rfl, hbo⟩ := hcut.out
    have HOX := Lib.hid hbo
    have HBX := Lib.hid hbx
    have HBWb := Lib.hid (tr HB1.out hbx)
    have HDib := Lib.hid (HD1.out.below hbx)
    clear hcut hbo hbx HCBa HGBa halla hc5a hc2a HBda HBada HLBa
    go_upto_region 3 with fail
    have HCBb : Hid (∀ W, Hid (Below wx.heap.size wx W) → Calls Tryz.prog 13 #[.slice PA pn pc] W fun e w' => ∃ A c, e = .returned (.slice A qs.length c) ∧ Hid (RdP w' (.slice A qs.length c) qs) ∧ Hid (Below W.heap.size W w')) := Lib.hid fun W H => HCU.out W (Lib.hid (tr HBWb.out H.out))
    have HGBb : Hid (∀ W v, Hid (Below wx.heap.size wx W) → Hid (RdP W v qs) → Calls Tryz.prog 23 #[.agg #[.int .i64 ka1, .int .i64 na1, .int .u64 ua1, .string sa1, .slice EA1 qa1 fa1, .slice GA1 ra1 ha1], v] W fun e w' => ∃ (ka2 na2 ua2 : Int) (sa2 : ByteArray) (EA2 : Option Addr) (qa2 fa2 : Nat) (GA2 : Option Addr) (ra2 ha2 : Nat), e = .returned (.tuple #[.agg #[.int .i64 ka2, .int .i64 na2, .int .u64 ua2, .string sa2, .slice EA2 qa2 fa2, .slice GA2 ra2 ha2], .int .i64 E]) ∧ Hid (NdO (fun b => W.heap.size ≤ b) w' x [.int .i64 ka2, .int .i64 na2, .int .u64 ua2, .string sa2, .slice EA2 qa2 fa2, .slice GA2 ra2 ha2]) ∧ Hid (Below W.heap.size W w')) := Lib.hid fun W v H1 H2 => HH.out W _ _ _ _ _ _ _ _ _ _ v (HDib.out.below H1.out).2 H2.out
    have hallb : ∀ W, Hid (Below wx.heap.size wx W) → Hid (Below wx.heap.size wx W) ∧ W.cell? ⟨bi, 0, none⟩ = some (.int .i64 ka1) ∧ W.cell? ⟨bi, 1, none⟩ = some (.int .i64 na1) ∧ W.cell? ⟨bi, 2, none⟩ = some (.int .u64 ua1) ∧ W.cell? ⟨bi, 3, none⟩ = some (.string sa1) ∧ W.cell? ⟨bi, 4, none⟩ = some (.slice EA1 qa1 fa1) ∧ W.cell? ⟨bi, 5, none⟩ = some (.slice GA1 ra1 ha1) := fun W H => ⟨H, Bx.all (HDib.out.below H.out).1⟩
    have hc5b : ∀ (W : World) (ob : Obj), Hid (Below wx.heap.size wx W) → Hid (Below wx.heap.size wx (W.alloc ob)) ∧ (W.alloc ob).cell? ⟨bi, 0, none⟩ = some (.int .i64 ka1) ∧ (W.alloc ob).cell? ⟨bi, 1, none⟩ = some (.int .i64 na1) ∧ (W.alloc ob).cell? ⟨bi, 2, none⟩ = some (.int .u64 ua1) ∧ (W.alloc ob).cell? ⟨bi, 3, none⟩ = some (.string sa1) ∧ (W.alloc ob).cell? ⟨bi, 4, none⟩ = some (.slice EA1 qa1 fa1) ∧ (W.alloc ob).cell? ⟨bi, 5, none⟩ = some (.slice GA1 ra1 ha1) := fun W ob H => hallb _ (Lib.hid (tr H.out (al0 W ob)))
    have hc2b : ∀ (W : World) (p : Nat) (a0 a1 a2 a3 a4 a5 : Value), Hid (Below wx.heap.size wx W) → Hid (wx.heap.size ≤ p) → Hid (Below wx.heap.size wx ((((((W.setCell ⟨p, 0, none⟩ a0).setCell ⟨p, 1, none⟩ a1).setCell ⟨p, 2, none⟩ a2).setCell ⟨p, 3, none⟩ a3).setCell ⟨p, 4, none⟩ a4).setCell ⟨p, 5, none⟩ a5)) ∧ ((((((W.setCell ⟨p, 0, none⟩ a0).setCell ⟨p, 1, none⟩ a1).setCell ⟨p, 2, none⟩ a2).setCell ⟨p, 3, none⟩ a3).setCell ⟨p, 4, none⟩ a4).setCell ⟨p, 5, none⟩ a5).cell? ⟨bi, 0, none⟩ = some (.int .i64 ka1) ∧ ((((((W.setCell ⟨p, 0, none⟩ a0).setCell ⟨p, 1, none⟩ a1).setCell ⟨p, 2, none⟩ a2).setCell ⟨p, 3, none⟩ a3).setCell ⟨p, 4, none⟩ a4).setCell ⟨p, 5, none⟩ a5).cell? ⟨bi, 1, none⟩ = some (.int .i64 na1) ∧ ((((((W.setCell ⟨p, 0, none⟩ a0).setCell ⟨p, 1, none⟩ a1).setCell ⟨p, 2, none⟩ a2).setCell ⟨p, 3, none⟩ a3).setCell ⟨p, 4, none⟩ a4).setCell ⟨p, 5, none⟩ a5).cell? ⟨bi, 2, none⟩ = some (.int .u64 ua1) ∧ ((((((W.setCell ⟨p, 0, none⟩ a0).setCell ⟨p, 1, none⟩ a1).setCell ⟨p, 2, none⟩ a2).setCell ⟨p, 3, none⟩ a3).setCell ⟨p, 4, none⟩ a4).setCell ⟨p, 5, none⟩ a5).cell? ⟨bi, 3, none⟩ = some (.string sa1) ∧ ((((((W.setCell ⟨p, 0, none⟩ a0).setCell ⟨p, 1, none⟩ a1).setCell ⟨p, 2, none⟩ a2).setCell ⟨p, 3, none⟩ a3).setCell ⟨p, 4, none⟩ a4).setCell ⟨p, 5, none⟩ a5).cell? ⟨bi, 4, none⟩ = some (.slice EA1 qa1 fa1) ∧ ((((((W.setCell ⟨p, 0, none⟩ a0).setCell ⟨p, 1, none⟩ a1).setCell ⟨p, 2, none⟩ a2).setCell ⟨p, 3, none⟩ a3).setCell ⟨p, 4, none⟩ a4).setCell ⟨p, 5, none⟩ a5).cell? ⟨bi, 5, none⟩ = some (.slice GA1 ra1 ha1) := fun W p a0 a1 a2 a3 a4 a5 H hp => hallb _ (Lib.hid (below_put H.out hp.out a0 a1 a2 a3 a4 a5))
    have HBdb : Hid (Below wx.heap.size wx wx.drew) := Lib.hid (Below.refl _ wx).drew
    have HBadb : Hid (Below wx.heap.size wx (wx.alloc (.cells #[.int .i64 0, .int .i64 0, .int .u64 0, .string ⟨#[]⟩, .slice none 0 0, .slice none 0 0] 38)).drew) := Lib.hid (al0 wx _).drew
    have HLBb : Hid (wx.heap.size ≤ wx.heap.size) := Lib.hid (Nat.le_refl _)
    go_cut [8, 9] (fun s8 s9 wn => Hid (ZG wx x E s8 s9 wn))
    case first =>
      go_region_held3 (fun W => Hid (Below wx.heap.size wx W) ∧ W.cell? ⟨bi, 0, none⟩ = some (.int .i64 ka1) ∧ W.cell? ⟨bi, 1, none⟩ = some (.int .i64 na1) ∧ W.cell? ⟨bi, 2, none⟩ = some (.int .u64 ua1) ∧ W.cell? ⟨bi, 3, none⟩ = some (.string sa1) ∧ W.cell? ⟨bi, 4, none⟩ = some (.slice EA1 qa1 fa1) ∧ W.cell? ⟨bi, 5, none⟩ = some (.slice GA1 ra1 ha1)) (first | (with_reducible exact hallb _ (by assumption)) | (with_reducible exact hallb _ HBdb) | (with_reducible exact hallb _ HBadb) | (with_reducible exact hc5b _ _ (by assumption)) | (with_reducible exact hc2b _ _ _ _ _ _ _ _ (by assumption) (by assumption)))
        (first
          | (go_at_call 13; (with_reducible refine (HCBb.out _ (by first | with_reducible exact HBdb | with_reducible exact HBadb)).mono ?_); rintro e w3 ⟨A3, c3, rfl, HP3, HB3⟩; have HBB3 : Hid (Below wx.heap.size wx w3) := (by first | exact Lib.hid (tr HBdb.out HB3.out) | exact Lib.hid (tr HBadb.out HB3.out)); have HLB3 : Hid (wx.heap.size ≤ w3.heap.size) := Lib.hid HBB3.out.size; have HBB3a := Lib.hid (tr HBB3.out (al0 w3 (.cells #[.int .i64 0, .int .i64 0, .int .u64 0, .string ⟨#[]⟩, .slice none 0 0, .slice none 0 0] 38))); first | (with_reducible have HPB3 := Lib.hid (born_drew HB3.out)) | skip)
          | (go_at_call 23; (with_reducible refine (HGBb.out _ _ (by first | with_reducible exact HBB3 | with_reducible exact HBB3a) (by first | with_reducible exact HP3 | exact Lib.hid (HP3.out.below (al0 _ _)))).mono ?_); rintro e w4 ⟨ka4, na4, ua4, sa4, EA4, qa4, fa4, GA4, ra4, ha4, rfl, HO4, HB4⟩; have HBB4 : Hid (Below wx.heap.size wx w4) := (by first | exact Lib.hid (tr HBB3.out HB4.out) | exact Lib.hid (tr HBB3a.out HB4.out)); (try (have HP4 := Lib.hid (Blk.below HPB3.out HB4.out HPB3.out.lt); obtain ⟨⟨z0, z1, z2, z3, z4, z5⟩, y0, y1, y2, y3, y4, y5⟩ := Bx.both HP4.out)); (try ((with_reducible have HP5 := Lib.hid (born HB4.out)); obtain ⟨⟨z0, z1, z2, z3, z4, z5⟩, y0, y1, y2, y3, y4, y5⟩ := Bx.both HP5.out))))
      all_goals
        go_wp2_with fail
        go_meet
      all_goals
        refine Lib.hid ?_
        first
        | (with_reducible exact zg_new HBB4.out HLB3.out HO4.out)
        | (with_reducible exact zg_put HBB4.out HO4.out HP4.out (Nat.le_refl _) HPB3.out.lt)
        | (with_reducible exact zg_put HBB4.out HO4.out HP5.out HLB3.out (lt_alloc _ _))
    case rest =>
      obtain ⟨wy, hwy⟩ : ∃ wy, wy = wc := ⟨_, rfl⟩
      subst hwy
      obtain ⟨rfl, hby, p8, ka6, na6, ua6, sa6, EA6, qa6, fa6, GA6, ra6, ha6, rfl, hbo⟩ := hcut.out
      have HOY := Lib.hid hbo
      have HBY := Lib.hid (tr HBX.out hby)
      have HOX2 := Lib.hid (HOX.out.below hby)
      have HEQ := Lib.hid (eq_S x _ _ wy HQX.out.1 HQX.out.2 HOX2.out.bd.2 HOY.out.bd.2)
      obtain ⟨x0, x1, x2, x3, x4, x5⟩ := Bx.all HOX2.out.2.1
      obtain ⟨y0, y1, y2, y3, y4, y5⟩ := Bx.all HOY.out.2.1
      have hEE : (E == E) = true := by simp
      clear hcut hbo hby HCBb HGBb hallb hc5b hc2b HBdb HBadb HLBb HG HH HCU
      go_wp2_with fail
      with_reducible refine HEQ.out.mono ?_
      rintro e w5 ⟨rfl, HB5⟩
      have HB5w := Lib.hid (tr HBY.out HB5.out)
      have HOX5 := Lib.hid (HOX2.out.below HB5.out)
      have HSP := Lib.hid (spoil_S HB5w.out HOX5.out)
      clear x0 x1 x2 x3 x4 x5 y0 y1 y2 y3 y4 y5 HEQ HB5
      obtain ⟨x0, x1, x2, x3, x4, x5⟩ := Bx.all HOX5.out.2.1
      go_wp2_with fail
      with_reducible refine HSP.out.mono ?_
      rintro e w6 ⟨rfl, HB6⟩
      clear x0 x1 x2 x3 x4 x5 HSP
      have hallD : ∀ W, Hid (Below wB.heap.size wB W) → Hid (Below wB.heap.size wB W) ∧ (W.cell? ⟨bi, 0, none⟩ = some (.int .i64 ka1) ∧ W.cell? ⟨bi, 1, none⟩ = some (.int .i64 na1) ∧ W.cell? ⟨bi, 2, none⟩ = some (.int .u64 ua1) ∧ W.cell? ⟨bi, 3, none⟩ = some (.string sa1) ∧ W.cell? ⟨bi, 4, none⟩ = some (.slice EA1 qa1 fa1) ∧ W.cell? ⟨bi, 5, none⟩ = some (.slice GA1 ra1 ha1)) ∧ W.cell? ⟨w.heap.size, 0, none⟩ = some (.int .i64 ka0) ∧ W.cell? ⟨w.heap.size, 1, none⟩ = some (.int .i64 na0) ∧ W.cell? ⟨w.heap.size, 2, none⟩ = some (.int .u64 ua0) ∧ W.cell? ⟨w.heap.size, 3, none⟩ = some (.string sa0) ∧ W.cell? ⟨w.heap.size, 4, none⟩ = some (.slice EA0 qa0 fa0) ∧ W.cell? ⟨w.heap.size, 5, none⟩ = some (.slice GA0 ra0 ha0) := fun W H => ⟨H, Bx.all (HD1.out.below H.out).1, Bx.all (HT1.out.below H.out HT1.out.lt)⟩
      have HFW2 : Hid (∀ W, Hid (Below wB.heap.size wB W) → Calls Tryz.prog 21 #[.agg #[.int .i64 ka0, .int .i64 na0, .int .u64 ua0, .string sa0, .slice EA0 qa0 fa0, .slice GA0 ra0 ha0]] W fun e w' => ∃ (ka7 na7 ua7 : Int) (sa7 : ByteArray) (EA7 : Option Addr) (qa7 fa7 : Nat) (GA7 : Option Addr) (ra7 ha7 : Nat), e = .returned (.agg #[.int .i64 ka7, .int .i64 na7, .int .u64 ua7, .string sa7, .slice EA7 qa7 fa7, .slice GA7 ra7 ha7]) ∧ Hid (Nd w' t1 [.int .i64 ka7, .int .i64 na7, .int .u64 ua7, .string sa7, .slice EA7 qa7 fa7, .slice GA7 ra7 ha7]) ∧ Hid (Below W.heap.size W w')) := Lib.hid fun W H => (HFW.out W (tr HB1.out H.out)).mono (by
        rintro e w' ⟨ka7, na7, ua7, sa7, EA7, qa7, fa7, GA7, ra7, ha7, rfl, h1, h2⟩
        exact ⟨ka7, na7, ua7, sa7, EA7, qa7, fa7, GA7, ra7, ha7, rfl, Lib.hid (NdO.nd _ _ h1.out), h2⟩)
      have HEQ2 : Hid (∀ W (ka7 na7 ua7 : Int) (sa7 : ByteArray) (EA7 : Option Addr) (qa7 fa7 : Nat) (GA7 : Option Addr) (ra7 ha7 : Nat), Hid (Below wB.heap.size wB W) → Hid (Nd W t1 [.int .i64 ka7, .int .i64 na7, .int .u64 ua7, .string sa7, .slice EA7 qa7 fa7, .slice GA7 ra7 ha7]) → Calls Tryz.prog 24 #[.agg #[.int .i64 ka1, .int .i64 na1, .int .u64 ua1, .string sa1, .slice EA1 qa1 fa1, .slice GA1 ra1 ha1], .agg #[.int .i64 ka7, .int .i64 na7, .int .u64 ua7, .string sa7, .slice EA7 qa7 fa7, .slice GA7 ra7 ha7]] W fun e w' => e = .returned (.bool true) ∧ Hid (Below W.heap.size W w')) := Lib.hid fun W ka7 na7 ua7 sa7 EA7 qa7 fa7 GA7 ra7 ha7 H h => eq_S t1 _ _ W HQ1.out.1 HQ1.out.2 (HD1.out.below H.out).2 h.out
      have HWK : Hid (∀ W, Hid (Below wB.heap.size wB W) → Calls Tryz.prog 17 #[] W fun e w' => e = .returned (.bool true) ∧ Hid (Below W.heap.size W w')) := Lib.hid fun W H => works_S8 HL.out (tr HB1.out H.out)
      have HB6d : Hid (Below wB.heap.size wB w6.drew) := Lib.hid (HB6.out.drew)
      obtain ⟨_, ⟨x0, x1, x2, x3, x4, x5⟩, y0, y1, y2, y3, y4, y5⟩ := hallD w6 HB6
      clear HOX HOX2 HOX5 HOY HBX HBY HB5w HBWb HDib HFW
      go_upto_region 6 with fail
      go_region_held3 (fun W => Hid (Below wB.heap.size wB W) ∧ (W.cell? ⟨bi, 0, none⟩ = some (.int .i64 ka1) ∧ W.cell? ⟨bi, 1, none⟩ = some (.int .i64 na1) ∧ W.cell? ⟨bi, 2, none⟩ = some (.int .u64 ua1) ∧ W.cell? ⟨bi, 3, none⟩ = some (.string sa1) ∧ W.cell? ⟨bi, 4, none⟩ = some (.slice EA1 qa1 fa1) ∧ W.cell? ⟨bi, 5, none⟩ = some (.slice GA1 ra1 ha1)) ∧ W.cell? ⟨w.heap.size, 0, none⟩ = some (.int .i64 ka0) ∧ W.cell? ⟨w.heap.size, 1, none⟩ = some (.int .i64 na0) ∧ W.cell? ⟨w.heap.size, 2, none⟩ = some (.int .u64 ua0) ∧ W.cell? ⟨w.heap.size, 3, none⟩ = some (.string sa0) ∧ W.cell? ⟨w.heap.size, 4, none⟩ = some (.slice EA0 qa0 fa0) ∧ W.cell? ⟨w.heap.size, 5, none⟩ = some (.slice GA0 ra0 ha0)) (first | (with_reducible exact hallD _ (by assumption)) | (with_reducible exact hallD _ HB6d))
        (first
          | (go_at_call 21; (with_reducible refine (HFW2.out _ (by first | assumption | with_reducible exact HB6d)).mono ?_); rintro e w7 ⟨ka7, na7, ua7, sa7, EA7, qa7, fa7, GA7, ra7, ha7, rfl, HN7, HB7⟩; have HBB7 : Hid (Below wB.heap.size wB w7) := (by first | exact Lib.hid (tr HB6d.out HB7.out) | exact Lib.hid (tr HB6.out HB7.out)))
          | (go_at_call 24; (with_reducible refine (HEQ2.out _ _ _ _ _ _ _ _ _ _ _ HBB7 HN7).mono ?_); rintro e w8 ⟨rfl, HB8⟩; have HBB8 := Lib.hid (tr HBB7.out HB8.out))
          | (go_at_call 17; (with_reducible refine (HWK.out _ HBB8).mono ?_); rintro e w9 ⟨rfl, HB9⟩; have HBB9 := Lib.hid (tr HBB8.out HB9.out)))
      all_goals
        go_wp2_with fail
        go_ret
        exact ⟨rfl, tr HB1.out HBB9.out⟩
end Go.Proofs.YtjnfilbdokppiaaGreatDoor
