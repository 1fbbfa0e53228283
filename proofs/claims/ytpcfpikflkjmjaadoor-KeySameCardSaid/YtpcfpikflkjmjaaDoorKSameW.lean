/-
  What is proved here: the law KeySame returns true; condition: the table of package tree holds what is laid.
-/
import Derived.Test.YtpcfpikflkjmjaaDoorLaw
import Derived.Test.YtpcfpikflkjmjaaDoorTurned
import Derived.Test.YtpcfpikflkjmjaaDoorBring
import Derived.Test.YtpcfpikflkjmjaaDoorKWorks
import Derived.Deep.DeepCutAuto
import Derived.Deep.RegionHeld3
namespace Go.Proofs.YtpcfpikflkjmjaaDoor
open Go.RowKit Go.Sort

theorem t0_qq : QQ T0 := ⟨by decide, by decide, by decide, by simp, trivial⟩
theorem nd_t0 (w : World) : Nd w T0 [.int .i64 0, .int .i64 0, .int .u64 0, .string ⟨#[]⟩, .slice none 0 0, .slice none 0 0] := NdO.nd _ _ (ndo_zero (fun _ => True) w)
theorem bring_all (n : Int) : ∃ b : Nat, b ≤ 1000 ∧ ∀ w, Calls Tryd.prog 22 #[.int .i64 n, .int .i64 120] w fun e w' => e = .returned (.int .i64 (b : Int)) ∧ w = w' := by
  refine ⟨(n % 120).toNat, by omega, fun w => ?_⟩
  rw [Int.toNat_of_nonneg (by omega)]
  exact bring_small n 120 w (by omega) (by omega)
/-- Behind the statement that makes the second tree. -/
def ZS (A : World) (B : T) (s8 s9 : Value) (W : World) : Prop := s9 = .int .i64 0 ∧ Below A.heap.size A W ∧ ∃ (p : Nat) (kaz naz uaz : Int) (saz : ByteArray) (EAz : Option Addr) (qaz faz : Nat) (GAz : Option Addr) (raz haz : Nat), s8 = .pointer (some ⟨p, 0, none⟩) ∧ Bd W p B (.int .i64 kaz) (.int .i64 naz) (.int .u64 uaz) (.string saz) (.slice EAz qaz faz) (.slice GAz raz haz)
theorem zs_new {A w4 : World} {B : T} {lo : Nat} {kaz naz uaz : Int} {saz : ByteArray} {EAz : Option Addr} {qaz faz : Nat} {GAz : Option Addr} {raz haz : Nat} (h : Below A.heap.size A w4) (ho : NdO (fun b => lo ≤ b) w4 B [.int .i64 kaz, .int .i64 naz, .int .u64 uaz, .string saz, .slice EAz qaz faz, .slice GAz raz haz]) :
    ZS A B (.pointer (some ⟨w4.heap.size, 0, none⟩)) (.int .i64 0) (w4.alloc (.cells #[.int .i64 kaz, .int .i64 naz, .int .u64 uaz, .string saz, .slice EAz qaz faz, .slice GAz raz haz] 26)) := ⟨rfl, tr h (al0 _ _), _, kaz, naz, uaz, saz, EAz, qaz, faz, GAz, raz, haz, rfl, Bd.new (NdO.nd _ _ ho)⟩
theorem zs_put {A w4 : World} {B : T} {lo p : Nat} {z0 z1 z2 z3 z4 z5 : Value} {kaz naz uaz : Int} {saz : ByteArray} {EAz : Option Addr} {qaz faz : Nat} {GAz : Option Addr} {raz haz : Nat} (h : Below A.heap.size A w4) (ho : NdO (fun b => lo ≤ b) w4 B [.int .i64 kaz, .int .i64 naz, .int .u64 uaz, .string saz, .slice EAz qaz faz, .slice GAz raz haz]) (hB : Bx w4 p z0 z1 z2 z3 z4 z5) (h1 : A.heap.size ≤ p) (h2 : p < lo) :
    ZS A B (.pointer (some ⟨p, 0, none⟩)) (.int .i64 0) ((((((w4.setCell ⟨p, 0, none⟩ (.int .i64 kaz)).setCell ⟨p, 1, none⟩ (.int .i64 naz)).setCell ⟨p, 2, none⟩ (.int .u64 uaz)).setCell ⟨p, 3, none⟩ (.string saz)).setCell ⟨p, 4, none⟩ (.slice EAz qaz faz)).setCell ⟨p, 5, none⟩ (.slice GAz raz haz)) := ⟨rfl, below_put h h1 _ _ _ _ _ _, p, kaz, naz, uaz, saz, EAz, qaz, faz, GAz, raz, haz, rfl, Bd.put hB ho h2⟩
theorem lt_alloc (w : World) (o : Obj) : w.heap.size < (w.alloc o).heap.size := by simp

set_option maxRecDepth 100000 in
set_option maxHeartbeats 4000000 in
theorem keySame_walk (t : T) (cs : List Value) (N : Int) (w : World) (hT : Tab w) (hnd : Nd w t cs) : Calls Tryd.prog 4 #[.agg cs.toArray, .int .i64 N] w fun e w' => e = .returned (.bool true) ∧ Below w.heap.size w w' := by
  have HT := Lib.hid hT
  obtain ⟨ka0, na0, ua0, sa0, EA0, qa0, fa0, GA0, ra0, ha0, rfl⟩ := hnd.shape
  have HN := Lib.hid hnd
  obtain ⟨t1, ht1⟩ : ∃ t1, fewT t = t1 := ⟨_, rfl⟩
  have HQ : Hid (QQ t1 ∧ sz t1 ≤ 60000) := Lib.hid (by rw [← ht1]; exact ⟨fewT_qq t, by have := fewT_sz t; omega⟩)
  have HC : Hid (∀ W, Below w.heap.size w W → Calls Tryd.prog 13 #[.agg #[.int .i64 ka0, .int .i64 na0, .int .u64 ua0, .string sa0, .slice EA0 qa0 fa0, .slice GA0 ra0 ha0], .int .i64 120, .int .i64 60] W fun e w' => ∃ (ka1 na1 ua1 : Int) (sa1 : ByteArray) (EA1 : Option Addr) (qa1 fa1 : Nat) (GA1 : Option Addr) (ra1 ha1 : Nat), e = .returned (.agg #[.int .i64 ka1, .int .i64 na1, .int .u64 ua1, .string sa1, .slice EA1 qa1 fa1, .slice GA1 ra1 ha1]) ∧ Hid (Nd w' t1 [.int .i64 ka1, .int .i64 na1, .int .u64 ua1, .string sa1, .slice EA1 qa1 fa1, .slice GA1 ra1 ha1]) ∧ Hid (Below W.heap.size W w')) := Lib.hid fun W hb => by
    refine (cutS_any t _ W (HN.out.bel hb)).mono ?_
    rintro e w' ⟨ka1, na1, ua1, sa1, EA1, qa1, fa1, GA1, ra1, ha1, rfl, h1, h2⟩
    rw [ht1] at h1
    exact ⟨ka1, na1, ua1, sa1, EA1, qa1, fa1, GA1, ra1, ha1, rfl, Lib.hid (NdO.nd _ _ h1.out), h2⟩
  clear hT hnd ht1
  go_enter Tryd.func4, Tryd.ntmps4
  go_wp2_with fail
  with_reducible refine (HC.out _ (al0 w _)).mono ?_
  rintro e w1 ⟨ka1, na1, ua1, sa1, EA1, qa1, fa1, GA1, ra1, ha1, rfl, HN1, hb1⟩
  have HB1 := Lib.hid (tr (al hb1.out) (al0 w1 (.cells #[.int .i64 ka1, .int .i64 na1, .int .u64 ua1, .string sa1, .slice EA1 qa1 fa1, .slice GA1 ra1 ha1] 26)))
  have HD1 := Lib.hid (Bd.new HN1.out)
  clear hb1 HC HN HN1
  by_cases hc : chk t1 = 0
  · have HOK : Hid (okT t1) := Lib.hid ((chk_zero t1).1 hc).1
    have HS := Lib.hid (sorted_okO t1 _ _ (HT.out.keep HB1.out) HQ.out.1 hc HD1.out.2)
    have HCZ := Lib.hid hc
    clear hc
    go_wp2_with fail
    with_reducible refine HS.out.mono ?_
    rintro e w2 ⟨t2, ka2, na2, ua2, sa2, EA2, qa2, fa2, GA2, ra2, ha2, rfl, HSR, HO2, hb2⟩
    have HBB := Lib.hid (tr HB1.out (tr hb2.out (al0 w2 (.cells #[.int .i64 ka2, .int .i64 na2, .int .u64 ua2, .string sa2, .slice EA2 qa2 fa2, .slice GA2 ra2 ha2] 26))))
    have HDi := Lib.hid (HD1.out.below (tr hb2.out (al0 w2 (.cells #[.int .i64 ka2, .int .i64 na2, .int .u64 ua2, .string sa2, .slice EA2 qa2 fa2, .slice GA2 ra2 ha2] 26))))
    have HDa := Lib.hid (Bd.new (NdO.nd _ _ HO2.out))
    clear hb2 HO2 HS HB1 HD1
    go_upto_region 5 with fail
    obtain ⟨wB, hwB⟩ : ∃ wB, w2.alloc (.cells #[.int .i64 ka2, .int .i64 na2, .int .u64 ua2, .string sa2, .slice EA2 qa2 fa2, .slice GA2 ra2 ha2] 26) = wB := ⟨_, rfl⟩
    obtain ⟨ba, hba⟩ : ∃ ba, w2.heap.size = ba := ⟨_, rfl⟩
    obtain ⟨bi, hbi⟩ : ∃ bi, w1.heap.size = bi := ⟨_, rfl⟩
    rw [hwB] at HBB HDi HDa
    rw [hba] at HDa
    rw [hbi] at HDi
    simp only [hwB, hba, hbi]
    clear hwB hba hbi
    have HM : Hid (mpT t1) := Lib.hid (okT_mpT HOK.out)
    have HPM : Hid (Pm t1 t2) := Lib.hid (Srt.pm HM.out HSR.out)
    obtain ⟨b, hb1000, hbr⟩ := bring_all N
    have HBR := Lib.hid hbr
    obtain ⟨t3, ht3⟩ : ∃ t3, turnT b t1 = t3 := ⟨_, rfl⟩
    have HT3 : Hid (chk t3 = 0 ∧ QQ t3 ∧ Srt t3 t2) := Lib.hid (by
      rw [← ht3]
      exact ⟨(turn_pm b HOK.out).chk HCZ.out, (turn_pm b HOK.out).qq HQ.out.1, Srt.turn b HOK.out HSR.out⟩)
    have HTU : Hid (∀ W, Hid (Below wB.heap.size wB W) → Calls Tryd.prog 21 #[.agg #[.int .i64 ka1, .int .i64 na1, .int .u64 ua1, .string sa1, .slice EA1 qa1 fa1, .slice GA1 ra1 ha1], .int .i64 (b : Int)] W fun e w' => ∃ (ka3 na3 ua3 : Int) (sa3 : ByteArray) (EA3 : Option Addr) (qa3 fa3 : Nat) (GA3 : Option Addr) (ra3 ha3 : Nat), e = .returned (.agg #[.int .i64 ka3, .int .i64 na3, .int .u64 ua3, .string sa3, .slice EA3 qa3 fa3, .slice GA3 ra3 ha3]) ∧ Hid (Nd w' t3 [.int .i64 ka3, .int .i64 na3, .int .u64 ua3, .string sa3, .slice EA3 qa3 fa3, .slice GA3 ra3 ha3]) ∧ Hid (Below W.heap.size W w')) := Lib.hid fun W H => by
      refine (turned_any b hb1000 (dp t1) t1 _ W (Nat.le_refl _) HQ.out.2 HQ.out.1.2 HM.out (HDi.out.below H.out).2).mono ?_
      rintro e w' ⟨⟨cs', rfl, h1⟩, h2⟩
      obtain ⟨ka3, na3, ua3, sa3, EA3, qa3, fa3, GA3, ra3, ha3, rfl⟩ := h1.shape6
      rw [ht3] at h1
      exact ⟨ka3, na3, ua3, sa3, EA3, qa3, fa3, GA3, ra3, ha3, rfl, Lib.hid (NdO.nd _ _ h1), Lib.hid h2⟩
    have HST : Hid (∀ (W : World) (ka3 na3 ua3 : Int) (sa3 : ByteArray) (EA3 : Option Addr) (qa3 fa3 : Nat) (GA3 : Option Addr) (ra3 ha3 : Nat), Hid (Below wB.heap.size wB W) → Hid (Nd W t3 [.int .i64 ka3, .int .i64 na3, .int .u64 ua3, .string sa3, .slice EA3 qa3 fa3, .slice GA3 ra3 ha3]) → Calls Tryd.prog 14 #[.agg #[.int .i64 ka3, .int .i64 na3, .int .u64 ua3, .string sa3, .slice EA3 qa3 fa3, .slice GA3 ra3 ha3]] W fun e w' => ∃ (ka4 na4 ua4 : Int) (sa4 : ByteArray) (EA4 : Option Addr) (qa4 fa4 : Nat) (GA4 : Option Addr) (ra4 ha4 : Nat), e = .returned (.tuple #[.agg #[.int .i64 ka4, .int .i64 na4, .int .u64 ua4, .string sa4, .slice EA4 qa4 fa4, .slice GA4 ra4 ha4], .int .i64 0]) ∧ Hid (NdO (fun b => W.heap.size ≤ b) w' t2 [.int .i64 ka4, .int .i64 na4, .int .u64 ua4, .string sa4, .slice EA4 qa4 fa4, .slice GA4 ra4 ha4]) ∧ Hid (Below W.heap.size W w')) := Lib.hid fun W ka3 na3 ua3 sa3 EA3 qa3 fa3 GA3 ra3 ha3 H H2 =>
      sorted_is t3 t2 _ W (HT.out.keep (tr HBB.out H.out)) HT3.out.2.1 HT3.out.1 HT3.out.2.2 H2.out
    clear hbr ht3
    have hall : ∀ W, Hid (Below wB.heap.size wB W) → Hid (Below wB.heap.size wB W) ∧ W.cell? ⟨bi, 0, none⟩ = some (.int .i64 ka1) ∧ W.cell? ⟨bi, 1, none⟩ = some (.int .i64 na1) ∧ W.cell? ⟨bi, 2, none⟩ = some (.int .u64 ua1) ∧ W.cell? ⟨bi, 3, none⟩ = some (.string sa1) ∧ W.cell? ⟨bi, 4, none⟩ = some (.slice EA1 qa1 fa1) ∧ W.cell? ⟨bi, 5, none⟩ = some (.slice GA1 ra1 ha1) := fun W H => ⟨H, Bx.all (HDi.out.below H.out).1⟩
    have hset : ∀ (W : World) (p : Nat) (a0 a1 a2 a3 a4 a5 : Value), Hid (Below wB.heap.size wB W) → Hid (wB.heap.size ≤ p) → Hid (Below wB.heap.size wB ((((((W.setCell ⟨p, 0, none⟩ a0).setCell ⟨p, 1, none⟩ a1).setCell ⟨p, 2, none⟩ a2).setCell ⟨p, 3, none⟩ a3).setCell ⟨p, 4, none⟩ a4).setCell ⟨p, 5, none⟩ a5)) := fun W p a0 a1 a2 a3 a4 a5 H hp => Lib.hid (below_put H.out hp.out a0 a1 a2 a3 a4 a5)
    have hc5 : ∀ (W : World) (ob : Obj), Hid (Below wB.heap.size wB W) → Hid (Below wB.heap.size wB (W.alloc ob)) ∧ (W.alloc ob).cell? ⟨bi, 0, none⟩ = some (.int .i64 ka1) ∧ (W.alloc ob).cell? ⟨bi, 1, none⟩ = some (.int .i64 na1) ∧ (W.alloc ob).cell? ⟨bi, 2, none⟩ = some (.int .u64 ua1) ∧ (W.alloc ob).cell? ⟨bi, 3, none⟩ = some (.string sa1) ∧ (W.alloc ob).cell? ⟨bi, 4, none⟩ = some (.slice EA1 qa1 fa1) ∧ (W.alloc ob).cell? ⟨bi, 5, none⟩ = some (.slice GA1 ra1 ha1) := fun W ob H => hall _ (Lib.hid (tr H.out (al0 W ob)))
    have hc2 : ∀ (W : World) (p : Nat) (a0 a1 a2 a3 a4 a5 : Value), Hid (Below wB.heap.size wB W) → Hid (wB.heap.size ≤ p) → Hid (Below wB.heap.size wB ((((((W.setCell ⟨p, 0, none⟩ a0).setCell ⟨p, 1, none⟩ a1).setCell ⟨p, 2, none⟩ a2).setCell ⟨p, 3, none⟩ a3).setCell ⟨p, 4, none⟩ a4).setCell ⟨p, 5, none⟩ a5)) ∧ ((((((W.setCell ⟨p, 0, none⟩ a0).setCell ⟨p, 1, none⟩ a1).setCell ⟨p, 2, none⟩ a2).setCell ⟨p, 3, none⟩ a3).setCell ⟨p, 4, none⟩ a4).setCell ⟨p, 5, none⟩ a5).cell? ⟨bi, 0, none⟩ = some (.int .i64 ka1) ∧ ((((((W.setCell ⟨p, 0, none⟩ a0).setCell ⟨p, 1, none⟩ a1).setCell ⟨p, 2, none⟩ a2).setCell ⟨p, 3, none⟩ a3).setCell ⟨p, 4, none⟩ a4).setCell ⟨p, 5, none⟩ a5).cell? ⟨bi, 1, none⟩ = some (.int .i64 na1) ∧ ((((((W.setCell ⟨p, 0, none⟩ a0).setCell ⟨p, 1, none⟩ a1).setCell ⟨p, 2, none⟩ a2).setCell ⟨p, 3, none⟩ a3).setCell ⟨p, 4, none⟩ a4).setCell ⟨p, 5, none⟩ a5).cell? ⟨bi, 2, none⟩ = some (.int .u64 ua1) ∧ ((((((W.setCell ⟨p, 0, none⟩ a0).setCell ⟨p, 1, none⟩ a1).setCell ⟨p, 2, none⟩ a2).setCell ⟨p, 3, none⟩ a3).setCell ⟨p, 4, none⟩ a4).setCell ⟨p, 5, none⟩ a5).cell? ⟨bi, 3, none⟩ = some (.string sa1) ∧ ((((((W.setCell ⟨p, 0, none⟩ a0).setCell ⟨p, 1, none⟩ a1).setCell ⟨p, 2, none⟩ a2).setCell ⟨p, 3, none⟩ a3).setCell ⟨p, 4, none⟩ a4).setCell ⟨p, 5, none⟩ a5).cell? ⟨bi, 4, none⟩ = some (.slice EA1 qa1 fa1) ∧ ((((((W.setCell ⟨p, 0, none⟩ a0).setCell ⟨p, 1, none⟩ a1).setCell ⟨p, 2, none⟩ a2).setCell ⟨p, 3, none⟩ a3).setCell ⟨p, 4, none⟩ a4).setCell ⟨p, 5, none⟩ a5).cell? ⟨bi, 5, none⟩ = some (.slice GA1 ra1 ha1) := fun W p a0 a1 a2 a3 a4 a5 H hp => hall _ (hset W p a0 a1 a2 a3 a4 a5 H hp)
    have HBd : Hid (Below wB.heap.size wB wB.drew) := Lib.hid (Below.refl _ wB).drew
    have HBad : Hid (Below wB.heap.size wB (wB.alloc (.cells #[.int .i64 0, .int .i64 0, .int .u64 0, .string ⟨#[]⟩, .slice none 0 0, .slice none 0 0] 26)).drew) := Lib.hid (al0 wB _).drew
    have HLB : Hid (wB.heap.size ≤ wB.heap.size) := Lib.hid (Nat.le_refl _)
    go_cut [8, 9] (fun s8 s9 wx => Hid (ZS wB t2 s8 s9 wx))
    case first =>
      go_region_held3 (fun W => Hid (Below wB.heap.size wB W) ∧ W.cell? ⟨bi, 0, none⟩ = some (.int .i64 ka1) ∧ W.cell? ⟨bi, 1, none⟩ = some (.int .i64 na1) ∧ W.cell? ⟨bi, 2, none⟩ = some (.int .u64 ua1) ∧ W.cell? ⟨bi, 3, none⟩ = some (.string sa1) ∧ W.cell? ⟨bi, 4, none⟩ = some (.slice EA1 qa1 fa1) ∧ W.cell? ⟨bi, 5, none⟩ = some (.slice GA1 ra1 ha1)) (first | (with_reducible exact hall _ (by assumption)) | (with_reducible exact hall _ HBd) | (with_reducible exact hall _ HBad) | (with_reducible exact hc5 _ _ (by assumption)) | (with_reducible exact hc2 _ _ _ _ _ _ _ _ (by assumption) (by assumption)))
        (first
          | (go_at_call 22; (with_reducible refine (HBR.out _).mono ?_); rintro e w' ⟨rfl, rfl⟩)
          | (go_at_call 21; (with_reducible refine (HTU.out _ (by first | with_reducible exact HBd | with_reducible exact HBad)).mono ?_); rintro e w3 ⟨ka3, na3, ua3, sa3, EA3, qa3, fa3, GA3, ra3, ha3, rfl, HN3, HB3⟩; have HBB3 : Hid (Below wB.heap.size wB w3) := (by first | exact Lib.hid (tr HBd.out HB3.out) | exact Lib.hid (tr HBad.out HB3.out)); have HLB3 : Hid (wB.heap.size ≤ w3.heap.size) := Lib.hid HBB3.out.size; have HBB3a := Lib.hid (tr HBB3.out (al0 w3 (.cells #[.int .i64 0, .int .i64 0, .int .u64 0, .string ⟨#[]⟩, .slice none 0 0, .slice none 0 0] 26))); first | (with_reducible have HP3 := Lib.hid (born_drew HB3.out)) | skip)
          | (go_at_call 14; (with_reducible refine (HST.out _ _ _ _ _ _ _ _ _ _ _ (by first | with_reducible exact HBB3 | with_reducible exact HBB3a) (by first | with_reducible exact HN3 | exact Lib.hid (HN3.out.bel (al0 _ _)))).mono ?_); rintro e w4 ⟨ka4, na4, ua4, sa4, EA4, qa4, fa4, GA4, ra4, ha4, rfl, HO4, HB4⟩; have HBB4 : Hid (Below wB.heap.size wB w4) := (by first | exact Lib.hid (tr HBB3.out HB4.out) | exact Lib.hid (tr HBB3a.out HB4.out)); (try (have HP4 := Lib.hid (Blk.below HP3.out HB4.out HP3.out.lt); obtain ⟨⟨z0, z1, z2, z3, z4, z5⟩, y0, y1, y2, y3, y4, y5⟩ := Bx.both HP4.out)); (try ((with_reducible have HP5 := Lib.hid (born HB4.out)); obtain ⟨⟨z0, z1, z2, z3, z4, z5⟩, y0, y1, y2, y3, y4, y5⟩ := Bx.both HP5.out))))
      all_goals
        go_wp2_with fail
        go_meet
      all_goals
        refine Lib.hid ?_
        first
        | (with_reducible exact zs_new HBB4.out HO4.out)
        | (with_reducible refine zs_put HBB4.out HO4.out HP4.out (Nat.le_refl _) HP3.out.lt)
        | (with_reducible refine zs_put HBB4.out HO4.out HP5.out HLB3.out (lt_alloc _ _))
    case rest =>
      obtain ⟨wx, hwx⟩ : ∃ wx, wx = wc := ⟨_, rfl⟩
      subst hwx
      obtain ⟨rfl, hbx, p, ka4, na4, ua4, sa4, EA4, qa4, fa4, GA4, ra4, ha4, rfl, hd4⟩ := hcut.out
      have HD4 := Lib.hid hd4
      have HBX := Lib.hid hbx
      have HDi2 := Lib.hid (HDi.out.below hbx)
      have HDa2 := Lib.hid (HDa.out.below hbx)
      have HSI := Lib.hid (sorted_is t2 t2 _ wx (HT.out.keep (tr HBB.out hbx)) (HPM.out.qq HQ.out.1) (HPM.out.chk HCZ.out) (Srt.idem HM.out HSR.out) HDa2.out.2)
      obtain ⟨x0, x1, x2, x3, x4, x5⟩ := Bx.all HDa2.out.1
      clear hcut hd4 hbx HTU HST hall hset HBd HBad HLB HBR HT3 HDi HDa
      go_wp2_with fail
      with_reducible refine HSI.out.mono ?_
      rintro e w5 ⟨ka5, na5, ua5, sa5, EA5, qa5, fa5, GA5, ra5, ha5, rfl, HO5, hb5⟩
      clear x0 x1 x2 x3 x4 x5 HSI
      obtain ⟨wE, hwE⟩ : ∃ wE, w5.alloc (.cells #[.int .i64 ka5, .int .i64 na5, .int .u64 ua5, .string sa5, .slice EA5 qa5 fa5, .slice GA5 ra5 ha5] 26) = wE := ⟨_, rfl⟩
      obtain ⟨bc, hbc⟩ : ∃ bc, w5.heap.size = bc := ⟨_, rfl⟩
      have HBE : Hid (Below wx.heap.size wx wE) := Lib.hid (by rw [← hwE]; exact tr hb5.out (al0 _ _))
      have HD5 : Hid (Bd wE bc t2 (.int .i64 ka5) (.int .i64 na5) (.int .u64 ua5) (.string sa5) (.slice EA5 qa5 fa5) (.slice GA5 ra5 ha5)) := Lib.hid (by rw [← hwE, ← hbc]; exact Bd.new (NdO.nd _ _ HO5.out))
      have HE1 := Lib.hid (HDi2.out.below HBE.out)
      have HE2 := Lib.hid (HDa2.out.below HBE.out)
      have HE4 := Lib.hid (HD4.out.below HBE.out)
      have HWE : Hid (Below w.heap.size w wE) := Lib.hid (tr (tr HBB.out HBX.out) HBE.out)
      clear HD4 HDi2 HDa2 HBE HBX hb5 HO5 HBB
      have hall : ∀ W, Hid (Below wE.heap.size wE W) → Hid (Below wE.heap.size wE W) ∧ W.cell? ⟨bi, 0, none⟩ = some (.int .i64 ka1) ∧ W.cell? ⟨bi, 1, none⟩ = some (.int .i64 na1) ∧ W.cell? ⟨bi, 2, none⟩ = some (.int .u64 ua1) ∧ W.cell? ⟨bi, 3, none⟩ = some (.string sa1) ∧ W.cell? ⟨bi, 4, none⟩ = some (.slice EA1 qa1 fa1) ∧ W.cell? ⟨bi, 5, none⟩ = some (.slice GA1 ra1 ha1) ∧ W.cell? ⟨ba, 0, none⟩ = some (.int .i64 ka2) ∧ W.cell? ⟨ba, 1, none⟩ = some (.int .i64 na2) ∧ W.cell? ⟨ba, 2, none⟩ = some (.int .u64 ua2) ∧ W.cell? ⟨ba, 3, none⟩ = some (.string sa2) ∧ W.cell? ⟨ba, 4, none⟩ = some (.slice EA2 qa2 fa2) ∧ W.cell? ⟨ba, 5, none⟩ = some (.slice GA2 ra2 ha2) ∧ W.cell? ⟨p, 0, none⟩ = some (.int .i64 ka4) ∧ W.cell? ⟨p, 1, none⟩ = some (.int .i64 na4) ∧ W.cell? ⟨p, 2, none⟩ = some (.int .u64 ua4) ∧ W.cell? ⟨p, 3, none⟩ = some (.string sa4) ∧ W.cell? ⟨p, 4, none⟩ = some (.slice EA4 qa4 fa4) ∧ W.cell? ⟨p, 5, none⟩ = some (.slice GA4 ra4 ha4) ∧ W.cell? ⟨bc, 0, none⟩ = some (.int .i64 ka5) ∧ W.cell? ⟨bc, 1, none⟩ = some (.int .i64 na5) ∧ W.cell? ⟨bc, 2, none⟩ = some (.int .u64 ua5) ∧ W.cell? ⟨bc, 3, none⟩ = some (.string sa5) ∧ W.cell? ⟨bc, 4, none⟩ = some (.slice EA5 qa5 fa5) ∧ W.cell? ⟨bc, 5, none⟩ = some (.slice GA5 ra5 ha5) := fun W H => by
        have h1 := (HE1.out.below H.out).1.all
        have h2 := (HE2.out.below H.out).1.all
        have h4 := (HE4.out.below H.out).1.all
        have h5 := (HD5.out.below H.out).1.all
        refine ⟨H, h1.1, h1.2.1, h1.2.2.1, h1.2.2.2.1, h1.2.2.2.2.1, h1.2.2.2.2.2, h2.1, h2.2.1, h2.2.2.1, h2.2.2.2.1, h2.2.2.2.2.1, h2.2.2.2.2.2, h4.1, h4.2.1, h4.2.2.1, h4.2.2.2.1, h4.2.2.2.2.1, h4.2.2.2.2.2, h5⟩
      have HQ2 : Hid (QQ t2) := Lib.hid (HPM.out.qq HQ.out.1)
      have H24 : Hid (∀ W, Hid (Below wE.heap.size wE W) → Calls Tryd.prog 20 #[.agg #[.int .i64 ka2, .int .i64 na2, .int .u64 ua2, .string sa2, .slice EA2 qa2 fa2, .slice GA2 ra2 ha2], .agg #[.int .i64 ka4, .int .i64 na4, .int .u64 ua4, .string sa4, .slice EA4 qa4 fa4, .slice GA4 ra4 ha4]] W fun e w' => e = .returned (.bool true) ∧ Hid (Below wE.heap.size wE w')) := Lib.hid fun W H => (same_eq t2 _ _ W HQ2.out (HE2.out.below H.out).2 (HE4.out.below H.out).2).mono fun e w' h => ⟨h.1, Lib.hid (tr H.out h.2.out)⟩
      have H25 : Hid (∀ W, Hid (Below wE.heap.size wE W) → Calls Tryd.prog 20 #[.agg #[.int .i64 ka2, .int .i64 na2, .int .u64 ua2, .string sa2, .slice EA2 qa2 fa2, .slice GA2 ra2 ha2], .agg #[.int .i64 ka5, .int .i64 na5, .int .u64 ua5, .string sa5, .slice EA5 qa5 fa5, .slice GA5 ra5 ha5]] W fun e w' => e = .returned (.bool true) ∧ Hid (Below wE.heap.size wE w')) := Lib.hid fun W H => (same_eq t2 _ _ W HQ2.out (HE2.out.below H.out).2 (HD5.out.below H.out).2).mono fun e w' h => ⟨h.1, Lib.hid (tr H.out h.2.out)⟩
      obtain ⟨N1, hN1⟩ : ∃ N1, sz t1 = N1 := ⟨_, rfl⟩
      obtain ⟨D1, hD1⟩ : ∃ D1, dp t1 = D1 := ⟨_, rfl⟩
      have HZ2 : Hid (∀ W, Hid (Below wE.heap.size wE W) → Calls Tryd.prog 23 #[.agg #[.int .i64 ka2, .int .i64 na2, .int .u64 ua2, .string sa2, .slice EA2 qa2 fa2, .slice GA2 ra2 ha2]] W fun e w' => e = .returned (.int .i64 (N1 : Int)) ∧ Hid (Below wE.heap.size wE w')) := Lib.hid fun W H => (size_any t2 _ W HQ2.out.1 (HE2.out.below H.out).2).mono fun e w' h => ⟨by rw [h.1, HPM.out.sz, hN1], Lib.hid (tr H.out h.2)⟩
      have HZ1 : Hid (∀ W, Hid (Below wE.heap.size wE W) → Calls Tryd.prog 23 #[.agg #[.int .i64 ka1, .int .i64 na1, .int .u64 ua1, .string sa1, .slice EA1 qa1 fa1, .slice GA1 ra1 ha1]] W fun e w' => e = .returned (.int .i64 (N1 : Int)) ∧ Hid (Below wE.heap.size wE w')) := Lib.hid fun W H => (size_any t1 _ W HQ.out.1.1 (HE1.out.below H.out).2).mono fun e w' h => ⟨by rw [h.1, hN1], Lib.hid (tr H.out h.2)⟩
      have HP2 : Hid (∀ W, Hid (Below wE.heap.size wE W) → Calls Tryd.prog 24 #[.agg #[.int .i64 ka2, .int .i64 na2, .int .u64 ua2, .string sa2, .slice EA2 qa2 fa2, .slice GA2 ra2 ha2]] W fun e w' => e = .returned (.int .i64 (D1 : Int)) ∧ Hid (Below wE.heap.size wE w')) := Lib.hid fun W H => (deep_any t2 _ W HQ2.out.1 (HE2.out.below H.out).2).mono fun e w' h => ⟨by rw [h.1, HPM.out.dp, hD1], Lib.hid (tr H.out h.2)⟩
      have HP1 : Hid (∀ W, Hid (Below wE.heap.size wE W) → Calls Tryd.prog 24 #[.agg #[.int .i64 ka1, .int .i64 na1, .int .u64 ua1, .string sa1, .slice EA1 qa1 fa1, .slice GA1 ra1 ha1]] W fun e w' => e = .returned (.int .i64 (D1 : Int)) ∧ Hid (Below wE.heap.size wE w')) := Lib.hid fun W H => (deep_any t1 _ W HQ.out.1.1 (HE1.out.below H.out).2).mono fun e w' h => ⟨by rw [h.1, hD1], Lib.hid (tr H.out h.2)⟩
      have HWK : Hid (∀ W, Hid (Below wE.heap.size wE W) → Calls Tryd.prog 18 #[] W fun e w' => e = .returned (.bool true) ∧ Hid (Below wE.heap.size wE w')) := Lib.hid fun W H => (works_true W (HT.out.keep (tr HWE.out H.out))).mono fun e w' h => ⟨h.1, Lib.hid (tr H.out h.2)⟩
      clear hN1 hD1
      go_wp2_with fail
      (try rw [hwE])
      (try rw [hbc])
      (try simp only [hbc])
      clear hwE hbc
      have HEd : Hid (Below wE.heap.size wE wE.drew) := Lib.hid (Below.refl _ wE).drew
      go_region_held3 (fun W => Hid (Below wE.heap.size wE W) ∧ W.cell? ⟨bi, 0, none⟩ = some (.int .i64 ka1) ∧ W.cell? ⟨bi, 1, none⟩ = some (.int .i64 na1) ∧ W.cell? ⟨bi, 2, none⟩ = some (.int .u64 ua1) ∧ W.cell? ⟨bi, 3, none⟩ = some (.string sa1) ∧ W.cell? ⟨bi, 4, none⟩ = some (.slice EA1 qa1 fa1) ∧ W.cell? ⟨bi, 5, none⟩ = some (.slice GA1 ra1 ha1) ∧ W.cell? ⟨ba, 0, none⟩ = some (.int .i64 ka2) ∧ W.cell? ⟨ba, 1, none⟩ = some (.int .i64 na2) ∧ W.cell? ⟨ba, 2, none⟩ = some (.int .u64 ua2) ∧ W.cell? ⟨ba, 3, none⟩ = some (.string sa2) ∧ W.cell? ⟨ba, 4, none⟩ = some (.slice EA2 qa2 fa2) ∧ W.cell? ⟨ba, 5, none⟩ = some (.slice GA2 ra2 ha2) ∧ W.cell? ⟨p, 0, none⟩ = some (.int .i64 ka4) ∧ W.cell? ⟨p, 1, none⟩ = some (.int .i64 na4) ∧ W.cell? ⟨p, 2, none⟩ = some (.int .u64 ua4) ∧ W.cell? ⟨p, 3, none⟩ = some (.string sa4) ∧ W.cell? ⟨p, 4, none⟩ = some (.slice EA4 qa4 fa4) ∧ W.cell? ⟨p, 5, none⟩ = some (.slice GA4 ra4 ha4) ∧ W.cell? ⟨bc, 0, none⟩ = some (.int .i64 ka5) ∧ W.cell? ⟨bc, 1, none⟩ = some (.int .i64 na5) ∧ W.cell? ⟨bc, 2, none⟩ = some (.int .u64 ua5) ∧ W.cell? ⟨bc, 3, none⟩ = some (.string sa5) ∧ W.cell? ⟨bc, 4, none⟩ = some (.slice EA5 qa5 fa5) ∧ W.cell? ⟨bc, 5, none⟩ = some (.slice GA5 ra5 ha5)) (first | (with_reducible exact hall _ (by assumption)) | (with_reducible exact hall _ HEd))
        (first
          | (go_at_call 20; (first | (with_reducible refine (H24.out _ (by first | assumption | exact HEd)).mono ?_) | (with_reducible refine (H25.out _ (by first | assumption | exact HEd)).mono ?_)); rintro e w6 ⟨rfl, HW6⟩)
          | (go_at_call 23; (first | (with_reducible refine (HZ2.out _ (by assumption)).mono ?_) | (with_reducible refine (HZ1.out _ (by assumption)).mono ?_)); rintro e w7 ⟨rfl, HW7⟩)
          | (go_at_call 24; (first | (with_reducible refine (HP2.out _ (by assumption)).mono ?_) | (with_reducible refine (HP1.out _ (by assumption)).mono ?_)); rintro e w8 ⟨rfl, HW8⟩)
          | (go_at_call 18; (with_reducible refine (HWK.out _ (by assumption)).mono ?_); rintro e w9 ⟨rfl, HW9⟩))
      go_wp2_with fail
      go_ret
      exact ⟨rfl, tr HWE.out HW9.out⟩
  · obtain ⟨e0, he0⟩ : ∃ e0, chk t1 = e0 := ⟨_, rfl⟩
    have h0 : e0 ≠ 0 := by rw [← he0]; exact hc
    have HS := Lib.hid (sorted_errL t1 e0 _ _ (HT.out.keep HB1.out) HQ.out.1 he0 h0 HD1.out.2)
    have hb0 : ((e0 : Int) != 0) = true := by simp; omega
    have HCK : Hid (∀ W, Below w.heap.size w W → Nd W t1 [.int .i64 ka1, .int .i64 na1, .int .u64 ua1, .string sa1, .slice EA1 qa1 fa1, .slice GA1 ra1 ha1] → Calls Tryd.prog 19 #[.agg #[.int .i64 ka1, .int .i64 na1, .int .u64 ua1, .string sa1, .slice EA1 qa1 fa1, .slice GA1 ra1 ha1]] W fun e w' => e = .returned (.int .i64 (e0 : Int)) ∧ Hid (Below W.heap.size W w')) := Lib.hid fun W hb hn => (check_any t1 _ W (HT.out.keep hb) HQ.out.1.1 HQ.out.1.2 hn).mono fun e w' h => ⟨by rw [h.1, he0], Lib.hid h.2⟩
    clear hc he0 h0
    go_wp2_with fail
    with_reducible refine HS.out.mono ?_
    rintro e w2 ⟨rfl, hb2⟩
    have HB2 := Lib.hid (tr HB1.out (tr hb2.out (al0 w2 (.cells #[.int .i64 0, .int .i64 0, .int .u64 0, .string ⟨#[]⟩, .slice none 0 0, .slice none 0 0] 26))))
    have HD2 := Lib.hid (HD1.out.below (tr hb2.out (al0 w2 (.cells #[.int .i64 0, .int .i64 0, .int .u64 0, .string ⟨#[]⟩, .slice none 0 0, .slice none 0 0] 26))))
    have HX2 := Lib.hid (Blk.new w2 26 #[.int .i64 0, .int .i64 0, .int .u64 0, .string ⟨#[]⟩, .slice none 0 0, .slice none 0 0])
    clear hb2 HS HB1 HD1
    obtain ⟨x0, x1, x2, x3, x4, x5⟩ := Bx.all HD2.out.1
    go_wp2_with fail
    have hn2 := HD2.out.2
    with_reducible refine (HCK.out _ HB2.out hn2).mono ?_
    clear hn2
    rintro e w3 ⟨rfl, hb3⟩
    have HB3 := Lib.hid (tr HB2.out hb3.out)
    obtain ⟨y0, y1, y2, y3, y4, y5⟩ := Bx.all (show Bx w3 w2.heap.size _ _ _ _ _ _ from Blk.below HX2.out hb3.out HX2.out.lt)
    clear x0 x1 x2 x3 x4 x5
    go_wp2_with (first
      | (go_at_call 20; refine (same_eq T0 _ _ _ t0_qq (nd_t0 _) (nd_t0 _)).mono ?_; rintro e w4 ⟨rfl, hb4⟩; have HB4 := Lib.hid (tr HB3.out hb4.out))
      | (go_at_call 18; refine (works_true _ (HT.out.keep HB4.out)).mono ?_; rintro e w5 ⟨rfl, hb5⟩))
    go_ret
    exact ⟨rfl, tr HB4.out hb5⟩
end Go.Proofs.YtpcfpikflkjmjaaDoor
