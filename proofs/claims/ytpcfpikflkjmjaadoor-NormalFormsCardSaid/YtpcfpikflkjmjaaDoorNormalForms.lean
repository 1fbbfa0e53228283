/-
  What is proved here: the law NormalForms returns true; condition: the table of package tree holds what is laid; and: accordionlaw09.NormalForms returns true for all trees and leaves its arguments as they were; condition: the package-level table of package tree holds when the call begins what its initialiser lays (tied to the program's text by the card).
-/
import Derived.Test.YtpcfpikflkjmjaaDoorLaw9
import Derived.Test.YtpcfpikflkjmjaaDoorNAlike
import Derived.Test.YtpcfpikflkjmjaaDoorRofs
import Derived.Test.YtpcfpikflkjmjaaDoorSpoil
import Derived.Deep.RegionHeld3
import Derived.Test.YtpcfpikflkjmjaaDoorRow
namespace Go.Proofs.YtpcfpikflkjmjaaDoor
open Go.RowKit Go.Sort

theorem of_okN (t : T) (cs : List Value) (w : World) (hT : Tab w) (hq : QQ t) (hc : chk t = 0) (hnd : Nd w t cs) :
    Calls Tryd.prog 32 #[.agg cs.toArray] w fun e w' => ∃ (t' : T) (ka9 na9 ua9 : Int) (sa9 : ByteArray) (EA9 : Option Addr) (qa9 fa9 : Nat) (GA9 : Option Addr) (ra9 ha9 : Nat), e = .returned (.tuple #[.agg #[.int .i64 ka9, .int .i64 na9, .int .u64 ua9, .string sa9, .slice EA9 qa9 fa9, .slice GA9 ra9 ha9], .int .i64 0]) ∧ Hid (Srt t t') ∧ Hid (NdO (fun b => w.heap.size ≤ b) w' (nfT t') [.int .i64 ka9, .int .i64 na9, .int .u64 ua9, .string sa9, .slice EA9 qa9 fa9, .slice GA9 ra9 ha9]) ∧ Hid (Below w.heap.size w w') := by
  refine (of_any t cs w hT hq hnd).mono ?_
  rintro e w' ⟨hb, ⟨h, _⟩ | ⟨_, cs', t2, rfl, h2, h3⟩⟩
  · exact absurd hc h
  · obtain ⟨ka9, na9, ua9, sa9, EA9, qa9, fa9, GA9, ra9, ha9, rfl⟩ := h3.shape6
    exact ⟨t2, ka9, na9, ua9, sa9, EA9, qa9, fa9, GA9, ra9, ha9, rfl, Lib.hid h2, Lib.hid h3, Lib.hid hb⟩
theorem of_errN (t : T) (n : Nat) (cs : List Value) (w : World) (hT : Tab w) (hq : QQ t) (hc : chk t = n) (h0 : n ≠ 0) (hnd : Nd w t cs) :
    Calls Tryd.prog 32 #[.agg cs.toArray] w fun e w' => e = .returned (.tuple #[.agg #[.int .i64 0, .int .i64 0, .int .u64 0, .string ⟨#[]⟩, .slice none 0 0, .slice none 0 0], .int .i64 (n : Int)]) ∧ Hid (Below w.heap.size w w') := by
  refine (of_any t cs w hT hq hnd).mono ?_
  rintro e w' ⟨hb, ⟨_, h⟩ | ⟨h, _⟩⟩
  · exact ⟨by rw [h, hc], Lib.hid hb⟩
  · exact absurd (hc.symm.trans h) h0
theorem t0_qq9 : QQ T0 := ⟨by decide, by decide, by decide, by simp, trivial⟩
theorem nd_t09 (w : World) : Nd w T0 [.int .i64 0, .int .i64 0, .int .u64 0, .string ⟨#[]⟩, .slice none 0 0, .slice none 0 0] := NdO.nd _ _ (ndo_zero (fun _ => True) w)
/-- A tree of the call's own is spoilt. -/
theorem spoil_own9 (t : T) (cs : List Value) (A W : World) (hA : Below A.heap.size A W) (h : NdO (fun b => A.heap.size ≤ b) W t cs) : Calls Tryd.prog 17 #[.agg cs.toArray] W fun e w' => e = .returned (.tuple #[]) ∧ Hid (Below A.heap.size A w') := by
  refine (spoil_any (dp t) (fun b => A.heap.size ≤ b) _ W (SX.of_ndo (dp t) t _ (by omega) h)).mono ?_
  rintro e w' ⟨rfl, hs⟩
  exact ⟨rfl, Lib.hid (hA.trans (hs.bel hA.size (fun b hb => hb)))⟩

set_option maxRecDepth 100000 in
set_option maxHeartbeats 4000000 in
theorem normalForms_walk (t : T) (cs : List Value) (w : World) (hT : Tab w) (hnd : Nd w t cs) : Calls Tryd.prog 6 #[.agg cs.toArray] w fun e w' => e = .returned (.bool true) ∧ Below w.heap.size w w' := by
  have HT := Lib.hid hT
  obtain ⟨ka0, na0, ua0, sa0, EA0, qa0, fa0, GA0, ra0, ha0, rfl⟩ := hnd.shape
  have HN := Lib.hid hnd
  obtain ⟨t1, ht1⟩ : ∃ t1, fewT t = t1 := ⟨_, rfl⟩
  have HQ : Hid (QQ t1 ∧ sz t1 ≤ 60000) := Lib.hid (by rw [← ht1]; exact ⟨fewT_qq t, by have := fewT_sz t; omega⟩)
  have HC : Hid (∀ W, Below w.heap.size w W → Calls Tryd.prog 31 #[.agg #[.int .i64 ka0, .int .i64 na0, .int .u64 ua0, .string sa0, .slice EA0 qa0 fa0, .slice GA0 ra0 ha0]] W fun e w' => ∃ (ka1 na1 ua1 : Int) (sa1 : ByteArray) (EA1 : Option Addr) (qa1 fa1 : Nat) (GA1 : Option Addr) (ra1 ha1 : Nat), e = .returned (.agg #[.int .i64 ka1, .int .i64 na1, .int .u64 ua1, .string sa1, .slice EA1 qa1 fa1, .slice GA1 ra1 ha1]) ∧ Hid (Nd w' t1 [.int .i64 ka1, .int .i64 na1, .int .u64 ua1, .string sa1, .slice EA1 qa1 fa1, .slice GA1 ra1 ha1]) ∧ Hid (Below W.heap.size W w')) := Lib.hid fun W hb => by
    rw [← ht1]
    exact few9_nd t _ W (HN.out.bel hb)
  clear hT hnd ht1
  go_enter Tryd.func6, Tryd.ntmps6
  go_wp2_with fail
  with_reducible refine (HC.out _ (al0 w _)).mono ?_
  rintro e w1 ⟨ka1, na1, ua1, sa1, EA1, qa1, fa1, GA1, ra1, ha1, rfl, HN1, hb1⟩
  obtain ⟨wI, hwI⟩ : ∃ wI, w1.alloc (.cells #[.int .i64 ka1, .int .i64 na1, .int .u64 ua1, .string sa1, .slice EA1 qa1 fa1, .slice GA1 ra1 ha1] 26) = wI := ⟨_, rfl⟩
  obtain ⟨bi, hbi⟩ : ∃ bi, w1.heap.size = bi := ⟨_, rfl⟩
  have HWI : Hid (Below w.heap.size w wI) := Lib.hid (by rw [← hwI]; exact tr (al hb1.out) (al0 w1 _))
  have HBI : Hid (Bd wI bi t1 (.int .i64 ka1) (.int .i64 na1) (.int .u64 ua1) (.string sa1) (.slice EA1 qa1 fa1) (.slice GA1 ra1 ha1)) := Lib.hid (by rw [← hwI, ← hbi]; exact Bd.new HN1.out)
  have HB0 : Hid (Bx wI w.heap.size (.int .i64 ka0) (.int .i64 na0) (.int .u64 ua0) (.string sa0) (.slice EA0 qa0 fa0) (.slice GA0 ra0 ha0)) := Lib.hid (by rw [← hwI]; exact Blk.below (Blk.new w 26 #[.int .i64 ka0, .int .i64 na0, .int .u64 ua0, .string sa0, .slice EA0 qa0 fa0, .slice GA0 ra0 ha0]) (tr hb1.out (al0 w1 _)) (Blk.lt (Blk.new w 26 #[.int .i64 ka0, .int .i64 na0, .int .u64 ua0, .string sa0, .slice EA0 qa0 fa0, .slice GA0 ra0 ha0])))
  have HC6 : Hid (∀ W, Hid (Below wI.heap.size wI W) → Calls Tryd.prog 31 #[.agg #[.int .i64 ka0, .int .i64 na0, .int .u64 ua0, .string sa0, .slice EA0 qa0 fa0, .slice GA0 ra0 ha0]] W fun e w' => ∃ (ka1 na1 ua1 : Int) (sa1 : ByteArray) (EA1 : Option Addr) (qa1 fa1 : Nat) (GA1 : Option Addr) (ra1 ha1 : Nat), e = .returned (.agg #[.int .i64 ka1, .int .i64 na1, .int .u64 ua1, .string sa1, .slice EA1 qa1 fa1, .slice GA1 ra1 ha1]) ∧ Hid (Nd w' t1 [.int .i64 ka1, .int .i64 na1, .int .u64 ua1, .string sa1, .slice EA1 qa1 fa1, .slice GA1 ra1 ha1]) ∧ Hid (Below wI.heap.size wI w')) := Lib.hid fun W H => (HC.out W (tr HWI.out H.out)).mono (by
    rintro e w' ⟨ka2, na2, ua2, sa2, EA2, qa2, fa2, GA2, ra2, ha2, rfl, h1, h2⟩
    exact ⟨ka2, na2, ua2, sa2, EA2, qa2, fa2, GA2, ra2, ha2, rfl, h1, Lib.hid (tr H.out h2.out)⟩)
  have HE6 : Hid (∀ (W : World) (ka6 na6 ua6 : Int) (sa6 : ByteArray) (EA6 : Option Addr) (qa6 fa6 : Nat) (GA6 : Option Addr) (ra6 ha6 : Nat), Hid (Below wI.heap.size wI W) → Hid (Nd W t1 [.int .i64 ka6, .int .i64 na6, .int .u64 ua6, .string sa6, .slice EA6 qa6 fa6, .slice GA6 ra6 ha6]) → Calls Tryd.prog 16 #[.agg #[.int .i64 ka1, .int .i64 na1, .int .u64 ua1, .string sa1, .slice EA1 qa1 fa1, .slice GA1 ra1 ha1], .agg #[.int .i64 ka6, .int .i64 na6, .int .u64 ua6, .string sa6, .slice EA6 qa6 fa6, .slice GA6 ra6 ha6]] W fun e w' => e = .returned (.bool true) ∧ Hid (Below wI.heap.size wI w')) := Lib.hid fun W ka6 na6 ua6 sa6 EA6 qa6 fa6 GA6 ra6 ha6 H H2 =>
    (eq_eq t1 _ _ W HQ.out.1 (HBI.out.below H.out).2 H2.out).mono fun e w' h => ⟨h.1, Lib.hid (tr H.out h.2.out)⟩
  have HWK : Hid (∀ W, Hid (Below wI.heap.size wI W) → Calls Tryd.prog 34 #[] W fun e w' => e = .returned (.bool true) ∧ Hid (Below wI.heap.size wI w')) := Lib.hid fun W H => (works9_true W (HT.out.keep (tr HWI.out H.out))).mono fun e w' h => ⟨h.1, Lib.hid (tr H.out h.2)⟩
  have hall : ∀ W, Hid (Below wI.heap.size wI W) → Hid (Below wI.heap.size wI W) ∧ W.cell? ⟨w.heap.size, 0, none⟩ = some (.int .i64 ka0) ∧ W.cell? ⟨w.heap.size, 1, none⟩ = some (.int .i64 na0) ∧ W.cell? ⟨w.heap.size, 2, none⟩ = some (.int .u64 ua0) ∧ W.cell? ⟨w.heap.size, 3, none⟩ = some (.string sa0) ∧ W.cell? ⟨w.heap.size, 4, none⟩ = some (.slice EA0 qa0 fa0) ∧ W.cell? ⟨w.heap.size, 5, none⟩ = some (.slice GA0 ra0 ha0) ∧ W.cell? ⟨bi, 0, none⟩ = some (.int .i64 ka1) ∧ W.cell? ⟨bi, 1, none⟩ = some (.int .i64 na1) ∧ W.cell? ⟨bi, 2, none⟩ = some (.int .u64 ua1) ∧ W.cell? ⟨bi, 3, none⟩ = some (.string sa1) ∧ W.cell? ⟨bi, 4, none⟩ = some (.slice EA1 qa1 fa1) ∧ W.cell? ⟨bi, 5, none⟩ = some (.slice GA1 ra1 ha1) := fun W H => by
    have h1 := Bx.all (HB0.out.below H.out HB0.out.lt)
    have h2 := (HBI.out.below H.out).1.all
    exact ⟨H, h1.1, h1.2.1, h1.2.2.1, h1.2.2.2.1, h1.2.2.2.2.1, h1.2.2.2.2.2, h2⟩
  clear HC HN HN1 hb1
  obtain ⟨x0, x1, x2, x3, x4, x5⟩ := HBI.out.1.all
  go_wp2_with fail
  (try rw [hwI])
  (try simp only [hbi])
  clear hwI hbi x0 x1 x2 x3 x4 x5
  by_cases hc : chk t1 = 0
  · have HCZ := Lib.hid hc
    have HOK : Hid (okT t1) := Lib.hid ((chk_zero t1).1 hc).1
    have HS := Lib.hid (of_okN t1 _ wI (HT.out.keep HWI.out) HQ.out.1 hc HBI.out.2)
    clear hc
    with_reducible refine HS.out.mono ?_
    rintro e w2 ⟨tS, ka2, na2, ua2, sa2, EA2, qa2, fa2, GA2, ra2, ha2, rfl, HSR, HO2, hb2⟩
    have HQ2 : Hid (QQ (nfT tS)) := Lib.hid (nf_qqs HQ.out.1 HCZ.out HSR.out)
    obtain ⟨t2, ht2⟩ : ∃ t2, nfT tS = t2 := ⟨_, rfl⟩
    rw [ht2] at HQ2 HO2
    have HN2 : Hid (Nd w2 t2 [.int .i64 ka2, .int .i64 na2, .int .u64 ua2, .string sa2, .slice EA2 qa2 fa2, .slice GA2 ra2 ha2]) := Lib.hid (NdO.nd _ _ HO2.out)
    clear HS
    obtain ⟨wA, hwA⟩ : ∃ wA, w2.alloc (.cells #[.int .i64 ka2, .int .i64 na2, .int .u64 ua2, .string sa2, .slice EA2 qa2 fa2, .slice GA2 ra2 ha2] 26) = wA := ⟨_, rfl⟩
    obtain ⟨ba, hba⟩ : ∃ ba, w2.heap.size = ba := ⟨_, rfl⟩
    have HIA : Hid (Below wI.heap.size wI wA) := Lib.hid (by rw [← hwA]; exact tr hb2.out (al0 w2 _))
    have HBA : Hid (Bd wA ba t2 (.int .i64 ka2) (.int .i64 na2) (.int .u64 ua2) (.string sa2) (.slice EA2 qa2 fa2) (.slice GA2 ra2 ha2)) := Lib.hid (by rw [← hwA, ← hba]; exact Bd.new HN2.out)
    have HOA : Hid (NdO (fun b => wI.heap.size ≤ b) wA t2 [.int .i64 ka2, .int .i64 na2, .int .u64 ua2, .string sa2, .slice EA2 qa2 fa2, .slice GA2 ra2 ha2]) := Lib.hid (by rw [← hwA]; exact NdO.step (fun b hb hl => ⟨(al0 w2 _).block b hl, hb⟩) _ _ HO2.out)
    have HIa := Lib.hid (HBI.out.below HIA.out)
    obtain ⟨x0, x1, x2, x3, x4, x5⟩ := HIa.out.1.all
    have HR := Lib.hid (refOf_ok t1 tS _ wA HQ.out.2 HQ.out.1.2 HCZ.out HSR.out HIa.out.2)
    rw [ht2] at HR
    go_wp2_with fail
    (try rw [hwA])
    (try simp only [hba])
    clear x0 x1 x2 x3 x4 x5 hwA hba hb2 HO2 HN2
    with_reducible refine HR.out.mono ?_
    rintro e w3 ⟨ka3, na3, ua3, sa3, EA3, qa3, fa3, GA3, ra3, ha3, rfl, HN3, hb3⟩
    obtain ⟨wB, hwB⟩ : ∃ wB, w3.alloc (.cells #[.int .i64 ka3, .int .i64 na3, .int .u64 ua3, .string sa3, .slice EA3 qa3 fa3, .slice GA3 ra3 ha3] 26) = wB := ⟨_, rfl⟩
    obtain ⟨bb, hbb⟩ : ∃ bb, w3.heap.size = bb := ⟨_, rfl⟩
    have HAB : Hid (Below wA.heap.size wA wB) := Lib.hid (by rw [← hwB]; exact tr hb3.out (al0 w3 _))
    have HBB : Hid (Bd wB bb t2 (.int .i64 ka3) (.int .i64 na3) (.int .u64 ua3) (.string sa3) (.slice EA3 qa3 fa3) (.slice GA3 ra3 ha3)) := Lib.hid (by rw [← hwB, ← hbb]; exact Bd.new HN3.out)
    have HBa := Lib.hid (HBA.out.below HAB.out)
    obtain ⟨x0, x1, x2, x3, x4, x5⟩ := HBa.out.1.all
    obtain ⟨y0, y1, y2, y3, y4, y5⟩ := HBB.out.1.all
    have HE := Lib.hid (eq_eq t2 _ _ wB HQ2.out HBa.out.2 HBB.out.2)
    go_wp2_with fail
    (try rw [hwB])
    (try simp only [hbb])
    clear x0 x1 x2 x3 x4 x5 y0 y1 y2 y3 y4 y5 hwB hbb hb3 HN3
    with_reducible refine HE.out.mono ?_
    rintro e w4 ⟨rfl, hb4⟩
    have HBa4 := Lib.hid (HBa.out.below hb4.out)
    obtain ⟨x0, x1, x2, x3, x4, x5⟩ := HBa4.out.1.all
    have HSP := Lib.hid (spoil_own9 t2 _ wI w4 (tr HIA.out (tr HAB.out hb4.out)) (NdO.step (fun b hb hl => ⟨(tr HAB.out hb4.out).block b hl, hb⟩) _ _ HOA.out))
    clear hb4 HE
    go_wp2_with (first | (go_at_call 17; (with_reducible refine HSP.out.mono ?_); rintro e w5 ⟨rfl, H5⟩))
    clear x0 x1 x2 x3 x4 x5
    have H5d : Hid (Below wI.heap.size wI w5.drew) := Lib.hid (Below.drew H5.out)
    go_region_held3 (fun W => Hid (Below wI.heap.size wI W) ∧ W.cell? ⟨w.heap.size, 0, none⟩ = some (.int .i64 ka0) ∧ W.cell? ⟨w.heap.size, 1, none⟩ = some (.int .i64 na0) ∧ W.cell? ⟨w.heap.size, 2, none⟩ = some (.int .u64 ua0) ∧ W.cell? ⟨w.heap.size, 3, none⟩ = some (.string sa0) ∧ W.cell? ⟨w.heap.size, 4, none⟩ = some (.slice EA0 qa0 fa0) ∧ W.cell? ⟨w.heap.size, 5, none⟩ = some (.slice GA0 ra0 ha0) ∧ W.cell? ⟨bi, 0, none⟩ = some (.int .i64 ka1) ∧ W.cell? ⟨bi, 1, none⟩ = some (.int .i64 na1) ∧ W.cell? ⟨bi, 2, none⟩ = some (.int .u64 ua1) ∧ W.cell? ⟨bi, 3, none⟩ = some (.string sa1) ∧ W.cell? ⟨bi, 4, none⟩ = some (.slice EA1 qa1 fa1) ∧ W.cell? ⟨bi, 5, none⟩ = some (.slice GA1 ra1 ha1)) (first | (with_reducible exact hall _ (by assumption)) | (with_reducible exact hall _ H5d))
      (first
        | (go_at_call 31; (with_reducible refine (HC6.out _ (by first | assumption | exact H5d)).mono ?_); rintro e w6 ⟨ka6, na6, ua6, sa6, EA6, qa6, fa6, GA6, ra6, ha6, rfl, HN6, HW6⟩)
        | (go_at_call 16; (with_reducible refine (HE6.out _ _ _ _ _ _ _ _ _ _ _ HW6 HN6).mono ?_); rintro e w7 ⟨rfl, HW7⟩)
        | (go_at_call 34; (with_reducible refine (HWK.out _ HW7).mono ?_); rintro e w8 ⟨rfl, HW8⟩))
    go_wp2_with fail
    go_ret
    exact ⟨rfl, tr HWI.out HW8.out⟩
  · obtain ⟨e0, he0⟩ : ∃ e0, chk t1 = e0 := ⟨_, rfl⟩
    have h0 : e0 ≠ 0 := by rw [← he0]; exact hc
    have HS := Lib.hid (of_errN t1 e0 _ wI (HT.out.keep HWI.out) HQ.out.1 he0 h0 HBI.out.2)
    have HE0 := Lib.hid (And.intro he0 h0)
    clear hc he0 h0
    with_reducible refine HS.out.mono ?_
    rintro e w2 ⟨rfl, hb2⟩
    have HN2 : Hid (Nd w2 T0 [.int .i64 0, .int .i64 0, .int .u64 0, .string ⟨#[]⟩, .slice none 0 0, .slice none 0 0]) := Lib.hid (nd_t09 w2)
    have HO2 : Hid (NdO (fun b => wI.heap.size ≤ b) w2 T0 [.int .i64 0, .int .i64 0, .int .u64 0, .string ⟨#[]⟩, .slice none 0 0, .slice none 0 0]) := Lib.hid (ndo_zero _ w2)
    clear HS
    have HIAx : Hid (Below wI.heap.size wI (w2.alloc (.cells #[.int .i64 0, .int .i64 0, .int .u64 0, .string ⟨#[]⟩, .slice none 0 0, .slice none 0 0] 26))) := Lib.hid (tr hb2.out (al0 w2 _))
    obtain ⟨x0, x1, x2, x3, x4, x5⟩ := (HBI.out.below HIAx.out).1.all
    go_wp2_with fail
    clear x0 x1 x2 x3 x4 x5
    obtain ⟨wA, hwA⟩ : ∃ wA, w2.alloc (.cells #[.int .i64 0, .int .i64 0, .int .u64 0, .string ⟨#[]⟩, .slice none 0 0, .slice none 0 0] 26) = wA := ⟨_, rfl⟩
    obtain ⟨ba, hba⟩ : ∃ ba, w2.heap.size = ba := ⟨_, rfl⟩
    have HIA : Hid (Below wI.heap.size wI wA) := Lib.hid (by rw [← hwA]; exact tr hb2.out (al0 w2 _))
    have HBA : Hid (Bd wA ba T0 (.int .i64 0) (.int .i64 0) (.int .u64 0) (.string ⟨#[]⟩) (.slice none 0 0) (.slice none 0 0)) := Lib.hid (by rw [← hwA, ← hba]; exact Bd.new HN2.out)
    have HOA : Hid (NdO (fun b => wI.heap.size ≤ b) wA T0 [.int .i64 0, .int .i64 0, .int .u64 0, .string ⟨#[]⟩, .slice none 0 0, .slice none 0 0]) := Lib.hid (by rw [← hwA]; exact NdO.step (fun b hb hl => ⟨(al0 w2 _).block b hl, hb⟩) _ _ HO2.out)
    have HIa := Lib.hid (HBI.out.below HIA.out)
    have HR := Lib.hid (refOf_err t1 e0 _ wA HQ.out.1.1 HE0.out.1 HE0.out.2 HIa.out.2)
    (try rw [hwA])
    (try simp only [hba])
    clear hwA hba hb2 HO2 HN2
    with_reducible refine HR.out.mono ?_
    rintro e w3 ⟨rfl, hb3⟩
    have HN3 : Hid (Nd w3 T0 [.int .i64 0, .int .i64 0, .int .u64 0, .string ⟨#[]⟩, .slice none 0 0, .slice none 0 0]) := Lib.hid (nd_t09 w3)
    have HABx : Hid (Below wA.heap.size wA (w3.alloc (.cells #[.int .i64 0, .int .i64 0, .int .u64 0, .string ⟨#[]⟩, .slice none 0 0, .slice none 0 0] 26))) := Lib.hid (tr hb3.out (al0 w3 _))
    obtain ⟨x0, x1, x2, x3, x4, x5⟩ := (HBA.out.below HABx.out).1.all
    go_wp2_with fail
    clear x0 x1 x2 x3 x4 x5
    obtain ⟨wB, hwB⟩ : ∃ wB, w3.alloc (.cells #[.int .i64 0, .int .i64 0, .int .u64 0, .string ⟨#[]⟩, .slice none 0 0, .slice none 0 0] 26) = wB := ⟨_, rfl⟩
    obtain ⟨bb, hbb⟩ : ∃ bb, w3.heap.size = bb := ⟨_, rfl⟩
    have HAB : Hid (Below wA.heap.size wA wB) := Lib.hid (by rw [← hwB]; exact tr hb3.out (al0 w3 _))
    have HBB : Hid (Bd wB bb T0 (.int .i64 0) (.int .i64 0) (.int .u64 0) (.string ⟨#[]⟩) (.slice none 0 0) (.slice none 0 0)) := Lib.hid (by rw [← hwB, ← hbb]; exact Bd.new HN3.out)
    have HBa := Lib.hid (HBA.out.below HAB.out)
    have HE := Lib.hid (eq_eq T0 _ _ wB t0_qq9 HBa.out.2 HBB.out.2)
    (try rw [hwB])
    (try simp only [hbb])
    clear hwB hbb hb3 HN3
    with_reducible refine HE.out.mono ?_
    rintro e w4 ⟨rfl, hb4⟩
    have HBa4 := Lib.hid (HBa.out.below hb4.out)
    obtain ⟨x0, x1, x2, x3, x4, x5⟩ := HBa4.out.1.all
    have HSP := Lib.hid (spoil_own9 T0 _ wI w4 (tr HIA.out (tr HAB.out hb4.out)) (NdO.step (fun b hb hl => ⟨(tr HAB.out hb4.out).block b hl, hb⟩) _ _ HOA.out))
    clear hb4 HE
    go_wp2_with (first | (go_at_call 17; (with_reducible refine HSP.out.mono ?_); rintro e w5 ⟨rfl, H5⟩))
    clear x0 x1 x2 x3 x4 x5
    have H5d : Hid (Below wI.heap.size wI w5.drew) := Lib.hid (Below.drew H5.out)
    go_region_held3 (fun W => Hid (Below wI.heap.size wI W) ∧ W.cell? ⟨w.heap.size, 0, none⟩ = some (.int .i64 ka0) ∧ W.cell? ⟨w.heap.size, 1, none⟩ = some (.int .i64 na0) ∧ W.cell? ⟨w.heap.size, 2, none⟩ = some (.int .u64 ua0) ∧ W.cell? ⟨w.heap.size, 3, none⟩ = some (.string sa0) ∧ W.cell? ⟨w.heap.size, 4, none⟩ = some (.slice EA0 qa0 fa0) ∧ W.cell? ⟨w.heap.size, 5, none⟩ = some (.slice GA0 ra0 ha0) ∧ W.cell? ⟨bi, 0, none⟩ = some (.int .i64 ka1) ∧ W.cell? ⟨bi, 1, none⟩ = some (.int .i64 na1) ∧ W.cell? ⟨bi, 2, none⟩ = some (.int .u64 ua1) ∧ W.cell? ⟨bi, 3, none⟩ = some (.string sa1) ∧ W.cell? ⟨bi, 4, none⟩ = some (.slice EA1 qa1 fa1) ∧ W.cell? ⟨bi, 5, none⟩ = some (.slice GA1 ra1 ha1)) (first | (with_reducible exact hall _ (by assumption)) | (with_reducible exact hall _ H5d))
      (first
        | (go_at_call 31; (with_reducible refine (HC6.out _ (by first | assumption | exact H5d)).mono ?_); rintro e w6 ⟨ka6, na6, ua6, sa6, EA6, qa6, fa6, GA6, ra6, ha6, rfl, HN6, HW6⟩)
        | (go_at_call 16; (with_reducible refine (HE6.out _ _ _ _ _ _ _ _ _ _ _ HW6 HN6).mono ?_); rintro e w7 ⟨rfl, HW7⟩)
        | (go_at_call 34; (with_reducible refine (HWK.out _ HW7).mono ?_); rintro e w8 ⟨rfl, HW8⟩))
    go_wp2_with fail
    go_ret
    exact ⟨rfl, tr HWI.out HW8.out⟩
end Go.Proofs.YtpcfpikflkjmjaaDoor
namespace Go.Proofs.YtpcfpikflkjmjaaDoor
open Go.ChangeShapes Go.WideShapes Go.ChangeAt Go.WideMaps Go.WideElems Go.RowKit Go.ChangeMaps

set_option maxRecDepth 100000 in
theorem normalForms_lifted (os : Os) (started : os.Started) (H : Type) (enc : TypeId × Value → H) :
    ReturnsInHanded {} Tryd.checked os 6 .any (fun w args => (Rows.normalFormsSpec.pre enc Tryd.prog Tryd.f6 [] false w args ∧ laidMetH Tryd.prog laidL w) ∧ sizedMet enc Tryd.prog Tryd.f6 (OpenSpec.ofChange Rows.normalFormsSpec) false w args)
      (Rows.normalFormsSpec.post enc Tryd.prog Tryd.f6 false true false false) := by
  refine returnsInHanded_of_change_and (C := Tryd.checked) (X := fun w _ => laidMetH Tryd.prog laidL w) (fun _ _ _ hh h => h.of_heap hh) ownK started (by kernel_rfl) Tryd.func6
    (ChangeSpec.witness_shaped (enc := enc) (C := Tryd.checked) (os := os) (X := fun w _ => laidMetH Tryd.prog laidL w) false (World.doorLaid Tryd.prog 50 os) #[.agg #[.int .i64 0, .int .i64 0, .int .u64 0, .string ⟨#[]⟩, .slice none 0 0, .slice none 0 0]] 8 rfl (World.shaped_of_RefB (by kernel_rfl) (by kernel_rfl)) (by kernel_rfl) (by kernel_rfl) (by kernel_rfl) (door_met os _)) ?_
  intro W base args ds gs before hval0 hW _ _ hL _
  have hval : ∀ (j : Nat) t v, Tryd.f6.params[j]? = some t → args[j]? = some v → Value.okWide Tryd.prog W .any base t v := hval0
  have hW' := hW
  obtain ⟨p, q, hA0, hV, rfl, hfz, hnd⟩ := hW
  have hA : DataW.TrodAll enc Tryd.prog W 0 (fun _ => true) true Tryd.f6.params.toList args.toList ds p := hA0
  rw [Tryd.params6] at hA hval
  obtain ⟨v0, vs0, d0, ds0, p0, q0, hargs, rfl, rfl, h0, r0⟩ := trodAll_cons hA
  obtain ⟨rfl, rfl, rfl⟩ := trodAll_nil r0
  obtain rfl : args = #[v0] := by cases args; simp_all
  obtain ⟨rfl, rfl⟩ := trodVars_none hV
  obtain ⟨t0, cs0, rfl, n0⟩ := open_tree (hval 0 26 v0 rfl rfl) h0
  refine (normalForms_walk t0 cs0 W (tab_of_laid hL) n0).mono fun e W' ⟨he, hb⟩ => ?_
  subst he
  exact ⟨_, rfl, law_post (by rw [Tryd.params6]; decide +kernel) rfl rfl rfl rfl rfl hW' hb⟩

theorem normalForms_row : Rows.NormalFormsSaid :=
  OpenClaim.holds_of_wide 6 Tryd.f6 rfl rfl rfl rfl rfl rfl rfl ⟨rfl, rfl, rfl, rfl, rfl⟩ rfl rfl rfl rfl rfl (by kernel_rfl) Tryd.func6 (by kernel_rfl)
    (of_decide_eq_true (by kernel_rfl)) (by unfold Func.isWrapper; first | (rw [if_pos (by decide +kernel)]; kernel_rfl) | (rw [if_neg (by decide +kernel)]; exact ⟨rfl, rfl⟩))
    (fun os started H enc _ => normalForms_lifted os started H enc)

theorem normalForms_holds : Rows.NormalFormsCardSaid :=
  Claim7.holds_tied_plain_at .later [] [.data] true Rows.normalFormsCard.stood.harness true
    normalForms_row (fun _ h => by cases h) (by kernel_rfl) (fun _ h => by cases h) normalForms_row_tie rfl ⟨rfl, rfl⟩ (by kernel_rfl) rfl
    (fun f fn hf hfn => by
      obtain rfl : f = 6 := Option.some.inj ((show Tryd.prog.funcNamed "accordion/accordionlaw09.NormalForms" = some 6 by kernel_rfl).symm.trans hf) |>.symm
      obtain rfl : fn = Tryd.f6 := (Option.some.inj (Tryd.func6.symm.trans hfn)).symm
      exact ⟨by kernel_rfl, fun j t ht => by
        rw [Tryd.params6] at ht
        have hm : t ∈ [26] := by simpa using Array.mem_of_getElem? ht
        have hall : ([26].all fun u => !Tryd.prog.wantsStandIn u) = true := by kernel_rfl
        exact (show Tryd.prog.wantsStandIn t = false by simpa using List.all_eq_true.1 hall t hm)⟩)
    (by kernel_rfl)
end Go.Proofs.YtpcfpikflkjmjaaDoor
