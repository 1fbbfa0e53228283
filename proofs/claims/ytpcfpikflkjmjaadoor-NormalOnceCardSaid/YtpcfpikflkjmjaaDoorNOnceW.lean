/-
  What is proved here: the law NormalOnce returns true; condition: the table of package tree holds what is laid.
-/
import Derived.Test.YtpcfpikflkjmjaaDoorLaw9
import Derived.Deep.RegionHeld3
namespace Go.Proofs.YtpcfpikflkjmjaaDoor
open Go.RowKit Go.Sort

set_option maxRecDepth 100000 in
set_option maxHeartbeats 4000000 in
theorem normalOnce_walk (t : T) (cs : List Value) (w : World) (hT : Tab w) (hnd : Nd w t cs) : Calls Tryd.prog 8 #[.agg cs.toArray] w fun e w' => e = .returned (.bool true) ∧ Below w.heap.size w w' := by
  have HT := Lib.hid hT
  obtain ⟨ka0, na0, ua0, sa0, EA0, qa0, fa0, GA0, ra0, ha0, rfl⟩ := hnd.shape
  have HN := Lib.hid hnd
  obtain ⟨t1, ht1⟩ : ∃ t1, fewT t = t1 := ⟨_, rfl⟩
  have HQ : Hid (QQ t1) := Lib.hid (by rw [← ht1]; exact fewT_qq t)
  have HC : Hid (∀ W, Below w.heap.size w W → Calls Tryd.prog 31 #[.agg #[.int .i64 ka0, .int .i64 na0, .int .u64 ua0, .string sa0, .slice EA0 qa0 fa0, .slice GA0 ra0 ha0]] W fun e w' => ∃ (ka1 na1 ua1 : Int) (sa1 : ByteArray) (EA1 : Option Addr) (qa1 fa1 : Nat) (GA1 : Option Addr) (ra1 ha1 : Nat), e = .returned (.agg #[.int .i64 ka1, .int .i64 na1, .int .u64 ua1, .string sa1, .slice EA1 qa1 fa1, .slice GA1 ra1 ha1]) ∧ Hid (Nd w' t1 [.int .i64 ka1, .int .i64 na1, .int .u64 ua1, .string sa1, .slice EA1 qa1 fa1, .slice GA1 ra1 ha1]) ∧ Hid (Below W.heap.size W w')) := Lib.hid fun W hb => by
    rw [← ht1]
    exact few9_nd t _ W (HN.out.bel hb)
  clear hT hnd ht1
  go_enter Tryd.func8, Tryd.ntmps8
  go_wp2_with fail
  with_reducible refine (HC.out _ (al0 w _)).mono ?_
  rintro e w1 ⟨ka1, na1, ua1, sa1, EA1, qa1, fa1, GA1, ra1, ha1, rfl, HN1, hb1⟩
  have HB1 := Lib.hid (tr (al hb1.out) (al0 w1 (.cells #[.int .i64 ka1, .int .i64 na1, .int .u64 ua1, .string sa1, .slice EA1 qa1 fa1, .slice GA1 ra1 ha1] 26)))
  have HD1 := Lib.hid (Bd.new HN1.out)
  clear hb1 HC HN HN1
  by_cases hc : chk t1 = 0
  · have HS := Lib.hid (of_okO t1 _ _ (HT.out.keep HB1.out) HQ.out hc HD1.out.2)
    have HCZ := Lib.hid hc
    clear hc
    go_wp2_with fail
    with_reducible refine HS.out.mono ?_
    rintro e w2 ⟨t2, ka2, na2, ua2, sa2, EA2, qa2, fa2, GA2, ra2, ha2, rfl, HSR, HO2, hb2⟩
    have HV : Hid (VS t1 t2) := Lib.hid ⟨HCZ.out, HQ.out, HSR.out⟩
    have HBB := Lib.hid (tr HB1.out (tr hb2.out (al0 w2 (.cells #[.int .i64 ka2, .int .i64 na2, .int .u64 ua2, .string sa2, .slice EA2 qa2 fa2, .slice GA2 ra2 ha2] 26))))
    have HDi := Lib.hid (HD1.out.below (tr hb2.out (al0 w2 (.cells #[.int .i64 ka2, .int .i64 na2, .int .u64 ua2, .string sa2, .slice EA2 qa2 fa2, .slice GA2 ra2 ha2] 26))))
    have HDa := Lib.hid (Bd.new (NdO.nd _ _ HO2.out))
    clear hb2 HO2 HS HB1 HD1
    obtain ⟨N1, hN1⟩ : ∃ N1, sz t1 = N1 := ⟨_, rfl⟩
    obtain ⟨D1, hD1⟩ : ∃ D1, dp t1 = D1 := ⟨_, rfl⟩
    obtain ⟨X, hX⟩ : ∃ X, nfT t2 = X := ⟨_, rfl⟩
    have HX : Hid (VS X X ∧ nfT X = X ∧ sz X = N1 ∧ dp X = D1) := Lib.hid (by
      rw [← hX, ← hN1, ← hD1]
      exact ⟨HV.out.nf, nf_idem _, by rw [nf_sz HV.out.okx, HV.out.pm.sz], by rw [nf_dp HV.out.okx, HV.out.pm.dp]⟩)
    rw [hX] at HDa
    clear hX
    have HSI := Lib.hid (of_is X X _ _ (HT.out.keep HBB.out) HX.out.1.q0 HX.out.1.c0 HX.out.1.s HDa.out.2)
    go_wp2_with fail
    with_reducible refine HSI.out.mono ?_
    rintro e w5 ⟨ka5, na5, ua5, sa5, EA5, qa5, fa5, GA5, ra5, ha5, rfl, HO5, hb5⟩
    clear HSI
    go_wp2_with fail
    obtain ⟨wE, hwE⟩ : ∃ wE, w5.alloc (.cells #[.int .i64 ka5, .int .i64 na5, .int .u64 ua5, .string sa5, .slice EA5 qa5 fa5, .slice GA5 ra5 ha5] 26) = wE := ⟨_, rfl⟩
    obtain ⟨bc, hbc⟩ : ∃ bc, w5.heap.size = bc := ⟨_, rfl⟩
    obtain ⟨ba, hba⟩ : ∃ ba, w2.heap.size = ba := ⟨_, rfl⟩
    obtain ⟨bi, hbi⟩ : ∃ bi, w1.heap.size = bi := ⟨_, rfl⟩
    have hn5 := HO5.out.nd
    rw [HX.out.2.1] at hn5
    have HE5 : Hid (Bd wE bc X (.int .i64 ka5) (.int .i64 na5) (.int .u64 ua5) (.string sa5) (.slice EA5 qa5 fa5) (.slice GA5 ra5 ha5)) := Lib.hid (by rw [← hwE, ← hbc]; exact Bd.new hn5)
    have HE1 : Hid (Bd wE bi t1 (.int .i64 ka1) (.int .i64 na1) (.int .u64 ua1) (.string sa1) (.slice EA1 qa1 fa1) (.slice GA1 ra1 ha1)) := Lib.hid (by rw [← hwE, ← hbi]; exact HDi.out.below (tr hb5.out (al0 _ _)))
    have HE2 : Hid (Bd wE ba X (.int .i64 ka2) (.int .i64 na2) (.int .u64 ua2) (.string sa2) (.slice EA2 qa2 fa2) (.slice GA2 ra2 ha2)) := Lib.hid (by rw [← hwE, ← hba]; exact HDa.out.below (tr hb5.out (al0 _ _)))
    have HWE : Hid (Below w.heap.size w wE) := Lib.hid (by rw [← hwE]; exact tr HBB.out (tr hb5.out (al0 _ _)))
    clear hn5 HO5 hb5 HBB HDi HDa
    (try rw [hwE])
    simp only [hbc, hba, hbi]
    clear hwE hbc hba hbi
    have hall : ∀ W, Hid (Below wE.heap.size wE W) → Hid (Below wE.heap.size wE W) ∧ W.cell? ⟨bi, 0, none⟩ = some (.int .i64 ka1) ∧ W.cell? ⟨bi, 1, none⟩ = some (.int .i64 na1) ∧ W.cell? ⟨bi, 2, none⟩ = some (.int .u64 ua1) ∧ W.cell? ⟨bi, 3, none⟩ = some (.string sa1) ∧ W.cell? ⟨bi, 4, none⟩ = some (.slice EA1 qa1 fa1) ∧ W.cell? ⟨bi, 5, none⟩ = some (.slice GA1 ra1 ha1) ∧ W.cell? ⟨ba, 0, none⟩ = some (.int .i64 ka2) ∧ W.cell? ⟨ba, 1, none⟩ = some (.int .i64 na2) ∧ W.cell? ⟨ba, 2, none⟩ = some (.int .u64 ua2) ∧ W.cell? ⟨ba, 3, none⟩ = some (.string sa2) ∧ W.cell? ⟨ba, 4, none⟩ = some (.slice EA2 qa2 fa2) ∧ W.cell? ⟨ba, 5, none⟩ = some (.slice GA2 ra2 ha2) ∧ W.cell? ⟨bc, 0, none⟩ = some (.int .i64 ka5) ∧ W.cell? ⟨bc, 1, none⟩ = some (.int .i64 na5) ∧ W.cell? ⟨bc, 2, none⟩ = some (.int .u64 ua5) ∧ W.cell? ⟨bc, 3, none⟩ = some (.string sa5) ∧ W.cell? ⟨bc, 4, none⟩ = some (.slice EA5 qa5 fa5) ∧ W.cell? ⟨bc, 5, none⟩ = some (.slice GA5 ra5 ha5) := fun W H => by
      have h1 := (HE1.out.below H.out).1.all
      have h2 := (HE2.out.below H.out).1.all
      have h5 := (HE5.out.below H.out).1.all
      refine ⟨H, h1.1, h1.2.1, h1.2.2.1, h1.2.2.2.1, h1.2.2.2.2.1, h1.2.2.2.2.2, h2.1, h2.2.1, h2.2.2.1, h2.2.2.2.1, h2.2.2.2.2.1, h2.2.2.2.2.2, h5⟩
    have H25 : Hid (∀ W, Hid (Below wE.heap.size wE W) → Calls Tryd.prog 20 #[.agg #[.int .i64 ka2, .int .i64 na2, .int .u64 ua2, .string sa2, .slice EA2 qa2 fa2, .slice GA2 ra2 ha2], .agg #[.int .i64 ka5, .int .i64 na5, .int .u64 ua5, .string sa5, .slice EA5 qa5 fa5, .slice GA5 ra5 ha5]] W fun e w' => e = .returned (.bool true) ∧ Hid (Below wE.heap.size wE w')) := Lib.hid fun W H => (same_eq X _ _ W HX.out.1.q0 (HE2.out.below H.out).2 (HE5.out.below H.out).2).mono fun e w' h => ⟨h.1, Lib.hid (tr H.out h.2.out)⟩
    have HCK : Hid (∀ W, Hid (Below wE.heap.size wE W) → Calls Tryd.prog 19 #[.agg #[.int .i64 ka2, .int .i64 na2, .int .u64 ua2, .string sa2, .slice EA2 qa2 fa2, .slice GA2 ra2 ha2]] W fun e w' => e = .returned (.int .i64 0) ∧ Hid (Below wE.heap.size wE w')) := Lib.hid fun W H => (check_any X _ W (HT.out.keep (tr HWE.out H.out)) HX.out.1.q0.1 HX.out.1.q0.2 (HE2.out.below H.out).2).mono fun e w' h => ⟨by rw [h.1, HX.out.1.c0]; rfl, Lib.hid (tr H.out h.2)⟩
    have HZ2 : Hid (∀ W, Hid (Below wE.heap.size wE W) → Calls Tryd.prog 23 #[.agg #[.int .i64 ka2, .int .i64 na2, .int .u64 ua2, .string sa2, .slice EA2 qa2 fa2, .slice GA2 ra2 ha2]] W fun e w' => e = .returned (.int .i64 (N1 : Int)) ∧ Hid (Below wE.heap.size wE w')) := Lib.hid fun W H => (size_any X _ W HX.out.1.q0.1 (HE2.out.below H.out).2).mono fun e w' h => ⟨by rw [h.1, HX.out.2.2.1], Lib.hid (tr H.out h.2)⟩
    have HZ1 : Hid (∀ W, Hid (Below wE.heap.size wE W) → Calls Tryd.prog 23 #[.agg #[.int .i64 ka1, .int .i64 na1, .int .u64 ua1, .string sa1, .slice EA1 qa1 fa1, .slice GA1 ra1 ha1]] W fun e w' => e = .returned (.int .i64 (N1 : Int)) ∧ Hid (Below wE.heap.size wE w')) := Lib.hid fun W H => (size_any t1 _ W HQ.out.1 (HE1.out.below H.out).2).mono fun e w' h => ⟨by rw [h.1, hN1], Lib.hid (tr H.out h.2)⟩
    have HP2 : Hid (∀ W, Hid (Below wE.heap.size wE W) → Calls Tryd.prog 24 #[.agg #[.int .i64 ka2, .int .i64 na2, .int .u64 ua2, .string sa2, .slice EA2 qa2 fa2, .slice GA2 ra2 ha2]] W fun e w' => e = .returned (.int .i64 (D1 : Int)) ∧ Hid (Below wE.heap.size wE w')) := Lib.hid fun W H => (deep_any X _ W HX.out.1.q0.1 (HE2.out.below H.out).2).mono fun e w' h => ⟨by rw [h.1, HX.out.2.2.2], Lib.hid (tr H.out h.2)⟩
    have HP1 : Hid (∀ W, Hid (Below wE.heap.size wE W) → Calls Tryd.prog 24 #[.agg #[.int .i64 ka1, .int .i64 na1, .int .u64 ua1, .string sa1, .slice EA1 qa1 fa1, .slice GA1 ra1 ha1]] W fun e w' => e = .returned (.int .i64 (D1 : Int)) ∧ Hid (Below wE.heap.size wE w')) := Lib.hid fun W H => (deep_any t1 _ W HQ.out.1 (HE1.out.below H.out).2).mono fun e w' h => ⟨by rw [h.1, hD1], Lib.hid (tr H.out h.2)⟩
    have HWK : Hid (∀ W, Hid (Below wE.heap.size wE W) → Calls Tryd.prog 34 #[] W fun e w' => e = .returned (.bool true) ∧ Hid (Below wE.heap.size wE w')) := Lib.hid fun W H => (works9_true W (HT.out.keep (tr HWE.out H.out))).mono fun e w' h => ⟨h.1, Lib.hid (tr H.out h.2)⟩
    clear hN1 hD1
    have HEd : Hid (Below wE.heap.size wE wE.drew) := Lib.hid (Below.refl _ wE).drew
    go_region_held3 (fun W => Hid (Below wE.heap.size wE W) ∧ W.cell? ⟨bi, 0, none⟩ = some (.int .i64 ka1) ∧ W.cell? ⟨bi, 1, none⟩ = some (.int .i64 na1) ∧ W.cell? ⟨bi, 2, none⟩ = some (.int .u64 ua1) ∧ W.cell? ⟨bi, 3, none⟩ = some (.string sa1) ∧ W.cell? ⟨bi, 4, none⟩ = some (.slice EA1 qa1 fa1) ∧ W.cell? ⟨bi, 5, none⟩ = some (.slice GA1 ra1 ha1) ∧ W.cell? ⟨ba, 0, none⟩ = some (.int .i64 ka2) ∧ W.cell? ⟨ba, 1, none⟩ = some (.int .i64 na2) ∧ W.cell? ⟨ba, 2, none⟩ = some (.int .u64 ua2) ∧ W.cell? ⟨ba, 3, none⟩ = some (.string sa2) ∧ W.cell? ⟨ba, 4, none⟩ = some (.slice EA2 qa2 fa2) ∧ W.cell? ⟨ba, 5, none⟩ = some (.slice GA2 ra2 ha2) ∧ W.cell? ⟨bc, 0, none⟩ = some (.int .i64 ka5) ∧ W.cell? ⟨bc, 1, none⟩ = some (.int .i64 na5) ∧ W.cell? ⟨bc, 2, none⟩ = some (.int .u64 ua5) ∧ W.cell? ⟨bc, 3, none⟩ = some (.string sa5) ∧ W.cell? ⟨bc, 4, none⟩ = some (.slice EA5 qa5 fa5) ∧ W.cell? ⟨bc, 5, none⟩ = some (.slice GA5 ra5 ha5)) (first | (with_reducible exact hall _ (by assumption)) | (with_reducible exact hall _ HEd))
      (first
        | (go_at_call 20; (with_reducible refine (H25.out _ HEd).mono ?_); rintro e w6 ⟨rfl, HW6⟩)
        | (go_at_call 19; (with_reducible refine (HCK.out _ (by assumption)).mono ?_); rintro e w66 ⟨rfl, HW66⟩)
        | (go_at_call 23; (first | (with_reducible refine (HZ2.out _ (by assumption)).mono ?_) | (with_reducible refine (HZ1.out _ (by assumption)).mono ?_)); rintro e w7 ⟨rfl, HW7⟩)
        | (go_at_call 24; (first | (with_reducible refine (HP2.out _ (by assumption)).mono ?_) | (with_reducible refine (HP1.out _ (by assumption)).mono ?_)); rintro e w8 ⟨rfl, HW8⟩)
        | (go_at_call 34; (with_reducible refine (HWK.out _ (by assumption)).mono ?_); rintro e w9 ⟨rfl, HW9⟩))
    go_wp2_with fail
    go_ret
    exact ⟨rfl, tr HWE.out HW9.out⟩
  · obtain ⟨e0, he0⟩ : ∃ e0, chk t1 = e0 := ⟨_, rfl⟩
    have h0 : e0 ≠ 0 := by rw [← he0]; exact hc
    have HS := Lib.hid (of_errL t1 e0 _ _ (HT.out.keep HB1.out) HQ.out he0 h0 HD1.out.2)
    have hb0 : ((e0 : Int) != 0) = true := by simp; omega
    have HCK : Hid (∀ W, Below w.heap.size w W → Nd W t1 [.int .i64 ka1, .int .i64 na1, .int .u64 ua1, .string sa1, .slice EA1 qa1 fa1, .slice GA1 ra1 ha1] → Calls Tryd.prog 19 #[.agg #[.int .i64 ka1, .int .i64 na1, .int .u64 ua1, .string sa1, .slice EA1 qa1 fa1, .slice GA1 ra1 ha1]] W fun e w' => e = .returned (.int .i64 (e0 : Int)) ∧ Hid (Below W.heap.size W w')) := Lib.hid fun W hb hn => (check_any t1 _ W (HT.out.keep hb) HQ.out.1 HQ.out.2 hn).mono fun e w' h => ⟨by rw [h.1, he0], Lib.hid h.2⟩
    clear hc he0 h0
    go_wp2_with fail
    with_reducible refine HS.out.mono ?_
    rintro e w2 ⟨rfl, hb2⟩
    have HB2 := Lib.hid (tr HB1.out (tr hb2.out (al0 w2 (.cells #[.int .i64 0, .int .i64 0, .int .u64 0, .string ⟨#[]⟩, .slice none 0 0, .slice none 0 0] 26))))
    have HD2 := Lib.hid (HD1.out.below (tr hb2.out (al0 w2 (.cells #[.int .i64 0, .int .i64 0, .int .u64 0, .string ⟨#[]⟩, .slice none 0 0, .slice none 0 0] 26))))
    have HX2 := Lib.hid (Blk.new w2 26 #[.int .i64 0, .int .i64 0, .int .u64 0, .string ⟨#[]⟩, .slice none 0 0, .slice none 0 0])
    clear hb2 HS HB1 HD1
    obtain ⟨x0, x1, x2, x3, x4, x5⟩ := Bx.all HD2.out.1
    go_wp2_with fail
    have hn2 := HD2.out.2
    with_reducible refine (HCK.out _ HB2.out hn2).mono ?_
    clear hn2
    rintro e w3 ⟨rfl, hb3⟩
    have HB3 := Lib.hid (tr HB2.out hb3.out)
    obtain ⟨y0, y1, y2, y3, y4, y5⟩ := Bx.all (show Bx w3 w2.heap.size _ _ _ _ _ _ from Blk.below HX2.out hb3.out HX2.out.lt)
    clear x0 x1 x2 x3 x4 x5
    go_wp2_with (first
      | (go_at_call 20; refine (same_eq T0 _ _ _ t0_qq (nd_t0 _) (nd_t0 _)).mono ?_; rintro e w4 ⟨rfl, hb4⟩; have HB4 := Lib.hid (tr HB3.out hb4.out))
      | (go_at_call 34; refine (works9_true _ (HT.out.keep HB4.out)).mono ?_; rintro e w5 ⟨rfl, hb5⟩))
    go_ret
    exact ⟨rfl, tr HB4.out hb5⟩
end Go.Proofs.YtpcfpikflkjmjaaDoor
