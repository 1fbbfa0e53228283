/-
  What is proved here: the law NormalTags returns true; condition: the table of package tree holds what is laid.
-/
import Derived.Test.YtpcfpikflkjmjaaDoorLaw9
import Derived.Test.YtpcfpikflkjmjaaDoorRtg
import Derived.Test.YtpcfpikflkjmjaaDoorBring
import Derived.Deep.RegionHeld3
namespace Go.Proofs.YtpcfpikflkjmjaaDoor
open Go.RowKit Go.Sort

theorem bring64 (n : Int) : ∃ b : Nat, b ≤ 200000 ∧ ∀ w, Calls Tryd.prog 22 #[.int .i64 n, .int .i64 64] w fun e w' => e = .returned (.int .i64 (b : Int)) ∧ w = w' := by
  refine ⟨(n % 64).toNat, by omega, fun w => ?_⟩
  rw [Int.toNat_of_nonneg (by omega)]
  exact bring_small n 64 w (by omega) (by omega)
theorem alk_rt {t x : T} (b : Nat) (h : VS t x) (hg : rgT t) : alk t (rtT b t) ∧ QQ (rtT b t) := by
  obtain ⟨s2, h1, h2⟩ := rt_nf b h.ok hg h.s
  have hv : VS (rtT b t) s2 := ⟨rt_chk b h.c0, rt_qq b h.ok h.q0, h1⟩
  exact ⟨h.alk hv h2.symm, hv.q0⟩

set_option maxRecDepth 100000 in
set_option maxHeartbeats 4000000 in
theorem normalTags_walk (t : T) (cs : List Value) (N : Int) (w : World) (hT : Tab w) (hnd : Nd w t cs) : Calls Tryd.prog 11 #[.agg cs.toArray, .int .i64 N] w fun e w' => e = .returned (.bool true) ∧ Below w.heap.size w w' := by
  have HT := Lib.hid hT
  obtain ⟨ka0, na0, ua0, sa0, EA0, qa0, fa0, GA0, ra0, ha0, rfl⟩ := hnd.shape
  have HN := Lib.hid hnd
  obtain ⟨t1, ht1⟩ : ∃ t1, fewT t = t1 := ⟨_, rfl⟩
  have HQ : Hid (QQ t1 ∧ sz t1 ≤ 60000) := Lib.hid (by rw [← ht1]; exact ⟨fewT_qq t, by have := fewT_sz t; omega⟩)
  have HC : Hid (∀ W, Below w.heap.size w W → Calls Tryd.prog 31 #[.agg #[.int .i64 ka0, .int .i64 na0, .int .u64 ua0, .string sa0, .slice EA0 qa0 fa0, .slice GA0 ra0 ha0]] W fun e w' => ∃ (ka1 na1 ua1 : Int) (sa1 : ByteArray) (EA1 : Option Addr) (qa1 fa1 : Nat) (GA1 : Option Addr) (ra1 ha1 : Nat), e = .returned (.agg #[.int .i64 ka1, .int .i64 na1, .int .u64 ua1, .string sa1, .slice EA1 qa1 fa1, .slice GA1 ra1 ha1]) ∧ Hid (Nd w' t1 [.int .i64 ka1, .int .i64 na1, .int .u64 ua1, .string sa1, .slice EA1 qa1 fa1, .slice GA1 ra1 ha1]) ∧ Hid (Below W.heap.size W w')) := Lib.hid fun W hb => by
    rw [← ht1]
    exact few9_nd t _ W (HN.out.bel hb)
  clear hT hnd ht1
  go_enter Tryd.func11, Tryd.ntmps11
  go_wp2_with fail
  with_reducible refine (HC.out _ (al0 w _)).mono ?_
  rintro e w1 ⟨ka1, na1, ua1, sa1, EA1, qa1, fa1, GA1, ra1, ha1, rfl, HN1, hb1⟩
  obtain ⟨wI, hwI⟩ : ∃ wI, w1.alloc (.cells #[.int .i64 ka1, .int .i64 na1, .int .u64 ua1, .string sa1, .slice EA1 qa1 fa1, .slice GA1 ra1 ha1] 26) = wI := ⟨_, rfl⟩
  obtain ⟨bi, hbi⟩ : ∃ bi, w1.heap.size = bi := ⟨_, rfl⟩
  have HWI : Hid (Below w.heap.size w wI) := Lib.hid (by rw [← hwI]; exact tr (al hb1.out) (al0 w1 _))
  have HBI : Hid (Bd wI bi t1 (.int .i64 ka1) (.int .i64 na1) (.int .u64 ua1) (.string sa1) (.slice EA1 qa1 fa1) (.slice GA1 ra1 ha1)) := Lib.hid (by rw [← hwI, ← hbi]; exact Bd.new HN1.out)
  have HCK := Lib.hid (check_any t1 _ wI (HT.out.keep HWI.out) HQ.out.1.1 HQ.out.1.2 HBI.out.2)
  obtain ⟨e0, he0⟩ : ∃ e0, chk t1 = e0 := ⟨_, rfl⟩
  rw [he0] at HCK
  have HE0 := Lib.hid he0
  clear HC HN HN1 hb1 he0
  obtain ⟨x0, x1, x2, x3, x4, x5⟩ := HBI.out.1.all
  go_wp2_with fail
  (try rw [hwI])
  (try simp only [hbi])
  clear hwI hbi x0 x1 x2 x3 x4 x5
  refine HCK.out.mono ?_
  rintro e w2 ⟨rfl, hb2⟩
  have HI2 := Lib.hid (HBI.out.below hb2)
  have HW2 := Lib.hid (tr HWI.out hb2)
  clear hb2 HCK
  by_cases hc : e0 = 0
  · subst hc
    have HS := Lib.hid (sorted_okO t1 _ w2 (HT.out.keep HW2.out) HQ.out.1 HE0.out HI2.out.2)
    obtain ⟨x0, x1, x2, x3, x4, x5⟩ := HI2.out.1.all
    go_wp2_with fail
    with_reducible refine HS.out.mono ?_
    rintro e w3 ⟨t2, ka2, na2, ua2, sa2, EA2, qa2, fa2, GA2, ra2, ha2, rfl, HSR, HO3, hb3⟩
    have HV : Hid (VS t1 t2) := Lib.hid ⟨HE0.out, HQ.out.1, HSR.out⟩
    clear x0 x1 x2 x3 x4 x5 HS
    obtain ⟨wE, hwE⟩ : ∃ wE, w3.alloc (.cells #[.int .i64 ka2, .int .i64 na2, .int .u64 ua2, .string sa2, .slice EA2 qa2 fa2, .slice GA2 ra2 ha2] 26) = wE := ⟨_, rfl⟩
    obtain ⟨ba, hba⟩ : ∃ ba, w3.heap.size = ba := ⟨_, rfl⟩
    have H2E : Hid (Below w2.heap.size w2 wE) := Lib.hid (by rw [← hwE]; exact tr hb3.out (al0 w3 _))
    have HE1 := Lib.hid (HI2.out.below H2E.out)
    have HE2 : Hid (Bd wE ba t2 (.int .i64 ka2) (.int .i64 na2) (.int .u64 ua2) (.string sa2) (.slice EA2 qa2 fa2) (.slice GA2 ra2 ha2)) := Lib.hid (by rw [← hwE, ← hba]; exact Bd.new HO3.out.nd)
    have HWE := Lib.hid (tr HW2.out H2E.out)
    go_wp2_with fail
    (try rw [hwE])
    (try simp only [hba])
    clear hwE hba hb3 HO3
    obtain ⟨b, hb200, hbr⟩ := bring64 N
    have HBR := Lib.hid hbr
    have HRK : Hid (alk t1 (rtT b t1) ∧ QQ (rtT b t1)) := Lib.hid (alk_rt b HV.out (Nd.rg HE1.out.2))
    obtain ⟨t3, ht3⟩ : ∃ t3, rtT b t1 = t3 := ⟨_, rfl⟩
    rw [ht3] at HRK
    have hall : ∀ W, Hid (Below wE.heap.size wE W) → Hid (Below wE.heap.size wE W) ∧ W.cell? ⟨bi, 0, none⟩ = some (.int .i64 ka1) ∧ W.cell? ⟨bi, 1, none⟩ = some (.int .i64 na1) ∧ W.cell? ⟨bi, 2, none⟩ = some (.int .u64 ua1) ∧ W.cell? ⟨bi, 3, none⟩ = some (.string sa1) ∧ W.cell? ⟨bi, 4, none⟩ = some (.slice EA1 qa1 fa1) ∧ W.cell? ⟨bi, 5, none⟩ = some (.slice GA1 ra1 ha1) ∧ W.cell? ⟨ba, 0, none⟩ = some (.int .i64 ka2) ∧ W.cell? ⟨ba, 1, none⟩ = some (.int .i64 na2) ∧ W.cell? ⟨ba, 2, none⟩ = some (.int .u64 ua2) ∧ W.cell? ⟨ba, 3, none⟩ = some (.string sa2) ∧ W.cell? ⟨ba, 4, none⟩ = some (.slice EA2 qa2 fa2) ∧ W.cell? ⟨ba, 5, none⟩ = some (.slice GA2 ra2 ha2) := fun W H => by
      have h1 := (HE1.out.below H.out).1.all
      have h2 := (HE2.out.below H.out).1.all
      exact ⟨H, h1.1, h1.2.1, h1.2.2.1, h1.2.2.2.1, h1.2.2.2.2.1, h1.2.2.2.2.2, h2⟩
    have HA1 : Hid (∀ W, Hid (Below wE.heap.size wE W) → Calls Tryd.prog 35 #[.agg #[.int .i64 ka1, .int .i64 na1, .int .u64 ua1, .string sa1, .slice EA1 qa1 fa1, .slice GA1 ra1 ha1], .agg #[.int .i64 ka2, .int .i64 na2, .int .u64 ua2, .string sa2, .slice EA2 qa2 fa2, .slice GA2 ra2 ha2]] W fun e w' => e = .returned (.bool true) ∧ Hid (Below wE.heap.size wE w')) := Lib.hid fun W H => (alike_any t1 t2 _ _ W (HT.out.keep (tr HWE.out H.out)) HQ.out.1 HV.out.qx (HE1.out.below H.out).2 (HE2.out.below H.out).2).mono fun e w' h => by
      obtain ⟨⟨β, rfl, hβ⟩, hb⟩ := h
      exact ⟨by rw [hβ.2 (HV.out.alk HV.out.self rfl)], Lib.hid (tr H.out hb)⟩
    have HRT : Hid (∀ W, Hid (Below wE.heap.size wE W) → Calls Tryd.prog 38 #[.agg #[.int .i64 ka1, .int .i64 na1, .int .u64 ua1, .string sa1, .slice EA1 qa1 fa1, .slice GA1 ra1 ha1], .int .i64 (b : Int)] W fun e w' => ∃ (ka3 na3 ua3 : Int) (sa3 : ByteArray) (EA3 : Option Addr) (qa3 fa3 : Nat) (GA3 : Option Addr) (ra3 ha3 : Nat), e = .returned (.agg #[.int .i64 ka3, .int .i64 na3, .int .u64 ua3, .string sa3, .slice EA3 qa3 fa3, .slice GA3 ra3 ha3]) ∧ Hid (Nd w' t3 [.int .i64 ka3, .int .i64 na3, .int .u64 ua3, .string sa3, .slice EA3 qa3 fa3, .slice GA3 ra3 ha3]) ∧ Hid (Below wE.heap.size wE w')) := Lib.hid fun W H => by
      refine (retagged_any (dp t1) b t1 _ W hb200 (Nat.le_refl _) HQ.out.2 HQ.out.1.2 HV.out.ok (HE1.out.below H.out).2).mono ?_
      rintro e w' ⟨⟨cs', rfl, h1⟩, h2⟩
      obtain ⟨ka3, na3, ua3, sa3, EA3, qa3, fa3, GA3, ra3, ha3, rfl⟩ := h1.shape6
      rw [ht3] at h1
      exact ⟨ka3, na3, ua3, sa3, EA3, qa3, fa3, GA3, ra3, ha3, rfl, Lib.hid (NdO.nd _ _ h1), Lib.hid (tr H.out h2)⟩
    have HA2 : Hid (∀ (W : World) (ka3 na3 ua3 : Int) (sa3 : ByteArray) (EA3 : Option Addr) (qa3 fa3 : Nat) (GA3 : Option Addr) (ra3 ha3 : Nat), Hid (Below wE.heap.size wE W) → Hid (Nd W t3 [.int .i64 ka3, .int .i64 na3, .int .u64 ua3, .string sa3, .slice EA3 qa3 fa3, .slice GA3 ra3 ha3]) → Calls Tryd.prog 35 #[.agg #[.int .i64 ka1, .int .i64 na1, .int .u64 ua1, .string sa1, .slice EA1 qa1 fa1, .slice GA1 ra1 ha1], .agg #[.int .i64 ka3, .int .i64 na3, .int .u64 ua3, .string sa3, .slice EA3 qa3 fa3, .slice GA3 ra3 ha3]] W fun e w' => e = .returned (.bool true) ∧ Hid (Below wE.heap.size wE w')) := Lib.hid fun W ka3 na3 ua3 sa3 EA3 qa3 fa3 GA3 ra3 ha3 H H3 => (alike_any t1 t3 _ _ W (HT.out.keep (tr HWE.out H.out)) HQ.out.1 HRK.out.2 (HE1.out.below H.out).2 H3.out).mono fun e w' h => by
      obtain ⟨⟨β, rfl, hβ⟩, hb⟩ := h
      exact ⟨by rw [hβ.2 HRK.out.1], Lib.hid (tr H.out hb)⟩
    have HWK : Hid (∀ W, Hid (Below wE.heap.size wE W) → Calls Tryd.prog 34 #[] W fun e w' => e = .returned (.bool true) ∧ Hid (Below wE.heap.size wE w')) := Lib.hid fun W H => (works9_true W (HT.out.keep (tr HWE.out H.out))).mono fun e w' h => ⟨h.1, Lib.hid (tr H.out h.2)⟩
    have HEd : Hid (Below wE.heap.size wE wE.drew) := Lib.hid (Below.refl _ wE).drew
    clear hbr ht3 hb200
    go_region_held3 (fun W => Hid (Below wE.heap.size wE W) ∧ W.cell? ⟨bi, 0, none⟩ = some (.int .i64 ka1) ∧ W.cell? ⟨bi, 1, none⟩ = some (.int .i64 na1) ∧ W.cell? ⟨bi, 2, none⟩ = some (.int .u64 ua1) ∧ W.cell? ⟨bi, 3, none⟩ = some (.string sa1) ∧ W.cell? ⟨bi, 4, none⟩ = some (.slice EA1 qa1 fa1) ∧ W.cell? ⟨bi, 5, none⟩ = some (.slice GA1 ra1 ha1) ∧ W.cell? ⟨ba, 0, none⟩ = some (.int .i64 ka2) ∧ W.cell? ⟨ba, 1, none⟩ = some (.int .i64 na2) ∧ W.cell? ⟨ba, 2, none⟩ = some (.int .u64 ua2) ∧ W.cell? ⟨ba, 3, none⟩ = some (.string sa2) ∧ W.cell? ⟨ba, 4, none⟩ = some (.slice EA2 qa2 fa2) ∧ W.cell? ⟨ba, 5, none⟩ = some (.slice GA2 ra2 ha2)) (first | (with_reducible exact hall _ (by assumption)) | (with_reducible exact hall _ HEd))
      (first
        | (go_at_call 22; (with_reducible refine (HBR.out _).mono ?_); rintro e w' ⟨rfl, rfl⟩)
        | (go_at_call 35; (with_reducible refine (HA1.out _ (by first | assumption | exact HEd)).mono ?_); rintro e w4 ⟨rfl, HW4⟩)
        | (go_at_call 38; (with_reducible refine (HRT.out _ HW4).mono ?_); rintro e w5 ⟨ka3, na3, ua3, sa3, EA3, qa3, fa3, GA3, ra3, ha3, rfl, HN5, HW5⟩)
        | (go_at_call 35; (with_reducible refine (HA2.out _ _ _ _ _ _ _ _ _ _ _ HW5 HN5).mono ?_); rintro e w6 ⟨rfl, HW6⟩)
        | (go_at_call 34; (with_reducible refine (HWK.out _ HW6).mono ?_); rintro e w7 ⟨rfl, HW7⟩))
    go_wp2_with fail
    go_ret
    exact ⟨rfl, tr HWE.out HW7.out⟩
  · have hb0 : ((e0 : Int) != 0) = true := by simp; omega
    clear hc
    go_wp2_with (go_at_call 34; refine (works9_true _ (HT.out.keep HW2.out)).mono ?_; rintro e w5 ⟨rfl, hb5⟩)
    go_ret
    exact ⟨rfl, tr HW2.out hb5⟩
end Go.Proofs.YtpcfpikflkjmjaaDoor
