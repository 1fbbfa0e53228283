/-
  What is proved here: the law NormalKinds returns true; condition: the table of package tree holds what is laid.
-/
import Derived.Test.YtpcfpikflkjmjaaDoorLaw9
namespace Go.Proofs.YtpcfpikflkjmjaaDoor
open Go.RowKit Go.Sort

def PN (w : World) (ba : Nat) (t : T) (v0 v1 v2 v3 v4 v5 : Value) (W : World) : Prop := Below w.heap.size w W ∧ Bd W ba t v0 v1 v2 v3 v4 v5
theorem PN.below {w W W' : World} {ba : Nat} {t : T} {v0 v1 v2 v3 v4 v5 : Value} (h : PN w ba t v0 v1 v2 v3 v4 v5 W) (hb : Below W.heap.size W W') : PN w ba t v0 v1 v2 v3 v4 v5 W' := ⟨tr h.1 hb, h.2.below hb⟩
def nkH (k u : Int) : Prop := k = 1 ∨ k = 2 ∨ k = 3 ∨ k = 6 ∨ k = 7 ∨ k = 10 ∨ k = 17 ∨ (k = 4 ∧ 9223372036854775808 ≤ u)

set_option maxRecDepth 100000 in
set_option maxHeartbeats 2000000 in
theorem normalKinds_walk (t : T) (cs : List Value) (w : World) (hT : Tab w) (hnd : Nd w t cs) : Calls Tryd.prog 9 #[.agg cs.toArray] w fun e w' => e = .returned (.bool true) ∧ Below w.heap.size w w' := by
  have HT := Lib.hid hT
  obtain ⟨ka0, na0, ua0, sa0, EA0, qa0, fa0, GA0, ra0, ha0, rfl⟩ := hnd.shape
  have HN := Lib.hid hnd
  obtain ⟨t1, ht1⟩ : ∃ t1, fewT t = t1 := ⟨_, rfl⟩
  have HQ : Hid (QQ t1) := Lib.hid (by rw [← ht1]; exact fewT_qq t)
  have HC : Hid (∀ W, Below w.heap.size w W → Calls Tryd.prog 31 #[.agg #[.int .i64 ka0, .int .i64 na0, .int .u64 ua0, .string sa0, .slice EA0 qa0 fa0, .slice GA0 ra0 ha0]] W fun e w' => ∃ (ka1 na1 ua1 : Int) (sa1 : ByteArray) (EA1 : Option Addr) (qa1 fa1 : Nat) (GA1 : Option Addr) (ra1 ha1 : Nat), e = .returned (.agg #[.int .i64 ka1, .int .i64 na1, .int .u64 ua1, .string sa1, .slice EA1 qa1 fa1, .slice GA1 ra1 ha1]) ∧ Hid (Nd w' t1 [.int .i64 ka1, .int .i64 na1, .int .u64 ua1, .string sa1, .slice EA1 qa1 fa1, .slice GA1 ra1 ha1]) ∧ Hid (Below W.heap.size W w')) := Lib.hid fun W hb => by
    rw [← ht1]
    exact few9_nd t _ W (HN.out.bel hb)
  clear hT hnd ht1
  go_enter Tryd.func9, Tryd.ntmps9
  go_wp2_with fail
  with_reducible refine (HC.out _ (al0 w _)).mono ?_
  rintro e w1 ⟨ka1, na1, ua1, sa1, EA1, qa1, fa1, GA1, ra1, ha1, rfl, HN1, hb1⟩
  have HB1 := Lib.hid (al hb1.out)
  clear hb1 HC HN
  by_cases hc : chk t1 = 0
  · have HS := Lib.hid (of_okO t1 _ _ (HT.out.keep HB1.out) HQ.out hc HN1.out)
    have HCZ := Lib.hid hc
    clear hc
    go_wp2_with fail
    with_reducible refine HS.out.mono ?_
    rintro e w2 ⟨t2, ka2, na2, ua2, sa2, EA2, qa2, fa2, GA2, ra2, ha2, rfl, HSR, HO2, hb2⟩
    have HV : Hid (VS t1 t2) := Lib.hid ⟨HCZ.out, HQ.out, HSR.out⟩
    obtain ⟨X, hX⟩ : ∃ X, nfT t2 = X := ⟨_, rfl⟩
    have HX : Hid (VS X X ∧ nkT X) := Lib.hid (by rw [← hX]; exact ⟨HV.out.nf, nf_nk HV.out.okx⟩)
    rw [hX] at HO2
    clear hX HS HN1
    obtain ⟨N, hN⟩ : ∃ N, sz X = N := ⟨_, rfl⟩
    obtain ⟨ba, hba⟩ : ∃ ba, w2.heap.size = ba := ⟨_, rfl⟩
    obtain ⟨W0, hW0⟩ : ∃ W0, w2.alloc (.cells #[.int .i64 ka2, .int .i64 na2, .int .u64 ua2, .string sa2, .slice EA2 qa2 fa2, .slice GA2 ra2 ha2] 26) = W0 := ⟨_, rfl⟩
    have HP0 : Hid (PN w ba X (.int .i64 ka2) (.int .i64 na2) (.int .u64 ua2) (.string sa2) (.slice EA2 qa2 fa2) (.slice GA2 ra2 ha2) W0) := Lib.hid ⟨by rw [← hW0]; exact tr HB1.out (tr hb2.out (al0 w2 _)), by rw [← hW0, ← hba]; exact Bd.new (NdO.nd _ _ HO2.out)⟩
    have HNB : Hid (N ≤ 100000) := Lib.hid (by rw [← hN]; exact HX.out.1.q0.1)
    have HSZ : Hid (∀ W, Hid (PN w ba X (.int .i64 ka2) (.int .i64 na2) (.int .u64 ua2) (.string sa2) (.slice EA2 qa2 fa2) (.slice GA2 ra2 ha2) W) → Calls Tryd.prog 23 #[.agg #[.int .i64 ka2, .int .i64 na2, .int .u64 ua2, .string sa2, .slice EA2 qa2 fa2, .slice GA2 ra2 ha2]] W fun e w' => e = .returned (.int .i64 (N : Int)) ∧ Hid (PN w ba X (.int .i64 ka2) (.int .i64 na2) (.int .u64 ua2) (.string sa2) (.slice EA2 qa2 fa2) (.slice GA2 ra2 ha2) w')) := Lib.hid fun W H => by
      refine (size_any X _ W HX.out.1.q0.1 H.out.2.2).mono ?_
      rintro e w' ⟨rfl, hb⟩
      rw [hN]
      exact ⟨rfl, Lib.hid (H.out.below hb)⟩
    have HAT : Hid (∀ (W : World) (j : Nat), j < N → Hid (PN w ba X (.int .i64 ka2) (.int .i64 na2) (.int .u64 ua2) (.string sa2) (.slice EA2 qa2 fa2) (.slice GA2 ra2 ha2) W) → Calls Tryd.prog 37 #[.agg #[.int .i64 ka2, .int .i64 na2, .int .u64 ua2, .string sa2, .slice EA2 qa2 fa2, .slice GA2 ra2 ha2], .int .i64 (j : Int)] W fun e w' => ∃ (ka3 na3 ua3 : Int) (sa3 : ByteArray) (EA3 : Option Addr) (qa3 fa3 : Nat) (GA3 : Option Addr) (ra3 ha3 : Nat), e = .returned (.tuple #[.agg #[.int .i64 ka3, .int .i64 na3, .int .u64 ua3, .string sa3, .slice EA3 qa3 fa3, .slice GA3 ra3 ha3], .bool true]) ∧ Hid (nkH ka3 ua3) ∧ Hid (PN w ba X (.int .i64 ka2) (.int .i64 na2) (.int .u64 ua2) (.string sa2) (.slice EA2 qa2 fa2) (.slice GA2 ra2 ha2) w')) := Lib.hid fun W j hj H => by
      obtain ⟨x, hx⟩ := atT_some X j (by omega)
      have hI : atI X (j : Int) = some x := by unfold atI; rw [if_neg (by omega), Int.toNat_natCast]; exact hx
      refine (at_any X _ (j : Int) W HX.out.1.q0.1 HX.out.1.q0.2 H.out.2.2).mono ?_
      rw [hI]
      rintro e w' ⟨⟨cs', rfl, h1⟩, hb⟩
      obtain ⟨ka3, na3, ua3, sa3, EA3, qa3, fa3, GA3, ra3, ha3, rfl⟩ := h1.shape6
      have hnd := NdO.nd _ _ h1
      have hxi := nkT_at HX.out.2 hx
      refine ⟨ka3, na3, ua3, sa3, EA3, qa3, fa3, GA3, ra3, ha3, rfl, Lib.hid ?_, Lib.hid (H.out.below hb)⟩
      have hg : (some x).getD T0 = x := rfl
      rw [hg] at hnd
      cases x with
      | mk k' n' u' s' ks' l' =>
        obtain ⟨_, _, kv, A, m, c, he, _, _⟩ := hnd
        simp only [List.cons.injEq, Value.int.injEq, true_and] at he
        obtain ⟨rfl, _, rfl, _⟩ := he
        exact hxi.1
    go_wp2_with fail
    (try rw [hW0])
    (try simp only [hba])
    clear hN hb2 HSR HCZ HO2 hW0 hba
    go_loopw [5] (fun vi wr => ∃ j : Nat, vi = .int .i64 (j : Int) ∧ j ≤ 130 ∧ Hid (PN w ba X (.int .i64 ka2) (.int .i64 na2) (.int .u64 ua2) (.string sa2) (.slice EA2 qa2 fa2) (.slice GA2 ra2 ha2) wr)) (fun vi _ => 130 - (intOf vi).toNat)
    case atStart => exact ⟨0, rfl, by omega, HP0⟩
    case round =>
      obtain ⟨j, rfl, hj, HP⟩ := hrel
      clear HP0
      obtain ⟨c0, c1, c2, c3, c4, c5⟩ := Bx.all HP.out.2.1
      by_cases hjN : j < N
      · by_cases hj1 : j < 130
        · go_wp2_with (first
            | (go_at_call 23; (with_reducible refine (HSZ.out _ HP).mono ?_); clear c0 c1 c2 c3 c4 c5; rintro e w3 ⟨rfl, HP3⟩; obtain ⟨c0, c1, c2, c3, c4, c5⟩ := Bx.all HP3.out.2.1))
          with_reducible refine (HAT.out _ j hjN HP3).mono ?_
          clear c0 c1 c2 c3 c4 c5
          rintro e w4 ⟨ka3, na3, ua3, sa3, EA3, qa3, fa3, GA3, ra3, ha3, rfl, HX3, HP4⟩
          obtain ⟨Wb, hWb⟩ : ∃ Wb, w4.alloc (.cells #[.int .i64 ka3, .int .i64 na3, .int .u64 ua3, .string sa3, .slice EA3 qa3 fa3, .slice GA3 ra3 ha3] 26) = Wb := ⟨_, rfl⟩
          obtain ⟨bb, hbb⟩ : ∃ bb, w4.heap.size = bb := ⟨_, rfl⟩
          have HPb : Hid (PN w ba X (.int .i64 ka2) (.int .i64 na2) (.int .u64 ua2) (.string sa2) (.slice EA2 qa2 fa2) (.slice GA2 ra2 ha2) Wb) := Lib.hid (by rw [← hWb]; exact HP4.out.below (al0 w4 _))
          have HXb : Hid (Bx Wb bb (.int .i64 ka3) (.int .i64 na3) (.int .u64 ua3) (.string sa3) (.slice EA3 qa3 fa3) (.slice GA3 ra3 ha3)) := Lib.hid (by rw [← hWb, ← hbb]; exact Blk.new _ _ _)
          clear HP4
          have hj2 : j + 1 ≤ 130 := by omega
          have hjj : 130 - (j + 1) < 130 - j := by omega
          obtain ⟨b0, b1, b2, b3, b4, b5⟩ := Bx.all HXb.out
          rcases HX3.out with rfl | rfl | rfl | rfl | rfl | rfl | rfl | ⟨rfl, hu⟩
          · clear HX3
            go_wp2_with fail
            (try rw [hWb])
            go_roundw
            case rel => exact ⟨j + 1, by simp, hj2, by first | exact HPb | (rw [hWb]; exact HPb)⟩
            case measure => simp [intOf]; omega
          · clear HX3
            go_wp2_with fail
            (try rw [hWb])
            go_roundw
            case rel => exact ⟨j + 1, by simp, hj2, by first | exact HPb | (rw [hWb]; exact HPb)⟩
            case measure => simp [intOf]; omega
          · clear HX3
            go_wp2_with fail
            (try rw [hWb])
            go_roundw
            case rel => exact ⟨j + 1, by simp, hj2, by first | exact HPb | (rw [hWb]; exact HPb)⟩
            case measure => simp [intOf]; omega
          · clear HX3
            go_wp2_with fail
            (try rw [hWb])
            go_roundw
            case rel => exact ⟨j + 1, by simp, hj2, by first | exact HPb | (rw [hWb]; exact HPb)⟩
            case measure => simp [intOf]; omega
          · clear HX3
            go_wp2_with fail
            (try rw [hWb])
            go_roundw
            case rel => exact ⟨j + 1, by simp, hj2, by first | exact HPb | (rw [hWb]; exact HPb)⟩
            case measure => simp [intOf]; omega
          · clear HX3
            go_wp2_with fail
            (try rw [hWb])
            go_roundw
            case rel => exact ⟨j + 1, by simp, hj2, by first | exact HPb | (rw [hWb]; exact HPb)⟩
            case measure => simp [intOf]; omega
          · clear HX3
            go_wp2_with fail
            (try rw [hWb])
            go_roundw
            case rel => exact ⟨j + 1, by simp, hj2, by first | exact HPb | (rw [hWb]; exact HPb)⟩
            case measure => simp [intOf]; omega
          · clear HX3
            have hu2 : ¬ ua3 < 9223372036854775808 := by omega
            clear hu
            go_wp2_with fail
            (try rw [hWb])
            go_roundw
            case rel => exact ⟨j + 1, by simp, hj2, by first | exact HPb | (rw [hWb]; exact HPb)⟩
            case measure => simp [intOf]; omega
        · go_wp2_with (first
            | (go_at_call 23; (with_reducible refine (HSZ.out _ HP).mono ?_); clear c0 c1 c2 c3 c4 c5; rintro e w3 ⟨rfl, HP3⟩)
            | (go_at_call 34; refine (works9_true _ (HT.out.keep HP3.out.1)).mono ?_; rintro e w4 ⟨rfl, hb4⟩; have HB4 := Lib.hid (tr HP3.out.1 hb4); clear hb4))
          go_ret
          exact ⟨rfl, HB4.out⟩
      · go_wp2_with (first
          | (go_at_call 23; (with_reducible refine (HSZ.out _ HP).mono ?_); clear c0 c1 c2 c3 c4 c5; rintro e w3 ⟨rfl, HP3⟩)
          | (go_at_call 34; refine (works9_true _ (HT.out.keep HP3.out.1)).mono ?_; rintro e w4 ⟨rfl, hb4⟩; have HB4 := Lib.hid (tr HP3.out.1 hb4); clear hb4))
        go_ret
        exact ⟨rfl, HB4.out⟩
  · obtain ⟨e0, he0⟩ : ∃ e0, chk t1 = e0 := ⟨_, rfl⟩
    have h0 : e0 ≠ 0 := by rw [← he0]; exact hc
    have HS := Lib.hid (of_errL t1 e0 _ w1 (HT.out.keep HB1.out) HQ.out he0 h0 HN1.out)
    have hb0 : ((e0 : Int) == 0) = false := by
      rw [beq_eq_false_iff_ne]
      omega
    clear hc HN1 he0 h0
    go_wp2_with fail
    with_reducible refine HS.out.mono ?_
    rintro e w2 ⟨rfl, hb2⟩
    have HB2 := Lib.hid (tr HB1.out (tr hb2.out (al0 w2 (.cells #[.int .i64 0, .int .i64 0, .int .u64 0, .string ⟨#[]⟩, .slice none 0 0, .slice none 0 0] 26))))
    clear hb2 HS
    go_wp2_with fail
    refine wp_loop_rounds 1 ?_
    rw [rounds_succ]
    go_wp2_with (first | (go_at_call 34; refine (works9_true _ (HT.out.keep HB2.out)).mono ?_; rintro e w4 ⟨rfl, hb4⟩))
    go_ret
    exact ⟨rfl, tr HB2.out hb4⟩
end Go.Proofs.YtpcfpikflkjmjaaDoor
