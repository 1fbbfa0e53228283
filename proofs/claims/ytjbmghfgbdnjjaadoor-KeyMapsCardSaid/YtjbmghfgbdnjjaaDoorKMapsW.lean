/-
  What is proved here: the law KeyMaps returns true; condition: the table of package tree holds what is laid.
-/
import Derived.Test.YtjbmghfgbdnjjaaDoorSrtF
import Derived.Test.YtjbmghfgbdnjjaaDoorFew
namespace Go.Proofs.YtjbmghfgbdnjjaaDoor
open Go.RowKit Go.Sort

theorem fewT_qq (t : T) : QQ (fewT t) := ⟨by have := fewT_sz t; omega, fewT_sm t⟩
theorem sorted_okE (t : T) (cs : List Value) (w : World) (hT : Tab w) (hq : QQ t) (hc : chk t = 0) (hnd : Nd w t cs) :
    Calls Tryd.prog 26 #[.agg cs.toArray] w fun e w' => ∃ (t' : T) (k n u : Int) (s : ByteArray) (A1 : Option Addr) (m1 c1 : Nat) (A2 : Option Addr) (m2 c2 : Nat), e = .returned (.tuple #[.agg #[.int .i64 k, .int .i64 n, .int .u64 u, .string s, .slice A1 m1 c1, .slice A2 m2 c2], .int .i64 0]) ∧
      Hid (Srt t t') ∧ Hid (Nd w' t' [.int .i64 k, .int .i64 n, .int .u64 u, .string s, .slice A1 m1 c1, .slice A2 m2 c2]) ∧ Hid (Below w.heap.size w w') := by
  refine (sorted_any t cs w hT hq hnd).mono ?_
  rintro e w' ⟨hb, ⟨h, _⟩ | ⟨_, cs', t2, rfl, h2, h3⟩⟩
  · exact absurd hc h
  · obtain ⟨k, n, u, s, A1, m1, c1, A2, m2, c2, rfl⟩ := (NdS.ndo _ _ h3).shape6
    exact ⟨t2, k, n, u, s, A1, m1, c1, A2, m2, c2, rfl, Lib.hid h2, Lib.hid h3.nd, Lib.hid hb⟩
theorem cutS_any (t : T) (cs : List Value) (w : World) (hnd : Nd w t cs) : Calls Tryd.prog 25 #[.agg cs.toArray, .int .i64 120, .int .i64 60] w fun e w' =>
    ∃ (k n u : Int) (s : ByteArray) (A1 : Option Addr) (m1 c1 : Nat) (A2 : Option Addr) (m2 c2 : Nat), e = .returned (.agg #[.int .i64 k, .int .i64 n, .int .u64 u, .string s, .slice A1 m1 c1, .slice A2 m2 c2]) ∧
      Hid (NdO (fun b => w.heap.size ≤ b) w' (fewT t) [.int .i64 k, .int .i64 n, .int .u64 u, .string s, .slice A1 m1 c1, .slice A2 m2 c2]) ∧ Hid (Below w.heap.size w w') := by
  refine (cut0_any t cs w hnd).mono ?_
  rintro e w' ⟨⟨cs', rfl, h1⟩, hb⟩
  obtain ⟨k, n, u, s, A1, m1, c1, A2, m2, c2, rfl⟩ := h1.shape6
  exact ⟨k, n, u, s, A1, m1, c1, A2, m2, c2, rfl, Lib.hid h1, Lib.hid hb⟩
def PM (w : World) (ba : Nat) (t : T) (v0 v1 v2 v3 v4 v5 : Value) (W : World) : Prop := Below w.heap.size w W ∧ Bx W ba v0 v1 v2 v3 v4 v5 ∧ Nd W t [v0, v1, v2, v3, v4, v5]
theorem PM.below {w W W' : World} {ba : Nat} {t : T} {v0 v1 v2 v3 v4 v5 : Value} (h : PM w ba t v0 v1 v2 v3 v4 v5 W) (hb : Below W.heap.size W W') : PM w ba t v0 v1 v2 v3 v4 v5 W' := ⟨tr h.1 hb, Blk.below h.2.1 hb (Blk.lt h.2.1), h.2.2.bel hb⟩
theorem quiet_add_m {P : Program} {f : FuncId} {args : Array Value} {w : World} {a n : Nat} {v : Value} (h : Calls P f args (w.drewN (a + n)) fun e w' => e = .returned v ∧ w' = w.drewN (a + n)) :
    Calls P f args (w.drewN (a + n)) fun e w'' => e = .returned v ∧ ∃ m, w'' = w.drewN (a + m) := by
  refine h.mono ?_
  rintro e w' ⟨h1, rfl⟩
  exact ⟨h1, n, rfl⟩

set_option maxRecDepth 100000 in
set_option maxHeartbeats 2000000 in
theorem keyMaps_walk (t : T) (cs : List Value) (w : World) (hT : Tab w) (hnd : Nd w t cs) : Calls Tryd.prog 10 #[.agg cs.toArray] w fun e w' => e = .returned (.bool true) ∧ Below w.heap.size w w' := by
  have HT := Lib.hid hT
  obtain ⟨k0, n0, uz, s0, A1, m1, c1, A2, m2, c2, rfl⟩ := hnd.shape
  have HN := Lib.hid hnd
  obtain ⟨t1, ht1⟩ : ∃ t1, fewT t = t1 := ⟨_, rfl⟩
  have HQ : Hid (QQ t1) := Lib.hid (by rw [← ht1]; exact fewT_qq t)
  have HC : Hid (∀ W, Below w.heap.size w W → Calls Tryd.prog 25 #[.agg #[.int .i64 k0, .int .i64 n0, .int .u64 uz, .string s0, .slice A1 m1 c1, .slice A2 m2 c2], .int .i64 120, .int .i64 60] W fun e w' =>
      ∃ (k n u : Int) (s : ByteArray) (A1 : Option Addr) (m1 c1 : Nat) (A2 : Option Addr) (m2 c2 : Nat), e = .returned (.agg #[.int .i64 k, .int .i64 n, .int .u64 u, .string s, .slice A1 m1 c1, .slice A2 m2 c2]) ∧
        Hid (Nd w' t1 [.int .i64 k, .int .i64 n, .int .u64 u, .string s, .slice A1 m1 c1, .slice A2 m2 c2]) ∧ Hid (Below W.heap.size W w')) := Lib.hid fun W hb => by
    refine (cutS_any t _ W (HN.out.bel hb)).mono ?_
    rintro e w' ⟨k, n, u, s, B1, p1, d1, B2, p2, d2, rfl, h1, h2⟩
    rw [ht1] at h1
    exact ⟨k, n, u, s, B1, p1, d1, B2, p2, d2, rfl, Lib.hid (NdO.nd _ _ h1.out), h2⟩
  clear hT hnd ht1
  go_enter Tryd.func10, Tryd.ntmps10
  go_wp2_with fail
  with_reducible refine (HC.out _ (al0 w _)).mono ?_
  rintro e w1 ⟨kx, nx1, ux, sx, B1, p1, d1, B2, p2, d2, rfl, HN1, hb1⟩
  have HB1 := Lib.hid (al hb1.out)
  clear hb1 HC HN
  by_cases hc : chk t1 = 0
  · have HOK : Hid (okT t1) := Lib.hid ((chk_zero t1).1 hc).1
    have HS := Lib.hid (sorted_okE t1 _ w1 (HT.out.keep HB1.out) HQ.out hc HN1.out)
    clear hc HN1
    go_wp2_with fail
    with_reducible refine HS.out.mono ?_
    rintro e w2 ⟨t2, ka, na, ua, sa, E1, q1, f1, E2, q2, f2, rfl, HSR, HN2, hb2⟩
    have HQ2 : Hid (QQ t2) := Lib.hid ⟨by rw [Srt.sz (okT_mpT HOK.out) HSR.out]; exact HQ.out.1, Srt.sm (okT_mpT HOK.out) HQ.out.2 HSR.out⟩
    have HI2 : Hid (incT t2) := Lib.hid (Srt.inc HOK.out HSR.out)
    obtain ⟨N, hN⟩ : ∃ N, sz t2 = N := ⟨_, rfl⟩
    have HP0 : Hid (PM w w2.heap.size t2 (.int .i64 ka) (.int .i64 na) (.int .u64 ua) (.string sa) (.slice E1 q1 f1) (.slice E2 q2 f2) (w2.alloc (.cells #[.int .i64 ka, .int .i64 na, .int .u64 ua, .string sa, .slice E1 q1 f1, .slice E2 q2 f2] 41))) := Lib.hid ⟨tr HB1.out (tr hb2.out (al0 w2 _)), Blk.new _ _ _, HN2.out.bel (al0 w2 _)⟩
    have HSZ : Hid (∀ W, Hid (PM w w2.heap.size t2 (.int .i64 ka) (.int .i64 na) (.int .u64 ua) (.string sa) (.slice E1 q1 f1) (.slice E2 q2 f2) W) → Calls Tryd.prog 36 #[.agg #[.int .i64 ka, .int .i64 na, .int .u64 ua, .string sa, .slice E1 q1 f1, .slice E2 q2 f2]] W fun e w' => e = .returned (.int .i64 (N : Int)) ∧ Hid (PM w w2.heap.size t2 (.int .i64 ka) (.int .i64 na) (.int .u64 ua) (.string sa) (.slice E1 q1 f1) (.slice E2 q2 f2) w')) := Lib.hid fun W H => by
      refine (size_any t2 _ W HQ2.out.1 H.out.2.2).mono ?_
      rintro e w' ⟨rfl, hb⟩
      rw [hN]
      exact ⟨rfl, Lib.hid (H.out.below hb)⟩
    have HNB : Hid (N ≤ 100000) := Lib.hid (by rw [← hN]; exact HQ2.out.1)
    have HAT : Hid (∀ (W : World) (j : Nat), j < N → Hid (PM w w2.heap.size t2 (.int .i64 ka) (.int .i64 na) (.int .u64 ua) (.string sa) (.slice E1 q1 f1) (.slice E2 q2 f2) W) → Calls Tryd.prog 38 #[.agg #[.int .i64 ka, .int .i64 na, .int .u64 ua, .string sa, .slice E1 q1 f1, .slice E2 q2 f2], .int .i64 (j : Int)] W fun e w' => ∃ (x : T) (k n u : Int) (s : ByteArray) (A1 : Option Addr) (m1 c1 : Nat) (A2 : Option Addr) (m2 c2 : Nat),
        e = .returned (.tuple #[.agg #[.int .i64 k, .int .i64 n, .int .u64 u, .string s, .slice A1 m1 c1, .slice A2 m2 c2], .bool true]) ∧ Hid (RdS w' (.slice A1 m1 c1) x.ks ∧ Incr x.ks ∧ x.ks.length ≤ 1000) ∧ Hid (PM w w2.heap.size t2 (.int .i64 ka) (.int .i64 na) (.int .u64 ua) (.string sa) (.slice E1 q1 f1) (.slice E2 q2 f2) w')) := Lib.hid fun W j hj H => by
      obtain ⟨x, hx⟩ := atT_some t2 j (by omega)
      have hI : atI t2 (j : Int) = some x := by unfold atI; rw [if_neg (by omega), Int.toNat_natCast]; exact hx
      refine (at_any t2 _ (j : Int) W HQ2.out.1 HQ2.out.2 H.out.2.2).mono ?_
      rw [hI]
      rintro e w' ⟨⟨cs', rfl, h1⟩, hb⟩
      obtain ⟨k, n, u, s, A1, m1, c1, A2, m2, c2, rfl⟩ := h1.shape6
      have hnd := NdO.nd _ _ h1
      have hxi := atT_her incT incT_sub t2 j x HI2.out hx
      have hxs := (at_QQ HQ2.out hx).2
      refine ⟨x, k, n, u, s, A1, m1, c1, A2, m2, c2, rfl, Lib.hid ?_, Lib.hid (H.out.below hb)⟩
      have hg : (some x).getD T0 = x := rfl
      rw [hg] at hnd
      cases x with
      | mk k' n' u' s' ks' l' =>
        obtain ⟨_, _, kv, A, m, c, he, hr, _⟩ := hnd
        simp only [List.cons.injEq, and_true] at he
        obtain ⟨_, _, _, _, rfl, _⟩ := he
        exact ⟨hr, hxi.1, hxs.2.1⟩
    clear hN HN2 hb2 HSR HOK HS
    go_wp2_with fail
    go_loopw [5] (fun vi wr => ∃ j : Nat, vi = .int .i64 (j : Int) ∧ j ≤ 130 ∧ Hid (PM w w2.heap.size t2 (.int .i64 ka) (.int .i64 na) (.int .u64 ua) (.string sa) (.slice E1 q1 f1) (.slice E2 q2 f2) wr)) (fun vi _ => 130 - (intOf vi).toNat)
    case atStart => exact ⟨0, rfl, by omega, HP0⟩
    case round =>
      obtain ⟨j, rfl, hj, HP⟩ := hrel
      obtain ⟨c0, c1, c2, c3, c4, c5⟩ := Bx.all HP.out.2.1
      have hex : ¬ (j < N ∧ j < 130) → True := fun _ => trivial
      clear hex
      by_cases hjN : j < N
      · by_cases hj1 : j < 130
        · go_wp2_with (first
            | (go_at_call 36; (with_reducible refine (HSZ.out _ HP).mono ?_); clear c0 c1 c2 c3 c4 c5; rintro e w3 ⟨rfl, HP3⟩; obtain ⟨c0, c1, c2, c3, c4, c5⟩ := Bx.all HP3.out.2.1)
            | (go_at_call 38; (with_reducible refine (HAT.out _ j hjN HP3).mono ?_); clear c0 c1 c2 c3 c4 c5; rintro e w4 ⟨x, k, n, u, s, X1, p3, d3, X2, p4, d4, rfl, HX, HP4⟩))
          obtain ⟨Wb, hWb⟩ : ∃ Wb, w4.alloc (.cells #[.int .i64 k, .int .i64 n, .int .u64 u, .string s, .slice X1 p3 d3, .slice X2 p4 d4] 41) = Wb := ⟨_, rfl⟩
          obtain ⟨bb, hbb⟩ : ∃ bb, w4.heap.size = bb := ⟨_, rfl⟩
          have HPb : Hid (PM w w2.heap.size t2 (.int .i64 ka) (.int .i64 na) (.int .u64 ua) (.string sa) (.slice E1 q1 f1) (.slice E2 q2 f2) Wb) := Lib.hid (by rw [← hWb]; exact HP4.out.below (al0 w4 _))
          have HXb : Hid (Bx Wb bb (.int .i64 k) (.int .i64 n) (.int .u64 u) (.string s) (.slice X1 p3 d3) (.slice X2 p4 d4)) := Lib.hid (by rw [← hWb, ← hbb]; exact Blk.new _ _ _)
          have HRb : Hid (RdS Wb (.slice X1 p3 d3) x.ks ∧ Incr x.ks ∧ x.ks.length ≤ 1000) := Lib.hid ⟨by rw [← hWb]; exact HX.out.1.below (al0 w4 _), HX.out.2⟩
          rw [hWb, hbb]
          clear hWb hbb HX HP4
          obtain ⟨U, hU⟩ : ∃ U, x.ks = U := ⟨_, rfl⟩
          rw [hU] at HRb
          obtain ⟨_, _, _, e, hun, _, _, _, hA⟩ := HRb.out.1.at
          cases e
          have HUN := Lib.hid hun
          have HA := Lib.hid hA
          have hp3 : p3 ≤ 1000 := by have := HRb.out.2.2; omega
          obtain ⟨b0, b1, b2, b3, b4, b5⟩ := Bx.all HXb.out
          clear hun hA hU b0 b1 b2 b3 b5
          go_loopw [8] (fun vi wx => ∃ m q : Nat, vi = .int .i64 ((m : Int) + 1) ∧ (m + 1 ≤ p3 ∨ m = 0) ∧ wx = Wb.drewN q) (fun vi _ => p3 - (intOf vi).toNat)
          case atStart => exact ⟨0, 0, rfl, .inr rfl, rfl⟩
          case round =>
            obtain ⟨m, q, rfl, hm, rfl⟩ := hrel
            by_cases hmn : m + 1 < p3
            · obtain ⟨y, hy⟩ : ∃ y, U[m]? = some y := ⟨_, List.getElem?_eq_getElem (by rw [HUN.out]; omega)⟩
              obtain ⟨z, hz⟩ : ∃ y, U[m + 1]? = some y := ⟨_, List.getElem?_eq_getElem (by rw [HUN.out]; omega)⟩
              obtain ⟨bq, off4, rfl, _, hcl⟩ := HA.out (by omega)
              have hcy := hcl Wb (Below.refl _ _) m y hy
              have hcz := hcl Wb (Below.refl _ _) (m + 1) z hz
              have hlt : lt y z = true := by
                have := HRb.out.2.1 m (m + 1) (by omega) (by rw [HUN.out]; omega)
                unfold ky at this
                rw [List.getD_eq_getElem?_getD, List.getD_eq_getElem?_getD, hy, hz] at this
                exact this
              have HC : Hid (∀ W, Calls Tryd.prog 18 #[.string y, .string z] W fun e w' => e = .returned (.bool true) ∧ w' = W) := Lib.hid fun W => by rw [← hlt]; exact keyLess_any y z W
              clear hcl hy hz hlt
              have i1 : (m : Int) + 1 < (p3 : Int) := by omega
              have i2 : (0 : Int) ≤ (m : Int) := by omega
              have i3 : (m : Int) < (p3 : Int) := by omega
              have i4 : (0 : Int) ≤ (m : Int) + 1 := by omega
              have i9 : ((m : Int) + 1).toNat = m + 1 := by omega
              have i10 : IntKind.i64.wrap (m : Int) = (m : Int) := by
                simp [IntKind.wrap, IntKind.bits, IntKind.signed]
                omega
              have i11 : IntKind.i64.wrap ((m : Int) + 1 - 1) = (m : Int) := by rw [Int.add_sub_cancel]; exact i10
              go_wp2_with fail
              go_quiet ((go_at_call 18; first | exact Calls.quiet_of_same (HC.out _) | exact quiet_add_m (HC.out _)))
              go_wp2_with fail
              go_roundw
              case rel => exact ⟨m + 1, _, by simp, .inl (by omega), rfl⟩
              case measure => simp [intOf]; omega
            · have i1 : ¬ (m : Int) + 1 < (p3 : Int) := by omega
              have HPq : Hid (PM w w2.heap.size t2 (.int .i64 ka) (.int .i64 na) (.int .u64 ua) (.string sa) (.slice E1 q1 f1) (.slice E2 q2 f2) (Wb.drewN q)) := Lib.hid (HPb.out.below (below_drewN (Below.refl _ Wb) q))
              go_wp2_with fail
              go_roundw
              case rel => exact ⟨j + 1, by simp, by omega, HPq⟩
              case measure => simp [intOf]; omega
        · go_wp2_with (first
            | (go_at_call 36; (with_reducible refine (HSZ.out _ HP).mono ?_); clear c0 c1 c2 c3 c4 c5; rintro e w3 ⟨rfl, HP3⟩)
            | (go_at_call 22; refine (works_true _ (HT.out.keep HP3.out.1)).mono ?_; rintro e w4 ⟨rfl, hb4⟩; have HB4 := Lib.hid (tr HP3.out.1 hb4); clear hb4))
          go_ret
          exact ⟨rfl, HB4.out⟩
      · go_wp2_with (first
          | (go_at_call 36; (with_reducible refine (HSZ.out _ HP).mono ?_); clear c0 c1 c2 c3 c4 c5; rintro e w3 ⟨rfl, HP3⟩)
          | (go_at_call 22; refine (works_true _ (HT.out.keep HP3.out.1)).mono ?_; rintro e w4 ⟨rfl, hb4⟩; have HB4 := Lib.hid (tr HP3.out.1 hb4); clear hb4))
        go_ret
        exact ⟨rfl, HB4.out⟩
  · obtain ⟨e0, he0⟩ : ∃ e0, chk t1 = e0 := ⟨_, rfl⟩
    have HS := Lib.hid (sorted_err t1 e0 _ w1 (HT.out.keep HB1.out) HQ.out he0 (by rw [← he0]; exact hc) HN1.out)
    have hb0 : ((e0 : Int) == 0) = false := by
      rw [beq_eq_false_iff_ne]
      omega
    clear hc HN1 he0
    go_wp2_with fail
    with_reducible refine HS.out.mono ?_
    rintro e w2 ⟨rfl, hb2⟩
    have HB2 := Lib.hid (tr HB1.out (tr hb2.out (al0 w2 (.cells #[.int .i64 0, .int .i64 0, .int .u64 0, .string ⟨#[]⟩, .slice none 0 0, .slice none 0 0] 41))))
    clear hb2 HS
    go_wp2_with fail
    refine wp_loop_rounds 1 ?_
    rw [rounds_succ]
    go_wp2_with (first | (go_at_call 22; refine (works_true _ (HT.out.keep HB2.out)).mono ?_; rintro e w4 ⟨rfl, hb4⟩))
    go_ret
    exact ⟨rfl, tr HB2.out hb4⟩
end Go.Proofs.YtjbmghfgbdnjjaaDoor
