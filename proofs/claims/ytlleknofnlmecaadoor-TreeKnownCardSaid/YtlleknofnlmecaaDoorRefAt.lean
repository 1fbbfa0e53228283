/-
  What is proved here: a contract of the reference's At; conditions: at most 100000 nodes, 1000 keys a node, 1000 bytes a string.
-/
import Derived.Test.YtlleknofnlmecaaDoorCopyNode
namespace Go.Proofs.YtlleknofnlmecaaDoor
open Go.RowKit

theorem atL_drop : ∀ (L : List T) (j i : Nat), szL (L.take j) ≤ i → atL L i = atL (L.drop j) (i - szL (L.take j))
  | L, 0, i, _ => by simp [szL]
  | [], j + 1, i, _ => by simp [szL]
  | x :: xs, j + 1, i, h => by
    simp only [List.take_succ_cons, List.drop_succ_cons, szL] at h ⊢
    have e : atL (x :: xs) i = if i < sz x then atT x i else atL xs (i - sz x) := by conv => lhs; unfold atL
    rw [e, if_neg (by omega), atL_drop xs j (i - sz x) (by omega)]
    congr 1
    omega
theorem atL_here {L : List T} {j i : Nat} {t : T} (ht : L[j]? = some t) (h1 : szL (L.take j) ≤ i) (h2 : i - szL (L.take j) < sz t) : atL L i = atT t (i - szL (L.take j)) := by
  rw [atL_drop L j i h1]
  have hj := List.getElem?_eq_some_iff.1 ht
  rw [List.drop_eq_getElem_cons hj.1, hj.2]
  conv => lhs; unfold atL
  rw [if_pos h2]
theorem atI_pos {k n u : Int} {s : ByteArray} {ks : List ByteArray} {L : List T} {N : Int} (h : 0 < N) : atI (.mk k n u s ks L) N = atL L (N - 1).toNat := by
  unfold atI
  rw [if_neg (by omega)]
  unfold atT
  rw [if_neg (by omega)]
  congr 1
  omega

theorem ret_sixb {f : Func} {R : Ending → World → Prop} {a : Act} {w : World} {p q : Tmp} {g : Nat} {b : Bool} {v0 v1 v2 v3 v4 v5 : Value} (hres : f.results = #[.cell p 26, .tmp q]) (hp : a.tmps.getD p undef = .pointer (some ⟨g, 0, none⟩)) (hq : a.tmps.getD q undef = .bool b) (hB : Bx w g v0 v1 v2 v3 v4 v5) (hd : a.defers = [])
    (hR : R (.returned (.tuple #[.agg #[v0, v1, v2, v3, v4, v5], .bool b])) w) : bodyPost Tryd.prog f R .ret a w := by
  refine bodyPost_ret ?_ hd hR
  have hp' : a.tmps[p]?.getD undef = .pointer (some ⟨g, 0, none⟩) := by simpa using hp
  have hq' : a.tmps[q]?.getD undef = .bool b := by simpa using hq
  simp only [results, hres]
  simp [hp', hq', asAddr, loadVar_six hB]
/-- Six cells written into the box of the result. -/
theorem two_put {w w2 : World} {v0 v1 v2 v3 v4 v5 u0 u1 u2 u3 u4 u5 : Value} (h : Two w v0 v1 v2 v3 v4 v5 u0 u1 u2 u3 u4 u5 w2) {t : T} {a0 a1 a2 a3 a4 a5 : Value} (hn : NdO (fun b => w.heap.size + 2 ≤ b) w2 t [a0, a1, a2, a3, a4, a5]) :
    Bx (put6 w2 (w.heap.size + 1) 0 a0 a1 a2 a3 a4 a5) (w.heap.size + 1) a0 a1 a2 a3 a4 a5 ∧ NdO (fun b => w.heap.size ≤ b) (put6 w2 (w.heap.size + 1) 0 a0 a1 a2 a3 a4 a5) t [a0, a1, a2, a3, a4, a5] ∧ Below w.heap.size w (put6 w2 (w.heap.size + 1) 0 a0 a1 a2 a3 a4 a5) :=
  ⟨Bx.put6 h.2.2.2 _ _ _ _ _ _, NdO.step (fun b hb _ => ⟨put6_other w2 (w.heap.size + 1) 0 b _ _ _ _ _ _ (by omega), by omega⟩) _ _ hn, put6_below h.1 _ _ _ _ _ _ _ _ (by omega)⟩

theorem two_putz {w W : World} {v0 v1 v2 v3 v4 v5 u0 u1 u2 u3 u4 u5 a0 a1 a2 a3 a4 a5 : Value} (h : Two w v0 v1 v2 v3 v4 v5 u0 u1 u2 u3 u4 u5 W) : Two w v0 v1 v2 v3 v4 v5 a0 a1 a2 a3 a4 a5 (put6 W (w.heap.size + 1) 0 a0 a1 a2 a3 a4 a5) :=
  ⟨put6_below h.1 _ _ _ _ _ _ _ _ (by omega), by rw [put6_size]; exact h.2.1, put6_blk h.2.2.1 (by omega) _ _ _ _ _ _, Bx.put6 h.2.2.2 _ _ _ _ _ _⟩
set_option maxRecDepth 100000 in
set_option maxHeartbeats 4000000 in
theorem refAt_any (k : Nat) : ∀ (t : T) (cs : List Value) (N : Int) (w : World), dp t ≤ k → sz t ≤ 100000 → sm 1000 1000 t → N ≤ 9223372036854775807 → Nd w t cs →
    Calls Tryd.prog 36 #[.agg cs.toArray, .int .i64 N] w fun e w' => (∃ cs', e = .returned (.tuple #[.agg cs'.toArray, .bool (atI t N).isSome]) ∧ NdO (fun b => w.heap.size ≤ b) w' ((atI t N).getD T0) cs') ∧ Below w.heap.size w w' := by
  induction k with
  | zero => intro t cs N w h; exact absurd h (by have := dp_pos t; omega)
  | succ k ih =>
    intro t cs N w hk hsz hsm hN hnd
    have HCN : Hid (∀ W, Below w.heap.size w W → Calls Tryd.prog 35 #[.agg cs.toArray] W fun e w' => (∃ cs', e = .returned (.agg cs'.toArray) ∧ NdO (fun b => W.heap.size ≤ b) w' t cs') ∧ Below W.heap.size W w') := Lib.hid fun W h => copyNode_any _ t cs W (Nat.le_refl _) hsz hsm (hnd.bel h)
    have HZ : Hid (atI t 0 = some t) := Lib.hid (by unfold atI; rw [if_neg (by omega)]; cases t; rfl)
    rcases t with ⟨kk, nn, uu, s, ks, L⟩
    obtain ⟨hr, hs, kv, A, m, c, rfl, ⟨B, d, e, rfl, hkl, _, _, _, _⟩, hl, hm, hmm, hL⟩ := hnd
    simp only [dp] at hk
    simp only [sz] at hsz
    have hmx : m ≤ 100000 := by have := len_le_szL L; omega
    have HT0 := Lib.hid (Two.start w (.int .i64 kk) (.int .i64 nn) (.int .u64 uu) (.string s) (.slice B d e) (.slice A m c) (.int .i64 0) (.int .i64 0) (.int .u64 0) (.string ⟨#[]⟩) (.slice none 0 0) (.slice none 0 0))
    by_cases hN0 : N = 0
    · subst hN0
      rw [HZ.out]
      have hc := HCN.out _ HT0.out.1
      go_enter Tryd.func36, Tryd.ntmps36
      go_wp2_with (go_at_call 35; refine hc.mono ?_; rintro e w5 ⟨⟨cs', rfl, hno⟩, hb5⟩; have HN5 := Lib.hid hno; have HT5 := Lib.hid (HT0.out.below hb5); obtain ⟨k8, i8, u8, s8, C1', m1', d1', C2', m2', d2', rfl⟩ := hno.shape6; clear hno hb5; obtain ⟨⟨z0, z1, z2, z3, z4, z5⟩, y0, y1, y2, y3, y4, y5⟩ := Bx.both HT5.out.2.2.2)
      have HP := two_put HT5.out (NdO.step (fun b hb _ => ⟨rfl, Nat.le_trans HT0.out.2.1 hb⟩) _ _ HN5.out)
      refine ret_sixb (p := 4) (q := 5) (g := w.heap.size + 1) rfl rfl rfl HP.1 rfl ?_
      exact ⟨⟨_, rfl, HP.2.1⟩, HP.2.2⟩
    have hret0 : NdO (fun b => w.heap.size ≤ b) w T0 [.int .i64 0, .int .i64 0, .int .u64 0, .string ⟨#[]⟩, .slice none 0 0, .slice none 0 0] := ndo_zero _ _
    have HRN : Hid (∀ W, Two w (.int .i64 kk) (.int .i64 nn) (.int .u64 uu) (.string s) (.slice B d e) (.slice A m c) (.int .i64 0) (.int .i64 0) (.int .u64 0) (.string ⟨#[]⟩) (.slice none 0 0) (.slice none 0 0) W → ∀ (f : Func) (a : Act), f.results = #[.cell 4 26, .tmp 5] → a.tmps.getD 4 undef = .pointer (some ⟨w.heap.size + 1, 0, none⟩) → a.tmps.getD 5 undef = .bool false → a.defers = [] → atI (.mk kk nn uu s ks L) N = none →
        bodyPost Tryd.prog f (fun e w' => (∃ cs', e = .returned (.tuple #[.agg cs'.toArray, .bool (atI (.mk kk nn uu s ks L) N).isSome]) ∧ NdO (fun b => w.heap.size ≤ b) w' ((atI (.mk kk nn uu s ks L) N).getD T0) cs') ∧ Below w.heap.size w w') .ret a W) := Lib.hid fun W h f a h1 h2 h3 h4 h5 => by
      refine ret_sixb h1 h2 h3 h.2.2.2 h4 ?_
      rw [h5]
      exact ⟨⟨_, rfl, ndo_zero _ _⟩, h.1⟩
    by_cases hNn : N < 0
    · have HA0 : Hid (atI (.mk kk nn uu s ks L) N = none) := Lib.hid (by unfold atI; rw [if_pos hNn])
      have hne : (N == 0) = false := by simpa using hN0
      obtain ⟨⟨z0, z1, z2, z3, z4, z5⟩, y0, y1, y2, y3, y4, y5⟩ := Bx.both HT0.out.2.2.2
      go_enter Tryd.func36, Tryd.ntmps36
      go_wp2_with fail
      exact HRN.out _ HT0.out _ _ rfl rfl rfl rfl HA0.out
    obtain ⟨V, hV⟩ : ∃ V : Nat, N = (V : Int) + 1 := ⟨(N - 1).toNat, by omega⟩
    have HAT : Hid (atI (.mk kk nn uu s ks L) N = atL L V) := Lib.hid (by rw [atI_pos (by omega)]; congr 1; omega)
    have hne : (N == 0) = false := by simpa using hN0
    subst hV
    have hVb : (V : Int) ≤ 9223372036854775806 := by omega
    have hw : IntKind.i64.wrap ((V : Int) + 1 - 1) = (V : Int) := by unfold IntKind.wrap; simp [IntKind.signed, IntKind.bits]; omega
    go_enter Tryd.func36, Tryd.ntmps36
    go_wp2_with fail
    have hSM := hsm.2.2.2
    go_loopw [1, 6] (fun nv iv wr => ∃ j X : Nat, j ≤ m ∧ iv = .int .i64 (j : Int) ∧ nv = .int .i64 (X : Int) ∧ Hid (szL (L.take j) + X = V) ∧ Hid (Two w (.int .i64 kk) (.int .i64 nn) (.int .u64 uu) (.string s) (.slice B d e) (.slice A m c) (.int .i64 0) (.int .i64 0) (.int .u64 0) (.string ⟨#[]⟩) (.slice none 0 0) (.slice none 0 0) wr)) (fun nv iv _ => m - (intOf iv).toNat)
    case atStart => exact ⟨0, V, Nat.zero_le _, rfl, rfl, Lib.hid (by simp [szL]), HT0⟩
    case round =>
      obtain ⟨j, X, hj, rfl, rfl, HX, HT⟩ := hrel
      obtain ⟨⟨c0, c1, c2, c3, c4, c5⟩, y0, y1, y2, y3, y4, y5⟩ := Bx.both HT.out.2.2.1
      obtain ⟨⟨z0, z1, z2, z3, z4, z5⟩, x0, x1, x2, x3, x4, x5⟩ := Bx.both HT.out.2.2.2
      by_cases hjm : j < m
      · obtain ⟨bb, off, rfl, hbb, hN2⟩ := hL (by omega)
        obtain ⟨t0, ht0⟩ : ∃ t, L[j]? = some t := ⟨_, List.getElem?_eq_getElem (by omega)⟩
        obtain ⟨v0, v1, v2, v3, v4, v5, hS, hn0⟩ := hN2.six' HT.out.1 hbb ht0
        obtain ⟨k1, i1, u1, s1, A1, m1, c1', A2, m2, c2', rfl, rfl, rfl, rfl, rfl, rfl⟩ := hn0.shape6
        have HS := Lib.hid hS
        obtain ⟨a0, a1, a2, a3, a4, a5⟩ := hS
        have hdl := dp_le_of ht0
        have hsl := sz_le_of ht0
        obtain ⟨z, hz⟩ : ∃ z, sz t0 = z := ⟨_, rfl⟩
        have HSZ : Hid (Calls Tryd.prog 18 #[.agg #[.int .i64 k1, .int .i64 i1, .int .u64 u1, .string s1, .slice A1 m1 c1', .slice A2 m2 c2']] wr fun e w' => e = .returned (.int .i64 (z : Int)) ∧ Below wr.heap.size wr w') := Lib.hid ((refSize_any _ t0 _ wr (Nat.le_refl _) (by omega) hn0).mono fun e w' h => ⟨by rw [h.1, hz], h.2⟩)
        have HNB : Hid (∀ W, Below wr.heap.size wr W → Nd W t0 [.int .i64 k1, .int .i64 i1, .int .u64 u1, .string s1, .slice A1 m1 c1', .slice A2 m2 c2']) := Lib.hid fun W h => hn0.bel h
        have HXV := HX.out
        have hjs : j ≤ 100000 := by omega
        have hXV : (X : Int) ≤ 9223372036854775806 := by omega
        have hz1 : (z : Int) ≤ 100000 := by omega
        have hstep := szL_take ht0
        rw [hz] at hstep
        have HAL : Hid (X < z → atL L V = atI t0 (X : Int)) := Lib.hid fun h => by
          rw [atL_here ht0 (by omega) (by omega)]
          unfold atI
          rw [if_neg (by omega)]
          congr 1
          omega
        have HIH : Hid (∀ W, Below wr.heap.size wr W → Calls Tryd.prog 36 #[.agg #[.int .i64 k1, .int .i64 i1, .int .u64 u1, .string s1, .slice A1 m1 c1', .slice A2 m2 c2'], .int .i64 (X : Int)] W fun e w' => (∃ cs', e = .returned (.tuple #[.agg cs'.toArray, .bool (atI t0 (X : Int)).isSome]) ∧ NdO (fun b => W.heap.size ≤ b) w' ((atI t0 (X : Int)).getD T0) cs') ∧ Below W.heap.size W w') :=
          Lib.hid fun W h => ih t0 _ (X : Int) W (by omega) (by omega) (smL_at hSM ht0) (by omega) (HNB.out W h)
        have HST : Hid (¬ X < z → szL (L.take (j + 1)) + (X - z) = V) := Lib.hid fun h => by omega
        have HFD : Hid (∀ W, Below wr.heap.size wr W → (W.cell? ⟨w.heap.size, 5, none⟩ = some (.slice (some ⟨bb, off, none⟩) m c) ∧ Six W bb (off + j * 6) (.int .i64 k1) (.int .i64 i1) (.int .u64 u1) (.string s1) (.slice A1 m1 c1') (.slice A2 m2 c2'))) := Lib.hid fun W h => ⟨(Bx.all (HT.out.below h).2.2.1).2.2.2.2.2, HS.out.below h (by have := HT.out.1.size; omega)⟩
        clear hn0 ht0 hdl hsl hL hN2 hbb hz hstep HXV HNB
        by_cases hlt : X < z
        · have hAT := HAT.out.trans (HAL.out hlt)
          go_wp2_with (first
            | (go_at_call 18; refine HSZ.out.mono ?_; clear HSZ; rintro e w5 ⟨rfl, hb5⟩; clear a0 a1 a2 a3 a4 a5 c0 c1 c2 c3 c4 c5 y0 y1 y2 y3 y4 y5 z0 z1 z2 z3 z4 z5 x0 x1 x2 x3 x4 x5; obtain ⟨c5, a0, a1, a2, a3, a4, a5⟩ := HFD.out w5 hb5; have HB5 := Lib.hid hb5; clear hb5)
            | (go_at_call 36; refine (HIH.out _ HB5.out).mono ?_; clear HIH; rintro e w6 ⟨⟨cs', rfl, hno⟩, hb6⟩; have HN6 := Lib.hid hno; have HT6 := Lib.hid ((HT.out.below HB5.out).below hb6); have HB6 := Lib.hid hb6; obtain ⟨k8, i8, u8, s8, C1', m1', d1', C2', m2', d2', rfl⟩ := hno.shape6; clear hno hb6; obtain ⟨⟨z0, z1, z2, z3, z4, z5⟩, y0, y1, y2, y3, y4, y5⟩ := Bx.both HT6.out.2.2.2))
          have HP := two_put HT6.out (NdO.step (fun b hb _ => ⟨rfl, Nat.le_trans (HT.out.below HB5.out).2.1 hb⟩) _ _ HN6.out)
          refine ret_sixb (p := 4) (q := 5) (g := w.heap.size + 1) rfl rfl rfl HP.1 rfl ?_
          rw [hAT]
          exact ⟨⟨_, rfl, HP.2.1⟩, HP.2.2⟩
        · have HS2 := Lib.hid (HST.out hlt)
          have hsub : IntKind.i64.wrap ((X : Int) - (z : Int)) = ((X - z : Nat) : Int) := by unfold IntKind.wrap; simp [IntKind.signed, IntKind.bits]; omega
          go_wp2_with (go_at_call 18; refine HSZ.out.mono ?_; clear HSZ; rintro e w5 ⟨rfl, hb5⟩; have HB5 := Lib.hid hb5; clear hb5)
          have HT5 := Lib.hid (HT.out.below HB5.out)
          go_roundw
          case rel => exact ⟨j + 1, X - z, by omega, by simp, by first | rfl | (congr 1; omega), HS2, HT5⟩
          case measure => simp [intOf]; omega
      · obtain rfl : j = m := by omega
        have HA0 : Hid (atI (.mk kk nn uu s ks L) ((V : Int) + 1) = none) := Lib.hid (by
          rw [HAT.out]
          have := HX.out
          rw [List.take_of_length_le (by omega)] at this
          exact atL_none L V (by omega))
        go_wp2_with fail
        exact HRN.out _ (two_putz HT.out) _ _ rfl rfl rfl rfl HA0.out
end Go.Proofs.YtlleknofnlmecaaDoor
