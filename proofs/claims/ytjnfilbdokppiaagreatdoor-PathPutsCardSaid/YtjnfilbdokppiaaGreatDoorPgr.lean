/-
  What is proved here: contracts of the reference's Leads and Get; conditions: those that each states (sizes).
-/
import Derived.Test.YtjnfilbdokppiaaGreatDoorPr
import Derived.Test.YtjnfilbdokppiaaGreatDoorCopyNode
import Derived.StillTailTactics
namespace Go.Proofs.YtjnfilbdokppiaaGreatDoor
open Go.RowKit

/-- The cells of the two boxes of a node and a step. -/
theorem FB.cells {w W : World} {v0 v1 v2 v3 v4 v5 : Value} {s : Stp} (h : FB w v0 v1 v2 v3 v4 v5 s W) :
    (Six W w.heap.size 0 v0 v1 v2 v3 v4 v5) ∧ W.cell? ⟨w.heap.size + 1, 0, none⟩ = some (.string s.k) ∧ W.cell? ⟨w.heap.size + 1, 1, none⟩ = some (.int .i64 s.a) ∧ W.cell? ⟨w.heap.size + 1, 2, none⟩ = some (.bool s.b) := by
  obtain ⟨a0, a1, a2, a3, a4, a5⟩ := h.2.2.1.all
  exact ⟨⟨a0, a1, a2, a3, a4, a5⟩, (h.2.2.2.cell 0).trans rfl, (h.2.2.2.cell 1).trans rfl, (h.2.2.2.cell 2).trans rfl⟩
theorem idx_all {ks : List ByteArray} {x : ByteArray} {n : Nat} (hn : ks.length = n) (h : ∀ i, i < n → ks.getD i ByteArray.empty ≠ x) : Lib.idxOfS ks x = -1 := by
  have := Lib.idxOfS_miss ks n x h
  rwa [List.take_of_length_le (by omega)] at this
theorem idx_at {ks : List ByteArray} {x : ByteArray} {j : Nat} (hj : ks[j]? = some x) (h : ∀ i, i < j → ks.getD i ByteArray.empty ≠ x) : Lib.idxOfS ks x = (j : Int) := by
  have hl := (List.getElem?_eq_some_iff.1 hj).1
  have := Lib.idxOfS_hit ks ks.length j x hl (Nat.le_refl _) (by simp [List.getD, hj]) h
  rwa [List.take_of_length_le (by omega)] at this
/-- What the reference's Leads answers. -/
def LR (o : Option Nat) (w : World) (e : Ending) (w' : World) : Prop := (∃ i : Int, e = .returned (.int .i64 i) ∧ (∀ n, o = some n → i = (n : Int)) ∧ (o = none → i = -1)) ∧ Below w.heap.size w w'
theorem LR.no {o : Option Nat} {w w' : World} (h : o = none) (hb : Below w.heap.size w w') : LR o w (.returned (.int .i64 (-1))) w' := by
  subst h
  exact ⟨⟨-1, rfl, by simp, fun _ => rfl⟩, hb⟩
theorem LR.yes {o : Option Nat} {w w' : World} {i : Int} (h : o = some i.toNat) (h0 : 0 ≤ i) (hb : Below w.heap.size w w') : LR o w (.returned (.int .i64 i)) w' := by
  subst h
  exact ⟨⟨i, rfl, fun n hn => by injection hn with hn; omega, by simp⟩, hb⟩

set_option maxRecDepth 100000 in
set_option maxHeartbeats 1000000 in
theorem refLeads_any (t : T) (cs : List Value) (s : Stp) (w : World) (hnd : Nd w t cs) (hl : t.l.length ≤ 100000) (hk : t.ks.length ≤ 100000) :
    Calls Tryz.prog 58 #[.agg cs.toArray, .agg #[.string s.k, .int .i64 s.a, .bool s.b]] w (LR (lead t s) w) := by
  obtain ⟨kk, nn, uu, str, ks, l⟩ := t
  obtain ⟨hr, hsz, kv, A, m, c, rfl, hks, hm, hmc, hc, hL⟩ := hnd
  have HF0 : Hid (FB w (.int .i64 kk) (.int .i64 nn) (.int .u64 uu) (.string str) kv (.slice A m c) s ((w.alloc (.cells #[.int .i64 kk, .int .i64 nn, .int .u64 uu, .string str, kv, .slice A m c] 38)).alloc (.cells #[.string s.k, .int .i64 s.a, .bool s.b] 51))) := Lib.hid (FB.start _ _ _ _ _ _ _ _)
  have hml : l.length = m := hm
  have hlm : (T.mk kk nn uu str ks l).l.length = m := hm
  cases hb : s.b with
  | false =>
    have e1 : lead (.mk kk nn uu str ks l) s = if 0 ≤ s.a ∧ s.a < (m : Int) then some s.a.toNat else none := by
      unfold lead; rw [hlm, if_neg (by simp [hb])]
    obtain ⟨o, ho⟩ : ∃ o, lead (.mk kk nn uu str ks l) s = o := ⟨_, rfl⟩
    rw [ho] at e1 ⊢
    rw [hb] at HF0
    have HE := Lib.hid e1
    clear e1 ho hL hks
    by_cases h0 : 0 ≤ s.a
    · have d0 : decide (0 ≤ s.a) = true := decide_eq_true h0
      by_cases h1 : s.a < (m : Int)
      · have d1 : decide (s.a < (m : Int)) = true := decide_eq_true h1
        go_enter Tryz.func58, Tryz.ntmps58
        go_wp2
        try (go_quiet (fail); go_wp2)
        go_ret
        first | exact LR.yes (by rw [HE.out, if_pos ⟨h0, h1⟩]) h0 HF0.out.1 | exact LR.yes (by rw [HE.out, if_pos ⟨h0, h1⟩]) h0 (HF0.out.below ((Below.refl _ _).drewN _)).1
      · have d1 : decide (s.a < (m : Int)) = false := decide_eq_false h1
        go_enter Tryz.func58, Tryz.ntmps58
        go_wp2
        try (go_quiet (fail); go_wp2)
        go_ret
        first | exact LR.no (by rw [HE.out, if_neg (fun h => by omega)]) HF0.out.1 | exact LR.no (by rw [HE.out, if_neg (fun h => by omega)]) (HF0.out.below ((Below.refl _ _).drewN _)).1
    · have d0 : decide (0 ≤ s.a) = false := decide_eq_false h0
      go_enter Tryz.func58, Tryz.ntmps58
      go_wp2
      try (go_quiet (fail); go_wp2)
      go_ret
      first | exact LR.no (by rw [HE.out, if_neg (fun h => by omega)]) HF0.out.1 | exact LR.no (by rw [HE.out, if_neg (fun h => by omega)]) (HF0.out.below ((Below.refl _ _).drewN _)).1
  | true =>
    obtain ⟨I, hI⟩ : ∃ I, Lib.idxOfS ks s.k = I := ⟨_, rfl⟩
    obtain ⟨KA, K, kc, rfl, hK, hKc, hkc, hks', hKA⟩ := hks.at
    have hKl : ks.length ≤ 100000 := hk
    by_cases hk17 : kk = 17
    · have e1 : lead (.mk kk nn uu str ks l) s = if 0 ≤ I ∧ I < (m : Int) then some I.toNat else none := by
        unfold lead; rw [hlm, if_pos hb]; show (if kk = 17 then (if 0 ≤ Lib.idxOfS ks s.k ∧ Lib.idxOfS ks s.k < (m : Int) then some (Lib.idxOfS ks s.k).toNat else none) else none) = _
        rw [if_pos hk17, hI]
      obtain ⟨o, ho⟩ : ∃ o, lead (.mk kk nn uu str ks l) s = o := ⟨_, rfl⟩
      rw [ho] at e1 ⊢
      rw [hb] at HF0
      subst hk17
      have HE := Lib.hid e1
      clear e1 ho hL hks hk
      go_enter Tryz.func58, Tryz.ntmps58
      go_wp2
      go_loopw [5] (fun i wr => ∃ j : Nat, j ≤ K ∧ i = .int .i64 (j : Int) ∧ Hid (∀ i, i < j → ks.getD i ByteArray.empty ≠ s.k) ∧ Hid (FB w (.int .i64 17) (.int .i64 nn) (.int .u64 uu) (.string str) (.slice KA K kc) (.slice A m c) s wr)) (fun i _ => K - (intOf i).toNat)
      case atStart => exact ⟨0, Nat.zero_le _, rfl, Lib.hid (fun i hi => by omega), HF0⟩
      case round =>
        obtain ⟨j, hj, rfl, HN, HF⟩ := hrel
        obtain ⟨⟨a0, a1, a2, a3, a4, a5⟩, b0, b1, b2⟩ := HF.out.cells
        by_cases hlt : j < K
        · obtain ⟨x, hx⟩ : ∃ x, ks[j]? = some x := ⟨_, List.getElem?_eq_getElem (by omega)⟩
          obtain ⟨bb, off, rfl, _, hc1⟩ := hKA (by omega)
          have hcell := hc1 wr HF.out.1 j x hx
          clear hc1
          by_cases hxy : x = s.k
          · have hT := strEq_true hxy
            have hIj : I = (j : Int) := by rw [← hI]; exact idx_at (by rw [hx, hxy]) HN.out
            clear hx hxy hKA
            by_cases hjm : j < m
            · go_wp2
              try (go_quiet (fail); go_wp2)
              go_ret
              first | exact LR.yes (by rw [HE.out, hIj, if_pos ⟨by omega, by omega⟩]) (by omega) HF.out.1 | exact LR.yes (by rw [HE.out, hIj, if_pos ⟨by omega, by omega⟩]) (by omega) (HF.out.below ((Below.refl _ _).drewN _)).1
            · go_wp2
              try (go_quiet (fail); go_wp2)
              go_ret
              first | exact LR.no (by rw [HE.out, hIj, if_neg (fun h => by omega)]) HF.out.1 | exact LR.no (by rw [HE.out, hIj, if_neg (fun h => by omega)]) (HF.out.below ((Below.refl _ _).drewN _)).1
          · have hF := strEq_false hxy
            have HN2 : Hid (∀ i, i < j + 1 → ks.getD i ByteArray.empty ≠ s.k) := Lib.hid fun i hi => by
              rcases Nat.lt_or_ge i j with h | h
              · exact HN.out i h
              · obtain rfl : i = j := by omega
                simpa [List.getD, hx] using hxy
            clear hx hxy hKA
            go_wp2
            try (go_quiet (fail); go_wp2)
            go_roundw
            case rel => exact ⟨j + 1, by omega, by simp, HN2, (by first | exact HF | exact Lib.hid (HF.out.below ((Below.refl _ _).drewN _)))⟩
            case measure => simp [intOf]; omega
        · have hI1 : I = -1 := by rw [← hI]; exact idx_all hK (fun i hi => HN.out i (by omega))
          go_wp2
          go_ret
          exact LR.no (by rw [HE.out, hI1]; rfl) HF.out.1
    · have e1 : lead (.mk kk nn uu str ks l) s = none := by
        unfold lead; rw [if_pos hb]; exact if_neg hk17
      have hne := neB hk17
      have hne2 : (kk == 17) = false := by rw [beq_eq_false_iff_ne]; exact hk17
      rw [hb] at HF0
      rw [e1]
      clear e1 hL hks hKA
      go_enter Tryz.func58, Tryz.ntmps58
      go_wp2
      go_loopw [5] (fun i wr => i = .int .i64 0 ∧ Hid (FB w (.int .i64 kk) (.int .i64 nn) (.int .u64 uu) (.string str) (.slice KA K kc) (.slice A m c) s wr)) (fun i _ => 0)
      case atStart => exact ⟨rfl, HF0⟩
      case round =>
        obtain ⟨rfl, HF⟩ := hrel
        obtain ⟨⟨a0, a1, a2, a3, a4, a5⟩, b0, b1, b2⟩ := HF.out.cells
        by_cases hlt : 0 < K
        · go_wp2
          go_ret
          exact LR.no rfl HF.out.1
        · go_wp2
          go_ret
          exact LR.no rfl HF.out.1

set_option maxRecDepth 100000 in
set_option maxHeartbeats 1000000 in
theorem refGet_any (t : T) (cs : List Value) (ps : List Stp) (v : Value) (w : World) (hnd : Nd w t cs) (hp : RdP w v ps) (hsz : sz t ≤ 100000) (hsm : sm 1000 1000 t) (hpl : ps.length ≤ 100000) :
    Calls Tryz.prog 23 #[.agg cs.toArray, v] w (GE w (getT t ps) 80) := by
  obtain ⟨A, n, c, rfl, hn, hnc, hc, hs, hA⟩ := hp.at
  obtain ⟨k0, i0, n0, s0, A1, m1, c1, A2, m2, c2, rfl⟩ := hnd.shape
  have hT0 := Two.start w (.int .i64 k0) (.int .i64 i0) (.int .u64 n0) (.string s0) (.slice A1 m1 c1) (.slice A2 m2 c2) (.int .i64 0) (.int .i64 0) (.int .u64 0) (.string ⟨#[]⟩) (.slice none 0 0) (.slice none 0 0)
  have HT0 := Lib.hid hT0
  have HND := Lib.hid hnd
  have HSM := Lib.hid hsm
  go_enter Tryz.func23, Tryz.ntmps23
  go_wp2
  go_loopw [6] (fun i wr => ∃ (j : Nat) (t' : T) (k n0 u : Int) (s : ByteArray) (A1 : Option Addr) (m1 c1 : Nat) (A2 : Option Addr) (m2 c2 : Nat), j ≤ n ∧ i = .int .i64 (j : Int) ∧ sz t' ≤ 100000 ∧ Hid (sm 1000 1000 t') ∧ Hid (getT t ps = getT t' (ps.drop j)) ∧ Hid (Nd w t' [.int .i64 k, .int .i64 n0, .int .u64 u, .string s, .slice A1 m1 c1, .slice A2 m2 c2]) ∧ Hid (Two w (.int .i64 k) (.int .i64 n0) (.int .u64 u) (.string s) (.slice A1 m1 c1) (.slice A2 m2 c2) (.int .i64 0) (.int .i64 0) (.int .u64 0) (.string ⟨#[]⟩) (.slice none 0 0) (.slice none 0 0) wr)) (fun i _ => n - (intOf i).toNat)
  case atStart => exact ⟨0, t, _, _, _, _, _, _, _, _, _, _, Nat.zero_le _, rfl, hsz, HSM, Lib.hid rfl, HND, HT0⟩
  case round =>
    obtain ⟨j, t', k, n1, u, s, B1, p1, q1, B2, p2, q2, hj, rfl, hsz', HSM', HG, HN, HT⟩ := hrel
    obtain ⟨a0, a1, a2, a3, a4, a5⟩ := HT.out.2.2.1.all
    obtain ⟨b0, b1, b2, b3, b4, b5⟩ := HT.out.2.2.2.all
    by_cases hlt : j < n
    · obtain ⟨x, hx⟩ : ∃ x, ps[j]? = some x := ⟨_, List.getElem?_eq_getElem (by omega)⟩
      obtain ⟨bb, off, rfl, hbw, hc1⟩ := hA (by omega)
      obtain ⟨x0, x1, x2⟩ := hc1 wr HT.out.1 j x hx
      have HF := Lib.hid (fun W (hb : Below wr.heap.size wr W) => refLeads_any t' _ x W (HN.out.bel (HT.out.1.trans (hb.mono HT.out.1.size))) (by exact kids_len hsz') (keys_len HSM'.out))
      have HB0 := Lib.hid (Below.refl wr.heap.size wr)
      have HBd := Lib.hid (Below.refl wr.heap.size wr).drew
      cases hld : lead t' x with
      | none =>
        rw [hld] at HF
        have HGN := Lib.hid (getT_none HG.out hx hld)
        clear hx hld hc1 hA hp hnd hT0
        go_wp2
        go_still_tail 5, (by kernel_rfl)
        change wpList _ _ _ _ _ wr.drew
        go_wp2_with (go_at_call 58; (with_reducible refine (HF.out _ (by with_reducible first | exact HB0.out | exact HBd.out)).mono ?_); rintro e w2 ⟨⟨ii, rfl, -, hi⟩, hb2⟩; have hi2 := hi rfl; subst hi2; have HT2 := (by with_reducible first | exact Lib.hid (HT.out.below hb2) | exact Lib.hid ((HT.out.below HBd.out).below hb2)); obtain ⟨d0, d1, d2, d3, d4, d5⟩ := HT2.out.2.2.2.all; have g9 := HT2.out.2.2.2.frozen; clear hb2 hi)
        change bodyPost Tryz.prog Tryz.f23 (GE w (getT t ps) 80) .ret _ _
        refine ret_six2 (p := 4) (q := 5) (g := w.heap.size + 1) (v := .int .i64 80) (by rfl) (by rfl) (by rfl) (put6_bx HT2.out.2.2.2 _ _ _ _ _ _) (by rfl) ?_
        exact GE.no HGN.out (put6_below HT2.out.1 _ _ _ _ _ _ _ _ (by omega))
      | some i =>
        obtain ⟨c', hc'⟩ : ∃ c', t'.l[i]? = some c' := ⟨_, List.getElem?_eq_getElem (lead_lt hld)⟩
        have HGN := Lib.hid (getT_some HG.out hx hld hc')
        have hil := lead_lt hld
        obtain ⟨b9, o9, q9, e9, hb9, z0, z1, z2, z3, z4, z5, h6, hnk⟩ := HN.out.kid (Below.refl _ _) hc'
        injection e9 with e91 e92 e93
        subst e91 e92 e93
        rw [hld] at HF
        have HNK := Lib.hid hnk
        have H6 := Lib.hid h6
        have HSZ := Lib.hid (sz_kid hsz' hc')
        have HSK := Lib.hid (sm_kid HSM'.out hc')
        obtain ⟨k8, i8, u8, s8, C1', m1', d1', C2', m2', d2', g0, g1, g2, g3, g4, g5⟩ := hnk.shape6
        subst g0 g1 g2 g3 g4 g5
        have hil2 : (i : Int) < (t'.l.length : Int) := by omega
        have hi0 : ¬ (i : Int) < 0 := by omega
        clear hx hld hc1 hA hp hnd hT0 hnk h6 hc'
        go_wp2
        go_still_tail 5, (by kernel_rfl)
        change wpList _ _ _ _ _ wr.drew
        go_wp2_with (go_at_call 58; (with_reducible refine (HF.out _ (by with_reducible first | exact HB0.out | exact HBd.out)).mono ?_); rintro e w2 ⟨⟨ii, rfl, hi, -⟩, hb2⟩; have hi2 := hi i rfl; subst hi2; have HT2 := (by with_reducible first | exact Lib.hid (HT.out.below hb2) | exact Lib.hid ((HT.out.below HBd.out).below hb2)); obtain ⟨d0, d1, d2, d3, d4, d5⟩ := HT2.out.2.2.1.all; have g9 := HT2.out.2.2.1.frozen; obtain ⟨y0, y1, y2, y3, y4, y5⟩ := H6.out.below HT2.out.1 hb9; clear hb2 hi)
        exact ⟨⟨j + 1, c', k8, i8, u8, s8, C1', m1', d1', C2', m2', d2', by omega, by simp, HSZ.out, HSK, HGN, HNK, Lib.hid (Two.put0 HT2.out _ _ _ _ _ _)⟩, by simp [intOf]; omega⟩
    · obtain rfl : j = n := by omega
      have HCP := Lib.hid (copyNode_any (dp t') t' _ wr (Nat.le_refl _) hsz' HSM'.out (HN.out.bel HT.out.1))
      have hg : getT t ps = some t' := by rw [HG.out, List.drop_of_length_le (by omega)]; rfl
      have HGG := Lib.hid hg
      clear hg hA hp hnd hT0
      go_wp2_with (go_at_call 59; (with_reducible refine HCP.out.mono ?_); rintro e w2 ⟨⟨cs', rfl, hno⟩, hb2⟩; have HT2 := Lib.hid (HT.out.below hb2); obtain ⟨d0, d1, d2, d3, d4, d5⟩ := HT2.out.2.2.2.all; have g9 := HT2.out.2.2.2.frozen; have HNO := Lib.hid hno; obtain ⟨k8, i8, u8, s8, C1', m1', d1', C2', m2', d2', rfl⟩ := hno.shape6; clear hno hb2)
      have HFI := Lib.hid (fill_two HT2.out (HT.out.2.1) HNO.out)
      change bodyPost Tryz.prog Tryz.f23 (GE w (getT t ps) 80) .ret _ _
      refine ret_six2 (p := 4) (q := 5) (g := w.heap.size + 1) (v := .int .i64 0) (by rfl) (by rfl) (by rfl) HFI.out.1 (by rfl) ?_
      exact GE.yes HGG.out HFI.out.2.1 HFI.out.2.2
end Go.Proofs.YtjnfilbdokppiaaGreatDoor
