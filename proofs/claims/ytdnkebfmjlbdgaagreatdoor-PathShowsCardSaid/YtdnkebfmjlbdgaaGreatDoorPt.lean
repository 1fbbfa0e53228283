/-
  What is proved here: the contract of path.Set; conditions: those that it states (sizes, the table of package tree).
-/
import Derived.Test.YtdnkebfmjlbdgaaGreatDoorPr
namespace Go.Proofs.YtdnkebfmjlbdgaaGreatDoor
open Go.RowKit

theorem szL_set : ∀ (l : List T) (i : Nat) (c c' : T), l[i]? = some c → szL (l.set i c') + sz c = szL l + sz c'
  | [], i, c, c', h => by simp at h
  | t :: ts, 0, c, c', h => by
    obtain rfl : t = c := by simpa using h
    simp only [List.set_cons_zero, szL]; omega
  | t :: ts, i + 1, c, c', h => by
    have := szL_set ts i c c' (by simpa using h)
    simp only [List.set_cons_succ, szL]; omega
theorem setT_sz (y : T) : ∀ (ps : List Stp) (t x : T), setT t ps y = some x → sz x ≤ sz t + sz y
  | [], t, x, h => by
    obtain rfl : y = x := by simpa [setT] using h
    omega
  | s :: ps, t, x, h => by
    unfold setT at h
    split at h
    · cases h
    · split at h
      · cases h
      · split at h
        · cases h
        · rename_i _ i hl _ c hc _ c' hc'
          obtain rfl := Option.some.inj h
          have ih := setT_sz y ps c c' hc'
          have h2 := szL_set t.l i c c' hc
          obtain ⟨_, _, _, _, _, l⟩ := t
          simp only [sz, T.l] at *
          omega
theorem smL_set {n m : Nat} {l : List T} (h : smL n m l) {c' : T} (hc : sm n m c') (i : Nat) : smL n m (l.set i c') := smL_of fun t ht => by
  rcases List.mem_or_eq_of_mem_set ht with ht | rfl
  · exact smL_mem h t ht
  · exact hc
theorem setT_sm {n m : Nat} (y : T) (hy : sm n m y) : ∀ (ps : List Stp) (t x : T), sm n m t → setT t ps y = some x → sm n m x
  | [], t, x, _, h => by
    obtain rfl : y = x := by simpa [setT] using h
    exact hy
  | s :: ps, t, x, ht, h => by
    unfold setT at h
    split at h
    · cases h
    · split at h
      · cases h
      · split at h
        · cases h
        · rename_i _ i hl _ c hc _ c' hc'
          obtain rfl := Option.some.inj h
          obtain ⟨_, _, _, _, _, l⟩ := t
          exact ⟨ht.1, ht.2.1, ht.2.2.1, smL_set ht.2.2.2 (setT_sm y hy ps c c' (smL_at ht.2.2.2 hc) hc') i⟩
/-- What Set hands back: a tree, or an error. -/
def setR (t : T) (ps : List Stp) (y : T) : Option T × Int :=
  match setT t ps y with
  | none => (none, 80)
  | some x => if chk x = 0 then (some x, 0) else (none, (chk x : Nat))
theorem Tr.put0 {w W : World} {v0 v1 v2 v3 v4 v5 u0 u1 u2 u3 u4 u5 z0 z1 z2 z3 z4 z5 : Value} (h : Tr w v0 v1 v2 v3 v4 v5 u0 u1 u2 u3 u4 u5 z0 z1 z2 z3 z4 z5 W) (a0 a1 a2 a3 a4 a5 : Value) : Tr w a0 a1 a2 a3 a4 a5 u0 u1 u2 u3 u4 u5 z0 z1 z2 z3 z4 z5 (put6 W w.heap.size 0 a0 a1 a2 a3 a4 a5) :=
  ⟨put6_below h.bl _ _ _ _ _ _ _ _ (Nat.le_refl _), by rw [put6_size]; exact h.sz, put6_bx h.b0 _ _ _ _ _ _, put6_blk h.b1 (by omega) _ _ _ _ _ _, put6_blk h.b2 (by omega) _ _ _ _ _ _⟩
theorem fill_tr {w W : World} {v0 v1 v2 v3 v4 v5 u0 u1 u2 u3 u4 u5 z0 z1 z2 z3 z4 z5 a0 a1 a2 a3 a4 a5 : Value} {x : T} {n : Nat} (h : Tr w v0 v1 v2 v3 v4 v5 u0 u1 u2 u3 u4 u5 z0 z1 z2 z3 z4 z5 W) (hn : w.heap.size + 3 ≤ n) (ho : NdO (fun b => n ≤ b) W x [a0, a1, a2, a3, a4, a5]) :
    Bx (put6 W (w.heap.size + 1 + 1) 0 a0 a1 a2 a3 a4 a5) (w.heap.size + 1 + 1) a0 a1 a2 a3 a4 a5 ∧ NdO (fun b => w.heap.size ≤ b) (put6 W (w.heap.size + 1 + 1) 0 a0 a1 a2 a3 a4 a5) x [a0, a1, a2, a3, a4, a5] ∧ Below w.heap.size w (put6 W (w.heap.size + 1 + 1) 0 a0 a1 a2 a3 a4 a5) :=
  ⟨put6_bx h.b2 _ _ _ _ _ _, NdO.step (fun b hb _ => ⟨put6_other _ _ _ _ _ _ _ _ _ _ (by omega), by omega⟩) _ _ ho, put6_below h.bl _ _ _ _ _ _ _ _ (by omega)⟩

set_option maxRecDepth 100000 in
set_option maxHeartbeats 1000000 in
theorem set_any (t y : T) (cs ys : List Value) (ps : List Stp) (v : Value) (w : World) (hT : Tab w) (hnd : Nd w t cs) (hy : Nd w y ys) (hp : RdP w v ps) (hsz : sz t + sz y ≤ 100000) (hsm : sm 1000 1000 t) (hsy : sm 1000 1000 y) (hpl : ps.length ≤ 100000) :
    Calls Tryz.prog 26 #[.agg cs.toArray, v, .agg ys.toArray] w (GE w (setR t ps y).1 (setR t ps y).2) := by
  obtain ⟨k0, i0, n0, s0, A1, m1, c1, A2, m2, c2, rfl⟩ := hnd.shape
  obtain ⟨k1, i1, n1, s1, B1, p1, q1, B2, p2, q2, rfl⟩ := hy.shape
  have hT0 := Tr.start w (.int .i64 k0) (.int .i64 i0) (.int .u64 n0) (.string s0) (.slice A1 m1 c1) (.slice A2 m2 c2) (.int .i64 k1) (.int .i64 i1) (.int .u64 n1) (.string s1) (.slice B1 p1 q1) (.slice B2 p2 q2) (.int .i64 0) (.int .i64 0) (.int .u64 0) (.string ⟨#[]⟩) (.slice none 0 0) (.slice none 0 0)
  have HR := Lib.hid (replace_any w y _ hy ps t _ v _ hT0.bl hnd hp (by omega) hsm hpl)
  have HT0 := Lib.hid hT0
  obtain ⟨R, hR⟩ : ∃ R, setT t ps y = R := ⟨_, rfl⟩
  have HSZ := Lib.hid (fun x h => setT_sz y ps t x h)
  have HSM := Lib.hid (fun x h => setT_sm y hsy ps t x hsm h)
  have HTB := Lib.hid hT
  rw [hR] at HSZ HSM
  cases R with
  | none =>
    have e : setR t ps y = (none, 80) := by unfold setR; rw [hR]
    rw [e]
    rw [hR] at HR
    clear e hR hT0 hnd hp hy hsm hsy hT
    go_enter Tryz.func26, Tryz.ntmps26
    go_wp2_with fail
    (with_reducible refine HR.out.mono ?_)
    rintro e w2 ⟨rfl, hb2⟩
    have HT2 := Lib.hid (HT0.out.below hb2)
    have HT3 := Lib.hid (HT2.out.put0 (.int .i64 0) (.int .i64 0) (.int .u64 0) (.string ⟨#[]⟩) (.slice none 0 0) (.slice none 0 0))
    obtain ⟨⟨d0, d1, d2, d3, d4, d5⟩, f0, f1, f2, f3, f4, f5⟩ := Bx.both HT2.out.b0
    obtain ⟨⟨a0, a1, a2, a3, a4, a5⟩, g0, g1, g2, g3, g4, g5⟩ := Bx.both HT2.out.b2
    clear hb2
    go_upto_region 3 with fail
    obtain ⟨W3, hW3⟩ : ∃ W3, put6 w2 w.heap.size 0 (.int .i64 0) (.int .i64 0) (.int .u64 0) (.string ⟨#[]⟩) (.slice none 0 0) (.slice none 0 0) = W3 := ⟨_, rfl⟩
    rw [hW3] at HT3
    unfold put6 at hW3
    rw [hW3]
    clear d0 d1 d2 d3 d4 d5 f0 f1 f2 f3 f4 f5 a0 a1 a2 a3 a4 a5 g0 g1 g2 g3 g4 g5 hW3
    obtain ⟨⟨a0, a1, a2, a3, a4, a5⟩, g0, g1, g2, g3, g4, g5⟩ := Bx.both HT3.out.b2
    go_wp2_with fail
    refine ret_six2 (p := 6) (q := 7) (g := w.heap.size + 1 + 1) (v := .int .i64 80) (by rfl) (by rfl) (by rfl) (put6_bx HT3.out.b2 _ _ _ _ _ _) (by rfl) ?_
    exact GE.no rfl (put6_below HT3.out.bl _ _ _ _ _ _ _ _ (by omega))
  | some x =>
    have e : setR t ps y = if chk x = 0 then (some x, (0 : Int)) else (none, ((chk x : Nat) : Int)) := by unfold setR; rw [hR]
    obtain ⟨RR, hRR⟩ : ∃ RR, (if chk x = 0 then (some x, (0 : Int)) else (none, ((chk x : Nat) : Int))) = RR := ⟨_, rfl⟩
    rw [e, hRR]
    have HRR := Lib.hid hRR
    rw [hR] at HR
    have hxz := HSZ.out x rfl
    have HXM := Lib.hid (HSM.out x rfl)
    clear e hR hRR hT0 hnd hp hy hsm hsy hT
    go_enter Tryz.func26, Tryz.ntmps26
    go_wp2_with fail
    (with_reducible refine HR.out.mono ?_)
    rintro e w2 ⟨⟨cs', rfl, hrk⟩, hb2⟩
    have HT2 := Lib.hid (HT0.out.below hb2)
    obtain ⟨k5, i5, u5, s5, E1, e1, l1, E2, e2, l2, rfl⟩ := (hrk w2 HT2.out.bl (fun b _ _ => rfl) (Nat.le_refl _)).shape
    have HT3 := Lib.hid (HT2.out.put0 (.int .i64 k5) (.int .i64 i5) (.int .u64 u5) (.string s5) (.slice E1 e1 l1) (.slice E2 e2 l2))
    have hN3 : Nd (put6 w2 w.heap.size 0 (.int .i64 k5) (.int .i64 i5) (.int .u64 u5) (.string s5) (.slice E1 e1 l1) (.slice E2 e2 l2)) x [.int .i64 k5, .int .i64 i5, .int .u64 u5, .string s5, .slice E1 e1 l1, .slice E2 e2 l2] := hrk _ HT3.out.bl (fun b h1 h2 => put6_other _ _ _ _ _ _ _ _ _ _ (by have := (Tr.start w (.int .i64 k0) (.int .i64 i0) (.int .u64 n0) (.string s0) (.slice A1 m1 c1) (.slice A2 m2 c2) (.int .i64 k1) (.int .i64 i1) (.int .u64 n1) (.string s1) (.slice B1 p1 q1) (.slice B2 p2 q2) (.int .i64 0) (.int .i64 0) (.int .u64 0) (.string ⟨#[]⟩) (.slice none 0 0) (.slice none 0 0)).sz; omega)) (by rw [put6_size]; exact Nat.le_refl _)
    obtain ⟨⟨d0, d1, d2, d3, d4, d5⟩, f0, f1, f2, f3, f4, f5⟩ := Bx.both HT2.out.b0
    clear hb2 hrk
    go_upto_region 4 with fail
    obtain ⟨W3, hW3⟩ : ∃ W3, put6 w2 w.heap.size 0 (.int .i64 k5) (.int .i64 i5) (.int .u64 u5) (.string s5) (.slice E1 e1 l1) (.slice E2 e2 l2) = W3 := ⟨_, rfl⟩
    rw [hW3] at HT3 hN3
    unfold put6 at hW3
    rw [hW3]
    clear d0 d1 d2 d3 d4 d5 f0 f1 f2 f3 f4 f5 hW3
    have HN3 := Lib.hid hN3
    obtain ⟨d0, d1, d2, d3, d4, d5⟩ := HT3.out.b0.all
    have HCK := Lib.hid (check_any x _ W3 (HTB.out.keep HT3.out.bl) (by omega) HXM.out hN3)
    clear hN3
    by_cases hz : chk x = 0
    · have hrr := HRR.out
      rw [if_pos hz] at hrr
      subst hrr
      rw [hz] at HCK
      go_wp2_with fail
      (with_reducible refine HCK.out.mono ?_)
      rintro e w4 ⟨rfl, hb4⟩
      have HT4 := Lib.hid (HT3.out.below hb4)
      have HCP := Lib.hid (copy_any (dp x) x _ w4 (Nat.le_refl _) (by omega) HXM.out (HN3.out.bel hb4))
      obtain ⟨m0, m1', m2', m3, m4, m5⟩ := HT4.out.b0.all
      clear hb4 d0 d1 d2 d3 d4 d5
      go_wp2_with fail
      (with_reducible refine HCP.out.mono ?_)
      rintro e w5 ⟨⟨cs', rfl, hno⟩, hb5⟩
      have HT5 := Lib.hid (HT4.out.below hb5)
      have HNO := Lib.hid hno
      obtain ⟨k8, i8, u8, s8, C1', m1', d1', C2', m2', d2', rfl⟩ := hno.shape6
      obtain ⟨⟨a0, a1, a2, a3, a4, a5⟩, g0, g1, g2, g3, g4, g5⟩ := Bx.both HT5.out.b2
      clear hno hb5
      go_wp2_with fail
      have HFI := Lib.hid (fill_tr HT5.out HT4.out.sz HNO.out)
      refine ret_six2 (p := 6) (q := 7) (g := w.heap.size + 1 + 1) (v := .int .i64 0) (by rfl) (by rfl) (by rfl) HFI.out.1 (by rfl) ?_
      exact GE.yes rfl HFI.out.2.1 HFI.out.2.2
    · have hrr := HRR.out
      rw [if_neg hz] at hrr
      subst hrr
      obtain ⟨E, hE⟩ : ∃ E, chk x = E := ⟨_, rfl⟩
      rw [hE] at HCK hz
      have HEE := Lib.hid hE
      have hEn : ((E : Nat) : Int) ≠ 0 := by omega
      have hEb := neB hEn
      clear hE hEn hz
      go_wp2_with fail
      (with_reducible refine HCK.out.mono ?_)
      rintro e w4 ⟨rfl, hb4⟩
      have HT4 := Lib.hid (HT3.out.below hb4)
      obtain ⟨⟨a0, a1, a2, a3, a4, a5⟩, g0, g1, g2, g3, g4, g5⟩ := Bx.both HT4.out.b2
      clear hb4 d0 d1 d2 d3 d4 d5
      go_wp2_with fail
      change bodyPost Tryz.prog Tryz.f26 (GE w _ _) .ret _ _
      refine ret_six2 (p := 6) (q := 7) (g := w.heap.size + 1 + 1) (v := .int .i64 (E : Int)) (by rfl) (by rfl) (by rfl) (put6_bx HT4.out.b2 _ _ _ _ _ _) (by rfl) ?_
      rw [HEE.out]
      exact GE.no (r := none) rfl (put6_below HT4.out.bl (w.heap.size + 1 + 1) 0 _ _ _ _ _ _ (by omega))
end Go.Proofs.YtdnkebfmjlbdgaaGreatDoor
