/-
  What is proved here: the contract of path.Set; conditions: those that it states (sizes, the table of package tree); and: contracts of the law's reads and leads; conditions: the tables hold what is laid, and the sizes that each states; and: the chapter's examples, as facts of the plain functions; no program in this text; no condition; and: works, the chapter's examples, returns true; condition: the tables hold what is laid.
-/
import Derived.Test.YtjnfilbdokppiaaGreatDoorPr
import Derived.Test.YtjnfilbdokppiaaGreatDoorPy
import Derived.Test.YtjnfilbdokppiaaGreatDoorPsh
import Derived.Test.YtjnfilbdokppiaaGreatDoorExB
namespace Go.Proofs.YtjnfilbdokppiaaGreatDoor
open Go.RowKit

theorem szL_set : ∀ (l : List T) (i : Nat) (c c' : T), l[i]? = some c → szL (l.set i c') + sz c = szL l + sz c'
  | [], i, c, c', h => by simp at h
  | t :: ts, 0, c, c', h => by
    obtain rfl : t = c := by simpa using h
    simp only [List.set_cons_zero, szL]; omega
  | t :: ts, i + 1, c, c', h => by
    have := szL_set ts i c c' (by simpa using h)
    simp only [List.set_cons_succ, szL]; omega
theorem setT_sz (y : T) : ∀ (ps : List Stp) (t x : T), setT t ps y = some x → sz x ≤ sz t + sz y
  | [], t, x, h => by
    obtain rfl : y = x := by simpa [setT] using h
    omega
  | s :: ps, t, x, h => by
    unfold setT at h
    split at h
    · cases h
    · split at h
      · cases h
      · split at h
        · cases h
        · rename_i _ i hl _ c hc _ c' hc'
          obtain rfl := Option.some.inj h
          have ih := setT_sz y ps c c' hc'
          have h2 := szL_set t.l i c c' hc
          obtain ⟨_, _, _, _, _, l⟩ := t
          simp only [sz, T.l] at *
          omega
theorem smL_set {n m : Nat} {l : List T} (h : smL n m l) {c' : T} (hc : sm n m c') (i : Nat) : smL n m (l.set i c') := smL_of fun t ht => by
  rcases List.mem_or_eq_of_mem_set ht with ht | rfl
  · exact smL_mem h t ht
  · exact hc
theorem setT_sm {n m : Nat} (y : T) (hy : sm n m y) : ∀ (ps : List Stp) (t x : T), sm n m t → setT t ps y = some x → sm n m x
  | [], t, x, _, h => by
    obtain rfl : y = x := by simpa [setT] using h
    exact hy
  | s :: ps, t, x, ht, h => by
    unfold setT at h
    split at h
    · cases h
    · split at h
      · cases h
      · split at h
        · cases h
        · rename_i _ i hl _ c hc _ c' hc'
          obtain rfl := Option.some.inj h
          obtain ⟨_, _, _, _, _, l⟩ := t
          exact ⟨ht.1, ht.2.1, ht.2.2.1, smL_set ht.2.2.2 (setT_sm y hy ps c c' (smL_at ht.2.2.2 hc) hc') i⟩
/-- What Set hands back: a tree, or an error. -/
def setR (t : T) (ps : List Stp) (y : T) : Option T × Int :=
  match setT t ps y with
  | none => (none, 80)
  | some x => if chk x = 0 then (some x, 0) else (none, (chk x : Nat))
theorem Tr.put0 {w W : World} {v0 v1 v2 v3 v4 v5 u0 u1 u2 u3 u4 u5 z0 z1 z2 z3 z4 z5 : Value} (h : Tr w v0 v1 v2 v3 v4 v5 u0 u1 u2 u3 u4 u5 z0 z1 z2 z3 z4 z5 W) (a0 a1 a2 a3 a4 a5 : Value) : Tr w a0 a1 a2 a3 a4 a5 u0 u1 u2 u3 u4 u5 z0 z1 z2 z3 z4 z5 (put6 W w.heap.size 0 a0 a1 a2 a3 a4 a5) :=
  ⟨put6_below h.bl _ _ _ _ _ _ _ _ (Nat.le_refl _), by rw [put6_size]; exact h.sz, put6_bx h.b0 _ _ _ _ _ _, put6_blk h.b1 (by omega) _ _ _ _ _ _, put6_blk h.b2 (by omega) _ _ _ _ _ _⟩
theorem fill_tr {w W : World} {v0 v1 v2 v3 v4 v5 u0 u1 u2 u3 u4 u5 z0 z1 z2 z3 z4 z5 a0 a1 a2 a3 a4 a5 : Value} {x : T} {n : Nat} (h : Tr w v0 v1 v2 v3 v4 v5 u0 u1 u2 u3 u4 u5 z0 z1 z2 z3 z4 z5 W) (hn : w.heap.size + 3 ≤ n) (ho : NdO (fun b => n ≤ b) W x [a0, a1, a2, a3, a4, a5]) :
    Bx (put6 W (w.heap.size + 1 + 1) 0 a0 a1 a2 a3 a4 a5) (w.heap.size + 1 + 1) a0 a1 a2 a3 a4 a5 ∧ NdO (fun b => w.heap.size ≤ b) (put6 W (w.heap.size + 1 + 1) 0 a0 a1 a2 a3 a4 a5) x [a0, a1, a2, a3, a4, a5] ∧ Below w.heap.size w (put6 W (w.heap.size + 1 + 1) 0 a0 a1 a2 a3 a4 a5) :=
  ⟨put6_bx h.b2 _ _ _ _ _ _, NdO.step (fun b hb _ => ⟨put6_other _ _ _ _ _ _ _ _ _ _ (by omega), by omega⟩) _ _ ho, put6_below h.bl _ _ _ _ _ _ _ _ (by omega)⟩

set_option maxRecDepth 100000 in
set_option maxHeartbeats 1000000 in
theorem set_any (t y : T) (cs ys : List Value) (ps : List Stp) (v : Value) (w : World) (hT : Tab w) (hnd : Nd w t cs) (hy : Nd w y ys) (hp : RdP w v ps) (hsz : sz t + sz y ≤ 100000) (hsm : sm 1000 1000 t) (hsy : sm 1000 1000 y) (hpl : ps.length ≤ 100000) :
    Calls Tryz.prog 26 #[.agg cs.toArray, v, .agg ys.toArray] w (GE w (setR t ps y).1 (setR t ps y).2) := by
  obtain ⟨k0, i0, n0, s0, A1, m1, c1, A2, m2, c2, rfl⟩ := hnd.shape
  obtain ⟨k1, i1, n1, s1, B1, p1, q1, B2, p2, q2, rfl⟩ := hy.shape
  have hT0 := Tr.start w (.int .i64 k0) (.int .i64 i0) (.int .u64 n0) (.string s0) (.slice A1 m1 c1) (.slice A2 m2 c2) (.int .i64 k1) (.int .i64 i1) (.int .u64 n1) (.string s1) (.slice B1 p1 q1) (.slice B2 p2 q2) (.int .i64 0) (.int .i64 0) (.int .u64 0) (.string ⟨#[]⟩) (.slice none 0 0) (.slice none 0 0)
  have HR := Lib.hid (replace_any w y _ hy ps t _ v _ hT0.bl hnd hp (by omega) hsm hpl)
  have HT0 := Lib.hid hT0
  obtain ⟨R, hR⟩ : ∃ R, setT t ps y = R := ⟨_, rfl⟩
  have HSZ := Lib.hid (fun x h => setT_sz y ps t x h)
  have HSM := Lib.hid (fun x h => setT_sm y hsy ps t x hsm h)
  have HTB := Lib.hid hT
  rw [hR] at HSZ HSM
  cases R with
  | none =>
    have e : setR t ps y = (none, 80) := by unfold setR; rw [hR]
    rw [e]
    rw [hR] at HR
    clear e hR hT0 hnd hp hy hsm hsy hT
    go_enter Tryz.func26, Tryz.ntmps26
    go_wp2_with fail
    (with_reducible refine HR.out.mono ?_)
    rintro e w2 ⟨rfl, hb2⟩
    have HT2 := Lib.hid (HT0.out.below hb2)
    have HT3 := Lib.hid (HT2.out.put0 (.int .i64 0) (.int .i64 0) (.int .u64 0) (.string ⟨#[]⟩) (.slice none 0 0) (.slice none 0 0))
    obtain ⟨⟨d0, d1, d2, d3, d4, d5⟩, f0, f1, f2, f3, f4, f5⟩ := Bx.both HT2.out.b0
    obtain ⟨⟨a0, a1, a2, a3, a4, a5⟩, g0, g1, g2, g3, g4, g5⟩ := Bx.both HT2.out.b2
    clear hb2
    go_upto_region 3 with fail
    obtain ⟨W3, hW3⟩ : ∃ W3, put6 w2 w.heap.size 0 (.int .i64 0) (.int .i64 0) (.int .u64 0) (.string ⟨#[]⟩) (.slice none 0 0) (.slice none 0 0) = W3 := ⟨_, rfl⟩
    rw [hW3] at HT3
    unfold put6 at hW3
    rw [hW3]
    clear d0 d1 d2 d3 d4 d5 f0 f1 f2 f3 f4 f5 a0 a1 a2 a3 a4 a5 g0 g1 g2 g3 g4 g5 hW3
    obtain ⟨⟨a0, a1, a2, a3, a4, a5⟩, g0, g1, g2, g3, g4, g5⟩ := Bx.both HT3.out.b2
    go_wp2_with fail
    refine ret_six2 (p := 6) (q := 7) (g := w.heap.size + 1 + 1) (v := .int .i64 80) (by rfl) (by rfl) (by rfl) (put6_bx HT3.out.b2 _ _ _ _ _ _) (by rfl) ?_
    exact GE.no rfl (put6_below HT3.out.bl _ _ _ _ _ _ _ _ (by omega))
  | some x =>
    have e : setR t ps y = if chk x = 0 then (some x, (0 : Int)) else (none, ((chk x : Nat) : Int)) := by unfold setR; rw [hR]
    obtain ⟨RR, hRR⟩ : ∃ RR, (if chk x = 0 then (some x, (0 : Int)) else (none, ((chk x : Nat) : Int))) = RR := ⟨_, rfl⟩
    rw [e, hRR]
    have HRR := Lib.hid hRR
    rw [hR] at HR
    have hxz := HSZ.out x rfl
    have HXM := Lib.hid (HSM.out x rfl)
    clear e hR hRR hT0 hnd hp hy hsm hsy hT
    go_enter Tryz.func26, Tryz.ntmps26
    go_wp2_with fail
    (with_reducible refine HR.out.mono ?_)
    rintro e w2 ⟨⟨cs', rfl, hrk⟩, hb2⟩
    have HT2 := Lib.hid (HT0.out.below hb2)
    obtain ⟨k5, i5, u5, s5, E1, e1, l1, E2, e2, l2, rfl⟩ := (hrk w2 HT2.out.bl (fun b _ _ => rfl) (Nat.le_refl _)).shape
    have HT3 := Lib.hid (HT2.out.put0 (.int .i64 k5) (.int .i64 i5) (.int .u64 u5) (.string s5) (.slice E1 e1 l1) (.slice E2 e2 l2))
    have hN3 : Nd (put6 w2 w.heap.size 0 (.int .i64 k5) (.int .i64 i5) (.int .u64 u5) (.string s5) (.slice E1 e1 l1) (.slice E2 e2 l2)) x [.int .i64 k5, .int .i64 i5, .int .u64 u5, .string s5, .slice E1 e1 l1, .slice E2 e2 l2] := hrk _ HT3.out.bl (fun b h1 h2 => put6_other _ _ _ _ _ _ _ _ _ _ (by have := (Tr.start w (.int .i64 k0) (.int .i64 i0) (.int .u64 n0) (.string s0) (.slice A1 m1 c1) (.slice A2 m2 c2) (.int .i64 k1) (.int .i64 i1) (.int .u64 n1) (.string s1) (.slice B1 p1 q1) (.slice B2 p2 q2) (.int .i64 0) (.int .i64 0) (.int .u64 0) (.string ⟨#[]⟩) (.slice none 0 0) (.slice none 0 0)).sz; omega)) (by rw [put6_size]; exact Nat.le_refl _)
    obtain ⟨⟨d0, d1, d2, d3, d4, d5⟩, f0, f1, f2, f3, f4, f5⟩ := Bx.both HT2.out.b0
    clear hb2 hrk
    go_upto_region 4 with fail
    obtain ⟨W3, hW3⟩ : ∃ W3, put6 w2 w.heap.size 0 (.int .i64 k5) (.int .i64 i5) (.int .u64 u5) (.string s5) (.slice E1 e1 l1) (.slice E2 e2 l2) = W3 := ⟨_, rfl⟩
    rw [hW3] at HT3 hN3
    unfold put6 at hW3
    rw [hW3]
    clear d0 d1 d2 d3 d4 d5 f0 f1 f2 f3 f4 f5 hW3
    have HN3 := Lib.hid hN3
    obtain ⟨d0, d1, d2, d3, d4, d5⟩ := HT3.out.b0.all
    have HCK := Lib.hid (check_any x _ W3 (HTB.out.keep HT3.out.bl) (by omega) HXM.out hN3)
    clear hN3
    by_cases hz : chk x = 0
    · have hrr := HRR.out
      rw [if_pos hz] at hrr
      subst hrr
      rw [hz] at HCK
      go_wp2_with fail
      (with_reducible refine HCK.out.mono ?_)
      rintro e w4 ⟨rfl, hb4⟩
      have HT4 := Lib.hid (HT3.out.below hb4)
      have HCP := Lib.hid (copy_any (dp x) x _ w4 (Nat.le_refl _) (by omega) HXM.out (HN3.out.bel hb4))
      obtain ⟨m0, m1', m2', m3, m4, m5⟩ := HT4.out.b0.all
      clear hb4 d0 d1 d2 d3 d4 d5
      go_wp2_with fail
      (with_reducible refine HCP.out.mono ?_)
      rintro e w5 ⟨⟨cs', rfl, hno⟩, hb5⟩
      have HT5 := Lib.hid (HT4.out.below hb5)
      have HNO := Lib.hid hno
      obtain ⟨k8, i8, u8, s8, C1', m1', d1', C2', m2', d2', rfl⟩ := hno.shape6
      obtain ⟨⟨a0, a1, a2, a3, a4, a5⟩, g0, g1, g2, g3, g4, g5⟩ := Bx.both HT5.out.b2
      clear hno hb5
      go_wp2_with fail
      have HFI := Lib.hid (fill_tr HT5.out HT4.out.sz HNO.out)
      refine ret_six2 (p := 6) (q := 7) (g := w.heap.size + 1 + 1) (v := .int .i64 0) (by rfl) (by rfl) (by rfl) HFI.out.1 (by rfl) ?_
      exact GE.yes rfl HFI.out.2.1 HFI.out.2.2
    · have hrr := HRR.out
      rw [if_neg hz] at hrr
      subst hrr
      obtain ⟨E, hE⟩ : ∃ E, chk x = E := ⟨_, rfl⟩
      rw [hE] at HCK hz
      have HEE := Lib.hid hE
      have hEn : ((E : Nat) : Int) ≠ 0 := by omega
      have hEb := neB hEn
      clear hE hEn hz
      go_wp2_with fail
      (with_reducible refine HCK.out.mono ?_)
      rintro e w4 ⟨rfl, hb4⟩
      have HT4 := Lib.hid (HT3.out.below hb4)
      obtain ⟨⟨a0, a1, a2, a3, a4, a5⟩, g0, g1, g2, g3, g4, g5⟩ := Bx.both HT4.out.b2
      clear hb4 d0 d1 d2 d3 d4 d5
      go_wp2_with fail
      change bodyPost Tryz.prog Tryz.f26 (GE w _ _) .ret _ _
      refine ret_six2 (p := 6) (q := 7) (g := w.heap.size + 1 + 1) (v := .int .i64 (E : Int)) (by rfl) (by rfl) (by rfl) (put6_bx HT4.out.b2 _ _ _ _ _ _) (by rfl) ?_
      rw [HEE.out]
      exact GE.no (r := none) rfl (put6_below HT4.out.bl (w.heap.size + 1 + 1) 0 _ _ _ _ _ _ (by omega))
end Go.Proofs.YtjnfilbdokppiaaGreatDoor
namespace Go.Proofs.YtjnfilbdokppiaaGreatDoor
open Go.RowKit U U.Ut

/-- A call that hands back a truth value, and leaves the tables and old memory. -/
def BE (w0 : World) (P : Prop) (e : Ending) (w' : World) : Prop := (∃ β, e = .returned (.bool β) ∧ (β = true ↔ P)) ∧ SP w0 w'

set_option maxRecDepth 100000 in
set_option maxHeartbeats 1000000 in
theorem reads_any (s : ByteArray) (l : List UInt8) (hl : s.data.toList = l) (place E : Int) (u : Value) (want : List Stp) (w : World) (hL : LP w.heap.size w) (hs : s.size ≤ 60000) (hu : RdP w u want) (hpl : (parseP l).1.length ≤ 100000) :
    Calls Tryz.prog 45 #[.string s, .int .i64 place, .int .i64 E, u] w (BE w ((parseP l).1 = want ∧ ((parseP l).2.1 : Int) = place ∧ ((parseP l).2.2 : Int) = E)) := by
  obtain ⟨R, hR⟩ : ∃ R, parseP l = R := ⟨_, rfl⟩
  have HP := parse_any s l hl w hL hs
  rw [hR] at HP hpl
  rw [hR]
  obtain ⟨ps, n, f⟩ := R
  have HP := Lib.hid HP
  have HS0 := Lib.hid (SP.start hL)
  simp only at hpl
  obtain ⟨P, hP⟩ : ∃ P : Prop, (ps = want ∧ (n : Int) = place ∧ (f : Int) = E) = P := ⟨_, rfl⟩
  show Calls Tryz.prog 45 #[.string s, .int .i64 place, .int .i64 E, u] w (BE w (ps = want ∧ (n : Int) = place ∧ (f : Int) = E))
  rw [hP]
  have HPP := Lib.hid hP
  have HQ := Lib.hid (fun (W : World) (v : Value) (hb : Below w.heap.size w W) (hv : RdP W v ps) => eqSteps_any ps want v u W hv (hu.below hb) hpl)
  clear hR hl hu hL hP
  by_cases h2 : (n : Int) = place
  · have e2 : ((n : Int) == place) = true := by rw [h2]; simp
    go_enter Tryz.func45, Tryz.ntmps45
    go_wp2_with (go_at_call 19; (with_reducible refine HP.out.mono ?_); rintro e w2 ⟨⟨v, rfl, hv⟩, hb2⟩; have HS2 := Lib.hid (HS0.out.step hb2); have HV := Lib.hid (show RdP w2 v ps from hv); clear hb2 hv)
    (with_reducible refine (HQ.out _ _ HS2.out.bl HV.out).mono ?_)
    rintro e w3 ⟨⟨β, rfl, hβ⟩, hb3⟩
    have HS3 := Lib.hid (HS2.out.step hb3)
    have HBB := Lib.hid hβ
    clear hb3 hβ
    cases β with
    | true =>
      go_wp2_with fail
      go_ret
      refine ⟨⟨_, rfl, ?_⟩, HS3.out⟩
      rw [← HPP.out]
      have := HBB.out.1 trivial
      simp [this, h2]
    | false =>
      go_wp2_with fail
      go_ret
      refine ⟨⟨false, rfl, ?_⟩, HS3.out⟩
      rw [← HPP.out]
      have h3 : ¬ ps = want := fun e => absurd (HBB.out.2 e) (by simp)
      simp [h3]
  · have e2 : ((n : Int) == place) = false := by rw [beq_eq_false_iff_ne]; exact h2
    go_enter Tryz.func45, Tryz.ntmps45
    go_wp2_with (go_at_call 19; (with_reducible refine HP.out.mono ?_); rintro e w2 ⟨⟨v, rfl, hv⟩, hb2⟩; have HS2 := Lib.hid (HS0.out.step hb2); have HV := Lib.hid (show RdP w2 v ps from hv); clear hb2 hv)
    (with_reducible refine (HQ.out _ _ HS2.out.bl HV.out).mono ?_)
    rintro e w3 ⟨⟨β, rfl, hβ⟩, hb3⟩
    have HS3 := Lib.hid (HS2.out.step hb3)
    clear hb3 hβ
    cases β with
    | true =>
      go_wp2_with fail
      go_ret
      refine ⟨⟨false, rfl, ?_⟩, HS3.out⟩
      rw [← HPP.out]
      simp [h2]
    | false =>
      go_wp2_with fail
      go_ret
      refine ⟨⟨false, rfl, ?_⟩, HS3.out⟩
      rw [← HPP.out]
      simp [h2]

/-- What Get hands back: a tree and an error. -/
def getR (t : T) (ps : List Stp) : T × Int := match getT t ps with
  | none => (T0, 80)
  | some x => (x, 0)
theorem GE.got {w w' : World} {t : T} {ps : List Stp} {e : Ending} (h : GE w (getT t ps) 80 e w') : ∃ cs', e = .returned (.tuple #[.agg cs'.toArray, .int .i64 (getR t ps).2]) ∧ NdO (fun b => w.heap.size ≤ b) w' (getR t ps).1 cs' ∧ Below w.heap.size w w' := by
  obtain ⟨h, hb⟩ := h
  unfold getR
  cases hg : getT t ps with
  | none =>
    rw [hg] at h
    exact ⟨_, h, ndo_zero _ _, hb⟩
  | some x =>
    rw [hg] at h
    obtain ⟨cs, he, ho⟩ := h
    exact ⟨cs, he, ho, hb⟩
theorem getT_her (P : T → Prop) (hP : ∀ t, P t → ∀ c ∈ t.l, P c) : ∀ (ps : List Stp) (t x : T), P t → getT t ps = some x → P x
  | [], t, x, h, e => by
    obtain rfl : t = x := by simpa [getT] using e
    exact h
  | s :: ps, t, x, h, e => by
    unfold getT at e
    split at e
    · cases e
    · split at e
      · cases e
      · rename_i c hc
        exact getT_her P hP ps c x (hP t h c (List.mem_of_getElem? hc)) e
theorem getR_sz {t : T} {ps : List Stp} {N : Nat} (h : sz t ≤ N) (h1 : 1 ≤ N) : sz (getR t ps).1 ≤ N := by
  unfold getR
  cases hg : getT t ps with
  | none => exact h1
  | some x => exact getT_her (fun t => sz t ≤ N) (fun t ht c hc => by obtain ⟨i, hi⟩ := List.getElem?_of_mem hc; exact sz_kid ht hi) ps t x h hg
theorem getR_sm {t : T} {ps : List Stp} (h : sm 1000 1000 t) : sm 1000 1000 (getR t ps).1 := by
  unfold getR
  cases hg : getT t ps with
  | none => exact ⟨by decide, by decide, by simp, trivial⟩
  | some x => exact getT_her (fun t => sm 1000 1000 t) (fun t ht c hc => by obtain ⟨i, hi⟩ := List.getElem?_of_mem hc; exact sm_kid ht hi) ps t x h hg

set_option maxRecDepth 100000 in
set_option maxHeartbeats 1000000 in
theorem leads_any (t y : T) (cs ys : List Value) (E : Int) (v : Value) (ps : List Stp) (w : World) (hL : LP w.heap.size w) (hnd : Nd w t cs) (hy : Nd w y ys) (hp : RdP w v ps) (hsz : sz t ≤ 100000) (hsm : sm 1000 1000 t) (hpl : ps.length ≤ 100000) :
    Calls Tryz.prog 32 #[.agg cs.toArray, .agg ys.toArray, .int .i64 E, v] w (BE w ((getR t ps).1 = y ∧ (getR t ps).2 = E)) := by
  obtain ⟨k0, i0, n0, s0, A1, m1, c1, A2, m2, c2, rfl⟩ := hnd.shape
  obtain ⟨k1, i1, n1, s1, B1, p1, q1, B2, p2, q2, rfl⟩ := hy.shape
  have hT0 := Two.start w (.int .i64 k0) (.int .i64 i0) (.int .u64 n0) (.string s0) (.slice A1 m1 c1) (.slice A2 m2 c2) (.int .i64 k1) (.int .i64 i1) (.int .u64 n1) (.string s1) (.slice B1 p1 q1) (.slice B2 p2 q2)
  have HG := Lib.hid (get_any t _ ps v _ (hnd.bel hT0.1) (hp.below hT0.1) hsz hsm hpl)
  have HT0 := Lib.hid hT0
  obtain ⟨x, hx⟩ : ∃ x, (getR t ps).1 = x := ⟨_, rfl⟩
  obtain ⟨g, hg⟩ : ∃ g, (getR t ps).2 = g := ⟨_, rfl⟩
  obtain ⟨P, hP⟩ : ∃ P : Prop, (x = y ∧ g = E) = P := ⟨_, rfl⟩
  rw [hx, hg, hP]
  have HPP := Lib.hid hP
  have HX := Lib.hid hx
  have HGG := Lib.hid hg
  have HEQ := Lib.hid (fun (W : World) (cs' : List Value) (h : Nd W x cs') (hb : Below w.heap.size w W) => eqNode_any (dp x) x y cs' _ W (Nat.le_refl _) (by rw [← hx]; exact getR_sz hsz (by omega)) (by rw [← hx]; exact getR_sm hsm) h (hy.bel hb))
  clear hP hx hg hT0 hnd hy hp hsm
  have HS0 := Lib.hid (SP.start hL)
  go_enter Tryz.func32, Tryz.ntmps32
  go_wp2_with fail
  (with_reducible refine HG.out.mono ?_)
  rintro e w2 hge
  obtain ⟨cs', rfl, ho, hb2⟩ := hge.got
  rw [HX.out] at ho
  rw [HGG.out]
  have HT2 := Lib.hid (HT0.out.below hb2)
  have HN2 := Lib.hid (NdO.nd _ _ ho)
  obtain ⟨k8, i8, u8, s8, C1', m1', d1', C2', m2', d2', rfl⟩ := ho.shape6
  obtain ⟨f0, f1, f2, f3, f4, f5⟩ := HT2.out.2.2.2.all
  have HTa := Lib.hid (HT2.out.below ((Below.refl _ w2).alloc (Nat.le_refl _) (.cells #[.int .i64 k8, .int .i64 i8, .int .u64 u8, .string s8, .slice C1' m1' d1', .slice C2' m2' d2'] 38)))
  have HNa := Lib.hid (HN2.out.bel ((Below.refl _ w2).alloc (Nat.le_refl _) (.cells #[.int .i64 k8, .int .i64 i8, .int .u64 u8, .string s8, .slice C1' m1' d1', .slice C2' m2' d2'] 38)))
  have HCQ := Lib.hid (HEQ.out _ _ HNa.out HTa.out.1)
  obtain ⟨f0', f1', f2', f3', f4', f5'⟩ := HTa.out.2.2.2.all
  clear hge hb2 ho
  go_wp2_with fail
  (with_reducible refine HCQ.out.mono ?_)
  rintro e w3 ⟨⟨β, rfl, hβ⟩, hb3⟩
  have HS3 := Lib.hid (HS0.out.step (HTa.out.1.trans (hb3.mono HTa.out.1.size)))
  have HBB := Lib.hid hβ
  clear hb3 hβ
  cases β with
  | true =>
    go_wp2_with fail
    go_ret
    refine ⟨⟨_, rfl, ?_⟩, HS3.out⟩
    rw [← HPP.out]
    have := HBB.out.1 trivial
    simp [this]
  | false =>
    go_wp2_with fail
    go_ret
    refine ⟨⟨false, rfl, ?_⟩, HS3.out⟩
    rw [← HPP.out]
    have h3 : ¬ x = y := fun e => absurd (HBB.out.2 e) (by simp)
    simp [h3]
end Go.Proofs.YtjnfilbdokppiaaGreatDoor
namespace Go.Proofs.YtjnfilbdokppiaaGreatDoor
open Go.RowKit U U.Ut

def a3 : Stp := ⟨⟨#[]⟩, 3, false⟩
def iS (n : Int) : Stp := ⟨⟨#[]⟩, n, false⟩
def kS (k : ByteArray) : Stp := ⟨k, 0, true⟩
theorem ex_show : showR [iS 3, kS ⟨#[97, 34]⟩] = ([91, 51, 93, 91, 34, 97, 92, 34, 34, 93], 0) := by
  have e : txtS (iS 3) = [91, 51, 93] := by unfold txtS iS; rw [show (3 : Int).toNat = 3 from rfl, Lib.decDigits_one (by decide)]; rfl
  have o : ([iS 3, kS ⟨#[97, 34]⟩].all okS) = true := by decide +kernel
  unfold showR
  rw [if_neg (by decide), if_pos o]
  simp only [List.flatMap_cons, List.flatMap_nil, e]
  rw [show txtS (kS ⟨#[97, 34]⟩) = [91, 34, 97, 92, 34, 34, 93] by decide +kernel]
  rfl
theorem ex_show0 : showR [] = ([], 0) := rfl
theorem ex_r1 : parseP [91, 51, 93, 91, 34, 97, 34, 93] = ([iS 3, kS ⟨#[97]⟩], 0, 0) := by kernel_rfl
theorem ex_r2 : parseP [] = ([], 0, 0) := by kernel_rfl
theorem ex_r3 : parseP [91, 48, 51, 93] = ([], 1, 4) := by kernel_rfl
theorem ex_r4 : parseP [91, 51] = ([], 2, 4) := by kernel_rfl
theorem ex_r5 : parseP [120] = ([], 0, 4) := by kernel_rfl
theorem ex_r6 : parseP [91, 34, 97, 93] = ([], 4, 3) := by kernel_rfl

def nT (n : Int) : T := .mk 3 n 0 ⟨#[]⟩ [] []
def vT (l : List T) : T := .mk 10 0 0 ⟨#[]⟩ [] l
def mT (ks : List ByteArray) (l : List T) : T := .mk 17 0 0 ⟨#[]⟩ ks l
def exM : T := mT [⟨#[98]⟩, ⟨#[97]⟩] [nT 1, vT [nT 2, nT 3]]
def exT : T := vT [nT 5, exM]
theorem ex_l1 : getR exT [] = (exT, 0) := by kernel_rfl
theorem ex_l2 : getR exT [iS 1] = (exM, 0) := by kernel_rfl
theorem ex_l3 : getR exT [iS 1, kS ⟨#[97]⟩, iS 1] = (nT 3, 0) := by kernel_rfl
theorem ex_l4 : getR exT [iS 1, iS 0] = (nT 1, 0) := by kernel_rfl
theorem ex_l5 : getR exT [iS 1, kS ⟨#[99]⟩] = (T0, 80) := by kernel_rfl
theorem ex_l6 : getR exT [iS 0, iS 0] = (T0, 80) := by kernel_rfl
theorem ex_l7 : getR exT [iS 2] = (T0, 80) := by kernel_rfl
def exX : T := vT [nT 5, mT [⟨#[98]⟩, ⟨#[97]⟩] [nT 1, vT [nT 9, nT 3]]]
theorem ex_s1 : setR exT [iS 1, kS ⟨#[97]⟩, iS 0] (nT 9) = (some exX, 0) := by kernel_rfl
theorem ex_s2 : setR exT [iS 0] T0 = (none, 60) := by kernel_rfl
end Go.Proofs.YtjnfilbdokppiaaGreatDoor
namespace Go.Proofs.YtjnfilbdokppiaaGreatDoor
open Go.RowKit U U.Ut

theorem rdp_blk {w : World} {g n : Nat} {ps : List Stp} {cs : Array Value} (h : Blk w g 51 cs) (hc : cs = (pv ps).toArray) (hn : ps.length = n) (hm : n ≤ maxLen) (hR : ∀ x ∈ ps, okR x) : RdP w (.slice (some ⟨g, 0, none⟩) n n) ps := by
  subst hc
  refine ⟨_, n, n, rfl, hn, Nat.le_refl _, hm, hR, fun _ => ⟨g, 0, rfl, h.lt, fun j s hs => ?_⟩⟩
  obtain ⟨h0, h1, h2⟩ := pv_at ps j s hs
  unfold At3
  rw [Nat.zero_add, h.cell, h.cell, h.cell]
  exact ⟨by simpa using h0, by simpa using h1, by simpa using h2⟩
theorem ok_i {n : Int} (h : 0 ≤ n ∧ n ≤ 1000) : okR (iS n) := ⟨Nat.zero_le _, by show (-9223372036854775808 : Int) ≤ n; omega, by show n ≤ 9223372036854775807; omega⟩
theorem ok_k {k : ByteArray} (h : k.size ≤ 1000) : okR (kS k) := ⟨by show k.size ≤ maxLen; unfold maxLen; omega, by show (-9223372036854775808 : Int) ≤ 0; decide, by show (0 : Int) ≤ 9223372036854775807; decide⟩

/-- A call of the chapter's examples: what it hands back, and that old memory stays. -/
def XE (w0 W : World) (v : Value) (e : Ending) (w' : World) : Prop := e = .returned v ∧ SP w0 w' ∧ Below W.heap.size W w'
theorem show1 {w W : World} {g : Nat} (hS : SP w W) (hB : Blk W g 51 #[.string ⟨#[]⟩, .int .i64 3, .bool false, .string ⟨#[97, 34]⟩, .int .i64 0, .bool true]) :
    Calls Tryz.prog 14 #[.slice (some ⟨g, 0, none⟩) 2 2] W (XE w W (.tuple #[.string ⟨#[91, 51, 93, 91, 34, 97, 92, 34, 34, 93]⟩, .int .i64 0])) := by
  have C := show_any [iS 3, kS ⟨#[97, 34]⟩] _ W hS.lp (rdp_blk hB rfl rfl (by decide) (by simp only [List.mem_cons, List.not_mem_nil, or_false]; rintro x (rfl | rfl); (· exact ok_i (by decide)); (· exact ok_k (by decide)))) (by simp only [List.mem_cons, List.not_mem_nil, or_false]; rintro x (rfl | rfl) <;> decide) (by decide)
  rw [ex_show] at C
  refine C.mono ?_
  rintro e w' ⟨rfl, hb⟩
  exact ⟨rfl, hS.step hb, hb⟩
theorem show2 {w W : World} (hS : SP w W) : Calls Tryz.prog 14 #[.slice none 0 0] W (XE w W (.tuple #[.string ⟨#[]⟩, .int .i64 0])) := by
  have C := show_any [] _ W hS.lp (rdp_nil W) (by simp) (by decide)
  rw [ex_show0] at C
  refine C.mono ?_
  rintro e w' ⟨rfl, hb⟩
  exact ⟨rfl, hS.step hb, hb⟩
theorem read_of {w W : World} {s : ByteArray} {p E : Int} {u : Value} {want : List Stp} (hS : SP w W) (hs : s.size ≤ 100) (hu : RdP W u want) (h : ((parseP s.data.toList).1 = want ∧ ((parseP s.data.toList).2.1 : Int) = p ∧ ((parseP s.data.toList).2.2 : Int) = E)) (hl : want.length ≤ 100) :
    Calls Tryz.prog 45 #[.string s, .int .i64 p, .int .i64 E, u] W (XE w W (.bool true)) := by
  refine (reads_any s _ rfl p E u want W hS.lp (by omega) hu (by rw [h.1]; omega)).mono ?_
  rintro e w' ⟨⟨β, rfl, hβ⟩, h2⟩
  rw [hβ.2 h]
  exact ⟨rfl, hS.step h2.bl, h2.bl⟩
theorem lead_of {w W : World} {t y : T} {cs ys : List Value} {E : Int} {v : Value} {ps : List Stp} (hS : SP w W) (hnd : Nd W t cs) (hy : Nd W y ys) (hp : RdP W v ps) (hsz : sz t ≤ 100) (hsm : sm 1000 1000 t) (h : getR t ps = (y, E)) (hl : ps.length ≤ 100) :
    Calls Tryz.prog 32 #[.agg cs.toArray, .agg ys.toArray, .int .i64 E, v] W (XE w W (.bool true)) := by
  refine (leads_any t y cs ys E v ps W hS.lp hnd hy hp (by omega) hsm (by omega)).mono ?_
  rintro e w' ⟨⟨β, rfl, hβ⟩, h2⟩
  rw [hβ.2 (by rw [h]; exact ⟨rfl, rfl⟩)]
  exact ⟨rfl, hS.step h2.bl, h2.bl⟩
theorem alB {A W : World} {o : Obj} (h : Below A.heap.size A W) : Below A.heap.size A (W.alloc o) := Below.alloc h (Below.size h) o
theorem bornB {w w' : World} {cs ds : Array Value} {t u : TypeId} (hb : Below ((w.alloc (.cells cs t)).alloc (.cells ds u)).heap.size ((w.alloc (.cells cs t)).alloc (.cells ds u)) w') : Blk w' w.heap.size t cs ∧ Blk w' (w.heap.size + 1) u ds := by
  have h2 := Blk.new (w.alloc (.cells cs t)) u ds
  rw [World.size_alloc] at h2
  exact ⟨((Blk.new w t cs).alloc _).below hb (by simp only [World.size_alloc]; omega), h2.below hb (by simp only [World.size_alloc]; omega)⟩
theorem bornBd {w w' : World} {cs ds : Array Value} {t u : TypeId} (hb : Below ((w.alloc (.cells cs t)).alloc (.cells ds u)).drew.heap.size ((w.alloc (.cells cs t)).alloc (.cells ds u)).drew w') : Blk w' w.heap.size t cs ∧ Blk w' (w.heap.size + 1) u ds :=
  bornB (w := w) (w' := w') ((Below.refl _ ((w.alloc (.cells cs t)).alloc (.cells ds u))).drew.trans hb)
abbrev zeroA : Array Value := #[.int .i64 0, .int .i64 0, .int .u64 0, .string ⟨#[]⟩, .slice none 0 0, .slice none 0 0]
/-- A node of kind 10 in a box, over a row of two nodes. -/
def XT (W8 : World) (row : Array Value) (v : Value) (W : World) : Prop :=
  ∃ gT gR, v = .pointer (some ⟨gT, 0, none⟩) ∧ Below W8.heap.size W8 W ∧ W8.heap.size ≤ gT ∧ W8.heap.size ≤ gR ∧ Bx W gT (.int .i64 10) (.int .i64 0) (.int .u64 0) (.string ⟨#[]⟩) (.slice none 0 0) (.slice (some ⟨gR, 0, none⟩) 2 2) ∧ Blk W gR 38 row
theorem six_below {n g : Nat} {w0 w : World} (h : Below n w0 w) (hg : n ≤ g) (a0 a1 a2 a3 a4 a5 : Value) : Below n w0 ((((((w.setCell ⟨g, 0, none⟩ a0).setCell ⟨g, 1, none⟩ a1).setCell ⟨g, 2, none⟩ a2).setCell ⟨g, 3, none⟩ a3).setCell ⟨g, 4, none⟩ a4).setCell ⟨g, 5, none⟩ a5) := put6_below h g 0 a0 a1 a2 a3 a4 a5 hg
theorem xt_after {W8 W : World} {row : Array Value} {gR : Nat} (hb : Below W8.heap.size W8 W) (hR : Blk W gR 38 row) (hg : W8.heap.size ≤ gR) :
    XT W8 row (.pointer (some ⟨W.heap.size, 0, none⟩)) (W.alloc (.cells #[.int .i64 10, .int .i64 0, .int .u64 0, .string ⟨#[]⟩, .slice none 0 0, .slice (some ⟨gR, 0, none⟩) 2 2] 38)) :=
  ⟨_, gR, rfl, alB hb, hb.size, hg, Blk.new _ _ _, hR.alloc _⟩
theorem xt_ahead {W8 W : World} {row : Array Value} {gT gR : Nat} (hb : Below W8.heap.size W8 W) (hR : Blk W gR 38 row) (hg : W8.heap.size ≤ gR) (hT : Blk W gT 38 zeroA) (hgT : W8.heap.size ≤ gT) (hne : gR ≠ gT) :
    XT W8 row (.pointer (some ⟨gT, 0, none⟩)) ((((((W.setCell ⟨gT, 0, none⟩ (.int .i64 10)).setCell ⟨gT, 1, none⟩ (.int .i64 0)).setCell ⟨gT, 2, none⟩ (.int .u64 0)).setCell ⟨gT, 3, none⟩ (.string ⟨#[]⟩)).setCell ⟨gT, 4, none⟩ (.slice none 0 0)).setCell ⟨gT, 5, none⟩ (.slice (some ⟨gR, 0, none⟩) 2 2)) :=
  ⟨gT, gR, rfl, put6_below hb _ _ _ _ _ _ _ _ hgT, hgT, hg, put6_bx hT _ _ _ _ _ _, put6_blk hR hne _ _ _ _ _ _⟩
theorem blk_drew {W : World} {g : Nat} {t : TypeId} {cs : Array Value} (h : Blk W g t cs) : Blk W.drew g t cs := h
theorem nd_n (W : World) {n : Int} (h : -1000 ≤ n ∧ n ≤ 1000) : Nd W (nT n) [.int .i64 3, .int .i64 n, .int .u64 0, .string ⟨#[]⟩, .slice none 0 0, .slice none 0 0] := nd_num W n (by omega) (by omega)
theorem nd_0 (W : World) : Nd W T0 [.int .i64 0, .int .i64 0, .int .u64 0, .string ⟨#[]⟩, .slice none 0 0, .slice none 0 0] := NdO.nd _ _ (ndo_zero (fun _ => True) W)
theorem sm_exT : sm 1000 1000 exT := by
  refine ⟨by decide, by decide, by simp, ⟨by decide, by decide, by simp, trivial⟩, ⟨by decide, by decide, ?_, ⟨by decide, by decide, by simp, trivial⟩, ⟨by decide, by decide, by simp, ⟨by decide, by decide, by simp, trivial⟩, ⟨by decide, by decide, by simp, trivial⟩, trivial⟩, trivial⟩, trivial⟩
  simp only [List.mem_cons, List.not_mem_nil, or_false]
  rintro x (rfl | rfl) <;> decide
theorem ld1 {w W : World} {tc yc : List Value} {E : Int} {y : T} (hS : SP w W) (hT : Nd W exT tc) (hy : Nd W y yc) (h : getR exT [] = (y, E)) :
    Calls Tryz.prog 32 #[.agg tc.toArray, .agg yc.toArray, .int .i64 E, .slice none 0 0] W (XE w W (.bool true)) :=
  lead_of hS hT hy (rdp_nil W) (by decide) sm_exT h (by decide)
theorem ld2 {w W : World} {tc yc : List Value} {E : Int} {y : T} {g n : Nat} {ps : List Stp} {row : Array Value} (hS : SP w W) (hT : Nd W exT tc) (hy : Nd W y yc) (hR : Blk W g 51 row) (hrow : row = (pv ps).toArray) (hn : ps.length = n) (hn3 : n ≤ 3) (hok : ∀ x ∈ ps, okR x) (h : getR exT ps = (y, E)) :
    Calls Tryz.prog 32 #[.agg tc.toArray, .agg yc.toArray, .int .i64 E, .slice (some ⟨g, 0, none⟩) n n] W (XE w W (.bool true)) :=
  lead_of hS hT hy (rdp_blk hR hrow hn (by unfold maxLen; omega) hok) (by decide) sm_exT h (by omega)
theorem ok_l : ∀ {ps : List Stp}, (ps.all fun x => (decide (x.k.size ≤ 1000) && decide (0 ≤ x.a) && decide (x.a ≤ 1000))) = true → ∀ x ∈ ps, okR x := by
  intro ps h x hx
  have := List.all_eq_true.1 h x hx
  simp only [Bool.and_eq_true, decide_eq_true_eq] at this
  exact ⟨by unfold maxLen; omega, by omega, by omega⟩
theorem lead2 {w W : World} {tc yc : List Value} {g : Nat} (hS : SP w W) (hT : Nd W exT tc) (hy : Nd W (exM) yc) (hR : Blk W g 51 #[.string ⟨#[]⟩, .int .i64 1, .bool false]) :
    Calls Tryz.prog 32 #[.agg tc.toArray, .agg yc.toArray, .int .i64 0, .slice (some ⟨g, 0, none⟩) 1 1] W (XE w W (.bool true)) := ld2 (ps := [iS 1]) hS hT hy hR rfl rfl (by decide) (ok_l (by decide +kernel)) ex_l2
theorem lead3 {w W : World} {tc yc : List Value} {g : Nat} (hS : SP w W) (hT : Nd W exT tc) (hy : Nd W (nT 3) yc) (hR : Blk W g 51 #[.string ⟨#[]⟩, .int .i64 1, .bool false, .string ⟨#[97]⟩, .int .i64 0, .bool true, .string ⟨#[]⟩, .int .i64 1, .bool false]) :
    Calls Tryz.prog 32 #[.agg tc.toArray, .agg yc.toArray, .int .i64 0, .slice (some ⟨g, 0, none⟩) 3 3] W (XE w W (.bool true)) := ld2 (ps := [iS 1, kS ⟨#[97]⟩, iS 1]) hS hT hy hR rfl rfl (by decide) (ok_l (by decide +kernel)) ex_l3
theorem lead4 {w W : World} {tc yc : List Value} {g : Nat} (hS : SP w W) (hT : Nd W exT tc) (hy : Nd W (nT 1) yc) (hR : Blk W g 51 #[.string ⟨#[]⟩, .int .i64 1, .bool false, .string ⟨#[]⟩, .int .i64 0, .bool false]) :
    Calls Tryz.prog 32 #[.agg tc.toArray, .agg yc.toArray, .int .i64 0, .slice (some ⟨g, 0, none⟩) 2 2] W (XE w W (.bool true)) := ld2 (ps := [iS 1, iS 0]) hS hT hy hR rfl rfl (by decide) (ok_l (by decide +kernel)) ex_l4
theorem lead5 {w W : World} {tc yc : List Value} {g : Nat} (hS : SP w W) (hT : Nd W exT tc) (hy : Nd W (T0) yc) (hR : Blk W g 51 #[.string ⟨#[]⟩, .int .i64 1, .bool false, .string ⟨#[99]⟩, .int .i64 0, .bool true]) :
    Calls Tryz.prog 32 #[.agg tc.toArray, .agg yc.toArray, .int .i64 80, .slice (some ⟨g, 0, none⟩) 2 2] W (XE w W (.bool true)) := ld2 (ps := [iS 1, kS ⟨#[99]⟩]) hS hT hy hR rfl rfl (by decide) (ok_l (by decide +kernel)) ex_l5
theorem lead6 {w W : World} {tc yc : List Value} {g : Nat} (hS : SP w W) (hT : Nd W exT tc) (hy : Nd W (T0) yc) (hR : Blk W g 51 #[.string ⟨#[]⟩, .int .i64 0, .bool false, .string ⟨#[]⟩, .int .i64 0, .bool false]) :
    Calls Tryz.prog 32 #[.agg tc.toArray, .agg yc.toArray, .int .i64 80, .slice (some ⟨g, 0, none⟩) 2 2] W (XE w W (.bool true)) := ld2 (ps := [iS 0, iS 0]) hS hT hy hR rfl rfl (by decide) (ok_l (by decide +kernel)) ex_l6
theorem lead7 {w W : World} {tc yc : List Value} {g : Nat} (hS : SP w W) (hT : Nd W exT tc) (hy : Nd W (T0) yc) (hR : Blk W g 51 #[.string ⟨#[]⟩, .int .i64 2, .bool false]) :
    Calls Tryz.prog 32 #[.agg tc.toArray, .agg yc.toArray, .int .i64 80, .slice (some ⟨g, 0, none⟩) 1 1] W (XE w W (.bool true)) := ld2 (ps := [iS 2]) hS hT hy hR rfl rfl (by decide) (ok_l (by decide +kernel)) ex_l7
theorem sm_exX : sm 1000 1000 exX := by
  refine ⟨by decide, by decide, by simp, ⟨by decide, by decide, by simp, trivial⟩, ⟨by decide, by decide, ?_, ⟨by decide, by decide, by simp, trivial⟩, ⟨by decide, by decide, by simp, ⟨by decide, by decide, by simp, trivial⟩, ⟨by decide, by decide, by simp, trivial⟩, trivial⟩, trivial⟩, trivial⟩
  simp only [List.mem_cons, List.not_mem_nil, or_false]
  rintro x (rfl | rfl) <;> decide
theorem bx_step {V W' : World} {g : Nat} {t : TypeId} {cs : Array Value} (h : Blk V g t cs) (hb : Below V.heap.size V W') : Blk W' g t cs := h.below hb h.lt
theorem bl_drew {V : World} {g : Nat} {t : TypeId} {cs : Array Value} (h : Blk V g t cs) : Blk V.drew g t cs := h
/-- An empty box for a node, of memory that is new since `A`. -/
def FX (A W : World) (g : Nat) : Prop := A.heap.size ≤ g ∧ Blk W g 38 #[.int .i64 0, .int .i64 0, .int .u64 0, .string ⟨#[]⟩, .slice none 0 0, .slice none 0 0]
theorem FX.new {A V : World} (h : Below A.heap.size A V) : FX A (V.alloc (.cells #[.int .i64 0, .int .i64 0, .int .u64 0, .string ⟨#[]⟩, .slice none 0 0, .slice none 0 0] 38)) V.heap.size := ⟨h.size, Blk.new _ _ _⟩
theorem FX.new1 {A V : World} {o : Obj} (h : Below A.heap.size A V) : FX A ((V.alloc o).alloc (.cells #[.int .i64 0, .int .i64 0, .int .u64 0, .string ⟨#[]⟩, .slice none 0 0, .slice none 0 0] 38)) (V.heap.size + 1) := by
  rw [← World.size_alloc V o]
  exact FX.new (alB h)
theorem blk_new1 (V : World) (o : Obj) (cs : Array Value) (t : TypeId) : Blk ((V.alloc o).alloc (.cells cs t)) (V.heap.size + 1) t cs := by
  rw [← World.size_alloc V o]
  exact Blk.new _ _ _
theorem FX.blk {A W : World} {g : Nat} (h : FX A W g) : Bx W g (.int .i64 0) (.int .i64 0) (.int .u64 0) (.string ⟨#[]⟩) (.slice none 0 0) (.slice none 0 0) := h.2
theorem FX.le {A W : World} {g : Nat} (h : FX A W g) : A.heap.size ≤ g := h.1
theorem FX.alloc {A V : World} {g : Nat} (h : FX A V g) (o : Obj) : FX A (V.alloc o) g := ⟨h.1, h.2.alloc o⟩
theorem fx_drew {A V : World} {g : Nat} (h : FX A V g) : FX A V.drew g := h
theorem FX.step {A V W' : World} {g : Nat} (h : FX A V g) (hb : Below V.heap.size V W') : FX A W' g := ⟨h.1, bx_step h.2 hb⟩
theorem FX.step2 {A V W' : World} {g : Nat} (h : FX A V g) (hb : Below V.heap.size V W') : FX A W' g ∧ g < V.heap.size := ⟨h.step hb, h.2.lt⟩
/-- What Set hands back for a tree. -/
def SE (W : World) (x : T) (e : Ending) (w' : World) : Prop :=
  ∃ (k n u : Int) (s : ByteArray) (A1 : Option Addr) (m1 c1 : Nat) (A2 : Option Addr) (m2 c2 : Nat), e = .returned (.tuple #[.agg #[.int .i64 k, .int .i64 n, .int .u64 u, .string s, .slice A1 m1 c1, .slice A2 m2 c2], .int .i64 0]) ∧
    NdO (fun b => W.heap.size ≤ b) w' x [.int .i64 k, .int .i64 n, .int .u64 u, .string s, .slice A1 m1 c1, .slice A2 m2 c2] ∧ Below W.heap.size W w'
theorem set1 {w W : World} {tc : List Value} {g : Nat} (hS : SP w W) (hT : Nd W exT tc) (hR : Blk W g 51 #[.string ⟨#[]⟩, .int .i64 1, .bool false, .string ⟨#[97]⟩, .int .i64 0, .bool true, .string ⟨#[]⟩, .int .i64 0, .bool false]) :
    Calls Tryz.prog 26 #[.agg tc.toArray, .slice (some ⟨g, 0, none⟩) 3 3, .agg #[.int .i64 3, .int .i64 9, .int .u64 0, .string ⟨#[]⟩, .slice none 0 0, .slice none 0 0]] W (SE W exX) := by
  have C := set_any exT (nT 9) tc _ [iS 1, kS ⟨#[97]⟩, iS 0] _ W hS.lo.tab hT (nd_n W (n := 9) (by decide)) (rdp_blk hR rfl rfl (by decide) (ok_l (by decide +kernel))) (by decide) sm_exT ⟨by decide, by decide, by simp, trivial⟩ (by decide)
  rw [ex_s1] at C
  refine C.mono ?_
  rintro e w' ⟨⟨cs, he, ho⟩, hb⟩
  obtain ⟨k, n, u, s, A1, m1, c1, A2, m2, c2, rfl⟩ := ho.shape6
  exact ⟨k, n, u, s, A1, m1, c1, A2, m2, c2, he, ho, hb⟩
theorem set2 {w W : World} {tc : List Value} {g : Nat} (hS : SP w W) (hT : Nd W exT tc) (hR : Blk W g 51 #[.string ⟨#[]⟩, .int .i64 0, .bool false]) :
    Calls Tryz.prog 26 #[.agg tc.toArray, .slice (some ⟨g, 0, none⟩) 1 1, .agg #[.int .i64 0, .int .i64 0, .int .u64 0, .string ⟨#[]⟩, .slice none 0 0, .slice none 0 0]] W fun e w' =>
      e = .returned (.tuple #[.agg #[.int .i64 0, .int .i64 0, .int .u64 0, .string ⟨#[]⟩, .slice none 0 0, .slice none 0 0], .int .i64 60]) ∧ Below W.heap.size W w' := by
  have C := set_any exT T0 tc _ [iS 0] _ W hS.lo.tab hT (nd_0 W) (rdp_blk hR rfl rfl (by decide) (ok_l (by decide +kernel))) (by decide) sm_exT ⟨by decide, by decide, by simp, trivial⟩ (by decide)
  rw [ex_s2] at C
  refine C.mono ?_
  rintro e w' ⟨he, hb⟩
  exact ⟨he, hb⟩
/-- After the first Set: its box, its code. -/
def XX (A : World) (v8 v9 : Value) (W : World) : Prop :=
  ∃ (g : Nat) (k n u : Int) (s : ByteArray) (A1 : Option Addr) (m1 c1 : Nat) (A2 : Option Addr) (m2 c2 : Nat), v8 = .pointer (some ⟨g, 0, none⟩) ∧ v9 = .int .i64 0 ∧ Below A.heap.size A W ∧
    Bx W g (.int .i64 k) (.int .i64 n) (.int .u64 u) (.string s) (.slice A1 m1 c1) (.slice A2 m2 c2) ∧ Nd W exX [.int .i64 k, .int .i64 n, .int .u64 u, .string s, .slice A1 m1 c1, .slice A2 m2 c2]
theorem xx_after {A V W : World} {k n u : Int} {s : ByteArray} {A1 : Option Addr} {m1 c1 : Nat} {A2 : Option Addr} {m2 c2 : Nat} (hb : Below A.heap.size A W) (ho : NdO (fun b => V.heap.size ≤ b) W exX [.int .i64 k, .int .i64 n, .int .u64 u, .string s, .slice A1 m1 c1, .slice A2 m2 c2]) :
    XX A (.pointer (some ⟨W.heap.size, 0, none⟩)) (.int .i64 0) (W.alloc (.cells #[.int .i64 k, .int .i64 n, .int .u64 u, .string s, .slice A1 m1 c1, .slice A2 m2 c2] 38)) :=
  ⟨_, k, n, u, s, A1, m1, c1, A2, m2, c2, rfl, rfl, alB hb, Blk.new _ _ _, (NdO.nd _ _ ho).bel (al0 _ _)⟩
theorem xx_ahead {A V W : World} {g : Nat} {k n u : Int} {s : ByteArray} {A1 : Option Addr} {m1 c1 : Nat} {A2 : Option Addr} {m2 c2 : Nat} (hb : Below A.heap.size A W) (hX : FX A W g ∧ g < V.heap.size) (ho : NdO (fun b => V.heap.size ≤ b) W exX [.int .i64 k, .int .i64 n, .int .u64 u, .string s, .slice A1 m1 c1, .slice A2 m2 c2]) :
    XX A (.pointer (some ⟨g, 0, none⟩)) (.int .i64 0) ((((((W.setCell ⟨g, 0, none⟩ (.int .i64 k)).setCell ⟨g, 1, none⟩ (.int .i64 n)).setCell ⟨g, 2, none⟩ (.int .u64 u)).setCell ⟨g, 3, none⟩ (.string s)).setCell ⟨g, 4, none⟩ (.slice A1 m1 c1)).setCell ⟨g, 5, none⟩ (.slice A2 m2 c2)) :=
  ⟨g, k, n, u, s, A1, m1, c1, A2, m2, c2, rfl, rfl, put6_below hb _ _ _ _ _ _ _ _ hX.1.1, put6_bx hX.1.2 _ _ _ _ _ _, NdO.nd _ _ (NdO.step (U' := fun _ => True) (fun b hb _ => ⟨put6_other W g 0 b _ _ _ _ _ _ (by have := hX.2; omega), trivial⟩) _ _ ho)⟩
theorem eqx {w W : World} {xc : List Value} {gK g0 g1 g2 : Nat} (hS : SP w W) (hx : Nd W exX xc) (hK : Blk W gK 9 #[.string ⟨#[98]⟩, .string ⟨#[97]⟩])
    (h0 : Blk W g0 38 #[.int .i64 3, .int .i64 9, .int .u64 0, .string ⟨#[]⟩, .slice none 0 0, .slice none 0 0, .int .i64 3, .int .i64 3, .int .u64 0, .string ⟨#[]⟩, .slice none 0 0, .slice none 0 0])
    (h1 : Blk W g1 38 #[.int .i64 3, .int .i64 1, .int .u64 0, .string ⟨#[]⟩, .slice none 0 0, .slice none 0 0, .int .i64 10, .int .i64 0, .int .u64 0, .string ⟨#[]⟩, .slice none 0 0, .slice (some ⟨g0, 0, none⟩) 2 2])
    (h2 : Blk W g2 38 #[.int .i64 3, .int .i64 5, .int .u64 0, .string ⟨#[]⟩, .slice none 0 0, .slice none 0 0, .int .i64 17, .int .i64 0, .int .u64 0, .string ⟨#[]⟩, .slice (some ⟨gK, 0, none⟩) 2 2, .slice (some ⟨g1, 0, none⟩) 2 2]) :
    Calls Tryz.prog 24 #[.agg xc.toArray, .agg #[.int .i64 10, .int .i64 0, .int .u64 0, .string ⟨#[]⟩, .slice none 0 0, .slice (some ⟨g2, 0, none⟩) 2 2]] W (XE w W (.bool true)) := by
  have n0 := nd_vec (l := [nT 9, nT 3]) rfl (Nat.le_refl _) (by decide) h0.lt (two_row h0 (nd_n W (n := 9) (by decide)) (nd_n W (n := 3) (by decide)))
  have n1 := nd_tab (rds_two hK (by decide) (by decide)) rfl (Nat.le_refl _) (by decide) h1.lt (two_row h1 (nd_n W (n := 1) (by decide)) n0)
  have n2 : Nd W exX _ := nd_vec rfl (Nat.le_refl _) (by decide) h2.lt (two_row h2 (nd_n W (n := 5) (by decide)) n1)
  refine (eqNode_any (dp exX) exX exX xc _ W (Nat.le_refl _) (by decide) sm_exX hx n2).mono ?_
  rintro e w' ⟨⟨β, rfl, hβ⟩, hb⟩
  rw [hβ.2 rfl]
  exact ⟨rfl, hS.step hb, hb⟩
/-- The halves of a sequence. -/
def cA : Code → Code
  | .seq a _ => a
  | c => c
def cB : Code → Code
  | .seq _ b => b
  | c => c
end Go.Proofs.YtjnfilbdokppiaaGreatDoor
