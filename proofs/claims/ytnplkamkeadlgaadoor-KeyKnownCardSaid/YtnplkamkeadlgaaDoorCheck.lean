/-
  What is proved here: a contract of tree.Check; conditions: the table holds what its initialiser lays; at most 100000 nodes, 1000 keys a node, 1000 bytes a string.
-/
import Derived.Test.YtnplkamkeadlgaaDoorKeys
namespace Go.Proofs.YtnplkamkeadlgaaDoor
open Go.RowKit Go.Shelf
attribute [local go_sem] Oper.semAt_some

/-- What one node adds. -/
def stepE (i : Nat) (x : Nat × T) : Nat := if 4096 < i + 1 then 5 else if 64 ≤ x.1 then 61 else if suchT x.2 = false then 60 else keyE x.2
/-- The first error of a list of nodes. -/
def chkL : List (Nat × T) → Nat → Nat
  | [], _ => 0
  | x :: r, i => if stepE i x ≠ 0 then stepE i x else chkL r (i + 1)
def chk (t : T) : Nat := chkL (preT t 0) 0
theorem chkL_all : ∀ (l : List (Nat × T)) (k : Nat), (∀ i x, l[i]? = some x → stepE (k + i) x = 0) → chkL l k = 0
  | [], _, _ => rfl
  | x :: r, k, h => by
    have h0 := h 0 x rfl
    rw [Nat.add_zero] at h0
    simp only [chkL, h0]
    rw [if_neg (by simp)]
    exact chkL_all r (k + 1) fun i y hy => by
      have := h (i + 1) y (by simpa using hy)
      rwa [show k + (i + 1) = k + 1 + i by omega] at this
theorem chkL_hit : ∀ (q : List (Nat × T)) (x : Nat × T) (r : List (Nat × T)) (k : Nat), (∀ i y, q[i]? = some y → stepE (k + i) y = 0) → stepE (k + q.length) x ≠ 0 → chkL (q ++ x :: r) k = stepE (k + q.length) x
  | [], x, r, k, _, h => by
    simp only [List.length_nil, Nat.add_zero] at h ⊢
    simp only [List.nil_append, chkL]
    rw [if_pos h]
  | y :: q, x, r, k, h, hx => by
    have h0 := h 0 y rfl
    rw [Nat.add_zero] at h0
    simp only [List.cons_append, chkL, h0]
    rw [if_neg (by simp)]
    have e : k + (y :: q).length = k + 1 + q.length := by simp; omega
    rw [e] at hx ⊢
    exact chkL_hit q x r (k + 1) (fun i z hz => by
      have := h (i + 1) z (by simpa using hz)
      rwa [show k + (i + 1) = k + 1 + i by omega] at this) hx

/-- Within a round: what the loop's law asks, and the boxes. -/
def RS (w : World) (n₁ : Nat) (W : World) (Bn : Nat) (v0 v1 v2 v3 v4 v5 : Value) (N : Int) (W' : World) : Prop :=
  KeepsFrom n₁ W W' ∧ Kp w.heap.size n₁ W W' ∧ Boxed W' (w.heap.size + 1) 38 (.int .i64 0) ∧ Boxed W' (w.heap.size + 1 + 1) 3 (.int .i64 N) ∧ Bx W' Bn v0 v1 v2 v3 v4 v5 ∧ Below w.heap.size w W'
theorem RS.below {w W W' W2 : World} {n₁ Bn : Nat} {v0 v1 v2 v3 v4 v5 : Value} {N : Int} (h : RS w n₁ W Bn v0 v1 v2 v3 v4 v5 N W') (hb : Below W'.heap.size W' W2) : RS w n₁ W Bn v0 v1 v2 v3 v4 v5 N W2 := by
  obtain ⟨h1, h2, h3, h4, h5, h6⟩ := h
  exact ⟨h1.trans (keepsFrom_below hb), h2.trans (Kp.of_below hb h6.size), boxed_bel h3 hb, boxed_bel h4 hb, Blk.below h5 hb (Blk.lt h5), h6.trans (hb.mono h6.size)⟩

theorem loadVar_err {w : World} {g : Nat} {b : Int} (h : Boxed w g 38 (.int .i64 b)) : (loadVar 38 ⟨g, 0, none⟩).run Tryd.prog w = .ok (.int .i64 b) w := by
  have c0 := h.cell
  simp [go_sem, c0]
theorem results_err {f : Func} {tmps : Array Value} {w : World} {p : Tmp} {g : Nat} {b : Int} (hres : f.results = #[.cell p 38]) (hp : tmps.getD p undef = .pointer (some ⟨g, 0, none⟩)) (hO : Boxed w g 38 (.int .i64 b)) :
    (results f tmps).run Tryd.prog w = .ok (.int .i64 b) w := by
  have hp' : tmps[p]?.getD undef = .pointer (some ⟨g, 0, none⟩) := by simpa using hp
  simp only [results, hres]
  simp [hp', asAddr, loadVar_err hO]

set_option maxRecDepth 100000 in
set_option maxHeartbeats 4000000 in
theorem check_in (n : Nat) (hn : 9 ≤ n) (t : T) (v0 v1 v2 v3 v4 v5 : Value) (w : World) (hT : Tab w) (hsz : sz t ≤ 100000) (hsm : sm 1000 1000 t) (hnd : Nd w t [v0, v1, v2, v3, v4, v5]) :
    CallsIn Fence.wide n Tryd.prog 32 #[.agg #[v0, v1, v2, v3, v4, v5]] w fun e w' => e = .returned (.int .i64 ((chk t : Nat) : Int)) ∧ Below w.heap.size w w' := by
  have h1 : 1 ≤ n := by omega
  obtain ⟨k0, i0, u0, s0, A1, m1, c1, A2, m2, c2, rfl, rfl, rfl, rfl, rfl, rfl⟩ := hnd.shape6
  refine callsIn_of_wp_marks Tryd.func32 rfl trivial ?_ rfl
  simp only [Tryd.ntmps32, List.size_toArray, List.length_cons, List.length_nil, Nat.reduceAdd, Nat.reduceSub, Array.replicate_succ, Array.replicate_zero, List.push_toArray, List.append_toArray, List.nil_append, List.cons_append]
  gi_wp2_with (refine ⟨trivial, ?_⟩; gi_at_call 48; refine (nodes_in Fence.wide (fun _ => trivial) rfl (n - 1) _ _ _ _ _ _ _).mono ?_; rintro e w' ⟨rfl, rfl⟩)
  obtain ⟨W0, hW0⟩ : ∃ W0, (((w.alloc (.cells #[.int .i64 k0, .int .i64 i0, .int .u64 u0, .string s0, .slice A1 m1 c1, .slice A2 m2 c2] 31)).alloc (.cells #[.int .i64 0] 38)).alloc (.cells #[.int .i64 0] 3)).alloc (.cells #[.int .i64 k0, .int .i64 i0, .int .u64 u0, .string s0, .slice A1 m1 c1, .slice A2 m2 c2] 31) = W0 := ⟨_, rfl⟩
  have hB0 : Below w.heap.size w W0 := by rw [← hW0]; exact ((((Below.refl _ w).alloc (Nat.le_refl _) _).alloc (by simp) _).alloc (by simp; omega) _).alloc (by simp; omega) _
  have hs0 : W0.heap.size = w.heap.size + 4 := by rw [← hW0]; simp
  have hbox : Bx W0 (w.heap.size + 1 + 1 + 1) (.int .i64 k0) (.int .i64 i0) (.int .u64 u0) (.string s0) (.slice A1 m1 c1) (.slice A2 m2 c2) := by
    rw [← hW0]
    have := Blk.new (((w.alloc (.cells #[.int .i64 k0, .int .i64 i0, .int .u64 u0, .string s0, .slice A1 m1 c1, .slice A2 m2 c2] 31)).alloc (.cells #[.int .i64 0] 38)).alloc (.cells #[.int .i64 0] 3)) 31 #[.int .i64 k0, .int .i64 i0, .int .u64 u0, .string s0, .slice A1 m1 c1, .slice A2 m2 c2]
    simpa only [World.size_alloc] using this
  have hO : Boxed W0 (w.heap.size + 1) 38 (.int .i64 0) := by
    rw [← hW0]
    have := ((Boxed.new (w.alloc (.cells #[.int .i64 k0, .int .i64 i0, .int .u64 u0, .string s0, .slice A1 m1 c1, .slice A2 m2 c2] 31)) 38 (.int .i64 0)).alloc (.cells #[.int .i64 0] 3)).alloc (.cells #[.int .i64 k0, .int .i64 i0, .int .u64 u0, .string s0, .slice A1 m1 c1, .slice A2 m2 c2] 31)
    simpa only [World.size_alloc] using this
  have hnum : Boxed W0 (w.heap.size + 1 + 1) 3 (.int .i64 0) := by
    rw [← hW0]
    have := (Boxed.new ((w.alloc (.cells #[.int .i64 k0, .int .i64 i0, .int .u64 u0, .string s0, .slice A1 m1 c1, .slice A2 m2 c2] 31)).alloc (.cells #[.int .i64 0] 38)) 3 (.int .i64 0)).alloc (.cells #[.int .i64 k0, .int .i64 i0, .int .u64 u0, .string s0, .slice A1 m1 c1, .slice A2 m2 c2] 31)
    simpa only [World.size_alloc] using this
  rw [hW0]
  clear hW0
  refine wpIn_rangeFunc_ownH rfl h1 (gf := 63) (lb := #[.pointer (some ⟨w.heap.size + 1 + 1 + 1, 0, none⟩)]) rfl trivial (enters_of Tryd.func63 (by kernel_rfl) rfl)
    (nodes_stops Fence.wide rfl (fun _ => trivial) rfl (n - 1) w W0 QQ QQ_sub (w.heap.size + 1 + 1 + 1) t _ _ _ _ _ _ ⟨hsz, hsm⟩ hsz hnd hB0 hbox) (fun h k => h.trans k) (kp_b (by omega)) (Below.refl _ _) (fun _ => rfl)
    (fun pre W => ((Boxed W (w.heap.size + 1) 38 (.int .i64 0) ∧ Boxed W (w.heap.size + 1 + 1) 3 (.int .i64 ((pre.length : Nat) : Int))) ∧ ∀ i x, (pre.map Ev.pl)[i]? = some x → stepE i x = 0) ∧ Below w.heap.size w W)
    (fun c pre W => ((c = .ret ∧ ∃ (q : List (Ev w QQ)) (x : Ev w QQ), pre = q ++ [x] ∧ (∀ i y, (q.map Ev.pl)[i]? = some y → stepE i y = 0) ∧ stepE q.length x.pl ≠ 0 ∧ Boxed W (w.heap.size + 1) 38 (.int .i64 ((stepE q.length x.pl : Nat) : Int)))) ∧ Below w.heap.size w W)
    (OwnFrom.and (OwnFrom.and (OwnFrom.and (Own.from (boxed_own _ _ _) _) (Own.from (boxed_own _ _ _) _)) (ownFrom_pure _ _)) (ownFrom_below (Nat.le_refl _) (by omega)))
    (fun c => OwnFrom.and (fun pre X Y row hs hg hr => by
      obtain ⟨hc, q, x, e1, e2, e3, e4⟩ := hs
      exact ⟨hc, q, x, e1, e2, e3, boxed_own _ _ (fun _ : Unit => Value.int .i64 ((stepE q.length x.pl : Nat) : Int)) () X Y row e4 hg (fun r e => (hr r e).2)⟩) (ownFrom_below (Nat.le_refl _) (by omega)))
    ⟨⟨⟨hO, by simpa using hnum⟩, fun i x hi => by simp at hi⟩, hB0⟩
    (fun x a' W => ∃ Bn, w.heap.size + 3 ≤ Bn ∧ Bx W Bn x.v0 x.v1 x.v2 x.v3 x.v4 x.v5 ∧ a' = { tmps := #[.agg #[.int .i64 k0, .int .i64 i0, .int .u64 u0, .string s0, .slice A1 m1 c1, .slice A2 m2 c2], .pointer (some ⟨w.heap.size, 0, none⟩), .pointer (some ⟨w.heap.size + 1, 0, none⟩), .pointer (some ⟨w.heap.size + 1 + 1, 0, none⟩), .int .i64 (x.lv : Int), .pointer (some ⟨Bn, 0, none⟩), undef, .agg #[.int .i64 k0, .int .i64 i0, .int .u64 u0, .string s0, .slice A1 m1 c1, .slice A2 m2 c2], .func (.func 63) #[] #[.pointer (some ⟨w.heap.size + 1 + 1 + 1, 0, none⟩)], .int .i64 (x.lv : Int), .agg #[x.v0, x.v1, x.v2, x.v3, x.v4, x.v5], undef, undef, undef, undef, undef, undef, undef, undef, undef, undef, undef, undef, undef, undef], defers := [] })
    (fun x a' _ X Y row hs hg hr => by
      obtain ⟨Bn, e1, e2, e3⟩ := hs
      exact ⟨Bn, e1, blk_own _ _ (fun _ : Unit => #[x.v0, x.v1, x.v2, x.v3, x.v4, x.v5]) () X Y row e2 hg (fun r e => (hr r e).2), e3⟩) ?assign ?body ?done ?stop
  case assign =>
    rintro l pre ⟨lv, t0, y0, y1, y2, y3, y4, y5, nd, low, hq⟩ W K hi hK
    obtain ⟨k9, i9, u9, s9, A8, m8, c8, A9, m9, c9, rfl, rfl, rfl, rfl, rfl, rfl⟩ := nd.shape6
    simp only [Ev.enc]
    gi_wp2
    obtain ⟨⟨⟨iO, inum⟩, ine⟩, iB⟩ := hi
    have hl4 := inum.lt
    exact hK _ _ ((KeepsOthers.alloc _ _).from _) ((Kp.refl _ _ _).alloc _ iB.size) ⟨⟨⟨iO.alloc _, inum.alloc _⟩, ine⟩, iB.alloc iB.size _⟩ ⟨W.heap.size, by omega, Blk.new _ _ _, rfl⟩
  case body =>
    rintro l pre ⟨lv, t0, y0, y1, y2, y3, y4, y5, nd, low, hq⟩ a' W hl _ ⟨⟨⟨iO, inum⟩, ine⟩, iB⟩ ⟨Bn, hBn, iX, rfl⟩ hlt
    obtain ⟨k9, i9, u9, s9, A8, m8, c8, A9, m9, c9, rfl, rfl, rfl, rfl, rfl, rfl⟩ := nd.shape6
    simp only at iX
    have hpl : pre.length < 100000 := by omega
    have cO := iO.cell
    have fO := iO.frozen
    have cnum := inum.cell
    have fnum := inum.frozen
    obtain ⟨d0, d1, d2, d3, d4, d5⟩ := iX.all
    have hd1 : Fence.wide.depth.isSome = true → 1 ≤ n - 1 - 1 := fun _ => by omega
    have hw : wrap64 ((pre.length : Int) + 1) = (((pre.length + 1 : Nat) : Nat) : Int) := by
      rw [show ((pre.length : Int) + 1) = ((pre.length + 1 : Nat) : Int) by omega, wrap64_small _ (by omega)]
    have HR1 : Hid (RS w W0.heap.size W Bn (.int .i64 k9) (.int .i64 i9) (.int .u64 u9) (.string s9) (.slice A8 m8 c8) (.slice A9 m9 c9) ((pre.length : Int) + 1) (W.setCell ⟨w.heap.size + 1 + 1, 0, none⟩ (.int .i64 ((pre.length : Int) + 1)))) :=
      Lib.hid ⟨(KeepsOthers.setCell _ _ _).from _, (Kp.refl _ _ _).set (by omega) (by omega) _, iO.other (by omega) _, inum.set _, Blk.setOther iX _ (by omega), iB.setCell (p := ⟨w.heap.size + 1 + 1, 0, none⟩) (by show w.heap.size ≤ w.heap.size + 1 + 1; omega) _⟩
    have HRET : Hid (∀ W' : World, ∀ e : Nat, Hid (RS w W0.heap.size W Bn (.int .i64 k9) (.int .i64 i9) (.int .u64 u9) (.string s9) (.slice A8 m8 c8) (.slice A9 m9 c9) ((pre.length : Int) + 1) W') → stepE pre.length (lv, t0) = e → e ≠ 0 → ∀ x : Ev w QQ, x.pl = (lv, t0) →
        (KeepsFrom W0.heap.size W (W'.setCell ⟨w.heap.size + 1, 0, none⟩ (.int .i64 (e : Int))) ∧ ((∃ (q : List (Ev w QQ)) (y : Ev w QQ), pre ++ [x] = q ++ [y] ∧ (∀ i z, (q.map Ev.pl)[i]? = some z → stepE i z = 0) ∧ stepE q.length y.pl ≠ 0 ∧
          Boxed (W'.setCell ⟨w.heap.size + 1, 0, none⟩ (.int .i64 (e : Int))) (w.heap.size + 1) 38 (.int .i64 ((stepE q.length y.pl : Nat) : Int)))) ∧ Below w.heap.size w (W'.setCell ⟨w.heap.size + 1, 0, none⟩ (.int .i64 (e : Int))))) := Lib.hid fun W' e H he h0 x hx => by
      have H := H.out
      refine ⟨H.1.trans ((KeepsOthers.setCell _ _ _).from _), ⟨pre, x, rfl, ine, by rw [hx, he]; exact h0, ?_⟩, H.2.2.2.2.2.setCell (p := ⟨w.heap.size + 1, 0, none⟩) (by show w.heap.size ≤ w.heap.size + 1; omega) _⟩
      rw [hx, he]
      exact H.2.2.1.set _
    have hfit := fun W' (h : Below w.heap.size w W') => fitsKind_any t0 _ W' (hT.keep h) (nd.bel h) (by have := hq.1; rcases t0 with ⟨_, _, _, _, _, l⟩; have h2 := len_le_szL l; simp only [sz] at this; show l.length ≤ _; omega) (by have := hq.2; rcases t0 with ⟨_, _, _, _, _, _⟩; exact this.2.1)
    have hkeys := fun W' (h : Below w.heap.size w W') => checkKeys_any t0 _ W' (nd.bel h) (by have := hq.2; rcases t0 with ⟨_, _, _, _, _, _⟩; exact this.2.1) (by have := hq.2; rcases t0 with ⟨_, _, _, _, _, _⟩; exact this.2.2.1)
    by_cases hA : 4096 < pre.length + 1
    · have hst : stepE pre.length (lv, t0) = 5 := by simp only [stepE]; rw [if_pos hA]
      gi_wp2_with fail
      (obtain ⟨r1, r2, r3⟩ := HRET.out _ 5 HR1 hst (by simp) ⟨lv, t0, _, _, _, _, _, _, nd, low, hq⟩ rfl; exact ⟨r1, ⟨rfl, r2⟩, r3⟩)
    by_cases hBl : 64 ≤ lv
    · have hst : stepE pre.length (lv, t0) = 61 := by simp only [stepE]; rw [if_neg hA, if_pos hBl]
      gi_wp2_with fail
      (obtain ⟨r1, r2, r3⟩ := HRET.out _ 61 HR1 hst (by simp) ⟨lv, t0, _, _, _, _, _, _, nd, low, hq⟩ rfl; exact ⟨r1, ⟨rfl, r2⟩, r3⟩)
    obtain ⟨sb, hsb⟩ : ∃ sb, suchT t0 = sb := ⟨_, rfl⟩
    rw [hsb] at hfit
    have HFIT := Lib.hid hfit
    have HKEY := Lib.hid hkeys
    have e1 := Lib.hid (HR1.out.2.2.2.2.2)
    clear hfit hkeys
    cases sb with
    | false =>
      have hst : stepE pre.length (lv, t0) = 60 := by simp only [stepE]; rw [if_neg hA, if_neg hBl, if_pos hsb]
      gi_wp2_with (refine ⟨trivial, hd1, ?_⟩; gi_at_call 49; refine (CallsIn.inRound l (callsIn_wide.2 (HFIT.out _ e1.out))).mono ?_; rintro e w4 ⟨rfl, hb4⟩; have HR4 := Lib.hid (HR1.out.below hb4); have cO4 := HR4.out.2.2.1.cell; have fO4 := HR4.out.2.2.1.frozen)
      (obtain ⟨r1, r2, r3⟩ := HRET.out _ 60 HR4 hst (by simp) ⟨lv, t0, _, _, _, _, _, _, nd, low, hq⟩ rfl; exact ⟨r1, ⟨rfl, r2⟩, r3⟩)
    | true =>
      obtain ⟨ke, hke⟩ : ∃ ke, keyE t0 = ke := ⟨_, rfl⟩
      have hst : stepE pre.length (lv, t0) = ke := by simp only [stepE]; rw [if_neg hA, if_neg hBl, if_neg (by simp [hsb]), hke]
      rw [hke] at HKEY
      by_cases hk0 : ke = 0
      · subst hk0
        gi_wp2_with (first
          | (refine ⟨trivial, hd1, ?_⟩; gi_at_call 49; refine (CallsIn.inRound l (callsIn_wide.2 (HFIT.out _ e1.out))).mono ?_; rintro e w4 ⟨rfl, hb4⟩; have HR4 := Lib.hid (HR1.out.below hb4); obtain ⟨z0, z1, z2, z3, z4, z5⟩ := Bx.all HR4.out.2.2.2.2.1)
          | (refine ⟨trivial, hd1, ?_⟩; gi_at_call 50; refine (CallsIn.inRound l (callsIn_wide.2 (HKEY.out _ HR4.out.2.2.2.2.2))).mono ?_; rintro e w5 ⟨rfl, hb5⟩; have HR5 := Lib.hid (HR4.out.below hb5); have cO5 := HR5.out.2.2.1.cell; have fO5 := HR5.out.2.2.1.frozen))
        refine ⟨HR5.out.1, HR5.out.2.1, ⟨⟨HR5.out.2.2.1, ?_⟩, ?_⟩, HR5.out.2.2.2.2.2⟩
        · have := HR5.out.2.2.2.1
          simpa using this
        · intro i z hz
          rw [List.map_append] at hz
          rcases Nat.lt_or_ge i pre.length with h | h
          · rw [List.getElem?_append_left (by simpa using h)] at hz
            exact ine i z hz
          · rw [List.getElem?_append_right (by simpa using h)] at hz
            have h0 : i = pre.length := by
              have := (List.getElem?_eq_some_iff.1 hz).1
              simp at this
              omega
            subst h0
            have h1 : z = (lv, t0) := by
              simp only [List.length_map, Nat.sub_self, List.map_cons, List.getElem?_cons_zero, Option.some.injEq] at hz
              exact hz.symm
            rw [h1]
            exact hst
      · have hke0 : (((ke : Nat) : Int) != 0) = true := neB (by omega)
        gi_wp2_with (first
          | (refine ⟨trivial, hd1, ?_⟩; gi_at_call 49; refine (CallsIn.inRound l (callsIn_wide.2 (HFIT.out _ e1.out))).mono ?_; rintro e w4 ⟨rfl, hb4⟩; have HR4 := Lib.hid (HR1.out.below hb4); obtain ⟨z0, z1, z2, z3, z4, z5⟩ := Bx.all HR4.out.2.2.2.2.1)
          | (refine ⟨trivial, hd1, ?_⟩; gi_at_call 50; refine (CallsIn.inRound l (callsIn_wide.2 (HKEY.out _ HR4.out.2.2.2.2.2))).mono ?_; rintro e w5 ⟨rfl, hb5⟩; have HR5 := Lib.hid (HR4.out.below hb5); have cO5 := HR5.out.2.2.1.cell; have fO5 := HR5.out.2.2.1.frozen))
        (obtain ⟨r1, r2, r3⟩ := HRET.out _ ke HR5 hst hk0 ⟨lv, t0, _, _, _, _, _, _, nd, low, hq⟩ rfl; exact ⟨r1, ⟨rfl, r2⟩, r3⟩)
  case done =>
    rintro D ys W hD hys ⟨⟨⟨iO, inum⟩, ine⟩, iB⟩ hK
    have hchk : chk t = 0 := by
      unfold chk
      rw [← hys]
      exact chkL_all _ 0 fun i x hx => by rw [Nat.zero_add]; exact ine i x hx
    have cO := iO.cell
    have fO := iO.frozen
    gi_wp2
    have hO9 : Boxed (W.setCell ⟨w.heap.size + 1, 0, none⟩ (.int .i64 0)) (w.heap.size + 1) 38 (.int .i64 0) := iO.set _
    have hK9 := (KeepsOthers.setCell W ⟨w.heap.size + 1, 0, none⟩ (.int .i64 0)).same D _ hK rfl
    refine ⟨by simp, .inl ⟨_, _, rfl, run_takeDeferred hK9, ?_⟩⟩
    exact ⟨_, results_err (p := 2) (g := w.heap.size + 1) rfl rfl (blk_putObj hO9 hK9 rfl _), by rw [hchk]; rfl, (iB.setCell (p := ⟨w.heap.size + 1, 0, none⟩) (by show w.heap.size ≤ w.heap.size + 1; omega) _).trans (belowK_b (w := w) (Nat.le_refl _) _ D _ _ (by omega) hK9 rfl rfl)⟩
  case stop =>
    rintro D c pre W hD hpre ⟨⟨rfl, q, x, rfl, e2, e3, e4⟩, hB⟩ hK
    have hchk : chk t = stepE q.length x.pl := by
      unfold chk
      obtain ⟨r, hr⟩ := hpre
      rw [← hr, List.map_append, List.map_cons, List.map_nil, List.append_assoc]
      have := chkL_hit (q.map Ev.pl) x.pl r 0 (fun i y hy => by rw [Nat.zero_add]; exact e2 i y hy) (by simpa using e3)
      simpa using this
    gi_wp2
    refine ⟨by simp, .inl ⟨_, _, rfl, run_takeDeferred hK, ?_⟩⟩
    exact ⟨_, results_err (p := 2) (g := w.heap.size + 1) rfl rfl (blk_putObj e4 hK rfl _), by rw [hchk], hB.trans (belowK_b (w := w) (Nat.le_refl _) _ D _ _ (by omega) hK rfl rfl)⟩

theorem check_any (t : T) (cs : List Value) (w : World) (hT : Tab w) (hsz : sz t ≤ 100000) (hsm : sm 1000 1000 t) (hnd : Nd w t cs) :
    Calls Tryd.prog 32 #[.agg cs.toArray] w fun e w' => e = .returned (.int .i64 ((chk t : Nat) : Int)) ∧ Below w.heap.size w w' := by
  obtain ⟨_, _, _, _, _, _, _, _, _, _, rfl⟩ := hnd.shape
  exact (callsIn_wide (n := 9)).1 (check_in 9 (Nat.le_refl _) t _ _ _ _ _ _ w hT hsz hsm hnd)
end Go.Proofs.YtnplkamkeadlgaaDoor
