/-
  What is proved here: contracts of tree.Size and tree.Deep on trees of at most 100000 nodes; no other condition.
-/
import Derived.Test.YtnplkamkeadlgaaDoorVisit
namespace Go.Proofs.YtnplkamkeadlgaaDoor
open Go.RowKit Go.Shelf
attribute [local go_sem] Oper.semAt_some

theorem wrap64_small (x : Nat) (h : x < 2000000) : wrap64 (x : Int) = (x : Int) := by
  unfold wrap64
  omega
theorem Kp.set {n₀ n₁ : Nat} {A B : World} (h : Kp n₀ n₁ A B) {g i : Nat} (hg : n₀ ≤ g) (hg1 : g < n₁) (v : Value) : Kp n₀ n₁ A (B.setCell ⟨g, i, none⟩ v) :=
  ⟨h.1.setCell (p := ⟨g, i, none⟩) hg v, fun k hk o ho hc => by
    refine Eq.trans ?_ (h.2 k hk o ho hc)
    exact Below.heap_setCell _ _ _ k (by show k ≠ g; omega)⟩

set_option maxRecDepth 100000 in
set_option maxHeartbeats 4000000 in
theorem size_in (F : Fence) (hd : F.depth = none) (hf : ∀ f, F.fn f) (hro : F.round = none) (n : Nat) (hn : 9 ≤ n) (t : T) (v0 v1 v2 v3 v4 v5 : Value) (w : World) (hsz : sz t ≤ 100000) (hnd : Nd w t [v0, v1, v2, v3, v4, v5]) :
    CallsIn F n Tryd.prog 36 #[.agg #[v0, v1, v2, v3, v4, v5]] w fun e w' => e = .returned (.int .i64 ((sz t : Nat) : Int)) ∧ Below w.heap.size w w' := by
  have h1 : 1 ≤ n := by omega
  obtain ⟨k0, i0, u0, s0, A1, m1, c1, A2, m2, c2, rfl, rfl, rfl, rfl, rfl, rfl⟩ := hnd.shape6
  refine callsIn_of_wp_marks Tryd.func36 rfl (hf _) ?_ hro
  simp only [Tryd.ntmps36, List.size_toArray, List.length_cons, List.length_nil, Nat.reduceAdd, Nat.reduceSub, Array.replicate_succ, Array.replicate_zero, List.push_toArray, List.append_toArray, List.nil_append, List.cons_append]
  gi_wp2_with (gi_at_call 48; refine (nodes_in F hf hro (n - 1) _ _ _ _ _ _ _).mono ?_; rintro e w' ⟨rfl, rfl⟩)
  obtain ⟨W0, hW0⟩ : ∃ W0, ((w.alloc (.cells #[.int .i64 k0, .int .i64 i0, .int .u64 u0, .string s0, .slice A1 m1 c1, .slice A2 m2 c2] 31)).alloc (.cells #[.int .i64 0] 3)).alloc (.cells #[.int .i64 k0, .int .i64 i0, .int .u64 u0, .string s0, .slice A1 m1 c1, .slice A2 m2 c2] 31) = W0 := ⟨_, rfl⟩
  have hB0 : Below w.heap.size w W0 := by rw [← hW0]; exact (((Below.refl _ w).alloc (Nat.le_refl _) _).alloc (by simp) _).alloc (by simp; omega) _
  have hs0 : W0.heap.size = w.heap.size + 3 := by rw [← hW0]; simp
  have hbox : Bx W0 (w.heap.size + 1 + 1) (.int .i64 k0) (.int .i64 i0) (.int .u64 u0) (.string s0) (.slice A1 m1 c1) (.slice A2 m2 c2) := by
    rw [← hW0]
    have := Blk.new ((w.alloc (.cells #[.int .i64 k0, .int .i64 i0, .int .u64 u0, .string s0, .slice A1 m1 c1, .slice A2 m2 c2] 31)).alloc (.cells #[.int .i64 0] 3)) 31 #[.int .i64 k0, .int .i64 i0, .int .u64 u0, .string s0, .slice A1 m1 c1, .slice A2 m2 c2]
    simpa only [World.size_alloc] using this
  have hnum : Boxed W0 (w.heap.size + 1) 3 (.int .i64 0) := by
    rw [← hW0]
    have := (Boxed.new (w.alloc (.cells #[.int .i64 k0, .int .i64 i0, .int .u64 u0, .string s0, .slice A1 m1 c1, .slice A2 m2 c2] 31)) 3 (.int .i64 0)).alloc (.cells #[.int .i64 k0, .int .i64 i0, .int .u64 u0, .string s0, .slice A1 m1 c1, .slice A2 m2 c2] 31)
    simpa only [World.size_alloc] using this
  rw [hW0]
  clear hW0
  refine wpIn_rangeFunc_ownH hro h1 (gf := 63) (lb := #[.pointer (some ⟨w.heap.size + 1 + 1, 0, none⟩)]) rfl (hf _) (enters_of Tryd.func63 (by kernel_rfl) rfl)
    (nodes_stops F hd hf hro (n - 1) w W0 (fun _ => True) (fun _ _ _ _ => trivial) (w.heap.size + 1 + 1) t _ _ _ _ _ _ trivial hsz hnd hB0 hbox) (fun h k => h.trans k) (kp_b (by omega)) (Below.refl _ _) (fun _ => rfl)
    (fun pre W => Boxed W (w.heap.size + 1) 3 (.int .i64 ((pre.length : Nat) : Int)) ∧ Below w.heap.size w W)
    (fun _ _ _ => False)
    (OwnFrom.and (Own.from (boxed_own _ _ _) _) (ownFrom_below (Nat.le_refl _) (by omega)))
    (fun _ _ _ _ _ hs _ _ => hs)
    ⟨by simpa using hnum, hB0⟩
    (fun x a' _ => a' = { tmps := #[.agg #[.int .i64 k0, .int .i64 i0, .int .u64 u0, .string s0, .slice A1 m1 c1, .slice A2 m2 c2], .pointer (some ⟨w.heap.size, 0, none⟩), .int .i64 0, .pointer (some ⟨w.heap.size + 1, 0, none⟩), .agg #[.int .i64 k0, .int .i64 i0, .int .u64 u0, .string s0, .slice A1 m1 c1, .slice A2 m2 c2], .func (.func 63) #[] #[.pointer (some ⟨w.heap.size + 1 + 1, 0, none⟩)], .int .i64 (x.lv : Int), .agg #[x.v0, x.v1, x.v2, x.v3, x.v4, x.v5], undef, undef, undef], defers := [] })
    (fun _ _ _ _ _ _ hs _ _ => hs) ?assign ?body ?done ?stop
  case assign =>
    intro l pre x W K hi hK
    gi_wp2
    exact hK _ _ (KeepsFrom.refl _ _) (Kp.refl _ _ _) hi (by simp [Ev.enc])
  case body =>
    rintro l pre x a' W hl _ ⟨hb, hB⟩ rfl hlt
    have c0 := hb.cell
    have f0 := hb.frozen
    have hw : wrap64 ((pre.length : Int) + 1) = (((pre ++ [x]).length : Nat) : Int) := by
      rw [show ((pre.length : Int) + 1) = ((pre.length + 1 : Nat) : Int) by omega, wrap64_small _ (by omega)]
      simp
    gi_wp2
    exact ⟨(KeepsOthers.setCell _ _ _).from _, (Kp.refl _ _ _).set (by omega) (by omega) _, (by rw [show ((pre ++ [x]).length : Int) = (pre.length : Int) + 1 by simp]; exact hb.set _), hB.setCell (p := ⟨w.heap.size + 1, 0, none⟩) (by simp) _⟩
  case done =>
    rintro D ys W hD hys ⟨hb, hB⟩ hK
    have c0 := hb.cell
    have hlen : ys.length = sz t := by rw [← preT_length t 0, ← hys, List.length_map]
    gi_wp2
    refine ⟨by simp, .inl ⟨_, _, rfl, run_takeDeferred hK, ?_⟩⟩
    exact ⟨_, results_tmp rfl _ _ _, rfl, hB.trans (belowK_b (w := w) (Nat.le_refl _) _ D _ _ (by omega) hK rfl rfl)⟩
  case stop =>
    rintro D c pre W _ _ h _
    exact h.elim
def mxl (l : List (Nat × T)) : Nat := l.foldr (fun x m => max x.1 m) 0
theorem mxl_app : ∀ (a b : List (Nat × T)), mxl (a ++ b) = max (mxl a) (mxl b)
  | [], b => by simp [mxl]
  | x :: a, b => by
    have := mxl_app a b
    simp only [mxl, List.cons_append, List.foldr_cons] at this ⊢
    omega
mutual
theorem mxl_preT : ∀ (t : T) (b : Nat), mxl (preT t b) + 1 = b + dp t
  | .mk k n u s ks l, b => by
    have h := mxl_preL l (b + 1)
    simp only [preT, dp]
    have e : mxl ((b, T.mk k n u s ks l) :: preL l (b + 1)) = max b (mxl (preL l (b + 1))) := rfl
    rcases h with ⟨h1, h2⟩ | h
    · subst h1; rw [e, h2]; simp only [dpL]; omega
    · omega
theorem mxl_preL : ∀ (l : List T) (b : Nat), (l = [] ∧ mxl (preL l b) = 0) ∨ (mxl (preL l b) + 1 = b + dpL l)
  | [], _ => .inl ⟨rfl, rfl⟩
  | t :: ts, b => by
    have h1 := mxl_preT t b
    have h2 := mxl_preL ts b
    have hp := dp_pos t
    refine .inr ?_
    simp only [preL, mxl_app, dpL]
    rcases h2 with ⟨h3, h4⟩ | h2
    · subst h3; simp only [dpL] at *; omega
    · omega
end

set_option maxRecDepth 100000 in
set_option maxHeartbeats 4000000 in
theorem deep_in (F : Fence) (hd : F.depth = none) (hf : ∀ f, F.fn f) (hro : F.round = none) (n : Nat) (hn : 9 ≤ n) (t : T) (v0 v1 v2 v3 v4 v5 : Value) (w : World) (hsz : sz t ≤ 100000) (hnd : Nd w t [v0, v1, v2, v3, v4, v5]) :
    CallsIn F n Tryd.prog 37 #[.agg #[v0, v1, v2, v3, v4, v5]] w fun e w' => e = .returned (.int .i64 ((dp t : Nat) : Int)) ∧ Below w.heap.size w w' := by
  have h1 : 1 ≤ n := by omega
  obtain ⟨k0, i0, u0, s0, A1, m1, c1, A2, m2, c2, rfl, rfl, rfl, rfl, rfl, rfl⟩ := hnd.shape6
  refine callsIn_of_wp_marks Tryd.func37 rfl (hf _) ?_ hro
  simp only [Tryd.ntmps37, List.size_toArray, List.length_cons, List.length_nil, Nat.reduceAdd, Nat.reduceSub, Array.replicate_succ, Array.replicate_zero, List.push_toArray, List.append_toArray, List.nil_append, List.cons_append]
  gi_wp2_with (gi_at_call 48; refine (nodes_in F hf hro (n - 1) _ _ _ _ _ _ _).mono ?_; rintro e w' ⟨rfl, rfl⟩)
  obtain ⟨W0, hW0⟩ : ∃ W0, ((w.alloc (.cells #[.int .i64 k0, .int .i64 i0, .int .u64 u0, .string s0, .slice A1 m1 c1, .slice A2 m2 c2] 31)).alloc (.cells #[.int .i64 0] 3)).alloc (.cells #[.int .i64 k0, .int .i64 i0, .int .u64 u0, .string s0, .slice A1 m1 c1, .slice A2 m2 c2] 31) = W0 := ⟨_, rfl⟩
  have hB0 : Below w.heap.size w W0 := by rw [← hW0]; exact (((Below.refl _ w).alloc (Nat.le_refl _) _).alloc (by simp) _).alloc (by simp; omega) _
  have hs0 : W0.heap.size = w.heap.size + 3 := by rw [← hW0]; simp
  have hbox : Bx W0 (w.heap.size + 1 + 1) (.int .i64 k0) (.int .i64 i0) (.int .u64 u0) (.string s0) (.slice A1 m1 c1) (.slice A2 m2 c2) := by
    rw [← hW0]
    have := Blk.new ((w.alloc (.cells #[.int .i64 k0, .int .i64 i0, .int .u64 u0, .string s0, .slice A1 m1 c1, .slice A2 m2 c2] 31)).alloc (.cells #[.int .i64 0] 3)) 31 #[.int .i64 k0, .int .i64 i0, .int .u64 u0, .string s0, .slice A1 m1 c1, .slice A2 m2 c2]
    simpa only [World.size_alloc] using this
  have hnum : Boxed W0 (w.heap.size + 1) 3 (.int .i64 0) := by
    rw [← hW0]
    have := (Boxed.new (w.alloc (.cells #[.int .i64 k0, .int .i64 i0, .int .u64 u0, .string s0, .slice A1 m1 c1, .slice A2 m2 c2] 31)) 3 (.int .i64 0)).alloc (.cells #[.int .i64 k0, .int .i64 i0, .int .u64 u0, .string s0, .slice A1 m1 c1, .slice A2 m2 c2] 31)
    simpa only [World.size_alloc] using this
  rw [hW0]
  clear hW0
  refine wpIn_rangeFunc_ownH hro h1 (gf := 63) (lb := #[.pointer (some ⟨w.heap.size + 1 + 1, 0, none⟩)]) rfl (hf _) (enters_of Tryd.func63 (by kernel_rfl) rfl)
    (nodes_stops F hd hf hro (n - 1) w W0 (fun _ => True) (fun _ _ _ _ => trivial) (w.heap.size + 1 + 1) t _ _ _ _ _ _ trivial hsz hnd hB0 hbox) (fun h k => h.trans k) (kp_b (by omega)) (Below.refl _ _) (fun _ => rfl)
    (fun pre W => Boxed W (w.heap.size + 1) 3 (.int .i64 ((mxl (pre.map Ev.pl) : Nat) : Int)) ∧ Below w.heap.size w W)
    (fun _ _ _ => False)
    (OwnFrom.and (Own.from (boxed_own _ _ _) _) (ownFrom_below (Nat.le_refl _) (by omega)))
    (fun _ _ _ _ _ hs _ _ => hs)
    ⟨by simpa [mxl] using hnum, hB0⟩
    (fun x a' _ => a' = { tmps := #[.agg #[.int .i64 k0, .int .i64 i0, .int .u64 u0, .string s0, .slice A1 m1 c1, .slice A2 m2 c2], .pointer (some ⟨w.heap.size, 0, none⟩), .int .i64 0, .pointer (some ⟨w.heap.size + 1, 0, none⟩), .int .i64 (x.lv : Int), .agg #[.int .i64 k0, .int .i64 i0, .int .u64 u0, .string s0, .slice A1 m1 c1, .slice A2 m2 c2], .func (.func 63) #[] #[.pointer (some ⟨w.heap.size + 1 + 1, 0, none⟩)], .int .i64 (x.lv : Int), .agg #[x.v0, x.v1, x.v2, x.v3, x.v4, x.v5], undef, undef, undef, undef, undef], defers := [] })
    (fun _ _ _ _ _ _ hs _ _ => hs) ?assign ?body ?done ?stop
  case assign =>
    intro l pre x W K hi hK
    gi_wp2
    exact hK _ _ (KeepsFrom.refl _ _) (Kp.refl _ _ _) hi (by simp [Ev.enc])
  case body =>
    rintro l pre x a' W hl _ ⟨hb, hB⟩ rfl hlt
    have c0 := hb.cell
    have f0 := hb.frozen
    have hmx : mxl ((pre ++ [x]).map Ev.pl) = max (mxl (pre.map Ev.pl)) x.lv := by
      rw [List.map_append, mxl_app]
      simp [mxl, Ev.pl]
    obtain ⟨M, hM⟩ : ∃ M, mxl (pre.map Ev.pl) = M := ⟨_, rfl⟩
    rw [hM] at c0 hmx hb
    by_cases hlt2 : M < x.lv
    · have hq : mxl ((pre ++ [x]).map Ev.pl) = x.lv := by omega
      gi_wp2
      all_goals exact ⟨(KeepsOthers.setCell _ _ _).from _, (Kp.refl _ _ _).set (by omega) (by omega) _, (by rw [hq]; exact hb.set _), hB.setCell (p := ⟨w.heap.size + 1, 0, none⟩) (by simp) _⟩
    · have hq : mxl ((pre ++ [x]).map Ev.pl) = M := by omega
      gi_wp2
      all_goals exact ⟨(KeepsOthers.setCell _ _ _).from _, (Kp.refl _ _ _).set (by omega) (by omega) _, (by rw [hq]; exact hb.set _), hB.setCell (p := ⟨w.heap.size + 1, 0, none⟩) (by simp) _⟩
  case done =>
    rintro D ys W hD hys ⟨hb, hB⟩ hK
    have c0 := hb.cell
    have hlen : mxl (ys.map Ev.pl) + 1 = dp t := by rw [hys, mxl_preT]; omega
    have hdp := dp_le_sz t
    obtain ⟨M, hM⟩ : ∃ M, mxl (ys.map Ev.pl) = M := ⟨_, rfl⟩
    rw [hM] at hlen c0
    have hw : wrap64 ((M : Int) + 1) = ((dp t : Nat) : Int) := by
      rw [show ((M : Int) + 1) = ((M + 1 : Nat) : Int) by omega, wrap64_small _ (by omega), hlen]
    have hw2 : (M : Int) + 1 = ((dp t : Nat) : Int) := by omega
    gi_wp2
    refine ⟨by simp, .inl ⟨_, _, rfl, run_takeDeferred hK, ?_⟩⟩
    exact ⟨_, results_tmp rfl _ _ _, rfl, hB.trans (belowK_b (w := w) (Nat.le_refl _) _ D _ _ (by omega) hK rfl rfl)⟩
  case stop =>
    rintro D c pre W _ _ h _
    exact h.elim

theorem size_any (t : T) (cs : List Value) (w : World) (hsz : sz t ≤ 100000) (hnd : Nd w t cs) :
    Calls Tryd.prog 36 #[.agg cs.toArray] w fun e w' => e = .returned (.int .i64 ((sz t : Nat) : Int)) ∧ Below w.heap.size w w' := by
  obtain ⟨_, _, _, _, _, _, _, _, _, _, rfl⟩ := hnd.shape
  exact (callsIn_wide (n := 9)).1 (size_in Fence.wide rfl (fun _ => trivial) rfl 9 (Nat.le_refl _) t _ _ _ _ _ _ w hsz hnd)
theorem deep_any (t : T) (cs : List Value) (w : World) (hsz : sz t ≤ 100000) (hnd : Nd w t cs) :
    Calls Tryd.prog 37 #[.agg cs.toArray] w fun e w' => e = .returned (.int .i64 ((dp t : Nat) : Int)) ∧ Below w.heap.size w w' := by
  obtain ⟨_, _, _, _, _, _, _, _, _, _, rfl⟩ := hnd.shape
  exact (callsIn_wide (n := 9)).1 (deep_in Fence.wide rfl (fun _ => trivial) rfl 9 (Nat.le_refl _) t _ _ _ _ _ _ w hsz hnd)
end Go.Proofs.YtnplkamkeadlgaaDoor
