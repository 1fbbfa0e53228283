/-
  What is proved here: a contract of tree.At; conditions: at most 100000 nodes, 1000 keys a node, 1000 bytes a string.
-/
import Derived.Test.YtlleknofnlmecaaDoorCopy
namespace Go.Proofs.YtlleknofnlmecaaDoor
open Go.RowKit Go.Shelf
attribute [local go_sem] Oper.semAt_some

theorem Ow.stepc {U U' : Nat → Prop} {w w' : World} {e : TypeId} {size n : Nat} {v : Value} {xs : List Value} (h : Ow U w e size v n xs) (hk : ∀ b o, U b → w.heap[b]? = some o → o.isCells = true → w'.heap[b]? = w.heap[b]? ∧ U' b) : Ow U' w' e size v n xs := by
  obtain ⟨⟨h1, h2⟩, hU⟩ := h
  rcases h2 with ⟨rfl, hn⟩ | ⟨g, cap, cur, rfl, h3, h4, h5, h6, h7, h8⟩
  · exact ⟨⟨h1, .inl ⟨rfl, hn⟩⟩, fun g hg => by cases hg⟩
  · have := hk g _ (hU g rfl) h4 rfl
    refine ⟨⟨h1, .inr ⟨g, cap, cur, rfl, h3, this.1.trans h4, h5, h6, h7, h8⟩⟩, fun g' hg' => ?_⟩
    obtain rfl : g = g' := by simpa [Value.ownBlock] using hg'
    exact this.2
mutual
theorem NdO.stepc {U U' : Nat → Prop} {w w' : World} (hk : ∀ b o, U b → w.heap[b]? = some o → o.isCells = true → w'.heap[b]? = w.heap[b]? ∧ U' b) : ∀ (t : T) (cs : List Value), NdO U w t cs → NdO U' w' t cs
  | .mk k n u s ks l, cs, h => by
    obtain ⟨hr, hs, hks, kv, lv, xs, rfl, h1, h2, h3⟩ := h
    exact ⟨hr, hs, hks, kv, lv, xs, rfl, h1.stepc hk, h2.stepc hk, NdOL.stepc hk l xs h3⟩
theorem NdOL.stepc {U U' : Nat → Prop} {w w' : World} (hk : ∀ b o, U b → w.heap[b]? = some o → o.isCells = true → w'.heap[b]? = w.heap[b]? ∧ U' b) : ∀ (l : List T) (xs : List Value), NdOL U w l xs → NdOL U' w' l xs
  | [], _, h => h
  | t :: ts, xs, h => by
    obtain ⟨cs, ys, rfl, h1, h2⟩ := h
    exact ⟨cs, ys, rfl, NdO.stepc hk t cs h1, NdOL.stepc hk ts ys h2⟩
end
mutual
theorem atT_pre : ∀ (t : T) (b i : Nat), atT t i = ((preT t b)[i]?).map Prod.snd
  | .mk k n u s ks l, b, i => by
    unfold atT
    simp only [preT]
    by_cases h : i = 0
    · subst h; simp
    · rw [if_neg h, atL_pre l (b + 1) (i - 1)]
      obtain ⟨j, rfl⟩ : ∃ j, i = j + 1 := ⟨i - 1, by omega⟩
      simp
theorem atL_pre : ∀ (l : List T) (b i : Nat), atL l i = ((preL l b)[i]?).map Prod.snd
  | [], b, i => by simp [atL, preL]
  | t :: ts, b, i => by
    unfold atL
    simp only [preL]
    have hl := preT_length t b
    by_cases h : i < sz t
    · rw [if_pos h, List.getElem?_append_left (by omega), atT_pre t b i]
    · rw [if_neg h, List.getElem?_append_right (by omega), hl, atL_pre ts b]
end
/-- The node of a number that may be any. -/
def atI (t : T) (n : Int) : Option T := if n < 0 then none else atT t n.toNat
def T0 : T := .mk 0 0 0 ⟨#[]⟩ [] []
theorem keepsFrom_below {B : Nat} {W W' : World} (h : Below W.heap.size W W') : KeepsFrom B W W' := ⟨h.size, fun k _ _ hk _ => (h.block k (Array.getElem?_eq_some_iff.1 hk).1).trans hk⟩
theorem keepsFrom_put6 (B : Nat) (W : World) (g o : Nat) (a0 a1 a2 a3 a4 a5 : Value) : KeepsFrom B W (put6 W g o a0 a1 a2 a3 a4 a5) := by
  unfold put6
  exact ((((((KeepsOthers.setCell _ _ _).trans (KeepsOthers.setCell _ _ _)).trans (KeepsOthers.setCell _ _ _)).trans (KeepsOthers.setCell _ _ _)).trans (KeepsOthers.setCell _ _ _)).trans (KeepsOthers.setCell _ _ _)).from B
theorem blk_own {β : Type} (g : Nat) (t : TypeId) (f : β → Array Value) : Own (fun s W => Blk W g t (f s)) := fun s X Y row hs hg hrow =>
  (hg.block g hs.lt (fun e' => by obtain ⟨o, ho, hc⟩ := hrow g e'.symm; rw [show X.heap[g]? = _ from hs] at ho; cases ho; cases hc)).trans hs
theorem boxed_bel {W W' : World} {B : Nat} {t : TypeId} {v : Value} (h : Boxed W B t v) (hb : Below W.heap.size W W') : Boxed W' B t v := (hb.block B h.lt).trans h
theorem boxed_put6 {W : World} {B g o : Nat} {t : TypeId} {v : Value} (h : Boxed W B t v) (hne : B ≠ g) (a0 a1 a2 a3 a4 a5 : Value) : Boxed (put6 W g o a0 a1 a2 a3 a4 a5) B t v := (put6_other W g o B _ _ _ _ _ _ hne).trans h
theorem blk_putObj {W : World} {g D : Nat} {t : TypeId} {cs : Array Value} {o : Obj} (h : Blk W g t cs) (hD : W.heap[D]? = some o) (ho : o.isCells = false) (o' : Obj) : Blk (W.putObj D o') g t cs := by
  refine (World.putObj_heap_other ?_).trans h
  intro e
  subst e
  rw [show W.heap[g]? = _ from h] at hD
  cases hD
  cases ho
theorem loadVar_bool {w : World} {g : Nat} {b : Bool} (h : Boxed w g 4 (.bool b)) : (loadVar 4 ⟨g, 0, none⟩).run Tryd.prog w = .ok (.bool b) w := by
  have c0 := h.cell
  simp [go_sem, c0]
theorem results_at2 {f : Func} {tmps : Array Value} {w : World} {p q : Tmp} {g g' : Nat} {b : Bool} {v0 v1 v2 v3 v4 v5 : Value} (hres : f.results = #[.cell p 26, .cell q 4]) (hp : tmps.getD p undef = .pointer (some ⟨g, 0, none⟩)) (hq : tmps.getD q undef = .pointer (some ⟨g', 0, none⟩))
    (hB : Bx w g v0 v1 v2 v3 v4 v5) (hO : Boxed w g' 4 (.bool b)) : (results f tmps).run Tryd.prog w = .ok (.tuple #[.agg #[v0, v1, v2, v3, v4, v5], .bool b]) w := by
  have hp' : tmps[p]?.getD undef = .pointer (some ⟨g, 0, none⟩) := by simpa using hp
  have hq' : tmps[q]?.getD undef = .pointer (some ⟨g', 0, none⟩) := by simpa using hq
  simp only [results, hres]
  simp [hp', hq', asAddr, loadVar_six hB, loadVar_bool hO]
theorem ndo_zero (U : Nat → Prop) (w : World) : NdO U w T0 [.int .i64 0, .int .i64 0, .int .u64 0, .string ⟨#[]⟩, .slice none 0 0, .slice none 0 0] :=
  ⟨⟨by decide, by decide, by decide, by decide, by decide, by decide⟩, by decide, fun x hx => by simp at hx, _, _, [], rfl, ⟨⟨rfl, .inl ⟨rfl, rfl⟩⟩, fun g hg => by cases hg⟩, ⟨⟨rfl, .inl ⟨rfl, rfl⟩⟩, fun g hg => by cases hg⟩, rfl⟩
/-- What the nodes of a small tree have in common. -/
def QQ (t : T) : Prop := sz t ≤ 100000 ∧ sm 1000 1000 t
theorem QQ_sub (t : T) (h : QQ t) : ∀ c ∈ t.l, QQ c := by
  rcases t with ⟨k, n, u, s, ks, l⟩
  intro c hc
  obtain ⟨i, hi⟩ := List.getElem?_of_mem hc
  have h1 := sz_le_of (l := l) hi
  have h2 := h.1
  simp only [sz] at h2
  exact ⟨by omega, smL_mem h.2.2.2.2 c hc⟩

set_option maxRecDepth 100000 in
set_option maxHeartbeats 4000000 in
theorem at_in (n : Nat) (hn : 9 ≤ n) (t : T) (v0 v1 v2 v3 v4 v5 : Value) (N : Int) (w : World) (hsz : sz t ≤ 100000) (hsm : sm 1000 1000 t) (hnd : Nd w t [v0, v1, v2, v3, v4, v5]) :
    CallsIn Fence.wide n Tryd.prog 25 #[.agg #[v0, v1, v2, v3, v4, v5], .int .i64 N] w fun e w' => (∃ cs, e = .returned (.tuple #[.agg cs.toArray, .bool (atI t N).isSome]) ∧ NdO (fun b => w.heap.size ≤ b) w' ((atI t N).getD T0) cs) ∧ Below w.heap.size w w' := by
  have h1 : 1 ≤ n := by omega
  obtain ⟨k0, i0, u0, s0, A1, m1, c1, A2, m2, c2, rfl, rfl, rfl, rfl, rfl, rfl⟩ := hnd.shape6
  refine callsIn_of_wp_marks Tryd.func25 rfl trivial ?_ rfl
  simp only [Tryd.ntmps25, List.size_toArray, List.length_cons, List.length_nil, Nat.reduceAdd, Nat.reduceSub, Array.replicate_succ, Array.replicate_zero, List.push_toArray, List.append_toArray, List.nil_append, List.cons_append]
  gi_wp2_with (refine ⟨trivial, ?_⟩; gi_at_call 30; refine (nodes_in Fence.wide (fun _ => trivial) rfl (n - 1) _ _ _ _ _ _ _).mono ?_; rintro e w' ⟨rfl, rfl⟩)
  obtain ⟨W0, hW0⟩ : ∃ W0, (((((w.alloc (.cells #[.int .i64 k0, .int .i64 i0, .int .u64 u0, .string s0, .slice A1 m1 c1, .slice A2 m2 c2] 26)).alloc (.cells #[.int .i64 N] 3)).alloc (.cells #[.int .i64 0, .int .i64 0, .int .u64 0, .string ⟨#[]⟩, .slice none 0 0, .slice none 0 0] 26)).alloc (.cells #[.bool false] 4)).alloc (.cells #[.int .i64 0] 3)).alloc (.cells #[.int .i64 k0, .int .i64 i0, .int .u64 u0, .string s0, .slice A1 m1 c1, .slice A2 m2 c2] 26) = W0 := ⟨_, rfl⟩
  have hB0 : Below w.heap.size w W0 := by rw [← hW0]; exact ((((((Below.refl _ w).alloc (Nat.le_refl _) _).alloc (by simp) _).alloc (by simp; omega) _).alloc (by simp; omega) _).alloc (by simp; omega) _).alloc (by simp; omega) _
  have hs0 : W0.heap.size = w.heap.size + 6 := by rw [← hW0]; simp
  have hbox : Bx W0 (w.heap.size + 1 + 1 + 1 + 1 + 1) (.int .i64 k0) (.int .i64 i0) (.int .u64 u0) (.string s0) (.slice A1 m1 c1) (.slice A2 m2 c2) := by
    rw [← hW0]
    have := Blk.new (((((w.alloc (.cells #[.int .i64 k0, .int .i64 i0, .int .u64 u0, .string s0, .slice A1 m1 c1, .slice A2 m2 c2] 26)).alloc (.cells #[.int .i64 N] 3)).alloc (.cells #[.int .i64 0, .int .i64 0, .int .u64 0, .string ⟨#[]⟩, .slice none 0 0, .slice none 0 0] 26)).alloc (.cells #[.bool false] 4)).alloc (.cells #[.int .i64 0] 3)) 26 #[.int .i64 k0, .int .i64 i0, .int .u64 u0, .string s0, .slice A1 m1 c1, .slice A2 m2 c2]
    simpa only [World.size_alloc] using this
  have hN : Boxed W0 (w.heap.size + 1) 3 (.int .i64 N) := by
    rw [← hW0]
    have := ((((Boxed.new (w.alloc (.cells #[.int .i64 k0, .int .i64 i0, .int .u64 u0, .string s0, .slice A1 m1 c1, .slice A2 m2 c2] 26)) 3 (.int .i64 N)).alloc (.cells #[.int .i64 0, .int .i64 0, .int .u64 0, .string ⟨#[]⟩, .slice none 0 0, .slice none 0 0] 26)).alloc (.cells #[.bool false] 4)).alloc (.cells #[.int .i64 0] 3)).alloc (.cells #[.int .i64 k0, .int .i64 i0, .int .u64 u0, .string s0, .slice A1 m1 c1, .slice A2 m2 c2] 26)
    simpa only [World.size_alloc] using this
  have hR : Bx W0 (w.heap.size + 1 + 1) (.int .i64 0) (.int .i64 0) (.int .u64 0) (.string ⟨#[]⟩) (.slice none 0 0) (.slice none 0 0) := by
    rw [← hW0]
    have := (((Blk.new ((w.alloc (.cells #[.int .i64 k0, .int .i64 i0, .int .u64 u0, .string s0, .slice A1 m1 c1, .slice A2 m2 c2] 26)).alloc (.cells #[.int .i64 N] 3)) 26 #[.int .i64 0, .int .i64 0, .int .u64 0, .string ⟨#[]⟩, .slice none 0 0, .slice none 0 0]).alloc (.cells #[.bool false] 4)).alloc (.cells #[.int .i64 0] 3)).alloc (.cells #[.int .i64 k0, .int .i64 i0, .int .u64 u0, .string s0, .slice A1 m1 c1, .slice A2 m2 c2] 26)
    simpa only [World.size_alloc] using this
  have hO : Boxed W0 (w.heap.size + 1 + 1 + 1) 4 (.bool false) := by
    rw [← hW0]
    have := ((Boxed.new (((w.alloc (.cells #[.int .i64 k0, .int .i64 i0, .int .u64 u0, .string s0, .slice A1 m1 c1, .slice A2 m2 c2] 26)).alloc (.cells #[.int .i64 N] 3)).alloc (.cells #[.int .i64 0, .int .i64 0, .int .u64 0, .string ⟨#[]⟩, .slice none 0 0, .slice none 0 0] 26)) 4 (.bool false)).alloc (.cells #[.int .i64 0] 3)).alloc (.cells #[.int .i64 k0, .int .i64 i0, .int .u64 u0, .string s0, .slice A1 m1 c1, .slice A2 m2 c2] 26)
    simpa only [World.size_alloc] using this
  have hnum : Boxed W0 (w.heap.size + 1 + 1 + 1 + 1) 3 (.int .i64 0) := by
    rw [← hW0]
    have := (Boxed.new ((((w.alloc (.cells #[.int .i64 k0, .int .i64 i0, .int .u64 u0, .string s0, .slice A1 m1 c1, .slice A2 m2 c2] 26)).alloc (.cells #[.int .i64 N] 3)).alloc (.cells #[.int .i64 0, .int .i64 0, .int .u64 0, .string ⟨#[]⟩, .slice none 0 0, .slice none 0 0] 26)).alloc (.cells #[.bool false] 4)) 3 (.int .i64 0)).alloc (.cells #[.int .i64 k0, .int .i64 i0, .int .u64 u0, .string s0, .slice A1 m1 c1, .slice A2 m2 c2] 26)
    simpa only [World.size_alloc] using this
  rw [hW0]
  clear hW0
  refine wpIn_rangeFunc_ownH rfl h1 (gf := 44) (lb := #[.pointer (some ⟨w.heap.size + 1 + 1 + 1 + 1 + 1, 0, none⟩)]) rfl trivial (enters_of Tryd.func44 (by kernel_rfl) rfl)
    (nodes_stops Fence.wide rfl (fun _ => trivial) rfl (n - 1) w W0 QQ QQ_sub (w.heap.size + 1 + 1 + 1 + 1 + 1) t _ _ _ _ _ _ ⟨hsz, hsm⟩ hsz hnd hB0 hbox) (fun h k => h.trans k) (kp_b (by omega)) (Below.refl _ _) (fun _ => rfl)
    (fun pre W => ((((Boxed W (w.heap.size + 1) 3 (.int .i64 N) ∧ Bx W (w.heap.size + 1 + 1) (.int .i64 0) (.int .i64 0) (.int .u64 0) (.string ⟨#[]⟩) (.slice none 0 0) (.slice none 0 0)) ∧ Boxed W (w.heap.size + 1 + 1 + 1) 4 (.bool false)) ∧
      Boxed W (w.heap.size + 1 + 1 + 1 + 1) 3 (.int .i64 ((pre.length : Nat) : Int))) ∧ ∀ i : Nat, i < pre.length → (i : Int) ≠ N) ∧ Below w.heap.size w W)
    (fun c pre W => (c = .ret ∧ ∃ (q : List (Ev w QQ)) (x : Ev w QQ) (a0 a1 a2 a3 a4 a5 : Value), pre = q ++ [x] ∧ (q.length : Int) = N ∧ (Bx W (w.heap.size + 1 + 1) a0 a1 a2 a3 a4 a5 ∧ NdO (fun b => w.heap.size ≤ b) W x.t [a0, a1, a2, a3, a4, a5]) ∧ Boxed W (w.heap.size + 1 + 1 + 1) 4 (.bool true)) ∧ Below w.heap.size w W)
    (OwnFrom.and (OwnFrom.and (OwnFrom.and (OwnFrom.and (OwnFrom.and (Own.from (boxed_own _ _ _) _) (Own.from (blk_own _ _ _) _)) (Own.from (boxed_own _ _ _) _)) (Own.from (boxed_own _ _ _) _)) (ownFrom_pure _ _)) (ownFrom_below (Nat.le_refl _) (by omega)))
    (fun c => OwnFrom.and (fun pre X Y row hs hg hr => by
      obtain ⟨hc, q, x, a0, a1, a2, a3, a4, a5, e1, e2, ⟨e3, e4⟩, e5⟩ := hs
      have hr' : ∀ r, row = some r → ∃ o : Obj, X.heap[r]? = some o ∧ o.isCells = false := fun r e => (hr r e).2
      refine ⟨hc, q, x, a0, a1, a2, a3, a4, a5, e1, e2, ⟨blk_own _ _ (fun _ : Unit => #[a0, a1, a2, a3, a4, a5]) () X Y row e3 hg hr', NdO.stepc (fun b o hb ho hoc => ⟨hg.block b (Array.getElem?_eq_some_iff.1 ho).1 (fun e => ?_), hb⟩) _ _ e4⟩, boxed_own _ _ (fun _ : Unit => Value.bool true) () X Y row e5 hg hr'⟩
      obtain ⟨o', h1, h2⟩ := hr' b e.symm
      rw [ho] at h1
      cases h1
      rw [hoc] at h2
      cases h2) (ownFrom_below (Nat.le_refl _) (by omega)))
    ⟨⟨⟨⟨⟨hN, hR⟩, hO⟩, by simpa using hnum⟩, fun i hi => by simp at hi⟩, hB0⟩
    (fun x a' W => ∃ Bn, w.heap.size + 5 ≤ Bn ∧ Bx W Bn x.v0 x.v1 x.v2 x.v3 x.v4 x.v5 ∧ a' = { tmps := #[.agg #[.int .i64 k0, .int .i64 i0, .int .u64 u0, .string s0, .slice A1 m1 c1, .slice A2 m2 c2], .int .i64 N, .pointer (some ⟨w.heap.size, 0, none⟩), .pointer (some ⟨w.heap.size + 1, 0, none⟩), .pointer (some ⟨w.heap.size + 1 + 1, 0, none⟩), .pointer (some ⟨w.heap.size + 1 + 1 + 1, 0, none⟩), .pointer (some ⟨w.heap.size + 1 + 1 + 1 + 1, 0, none⟩), undef, .pointer (some ⟨Bn, 0, none⟩), .agg #[.int .i64 k0, .int .i64 i0, .int .u64 u0, .string s0, .slice A1 m1 c1, .slice A2 m2 c2], .func (.func 44) #[] #[.pointer (some ⟨w.heap.size + 1 + 1 + 1 + 1 + 1, 0, none⟩)], .int .i64 (x.lv : Int), .agg #[x.v0, x.v1, x.v2, x.v3, x.v4, x.v5], undef, undef, undef, undef, undef, undef, undef, undef], defers := [] })
    (fun x a' _ X Y row hs hg hr => by
      obtain ⟨Bn, e1, e2, e3⟩ := hs
      exact ⟨Bn, e1, blk_own _ _ (fun _ : Unit => #[x.v0, x.v1, x.v2, x.v3, x.v4, x.v5]) () X Y row e2 hg (fun r e => (hr r e).2), e3⟩) ?assign ?body ?done ?stop
  case assign =>
    rintro l pre ⟨lv, t0, y0, y1, y2, y3, y4, y5, nd, low, hq⟩ W K hi hK
    obtain ⟨k9, i9, u9, s9, A8, m8, c8, A9, m9, c9, rfl, rfl, rfl, rfl, rfl, rfl⟩ := nd.shape6
    simp only [Ev.enc]
    gi_wp2
    obtain ⟨⟨⟨⟨⟨iN, iR⟩, iO⟩, inum⟩, ine⟩, iB⟩ := hi
    have hl4 := inum.lt
    exact hK _ _ ((KeepsOthers.alloc _ _).from _) ((Kp.refl _ _ _).alloc _ iB.size) ⟨⟨⟨⟨⟨iN.alloc _, iR.alloc _⟩, iO.alloc _⟩, inum.alloc _⟩, ine⟩, iB.alloc iB.size _⟩ ⟨W.heap.size, by omega, Blk.new _ _ _, rfl⟩
  case body =>
    rintro l pre ⟨lv, t0, y0, y1, y2, y3, y4, y5, nd, low, hq⟩ a' W hl _ ⟨⟨⟨⟨⟨iN, iR⟩, iO⟩, inum⟩, ine⟩, iB⟩ ⟨Bn, hBn, iX, rfl⟩ hlt
    obtain ⟨k9, i9, u9, s9, A8, m8, c8, A9, m9, c9, rfl, rfl, rfl, rfl, rfl, rfl⟩ := nd.shape6
    simp only at iX
    have hpl : pre.length < 100000 := by omega
    have cN := iN.cell
    have cnum := inum.cell
    have fnum := inum.frozen
    by_cases heq : (pre.length : Int) = N
    · obtain ⟨d0, d1, d2, d3, d4, d5⟩ := iX.all
      have hcp := copy_any (dp t0) t0 _ W (Nat.le_refl _) hq.1 hq.2 (nd.bel iB)
      have heqB : ((pre.length : Int) == N) = true := by simp [heq]
      have hd1 : Fence.wide.depth.isSome = true → 1 ≤ n - 1 - 1 := fun _ => by omega
      gi_wp2_with fail
      refine ⟨trivial, hd1, ?_⟩
      refine (CallsIn.inRound l (callsIn_wide.2 hcp)).mono ?_
      clear hcp
      rintro e w4 ⟨⟨cs', rfl, hno⟩, hb4⟩
      have HN4 := Lib.hid hno
      obtain ⟨k8, i8, u8, s8, A5, m5, c5, A6, m6, c6, rfl⟩ := hno.shape6
      have HB4 := Lib.hid hb4
      have iR4 := Lib.hid (Blk.below iR hb4 (Blk.lt iR))
      have iO4 := Lib.hid (boxed_bel iO hb4)
      have cO4 := iO4.out.cell
      have fO4 := iO4.out.frozen
      obtain ⟨o0, o1, o2, o3, o4, o5⟩ := Bx.all iR4.out
      have g0 := Blk.frozen iR4.out 0
      have g1 := Blk.frozen iR4.out 1
      have g2 := Blk.frozen iR4.out 2
      have g3 := Blk.frozen iR4.out 3
      have g4 := Blk.frozen iR4.out 4
      have g5 := Blk.frozen iR4.out 5
      clear hno hb4
      gi_wp2
      have hlen : w.heap.size ≤ w4.heap.size := Nat.le_trans iB.size HB4.out.size
      refine ⟨((keepsFrom_below HB4.out).trans (keepsFrom_put6 _ _ (w.heap.size + 1 + 1) 0 _ _ _ _ _ _)).trans ((KeepsOthers.setCell _ _ _).from _), ⟨rfl, pre, _, .int .i64 k8, .int .i64 i8, .int .u64 u8, .string s8, .slice A5 m5 c5, .slice A6 m6 c6, rfl, heq, ⟨?_, ?_⟩, ?_⟩, ?_⟩
      · exact (Bx.put6 iR4.out _ _ _ _ _ _).setOther _ (by omega)
      · refine NdO.step (fun b hb hlt4 => ⟨?_, ?_⟩) _ _ HN4.out
        · rw [heap_set_other _ _ _ _ _ (by have := inum.lt; omega)]
          exact put6_other w4 (w.heap.size + 1 + 1) 0 b _ _ _ _ _ _ (by have := inum.lt; omega)
        · exact Nat.le_trans iB.size hb
      · exact Boxed.set _ (boxed_put6 iO4.out (by omega) _ _ _ _ _ _)
      · exact (put6_below (iB.trans (HB4.out.mono iB.size)) (w.heap.size + 1 + 1) 0 _ _ _ _ _ _ (by omega)).setCell (p := ⟨w.heap.size + 1 + 1 + 1, 0, none⟩) (by show w.heap.size ≤ w.heap.size + 1 + 1 + 1; omega) _
    · have hneB : ((pre.length : Int) == N) = false := by simp [heq]
      have hw : wrap64 ((pre.length : Int) + 1) = (((pre.length + 1 : Nat) : Nat) : Int) := by
        rw [show ((pre.length : Int) + 1) = ((pre.length + 1 : Nat) : Int) by omega, wrap64_small _ (by omega)]
      gi_wp2
      refine ⟨(KeepsOthers.setCell _ _ _).from _, (Kp.refl _ _ _).set (by omega) (by omega) _, ⟨⟨⟨⟨iN.other (by omega) _, iR.setOther _ (by omega)⟩, iO.other (by omega) _⟩, ?_⟩, ?_⟩, iB.setCell (p := ⟨w.heap.size + 1 + 1 + 1 + 1, 0, none⟩) (by show w.heap.size ≤ w.heap.size + 1 + 1 + 1 + 1; omega) _⟩
      · have := inum.set (.int .i64 ((pre.length : Int) + 1))
        simpa using this
      · intro i hi
        simp only [List.length_append, List.length_cons, List.length_nil, Nat.zero_add] at hi
        rcases Nat.lt_or_ge i pre.length with h | h
        · exact ine i h
        · obtain rfl : i = pre.length := by omega
          exact heq
  case done =>
    rintro D ys W hD hys ⟨⟨⟨⟨⟨iN, iR⟩, iO⟩, inum⟩, ine⟩, iB⟩ hK
    have hlen : ys.length = sz t := by rw [← preT_length t 0, ← hys, List.length_map]
    have hnone : atI t N = none := by
      unfold atI
      by_cases h0 : N < 0
      · rw [if_pos h0]
      · rw [if_neg h0]
        refine atT_none t _ ?_
        rcases Nat.lt_or_ge N.toNat (sz t) with h | h
        · exact absurd (by omega) (ine N.toNat (by omega))
        · exact h
    have cO := iO.cell
    have fO := iO.frozen
    obtain ⟨o0, o1, o2, o3, o4, o5⟩ := iR.all
    have g0 := iR.frozen 0
    have g1 := iR.frozen 1
    have g2 := iR.frozen 2
    have g3 := iR.frozen 3
    have g4 := iR.frozen 4
    have g5 := iR.frozen 5
    gi_wp2
    have hP := Bx.put6 iR (.int .i64 0) (.int .i64 0) (.int .u64 0) (.string ⟨#[]⟩) (.slice none 0 0) (.slice none 0 0)
    obtain ⟨W9, hW9⟩ : ∃ W9, (put6 W (w.heap.size + 1 + 1) 0 (.int .i64 0) (.int .i64 0) (.int .u64 0) (.string ⟨#[]⟩) (.slice none 0 0) (.slice none 0 0)).setCell ⟨w.heap.size + 1 + 1 + 1, 0, none⟩ (.bool false) = W9 := ⟨_, rfl⟩
    have hB9 : Below w.heap.size w W9 := by
      rw [← hW9]
      exact (put6_below iB (w.heap.size + 1 + 1) 0 _ _ _ _ _ _ (by omega)).setCell (p := ⟨w.heap.size + 1 + 1 + 1, 0, none⟩) (by show w.heap.size ≤ w.heap.size + 1 + 1 + 1; omega) _
    have hR9 : Bx W9 (w.heap.size + 1 + 1) (.int .i64 0) (.int .i64 0) (.int .u64 0) (.string ⟨#[]⟩) (.slice none 0 0) (.slice none 0 0) := by
      rw [← hW9]; exact hP.setOther _ (by omega)
    have hO9 : Boxed W9 (w.heap.size + 1 + 1 + 1) 4 (.bool false) := by
      rw [← hW9]; exact Boxed.set _ (boxed_put6 iO (by omega) _ _ _ _ _ _)
    have hK9 : W9.heap[D]? = some (.deferred (some [])) := by
      rw [← hW9]; exact ((keepsFrom_put6 0 W (w.heap.size + 1 + 1) 0 _ _ _ _ _ _).trans ((KeepsOthers.setCell _ _ _).from 0)).same D _ (Nat.zero_le _) hK rfl
    unfold put6 at hW9
    rw [hW9]
    refine ⟨by simp, .inl ⟨_, _, rfl, run_takeDeferred hK9, ?_⟩⟩
    refine ⟨_, results_at2 (p := 4) (q := 5) (g := w.heap.size + 1 + 1) (g' := w.heap.size + 1 + 1 + 1) rfl rfl rfl (blk_putObj hR9 hK9 rfl _) (blk_putObj hO9 hK9 rfl _), ⟨[.int .i64 0, .int .i64 0, .int .u64 0, .string ⟨#[]⟩, .slice none 0 0, .slice none 0 0], by rw [hnone]; rfl, by rw [hnone]; exact ndo_zero _ _⟩, hB9.trans (belowK_b (w := w) (Nat.le_refl _) _ D _ _ (by omega) hK9 rfl rfl)⟩
  case stop =>
    rintro D c pre W hD hpre ⟨⟨rfl, q, x, a0, a1, a2, a3, a4, a5, rfl, e2, ⟨e3, e4⟩, e5⟩, hB⟩ hK
    have hsome : atI t N = some x.t := by
      unfold atI
      rw [if_neg (by omega), atT_pre t 0]
      obtain ⟨r, hr⟩ := hpre
      have : (preT t 0)[N.toNat]? = some x.pl := by
        rw [← hr, List.map_append, List.append_assoc, List.getElem?_append_right (by simp; omega)]
        have h0 : N.toNat - (List.map Ev.pl q).length = 0 := by simp; omega
        rw [h0]
        rfl
      rw [this]
      rfl
    gi_wp2
    refine ⟨by simp, .inl ⟨_, _, rfl, run_takeDeferred hK, ?_⟩⟩
    refine ⟨_, results_at2 (p := 4) (q := 5) (g := w.heap.size + 1 + 1) (g' := w.heap.size + 1 + 1 + 1) rfl rfl rfl (blk_putObj e3 hK rfl _) (blk_putObj e5 hK rfl _), ⟨[a0, a1, a2, a3, a4, a5], by rw [hsome]; rfl, ?_⟩, hB.trans (belowK_b (w := w) (Nat.le_refl _) _ D _ _ (by omega) hK rfl rfl)⟩
    rw [hsome]
    refine NdO.stepc (fun b o hb ho hoc => ⟨World.putObj_heap_other (fun e => ?_), hb⟩) _ _ e4
    subst e
    rw [ho] at hK
    cases hK
    cases hoc

theorem at_any (t : T) (cs : List Value) (N : Int) (w : World) (hsz : sz t ≤ 100000) (hsm : sm 1000 1000 t) (hnd : Nd w t cs) :
    Calls Tryd.prog 25 #[.agg cs.toArray, .int .i64 N] w fun e w' => (∃ cs, e = .returned (.tuple #[.agg cs.toArray, .bool (atI t N).isSome]) ∧ NdO (fun b => w.heap.size ≤ b) w' ((atI t N).getD T0) cs) ∧ Below w.heap.size w w' := by
  obtain ⟨_, _, _, _, _, _, _, _, _, _, rfl⟩ := hnd.shape
  exact (callsIn_wide (n := 9)).1 (at_in 9 (Nat.le_refl _) t _ _ _ _ _ _ N w hsz hsm hnd)
end Go.Proofs.YtlleknofnlmecaaDoor
