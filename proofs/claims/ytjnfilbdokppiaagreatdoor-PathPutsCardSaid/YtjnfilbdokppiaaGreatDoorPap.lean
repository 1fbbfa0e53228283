/-
  What is proved here: an append of a path to a path of the call's own; plain facts of Get along two paths; no condition but those that each fact states.
-/
import Derived.Test.YtjnfilbdokppiaaGreatDoorPlk
namespace Go.Proofs.YtjnfilbdokppiaaGreatDoor
open Go.RowKit U U.Ut

theorem pv_inv : ∀ (ys : List Stp) (j : Nat) (u : Value), (pv ys)[j]? = some u → ∃ q r s, ys[q]? = some s ∧ j = q * 3 + r ∧ ((r = 0 ∧ u = .string s.k) ∨ (r = 1 ∧ u = .int .i64 s.a) ∨ (r = 2 ∧ u = .bool s.b))
  | [], j, u, h => by simp [pv] at h
  | s :: ys, j, u, h => by
    have e : pv (s :: ys) = .string s.k :: .int .i64 s.a :: .bool s.b :: pv ys := by simp [pv]
    rw [e] at h
    match j, h with
    | 0, h => exact ⟨0, 0, s, rfl, rfl, .inl ⟨rfl, by simpa using h.symm⟩⟩
    | 1, h => exact ⟨0, 1, s, rfl, rfl, .inr (.inl ⟨rfl, by simpa using h.symm⟩)⟩
    | 2, h => exact ⟨0, 2, s, rfl, rfl, .inr (.inr ⟨rfl, by simpa using h.symm⟩)⟩
    | j + 3, h =>
      obtain ⟨q, r, s', h1, h2, h3⟩ := pv_inv ys j u (by simpa using h)
      exact ⟨q + 1, r, s', by simpa using h1, by omega, h3⟩
theorem run_appP {w : World} {base n m c : Nat} {v : Value} {xs : List Value} {ys : List Stp} {A : Option Addr} (ty : TypeId) (hown : w.ownsRow base 51 3 v n xs) (hr : RdP w (.slice A m c) ys)
    (hb : n + m ≤ 65536) (hbase : base ≤ w.heap.size) :
    ∃ v' w', (Builtin.append_ #[22, 22] ty #[v, .slice A m c]).run Tryz.prog w = .ok v' w' ∧ w'.ownsRow base 51 3 v' (n + m) (xs ++ pv ys) ∧ w.grownBy w' v.ownBlock ∧ (v'.ownBlock = v.ownBlock ∨ v'.ownBlock = some w.heap.size) := by
  obtain ⟨i, hi, hz0, hz1, hz2⟩ := info_parts infoSt
  obtain ⟨A', m', c', e, h1, h2, h3, h4, h5⟩ := hr
  injection e with e1 e2 e3
  subst e1 e2 e3
  rcases A with _ | ad
  · have hm : m = 0 := by
      rcases Nat.eq_zero_or_pos m with h0 | h0
      · exact h0
      · obtain ⟨b, off, he, _⟩ := h5 h0; cases he
    subst hm
    have hx : ys = [] := List.eq_nil_of_length_eq_zero h1
    subst hx
    refine ⟨v, w, ?_, by simpa [pv] using hown, World.grownBy.refl w _, .inl rfl⟩
    rcases hown.2 with ⟨rfl, rfl⟩ | ⟨g, cap, cur, rfl, _, _, hnc, _⟩
    · simp [Builtin.append_, run_underlying Tryz.underlying22, sizeOf, typeInfo, hi, Builtin.lenOf, Builtin.firstCells]
    · simp [Builtin.append_, run_underlying Tryz.underlying22, sizeOf, typeInfo, hi, Builtin.lenOf, Builtin.firstCells, hnc, storeCells]
  · obtain ⟨v', w', hrun, q1, q2, _, q4⟩ := run_append_own_at (P := Tryz.prog) w base 22 ty 51 i _ 3 32 Tryz.underlying22 hi hz0 hz1 hz2 rfl (by decide) v n xs hown ad m c (pv ys)
      (by rw [pv_length, h1]) (fun j u hj => by
        obtain ⟨q, r, s, hs, hjq, hu⟩ := pv_inv ys j u hj
        have hjl := (List.getElem?_eq_some_iff.1 hs).1
        obtain ⟨b, off, he, _, hc⟩ := h5 (by omega)
        cases he
        obtain ⟨c0, c1, c2⟩ := hc q s hs
        rw [show ((⟨b, off, none⟩ : Addr).add j) = ⟨b, off + j, none⟩ by unfold Addr.add; by_cases h : j = 0 <;> simp [h]]
        rcases hu with ⟨rfl, rfl⟩ | ⟨rfl, rfl⟩ | ⟨rfl, rfl⟩
        · rw [hjq]; exact c0
        · rw [hjq, ← Nat.add_assoc]; exact c1
        · rw [hjq, ← Nat.add_assoc]; exact c2) (pv_one ys) (by simp only [maxLen]; omega) (by omega) hbase
    exact ⟨v', w', hrun, q1, q2, q4⟩
theorem wpList_appP {ops : Array Oper} {rest : List Oper} {o : Oper} {a : Act} {Q : Exit → Act → World → Prop} {w : World} {base n m c : Nat} {v : Value} {xs : List Value} {ys : List Stp} {A : Option Addr}
    (hgd : o.guard = none) (s x : Operand) (ho : o.op = .call { callee := .builtin .append, args := #[s, x], argTypes := #[22, 22] })
    (hs : a.eval s = v) (hx : a.eval x = .slice A m c) (hown : w.ownsRow base 51 3 v n xs) (hr : RdP w (.slice A m c) ys) (hb : n + m ≤ 65536) (hbase : base ≤ w.heap.size)
    (h : ∀ v' w', w'.ownsRow base 51 3 v' (n + m) (xs ++ pv ys) → w.grownBy w' v.ownBlock → (v'.ownBlock = v.ownBlock ∨ v'.ownBlock = some w.heap.size) → wpList Tryz.prog ops Q rest (a.put o.dst v') w') : wpList Tryz.prog ops Q (o :: rest) a w := by
  refine wpList_plain hgd fun K hK => ?_
  obtain ⟨v', w', hrun, h2, h3, h4⟩ := run_appP o.type hown hr hb hbase
  unfold Oper.wp execOp
  simp only [ho, resolve, invoke, builtin, Sem.run_bind, Sem.run_pure, Result.andThen_ok, List.map_toArray, List.map_cons, List.map_nil, hs, hx, hrun]
  exact hK _ _ (h v' w' h2 h3 h4)

theorem getT_app : ∀ (a b : List Stp) (t : T), getT t (a ++ b) = (getT t a).bind fun x => getT x b
  | [], b, t => by simp [getT]
  | s :: a, b, t => by
    rw [List.cons_append, getT, getT]
    cases lead t s with
    | none => rfl
    | some i =>
      cases h : t.l[i]? with
      | none => simp only [h]; rfl
      | some c => simp only [h]; exact getT_app a b c
theorem getR_cases (t : T) (ps : List Stp) : (getR t ps).2 = 0 ∨ (getR t ps).2 = 80 := by
  unfold getR
  cases getT t ps with
  | none => exact .inr rfl
  | some x => exact .inl rfl
theorem getR_app0 {t : T} {a b : List Stp} (h : (getR t a).2 = 0) : getR t (a ++ b) = getR (getR t a).1 b := by
  unfold getR at h ⊢
  rw [getT_app]
  cases hg : getT t a with
  | none => rw [hg] at h; exact absurd h (by decide)
  | some x => rfl
theorem getR_app8 {t : T} {a b : List Stp} (h : (getR t a).2 = 80) : (getR t (a ++ b)).2 = 80 := by
  unfold getR at h ⊢
  rw [getT_app]
  cases hg : getT t a with
  | none => rfl
  | some x => rw [hg] at h; simp at h

/-- A path of the call's own, behind A. -/
def AP (A : World) (xs : List Stp) (v : Value) (W : World) : Prop := Below A.heap.size A W ∧ W.ownsRow A.heap.size 51 3 v xs.length (pv xs)
/-- .. beside the box of a node. -/
def APZ (A : World) (xs : List Stp) (v : Value) (p : Nat) (W : World) : Prop := AP A xs v W ∧ A.heap.size ≤ p ∧ Bx W p (.int .i64 0) (.int .i64 0) (.int .u64 0) (.string ⟨#[]⟩) (.slice none 0 0) (.slice none 0 0) ∧ v.ownBlock ≠ some p
theorem AP.a (A : World) : AP A [] (.slice (some ⟨A.heap.size, 0, none⟩) 0 0) (A.alloc (.cells #[] 51)).drew :=
  ⟨(al0 A _).drew, World.ownsRow_lit (e := 51) (size := 3) A #[] 0 (Nat.le_refl _) (Nat.zero_le _) rfl⟩
theorem APZ.b (A : World) : APZ A [] (.slice (some ⟨A.heap.size + 1, 0, none⟩) 0 0) A.heap.size ((A.alloc (.cells #[.int .i64 0, .int .i64 0, .int .u64 0, .string ⟨#[]⟩, .slice none 0 0, .slice none 0 0] 38)).alloc (.cells #[] 51)).drew := by
  have h := World.ownsRow_lit (e := 51) (size := 3) (A.alloc (.cells #[.int .i64 0, .int .i64 0, .int .u64 0, .string ⟨#[]⟩, .slice none 0 0, .slice none 0 0] 38)) #[] 0 (base := A.heap.size) (by simp) (Nat.zero_le _) rfl
  rw [World.size_alloc] at h
  refine ⟨⟨(tr (al0 A _) (al0 _ _)).drew, h⟩, Nat.le_refl _, ?_, fun e => ?_⟩
  · exact (Blk.new A 38 _).alloc _
  · have := Option.some.inj e
    simp at this
theorem APZ.c (A : World) : APZ A [] (.slice (some ⟨A.heap.size, 0, none⟩) 0 0) (A.heap.size + 1) ((A.alloc (.cells #[] 51)).alloc (.cells #[.int .i64 0, .int .i64 0, .int .u64 0, .string ⟨#[]⟩, .slice none 0 0, .slice none 0 0] 38)).drew := by
  have h := World.ownsRow_lit (e := 51) (size := 3) A #[] 0 (base := A.heap.size) (Nat.le_refl _) (Nat.zero_le _) rfl
  refine ⟨⟨(tr (al0 A _) (al0 _ _)).drew, ?_⟩, Nat.le_succ _, ?_, fun e => ?_⟩
  · exact own_bel h (al0 _ _).drew
  · have h2 := Blk.new (A.alloc (.cells #[] 51)) 38 #[.int .i64 0, .int .i64 0, .int .u64 0, .string ⟨#[]⟩, .slice none 0 0, .slice none 0 0]
    rw [World.size_alloc] at h2
    exact h2
  · have := Option.some.inj e
    simp at this
theorem AP.alloc {A : World} {xs : List Stp} {v : Value} {W : World} (h : AP A xs v W) : APZ A xs v W.heap.size (W.alloc (.cells #[.int .i64 0, .int .i64 0, .int .u64 0, .string ⟨#[]⟩, .slice none 0 0, .slice none 0 0] 38)) :=
  ⟨⟨tr h.1 (al0 _ _), own_bel h.2 (al0 _ _)⟩, h.1.size, Blk.new _ _ _, fun e => by have := (h.2.lt _ e).2; omega⟩
theorem AP.app {A : World} {xs ys : List Stp} {v v' : Value} {W W' : World} (h : AP A xs v W) (ho : W'.ownsRow A.heap.size 51 3 v' (xs.length + ys.length) (pv xs ++ pv ys)) (hg : W.grownBy W' v.ownBlock) : AP A (xs ++ ys) v' W' := by
  refine ⟨h.1.grown hg h.1.size (fun k hk => (h.2.lt k hk).1), ?_⟩
  rw [List.length_append, pv_app]
  exact ho
theorem APZ.app {A : World} {xs ys : List Stp} {v v' : Value} {p : Nat} {W W' : World} (h : APZ A xs v p W) (ho : W'.ownsRow A.heap.size 51 3 v' (xs.length + ys.length) (pv xs ++ pv ys)) (hg : W.grownBy W' v.ownBlock) (hl : v'.ownBlock = v.ownBlock ∨ v'.ownBlock = some W.heap.size) : APZ A (xs ++ ys) v' p W' := by
  have hlt := Blk.lt h.2.2.1
  refine ⟨h.1.app ho hg, h.2.1, (hg.block p hlt (fun e => h.2.2.2 e.symm)).trans h.2.2.1, fun e => ?_⟩
  rcases hl with e2 | e2
  · exact h.2.2.2 (by rw [← e2]; exact e)
  · rw [e2] at e
    have := Option.some.inj e
    omega
theorem AP.rdp {A : World} {xs : List Stp} {v : Value} {W : World} (h : AP A xs v W) (ho : ∀ s ∈ xs, okR s) : RdP W v xs := own_rdp h.2 ho

theorem step_appP {ops : Array Oper} {o : Oper} {a : Act} {w : World} {K : Act → World → Prop} {Q : Exit → Act → World → Prop} {E : Prop} {base n m c : Nat} {v : Value} {xs : List Value} {ys : List Stp} {A : Option Addr}
    (hgd : o.guard = none) (s x : Operand) (ho : o.op = .call { callee := .builtin .append, args := #[s, x], argTypes := #[22, 22] })
    (hs : a.eval s = v) (hx : a.eval x = .slice A m c) (hown : w.ownsRow base 51 3 v n xs) (hr : RdP w (.slice A m c) ys) (hb : n + m ≤ 65536) (hbase : base ≤ w.heap.size)
    (h : ∀ v' w', w'.ownsRow base 51 3 v' (n + m) (xs ++ pv ys) → w.grownBy w' v.ownBlock → (v'.ownBlock = v.ownBlock ∨ v'.ownBlock = some w.heap.size) → K (a.put o.dst v') w') :
    if Region.wanted o (yielded ops a.tmps) = true then Oper.wp Tryz.prog o a w K Q else E := by
  have hw : Region.wanted o (yielded ops a.tmps) = true := by simp [Region.wanted, hgd]
  rw [if_pos hw]
  obtain ⟨v', w', hrun, h2, h3, h4⟩ := run_appP o.type hown hr hb hbase
  unfold Oper.wp execOp
  simp only [ho, resolve, invoke, builtin, Sem.run_bind, Sem.run_pure, Result.andThen_ok, List.map_toArray, List.map_cons, List.map_nil, hs, hx, hrun]
  exact h v' w' h2 h3 h4
end Go.Proofs.YtjnfilbdokppiaaGreatDoor
