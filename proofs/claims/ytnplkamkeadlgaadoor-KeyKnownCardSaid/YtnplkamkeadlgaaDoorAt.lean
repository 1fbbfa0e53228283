/-
  What is proved here: a contract of tree.At; conditions: at most 100000 nodes, 1000 keys a node, 1000 bytes a string.
-/
import Derived.Test.YtnplkamkeadlgaaDoorCopy
namespace Go.Proofs.YtnplkamkeadlgaaDoor
open Go.RowKit Go.Shelf
attribute [local go_sem] Oper.semAt_some

theorem Ow.stepc {U U' : Nat → Prop} {w w' : World} {e : TypeId} {size n : Nat} {v : Value} {xs : List Value} (h : Ow U w e size v n xs) (hk : ∀ b o, U b → w.heap[b]? = some o → o.isCells = true → w'.heap[b]? = w.heap[b]? ∧ U' b) : Ow U' w' e size v n xs := by
  obtain ⟨⟨h1, h2⟩, hU⟩ := h
  rcases h2 with ⟨rfl, hn⟩ | ⟨g, cap, cur, rfl, h3, h4, h5, h6, h7, h8⟩
  · exact ⟨⟨h1, .inl ⟨rfl, hn⟩⟩, fun g hg => by cases hg⟩
  · have := hk g _ (hU g rfl) h4 rfl
    refine ⟨⟨h1, .inr ⟨g, cap, cur, rfl, h3, this.1.trans h4, h5, h6, h7, h8⟩⟩, fun g' hg' => ?_⟩
    obtain rfl : g = g' := by simpa [Value.ownBlock] using hg'
    exact this.2
mutual
theorem NdO.stepc {U U' : Nat → Prop} {w w' : World} (hk : ∀ b o, U b → w.heap[b]? = some o → o.isCells = true → w'.heap[b]? = w.heap[b]? ∧ U' b) : ∀ (t : T) (cs : List Value), NdO U w t cs → NdO U' w' t cs
  | .mk k n u s ks l, cs, h => by
    obtain ⟨hr, hs, hks, kv, lv, xs, rfl, h1, h2, h3⟩ := h
    exact ⟨hr, hs, hks, kv, lv, xs, rfl, h1.stepc hk, h2.stepc hk, NdOL.stepc hk l xs h3⟩
theorem NdOL.stepc {U U' : Nat → Prop} {w w' : World} (hk : ∀ b o, U b → w.heap[b]? = some o → o.isCells = true → w'.heap[b]? = w.heap[b]? ∧ U' b) : ∀ (l : List T) (xs : List Value), NdOL U w l xs → NdOL U' w' l xs
  | [], _, h => h
  | t :: ts, xs, h => by
    obtain ⟨cs, ys, rfl, h1, h2⟩ := h
    exact ⟨cs, ys, rfl, NdO.stepc hk t cs h1, NdOL.stepc hk ts ys h2⟩
end
mutual
theorem atT_pre : ∀ (t : T) (b i : Nat), atT t i = ((preT t b)[i]?).map Prod.snd
  | .mk k n u s ks l, b, i => by
    unfold atT
    simp only [preT]
    by_cases h : i = 0
    · subst h; simp
    · rw [if_neg h, atL_pre l (b + 1) (i - 1)]
      obtain ⟨j, rfl⟩ : ∃ j, i = j + 1 := ⟨i - 1, by omega⟩
      simp
theorem atL_pre : ∀ (l : List T) (b i : Nat), atL l i = ((preL l b)[i]?).map Prod.snd
  | [], b, i => by simp [atL, preL]
  | t :: ts, b, i => by
    unfold atL
    simp only [preL]
    have hl := preT_length t b
    by_cases h : i < sz t
    · rw [if_pos h, List.getElem?_append_left (by omega), atT_pre t b i]
    · rw [if_neg h, List.getElem?_append_right (by omega), hl, atL_pre ts b]
end
/-- The node of a number that may be any. -/
def atI (t : T) (n : Int) : Option T := if n < 0 then none else atT t n.toNat
def T0 : T := .mk 0 0 0 ⟨#[]⟩ [] []
theorem keepsFrom_below {B : Nat} {W W' : World} (h : Below W.heap.size W W') : KeepsFrom B W W' := ⟨h.size, fun k _ _ hk _ => (h.block k (Array.getElem?_eq_some_iff.1 hk).1).trans hk⟩
theorem keepsFrom_put6 (B : Nat) (W : World) (g o : Nat) (a0 a1 a2 a3 a4 a5 : Value) : KeepsFrom B W (put6 W g o a0 a1 a2 a3 a4 a5) := by
  unfold put6
  exact ((((((KeepsOthers.setCell _ _ _).trans (KeepsOthers.setCell _ _ _)).trans (KeepsOthers.setCell _ _ _)).trans (KeepsOthers.setCell _ _ _)).trans (KeepsOthers.setCell _ _ _)).trans (KeepsOthers.setCell _ _ _)).from B
theorem blk_own {β : Type} (g : Nat) (t : TypeId) (f : β → Array Value) : Own (fun s W => Blk W g t (f s)) := fun s X Y row hs hg hrow =>
  (hg.block g hs.lt (fun e' => by obtain ⟨o, ho, hc⟩ := hrow g e'.symm; rw [show X.heap[g]? = _ from hs] at ho; cases ho; cases hc)).trans hs
theorem boxed_bel {W W' : World} {B : Nat} {t : TypeId} {v : Value} (h : Boxed W B t v) (hb : Below W.heap.size W W') : Boxed W' B t v := (hb.block B h.lt).trans h
theorem boxed_put6 {W : World} {B g o : Nat} {t : TypeId} {v : Value} (h : Boxed W B t v) (hne : B ≠ g) (a0 a1 a2 a3 a4 a5 : Value) : Boxed (put6 W g o a0 a1 a2 a3 a4 a5) B t v := (put6_other W g o B _ _ _ _ _ _ hne).trans h
theorem blk_putObj {W : World} {g D : Nat} {t : TypeId} {cs : Array Value} {o : Obj} (h : Blk W g t cs) (hD : W.heap[D]? = some o) (ho : o.isCells = false) (o' : Obj) : Blk (W.putObj D o') g t cs := by
  refine (World.putObj_heap_other ?_).trans h
  intro e
  subst e
  rw [show W.heap[g]? = _ from h] at hD
  cases hD
  cases ho
theorem loadVar_bool {w : World} {g : Nat} {b : Bool} (h : Boxed w g 4 (.bool b)) : (loadVar 4 ⟨g, 0, none⟩).run Tryd.prog w = .ok (.bool b) w := by
  have c0 := h.cell
  simp [go_sem, c0]
theorem results_at2 {f : Func} {tmps : Array Value} {w : World} {p q : Tmp} {g g' : Nat} {b : Bool} {v0 v1 v2 v3 v4 v5 : Value} (hres : f.results = #[.cell p 31, .cell q 4]) (hp : tmps.getD p undef = .pointer (some ⟨g, 0, none⟩)) (hq : tmps.getD q undef = .pointer (some ⟨g', 0, none⟩))
    (hB : Bx w g v0 v1 v2 v3 v4 v5) (hO : Boxed w g' 4 (.bool b)) : (results f tmps).run Tryd.prog w = .ok (.tuple #[.agg #[v0, v1, v2, v3, v4, v5], .bool b]) w := by
  have hp' : tmps[p]?.getD undef = .pointer (some ⟨g, 0, none⟩) := by simpa using hp
  have hq' : tmps[q]?.getD undef = .pointer (some ⟨g', 0, none⟩) := by simpa using hq
  simp only [results, hres]
  simp [hp', hq', asAddr, loadVar_six hB, loadVar_bool hO]
theorem ndo_zero (U : Nat → Prop) (w : World) : NdO U w T0 [.int .i64 0, .int .i64 0, .int .u64 0, .string ⟨#[]⟩, .slice none 0 0, .slice none 0 0] :=
  ⟨⟨by decide, by decide, by decide, by decide, by decide, by decide⟩, by decide, fun x hx => by simp at hx, _, _, [], rfl, ⟨⟨rfl, .inl ⟨rfl, rfl⟩⟩, fun g hg => by cases hg⟩, ⟨⟨rfl, .inl ⟨rfl, rfl⟩⟩, fun g hg => by cases hg⟩, rfl⟩
/-- What the nodes of a small tree have in common. -/
def QQ (t : T) : Prop := sz t ≤ 100000 ∧ sm 1000 1000 t
theorem QQ_sub (t : T) (h : QQ t) : ∀ c ∈ t.l, QQ c := by
  rcases t with ⟨k, n, u, s, ks, l⟩
  intro c hc
  obtain ⟨i, hi⟩ := List.getElem?_of_mem hc
  have h1 := sz_le_of (l := l) hi
  have h2 := h.1
  simp only [sz] at h2
  exact ⟨by omega, smL_mem h.2.2.2.2 c hc⟩

end Go.Proofs.YtnplkamkeadlgaaDoor
