/-
  What is proved here: contracts of CopyTexts and CopyNode: an equal tree in memory of the call's own; conditions: at most 100000 nodes, 1000 keys a node.
-/
import Derived.Test.YtnplkamkeadlgaaDoorCutR
namespace Go.Proofs.YtnplkamkeadlgaaDoor
open Go.RowKit

theorem run_appS {w : World} {base n m c : Nat} {v : Value} {xs : List Value} {ys : List ByteArray} {A : Option Addr} (ty : TypeId) (hown : w.ownsRow base 9 1 v n xs) (hr : RdS w (.slice A m c) ys)
    (hb : n + m ≤ 65536) (hbase : base ≤ w.heap.size) :
    ∃ v' w', (Builtin.append_ #[22, 22] ty #[v, .slice A m c]).run Tryd.prog w = .ok v' w' ∧ w'.ownsRow base 9 1 v' (n + m) (xs ++ ys.map Value.string) ∧ w.grownBy w' v.ownBlock ∧ (v'.ownBlock = v.ownBlock ∨ v'.ownBlock = some w.heap.size) := by
  obtain ⟨i, hi, hz0, hz1, hz2⟩ := info_parts infoS
  obtain ⟨A', m', c', e, h1, h2, h3, h4, h5⟩ := hr
  injection e with e1 e2 e3
  subst e1 e2 e3
  rcases A with _ | ad
  · have hm : m = 0 := by
      rcases Nat.eq_zero_or_pos m with h0 | h0
      · exact h0
      · obtain ⟨b, off, he, _⟩ := h5 h0; cases he
    subst hm
    have hx : ys = [] := List.eq_nil_of_length_eq_zero h1
    subst hx
    refine ⟨v, w, ?_, by simpa using hown, World.grownBy.refl w _, .inl rfl⟩
    rcases hown.2 with ⟨rfl, rfl⟩ | ⟨g, cap, cur, rfl, _, _, hnc, _⟩
    · simp [Builtin.append_, run_underlying Tryd.underlying22, sizeOf, typeInfo, hi, Builtin.lenOf, Builtin.firstCells]
    · simp [Builtin.append_, run_underlying Tryd.underlying22, sizeOf, typeInfo, hi, Builtin.lenOf, Builtin.firstCells, hnc, storeCells]
  · obtain ⟨v', w', hrun, q1, q2, _, q4⟩ := run_append_own_at (P := Tryd.prog) w base 22 ty 9 i (.string ⟨#[]⟩) 1 16 Tryd.underlying22 hi hz0 hz1 hz2 rfl (by decide) v n xs hown ad m c (ys.map Value.string)
      (by rw [List.length_map, h1]; omega) (fun j u hj => by
        rw [List.getElem?_map] at hj
        obtain ⟨s, hs, rfl⟩ := Option.map_eq_some_iff.1 hj
        have hjl := (List.getElem?_eq_some_iff.1 hs).1
        obtain ⟨b, off, he, _, hc⟩ := h5 (by omega)
        cases he
        rw [show ((⟨b, off, none⟩ : Addr).add j) = ⟨b, off + j, none⟩ by unfold Addr.add; by_cases h : j = 0 <;> simp [h]]
        exact hc j s hs) (fun u hu => by obtain ⟨s, _, rfl⟩ := List.mem_map.1 hu; rfl) (by simp only [maxLen]; omega) (by omega) hbase
    exact ⟨v', w', hrun, q1, q2, q4⟩
theorem wpList_appS {ops : Array Oper} {rest : List Oper} {o : Oper} {a : Act} {Q : Exit → Act → World → Prop} {w : World} {base n m c : Nat} {v : Value} {xs : List Value} {ys : List ByteArray} {A : Option Addr}
    (hgd : o.guard = none) (s x : Operand) (ho : o.op = .call { callee := .builtin .append, args := #[s, x], argTypes := #[22, 22] })
    (hs : a.eval s = v) (hx : a.eval x = .slice A m c) (hown : w.ownsRow base 9 1 v n xs) (hr : RdS w (.slice A m c) ys) (hb : n + m ≤ 65536) (hbase : base ≤ w.heap.size)
    (h : ∀ v' w', w'.ownsRow base 9 1 v' (n + m) (xs ++ ys.map Value.string) → w.grownBy w' v.ownBlock → (v'.ownBlock = v.ownBlock ∨ v'.ownBlock = some w.heap.size) → wpList Tryd.prog ops Q rest (a.put o.dst v') w') : wpList Tryd.prog ops Q (o :: rest) a w := by
  refine wpList_plain hgd fun K hK => ?_
  obtain ⟨v', w', hrun, h2, h3, h4⟩ := run_appS o.type hown hr hb hbase
  unfold Oper.wp execOp
  simp only [ho, resolve, invoke, builtin, Sem.run_bind, Sem.run_pure, Result.andThen_ok, List.map_toArray, List.map_cons, List.map_nil, hs, hx, hrun]
  exact hK _ _ (h v' w' h2 h3 h4)

theorem copyTexts_any (ks : List ByteArray) (kv : Value) (w : World) (h : RdS w kv ks) (hl : ks.length ≤ 60000) :
    Calls Tryd.prog 62 #[kv] w fun e w' => (∃ v', e = .returned v' ∧ Ow (fun b => w.heap.size ≤ b) w' 9 1 v' ks.length (ks.map Value.string)) ∧ Below w.heap.size w w' := by
  obtain ⟨A, n, c, rfl, hn, hrest⟩ := id h
  have hl' : 0 + n ≤ 65536 := by omega
  go_enter Tryd.func62, Tryd.ntmps62
  go_wp2_with (at_builtin; refine wpList_appS (base := w.heap.size) (n := 0) (xs := []) (v := .slice none 0 0) rfl (.tmp 4) (.tmp 5) rfl rfl rfl (World.ownsRow_nil _ _ _ _) h hl' (Nat.le_refl _) ?_; intro v1 w1 hown1 hg1 hl1)
  go_ret
  refine ⟨⟨v1, rfl, ?_⟩, (Below.refl _ _).grown hg1 (Nat.le_refl _) (by simp [Value.ownBlock])⟩
  rw [hn]
  exact Ow.of (by simpa using hown1)
end Go.Proofs.YtnplkamkeadlgaaDoor
