/-
  What is proved here: PoolOrder returns true and leaves all memory that was there as it was; condition: the arguments are ones that the form reads.
-/
import Derived.Test.YtoenigbfcbillaaTwoW
namespace Go.Proofs.Ytoenigbfcbillaa
open Go.RowKit

theorem sorted_ext : ∀ (a b : List ByteArray), (a.Pairwise fun x y => lt x y = true) → (b.Pairwise fun x y => lt x y = true) → (∀ s, s ∈ a ↔ s ∈ b) → a = b
  | [], [], _, _, _ => rfl
  | [], y :: b, _, _, h => by have := (h y).2 (List.mem_cons_self ..); cases this
  | x :: a, [], _, _, h => by have := (h x).1 (List.mem_cons_self ..); cases this
  | x :: a, y :: b, ha, hb, h => by
    obtain ⟨a1, a2⟩ := List.pairwise_cons.1 ha
    obtain ⟨b1, b2⟩ := List.pairwise_cons.1 hb
    have hxy : x = y := by
      rcases List.mem_cons.1 ((h x).1 (List.mem_cons_self ..)) with e | hx
      · exact e
      · rcases List.mem_cons.1 ((h y).2 (List.mem_cons_self ..)) with e | hy
        · exact e.symm
        · have := lt_trans (b1 x hx) (a1 y hy)
          rw [lt_irrefl] at this; cases this
    subst hxy
    have hna : x ∉ a := fun hm => by have := a1 x hm; rw [lt_irrefl] at this; cases this
    have hnb : x ∉ b := fun hm => by have := b1 x hm; rw [lt_irrefl] at this; cases this
    congr 1
    refine sorted_ext a b a2 b2 fun s => ⟨fun hs => ?_, fun hs => ?_⟩
    · rcases List.mem_cons.1 ((h s).1 (List.mem_cons_of_mem _ hs)) with rfl | h1
      · exact absurd hs hna
      · exact h1
    · rcases List.mem_cons.1 ((h s).2 (List.mem_cons_of_mem _ hs)) with rfl | h1
      · exact absurd hs hnb
      · exact h1
theorem shN_of {N : Nat} {s : ByteArray} (h : s.size ≤ N) : shN N s = s := by
  unfold shN
  rw [Nat.min_eq_left h]
  exact ByteArray.extract_zero_size
theorem cutN_of {M N : Nat} {l : List ByteArray} (h : l.length ≤ M) (hs : ∀ s ∈ l, s.size ≤ N) : cutN M N l = l := by
  unfold cutN
  rw [List.take_of_length_le h]
  conv => rhs; rw [← List.map_id l]
  exact List.map_congr_left fun s hm => shN_of (hs s hm)
theorem cutN_le {M N : Nat} {l : List ByteArray} {s : ByteArray} (h : s ∈ cutN M N l) : s.size ≤ N := by
  unfold cutN at h
  obtain ⟨x, _, rfl⟩ := List.mem_map.1 h
  exact shN_size N x
/-- A row of strings of the call's own, laid since the world w0. -/
def APS (w0 W : World) (v : Value) (xs : List ByteArray) : Prop := W.ownsRow w0.heap.size 9 1 v xs.length (xs.map Value.string) ∧ Below w0.heap.size w0 W
theorem APS.alloc {w0 W : World} {v : Value} {xs : List ByteArray} (h : APS w0 W v xs) (o : Obj) : APS w0 (W.alloc o) v xs := ⟨own_belN h.1 (al0 W o), h.2.alloc h.2.size o⟩
theorem APS.lit {w0 W : World} (h : Below w0.heap.size w0 W) : APS w0 (W.alloc (.cells #[] 9)) (.slice (some ⟨W.heap.size, 0, none⟩) 0 0) [] := by
  refine ⟨?_, h.alloc h.size _⟩
  have := World.ownsRow_lit (base := w0.heap.size) (e := 9) (size := 1) W #[] 0 h.size (by unfold maxLen; omega) rfl
  simpa using this
theorem APS.drew {w0 W : World} {v : Value} {xs : List ByteArray} (h : APS w0 W v xs) : APS w0 W.drew v xs := ⟨own_belN h.1 ((Below.refl _ W).drew), h.2.drew⟩
theorem RdS.cellsA {w : World} {A : Option Addr} {m c : Nat} {ys : List ByteArray} (h : RdS w (.slice A m c) ys) (hm : 0 < m) : ∃ a, A = some a ∧ ∀ j u, (ys.map Value.string)[j]? = some u → w.cell? (a.add j) = some u := by
  obtain ⟨A', n, c', hv, h1, h2, h3, h4, h5⟩ := h
  injection hv with a1 a2 a3
  subst a1; subst a2; subst a3
  obtain ⟨b, off, rfl, _, hc⟩ := h5 hm
  refine ⟨_, rfl, fun j u hu => ?_⟩
  rw [List.getElem?_map, Option.map_eq_some_iff] at hu
  obtain ⟨s, hs, rfl⟩ := hu
  rw [add_none]
  exact hc j s hs
theorem RdS.lenA {w : World} {A : Option Addr} {m c : Nat} {ys : List ByteArray} (h : RdS w (.slice A m c) ys) : ys.length = m := by
  obtain ⟨A', n, c', hv, h1, _⟩ := h
  injection hv with _ a2 _
  rw [h1, a2]
theorem step_aps {ops : Array Oper} {o : Oper} {a : Act} {w w0 : World} {K : Act → World → Prop} {Q : Exit → Act → World → Prop} {G : Prop} {m c : Nat} {v : Value} {xs ys : List ByteArray} {A : Option Addr}
    (hgd : o.guard = none) (s x : Operand) (ho : o.op = .call { callee := .builtin .append, args := #[s, x], argTypes := #[34, 34] })
    (hs : a.eval s = v) (hx : a.eval x = .slice A m c) (hap : APS w0 w v xs) (hr : RdS w (.slice A m c) ys) (hb : xs.length + m ≤ 1000)
    (h : ∀ v' w', Hid (APS w0 w' v' (xs ++ ys)) → K (a.put o.dst v') w') :
    if Region.wanted o (yielded ops a.tmps) = true then Oper.wp Try.prog o a w K Q else G := by
  have hw : Region.wanted o (yielded ops a.tmps) = true := by simp [Region.wanted, hgd]
  rw [if_pos hw]
  have hl := hr.lenA
  obtain ⟨i, hi, hz0, hz1, hz2⟩ := info_parts infoSN
  rcases Nat.eq_zero_or_pos m with hm0 | hm0
  · subst hm0
    obtain rfl : ys = [] := List.eq_nil_of_length_eq_zero hl
    have hrun : (Builtin.append_ #[34, 34] o.type #[v, .slice A 0 c]).run Try.prog w = .ok v w := by
      rcases hap.1.2 with ⟨rfl, h0⟩ | ⟨g, cap, cur, rfl, _, _, hnc, _⟩
      · rcases A with _ | ad <;> simp [Builtin.append_, run_underlying Try.underlying34, sizeOf, typeInfo, hi, Builtin.lenOf, Builtin.firstCells, loadCells, loadCellsFrom]
      · rcases A with _ | ad <;> simp [Builtin.append_, run_underlying Try.underlying34, sizeOf, typeInfo, hi, Builtin.lenOf, Builtin.firstCells, hnc, storeCells, loadCells, loadCellsFrom]
    unfold Oper.wp execOp
    simp only [ho, resolve, invoke, builtin, Sem.run_bind, Sem.run_pure, Result.andThen_ok, List.map_toArray, List.map_cons, List.map_nil, hs, hx]
    rw [hrun]
    exact h v w (Lib.hid (by rw [List.append_nil]; exact hap))
  · obtain ⟨ad, rfl, hcell⟩ := hr.cellsA hm0
    obtain ⟨v', w', hrun, h2, h3, _⟩ := run_append_own (P := Try.prog) w w0.heap.size 34 o.type 9 i (.string ⟨#[]⟩) 1 16 Try.underlying34 hi hz0 hz1 hz2 rfl (by decide) v xs.length (xs.map Value.string) hap.1 ad m c (ys.map Value.string)
      (by rw [List.length_map, hl]; omega) hcell (fun u hu => by obtain ⟨s, _, rfl⟩ := List.mem_map.1 hu; rfl) (by simp only [maxLen]; omega) (by omega) hap.2.size
    unfold Oper.wp execOp
    simp only [ho, resolve, invoke, builtin, Sem.run_bind, Sem.run_pure, Result.andThen_ok, List.map_toArray, List.map_cons, List.map_nil, hs, hx]
    rw [hrun]
    refine h v' w' (Lib.hid ⟨?_, hap.2.grown h3 hap.2.size (fun k hk => (hap.1.lt k hk).1)⟩)
    rw [List.length_append, hl, List.map_append]; exact h2
end Go.Proofs.Ytoenigbfcbillaa
