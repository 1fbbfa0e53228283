/-
  What is proved here: the contract of package pool's insert; condition: the string is not in the pool.
-/
import Derived.Test.YtoenigbfcbillaaOps
namespace Go.Proofs.Ytoenigbfcbillaa
open Go.RowKit

theorem pv_set : ∀ (ys : List E) (j : Nat) (e : E), ((pv ys).set (j * 2) (.string e.k)).set (j * 2 + 1) (.int .i64 e.n) = pv (ys.set j e)
  | [], j, e => by simp [pv]
  | y :: ys, 0, e => by simp [pv, E.row]
  | y :: ys, j + 1, e => by
    rw [List.set_cons_succ, pv_cons, pv_cons, ← pv_set ys j e, show (j + 1) * 2 = j * 2 + 1 + 1 by omega]
    simp
/-- The row behind the copy. -/
def cpy (xs : List E) (z : E) (m : Nat) : List E := (xs ++ [z]).take (m + 1) ++ xs.drop m
theorem cpy_length {xs : List E} {z : E} {m : Nat} (h : m ≤ xs.length) : (cpy xs z m).length = xs.length + 1 := by
  unfold cpy
  rw [List.length_append, List.length_take, List.length_drop, List.length_append, List.length_singleton]; omega
theorem cpy_set {xs : List E} {z e : E} {m : Nat} (h : m ≤ xs.length) : (cpy xs z m).set m e = xs.take m ++ e :: xs.drop m := by
  have h1 : (xs ++ [z]).take (m + 1) = xs.take m ++ [(xs ++ [z])[m]'(by simp; omega)] := by
    rw [List.take_succ_eq_append_getElem (by simp; omega), List.take_append_of_le_length h]
  unfold cpy
  rw [h1, List.append_assoc, List.set_append_right _ _ (by simp; omega)]
  have : m - (xs.take m).length = 0 := by rw [List.length_take]; omega
  rw [this]; rfl
theorem copy_own {w : World} {B g c n m o dc sc : Nat} {xs : List E} {z : E} (ty : TypeId) (h : OV true w B (.slice (some ⟨g, 0, none⟩) (n + 1) c) (xs ++ [z])) (hn : n = xs.length) (hm : m ≤ n) (ho : o = (m + 1) * 2 ∨ (n = m ∧ o = 0)) :
    ∃ w' r, (Builtin.copy_ #[53, 53] ty #[.slice (some ⟨g, o, none⟩) (n - m) dc, .slice (some ⟨g, m * 2, none⟩) (n + 1 - m) sc]).run Try.prog w = .ok (.int .i64 r) w' ∧
      OV true w' B (.slice (some ⟨g, 0, none⟩) (n + 1) c) (cpy xs z m) ∧ w.grownBy w' (some g) := by
  subst hn
  obtain ⟨hlen, hr⟩ := h
  rcases hr with ⟨he, _⟩ | ⟨g', cap, cur, he, hgb, hh, h1, h2, h3, h4⟩
  · cases he
  · injection he with a1 a2 a3
    injection a1 with a1
    injection a1 with a1 _ _
    subst a1; subst a3
    simp only [List.length_append, List.length_singleton] at hlen h1 h3 h4
    have hmin : Nat.min (xs.length + 1 - m) (xs.length - m) = xs.length - m := by show min _ _ = _; omega
    have hcl : cur.toList.length = c * 2 := by simpa using h3
    have hcs : ((cur.toList.drop (m * 2)).take ((xs.length - m) * 2)).length = (xs.length - m) * 2 := by rw [List.length_take, List.length_drop]; omega
    have hone : ∀ u ∈ (cur.toList.drop (m * 2)).take ((xs.length - m) * 2), u.oneCell' = true := by
      intro u hu
      have e : (cur.toList.drop (m * 2)).take ((xs.length - m) * 2) = ((pv (xs ++ [z])).drop (m * 2)).take ((xs.length - m) * 2) := by
        rw [← h4, List.drop_take, List.take_take, Nat.min_eq_left (by omega)]
      rw [e] at hu
      exact pv_one _ u (List.mem_of_mem_drop (List.mem_of_mem_take hu))
    have hrun := run_copy2 (w := w) (sl := xs.length + 1 - m) (dl := xs.length - m) (dc := dc) (sc := sc) (so := m * 2) (o := o) ty cur _ _ hh (by rw [hmin]; exact hcs) (fun j v hj => by
      rw [List.getElem?_take] at hj
      split at hj
      · rw [List.getElem?_drop] at hj; simpa using hj
      · cases hj) (by rw [hcs]; omega) hone
    refine ⟨_, _, hrun, ⟨?_, .inr ⟨g, c, _, ?_, hgb, setRow_heap w g cur _ _ _ hh, ?_, h2, ?_, ?_⟩⟩, ⟨rfl, rfl, rfl, by simp [World.setRow], fun i hi hne => setRow_other w g i _ (by rintro rfl; exact hne rfl)⟩⟩
    · rw [pv_length]
    · rw [cpy_length hm]
    · rw [cpy_length hm]; exact h1
    · simp only [Array.size, List.length_append, List.length_take, List.length_drop]
      omega
    · rw [cpy_length hm]
      have hL : cur.toList.take ((xs.length + 1) * 2) = pv (xs ++ [z]) := h4
      have e2 : (cur.toList.drop (m * 2)).take ((xs.length - m) * 2) = pv (xs.drop m) := by
        have h5 : (cur.toList.drop (m * 2)).take ((xs.length - m) * 2) = ((pv (xs ++ [z])).drop (m * 2)).take ((xs.length - m) * 2) := by
          rw [← h4, List.drop_take, List.take_take, Nat.min_eq_left (by omega)]
        rw [h5, ← pv_drop, ← pv_take, List.drop_append_of_le_length hm, List.take_append_of_le_length (by rw [List.length_drop]; omega), List.take_of_length_le (by rw [List.length_drop]; omega)]
      by_cases h0 : xs.length = m
      · have e0 : xs.drop m = [] := by rw [List.drop_eq_nil_of_le (by omega)]
        rw [e2, e0]
        unfold cpy
        rw [e0]
        simp only [pv, List.flatMap_nil, List.append_nil, List.length_nil, Nat.add_zero, List.take_append_drop]
        rw [hL, List.take_of_length_le (by simp; omega)]
        rfl
      · have ho' : o = (m + 1) * 2 := by omega
        have e3 : cur.toList.take o = pv ((xs ++ [z]).take (m + 1)) := by
          rw [pv_take, ← hL, List.take_take, ho', Nat.min_eq_left (by omega)]
        rw [e2, e3]
        unfold cpy
        rw [pv_app, List.take_append_of_le_length (by simp only [List.length_append, pv_length, List.length_take, List.length_drop, List.length_singleton]; omega), List.take_of_length_le (by simp only [List.length_append, pv_length, List.length_take, List.length_drop, List.length_singleton]; omega)]
theorem step_copy {ops : Array Oper} {o : Oper} {a : Act} {w : World} {K : Act → World → Prop} {Q : Exit → Act → World → Prop} {G : Prop} {B g c n m q dl dc sl sc : Nat} {xs : List E} {z : E} (hgd : o.guard = none) (d s : Operand)
    (ho : o.op = .call { callee := .builtin .copy, args := #[d, s], argTypes := #[53, 53] }) (hd : a.eval d = .slice (some ⟨g, q, none⟩) dl dc) (hs : a.eval s = .slice (some ⟨g, m * 2, none⟩) sl sc) (hdl : dl = n - m) (hsl : sl = n + 1 - m)
    (h : OV true w B (.slice (some ⟨g, 0, none⟩) (n + 1) c) (xs ++ [z])) (hn : n = xs.length) (hm : m ≤ n) (hq : q = (m + 1) * 2 ∨ (n = m ∧ q = 0))
    (hk : ∀ r w', Hid (OV true w' B (.slice (some ⟨g, 0, none⟩) (n + 1) c) (cpy xs z m) ∧ w.grownBy w' (some g)) → K (a.put o.dst (.int .i64 r)) w') :
    if Region.wanted o (yielded ops a.tmps) = true then Oper.wp Try.prog o a w K Q else G := by
  have hw : Region.wanted o (yielded ops a.tmps) = true := by simp [Region.wanted, hgd]
  rw [if_pos hw]
  subst hdl; subst hsl
  obtain ⟨w', r, hrun, h2, h3⟩ := copy_own o.type h hn hm hq
  unfold Oper.wp execOp
  simp only [ho, resolve, invoke, builtin, Sem.run_bind, Sem.run_pure, Result.andThen_ok, List.map_toArray, List.map_cons, List.map_nil, hd, hs]
  rw [hrun]
  exact hk r w' (Lib.hid ⟨h2, h3⟩)
end Go.Proofs.Ytoenigbfcbillaa
