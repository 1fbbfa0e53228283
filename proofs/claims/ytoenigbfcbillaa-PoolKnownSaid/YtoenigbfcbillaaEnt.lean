/-
  What is proved here: how a list of entries (a string and a number each) lies in memory in a row that the call owns, for the program's entries and for the reference's pairs; append of one, the copy of a part of a row onto itself; no condition but those that each fact states.
-/
import Derived.Test.YtoenigbfcbillaaOrd
import Derived.Test.YtoenigbfcbillaaShelf
import Derived.Deep.RegionLaw
namespace Go.Proofs.Ytoenigbfcbillaa
open Go.RowKit

/-- An entry: string, number. -/
structure E where
  k : ByteArray
  n : Int
def E.row (x : E) : List Value := [.string x.k, .int .i64 x.n]
def pv (xs : List E) : List Value := xs.flatMap E.row
theorem pv_length (ps : List E) : (pv ps).length = ps.length * 2 := by
  induction ps with
  | nil => rfl
  | cons s ps ih => simp only [pv, E.row, List.flatMap_cons, List.length_append, List.length_cons, List.length_nil] at ih ⊢; omega
theorem pv_app (a b : List E) : pv (a ++ b) = pv a ++ pv b := by simp [pv]
theorem pv_one (ps : List E) : ∀ u ∈ pv ps, u.oneCell' = true := by
  intro u hu
  simp only [pv, E.row, List.mem_flatMap] at hu
  obtain ⟨s, _, hs⟩ := hu
  simp only [List.mem_cons, List.not_mem_nil, or_false] at hs
  rcases hs with rfl | rfl <;> rfl
theorem pv_cons (x : E) (ps : List E) : pv (x :: ps) = .string x.k :: .int .i64 x.n :: pv ps := by simp [pv, E.row]
theorem pv_at : ∀ (ps : List E) (j : Nat) (s : E), ps[j]? = some s → (pv ps)[j * 2]? = some (.string s.k) ∧ (pv ps)[j * 2 + 1]? = some (.int .i64 s.n)
  | [], j, s, h => by simp at h
  | x :: ps, 0, s, h => by
    obtain rfl : x = s := by simpa using h
    simp [pv, E.row]
  | x :: ps, j + 1, s, h => by
    have ih := pv_at ps j s (by simpa using h)
    rw [pv_cons, show (j + 1) * 2 = j * 2 + 1 + 1 by omega]
    simpa using ih
theorem pv_take : ∀ (xs : List E) (n : Nat), pv (xs.take n) = (pv xs).take (n * 2)
  | [], n => by simp [pv]
  | x :: xs, 0 => by simp [pv]
  | x :: xs, n + 1 => by
    rw [List.take_succ_cons, pv_cons, pv_cons, pv_take xs n, show (n + 1) * 2 = n * 2 + 1 + 1 by omega]
    simp
theorem pv_drop : ∀ (xs : List E) (n : Nat), pv (xs.drop n) = (pv xs).drop (n * 2)
  | [], n => by simp [pv]
  | x :: xs, 0 => by simp [pv]
  | x :: xs, n + 1 => by
    rw [List.drop_succ_cons, pv_cons, pv_drop xs n, show (n + 1) * 2 = n * 2 + 1 + 1 by omega]
    simp

/-- The two types of entries: the program's, the reference's. -/
def te : Bool → TypeId | true => 68 | false => 61
def ts : Bool → TypeId | true => 53 | false => 37
/-- The two cells of an entry. -/
def At2 (w : World) (b o : Nat) (s : E) : Prop := w.cell? ⟨b, o, none⟩ = some (.string s.k) ∧ w.cell? ⟨b, o + 1, none⟩ = some (.int .i64 s.n)
/-- A row of the call's own. -/
abbrev OV (k : Bool) (w : World) (B : Nat) (v : Value) (xs : List E) : Prop := w.ownsRow B (te k) 2 v xs.length (pv xs)
section
variable {k : Bool} {w w' : World} {B : Nat} {v : Value} {xs : List E}
theorem OV.at (h : OV k w B v xs) : ∃ A c, v = .slice A xs.length c ∧ xs.length ≤ c ∧ c ≤ maxLen ∧ (A = none → xs = [] ∧ c = 0) ∧ (∀ a, A = some a → ∃ g, a = ⟨g, 0, none⟩ ∧ B ≤ g ∧ g < w.heap.size ∧ ∀ j s, xs[j]? = some s → At2 w g (j * 2) s) := by
  rcases h.2 with ⟨rfl, h0⟩ | ⟨g, cap, cur, rfl, hb, hg, hnc, hcm, hcs, ht⟩
  · have hx : xs = [] := List.eq_nil_of_length_eq_zero h0
    subst hx
    exact ⟨none, 0, rfl, Nat.le_refl _, Nat.zero_le _, fun _ => ⟨rfl, rfl⟩, fun a ha => by cases ha⟩
  · refine ⟨_, cap, rfl, hnc, hcm, (by intro h; cases h), fun a ha => ⟨g, (by injection ha with ha; exact ha.symm), hb, ?_, fun j s hs => ?_⟩⟩
    · rcases Nat.lt_or_ge g w.heap.size with hlt | hge
      · exact hlt
      · rw [Array.getElem?_eq_none hge] at hg; cases hg
    · have hj : j < xs.length := (List.getElem?_eq_some_iff.1 hs).1
      obtain ⟨h0, h1⟩ := pv_at xs j s hs
      exact ⟨(h.cellAt (j * 2) (by omega)).trans h0, (h.cellAt (j * 2 + 1) (by omega)).trans h1⟩
theorem OV.nil (k : Bool) (w : World) (B : Nat) : OV k w B (.slice none 0 0) [] := World.ownsRow_nil _ _ _ _
/-- Kept where its block is kept. -/
theorem own_keepB {n sz : Nat} {e : TypeId} {ys : List Value} (h : w.ownsRow B e sz v n ys) (hk : ∀ i, i < w.heap.size → v.ownBlock = some i → w'.heap[i]? = w.heap[i]?) : w'.ownsRow B e sz v n ys := by
  refine ⟨h.1, ?_⟩
  rcases h.2 with h0 | ⟨g, cap, cur, hv, hg, hh, r⟩
  · exact .inl h0
  · have hl : g < w.heap.size := (h.lt g (by rw [hv]; rfl)).2
    exact .inr ⟨g, cap, cur, hv, hg, (hk g hl (by rw [hv]; rfl)).trans hh, r⟩
theorem own_mono {n sz B' : Nat} {e : TypeId} {ys : List Value} (h : w.ownsRow B e sz v n ys) (hB : B' ≤ B) : w.ownsRow B' e sz v n ys := by
  refine ⟨h.1, ?_⟩
  rcases h.2 with h0 | ⟨g, cap, cur, h1, h2, h3⟩
  · exact .inl h0
  · exact .inr ⟨g, cap, cur, h1, Nat.le_trans hB h2, h3⟩
theorem OV.below (h : OV k w B v xs) (hb : Below w.heap.size w w') : OV k w' B v xs := own_keepB h fun i hi _ => hb.block i hi
end
theorem infoE (k : Bool) : (Try.prog.info? (te k)).map (fun i => (i.zero, i.size, i.bytes)) = some (some (.agg #[.string ⟨#[]⟩, .int .i64 0]), 2, 24) := by cases k <;> kernel_rfl
theorem undE (k : Bool) : Try.prog.underlying (ts k) = some (.slice (te k)) := by
  cases k
  · exact Try.underlying37
  · exact Try.underlying53
/-- One entry is appended. -/
theorem run_app1 {w : World} {B c : Nat} {k : Bool} {v : Value} {xs : List E} {x : E} {g : Nat} (ty : TypeId) (hown : OV k w B v xs) (hr : At2 w g 0 x)
    (hb : xs.length ≤ 100000) (hbase : B ≤ w.heap.size) :
    ∃ v' w', (Builtin.append_ #[ts k, ts k] ty #[v, .slice (some ⟨g, 0, none⟩) 1 c]).run Try.prog w = .ok v' w' ∧ OV k w' B v' (xs ++ [x]) ∧ w.grownBy w' v.ownBlock ∧ (v'.ownBlock = v.ownBlock ∨ v'.ownBlock = some w.heap.size) := by
  obtain ⟨i, hi, hz0, hz1, hz2⟩ := info_parts (infoE k)
  obtain ⟨v', w', hrun, q1, q2, _, q4⟩ := run_append_own_at (P := Try.prog) w B (ts k) ty (te k) i _ 2 24 (undE k) hi hz0 hz1 hz2 rfl (by decide) v xs.length (pv xs) hown ⟨g, 0, none⟩ 1 c (pv [x])
      (by rw [pv_length]; rfl) (fun j u hj => by
        match j, hj with
        | 0, hj => obtain rfl : Value.string x.k = u := by simpa [pv, E.row] using hj
                   simpa [Addr.add] using hr.1
        | 1, hj => obtain rfl : Value.int .i64 x.n = u := by simpa [pv, E.row] using hj
                   simpa [Addr.add] using hr.2
        | j + 2, hj => simp [pv, E.row] at hj) (pv_one [x]) (by simp only [maxLen]; omega) (by omega) hbase
  exact ⟨v', w', hrun, by unfold OV; rw [List.length_append, pv_app]; exact q1, q2, q4⟩
theorem wpList_app1 {ops : Array Oper} {rest : List Oper} {o : Oper} {a : Act} {Q : Exit → Act → World → Prop} {w : World} {B c g : Nat} {v : Value} {xs : List E} {x : E} (k : Bool)
    (hgd : o.guard = none) (s y : Operand) (ho : o.op = .call { callee := .builtin .append, args := #[s, y], argTypes := #[ts k, ts k] })
    (hs : a.eval s = v) (hx : a.eval y = .slice (some ⟨g, 0, none⟩) 1 c) (hown : OV k w B v xs) (hr : At2 w g 0 x) (hb : xs.length ≤ 100000) (hbase : B ≤ w.heap.size)
    (h : ∀ v' w', OV k w' B v' (xs ++ [x]) → w.grownBy w' v.ownBlock → (v'.ownBlock = v.ownBlock ∨ v'.ownBlock = some w.heap.size) → wpList Try.prog ops Q rest (a.put o.dst v') w') : wpList Try.prog ops Q (o :: rest) a w := by
  refine wpList_plain hgd fun K hK => ?_
  obtain ⟨v', w', hrun, h2, h3, h4⟩ := run_app1 o.type hown hr hb hbase
  unfold Oper.wp execOp
  simp only [ho, resolve, invoke, builtin, Sem.run_bind, Sem.run_pure, Result.andThen_ok, List.map_toArray, List.map_cons, List.map_nil, hs, hx]
  rw [hrun]
  exact hK _ _ (h v' w' h2 h3 h4)

/-- A part of a row is copied onto the row. -/
theorem run_copy2 {w : World} {g o sl sc dl dc : Nat} {so : Nat} (ty : TypeId) (cur : Array Value) (t : TypeId) (cs : List Value)
    (hg : w.heap[g]? = some (.cells cur t (0, 0))) (hn : cs.length = Nat.min sl dl * 2)
    (hsrc : ∀ j v, cs[j]? = some v → cur[so + j]? = some v) (hfit : o + cs.length ≤ cur.size) (h1 : ∀ v ∈ cs, v.oneCell' = true) :
    (Builtin.copy_ #[53, 53] ty #[.slice (some ⟨g, o, none⟩) dl dc, .slice (some ⟨g, so, none⟩) sl sc]).run Try.prog w =
      .ok (.int .i64 (Nat.min sl dl : Nat)) (w.setRow g (cur.toList.take o ++ cs ++ cur.toList.drop (o + cs.length)).toArray) := by
  have hl := run_loadCells_list (P := Try.prog) w ⟨g, so, none⟩ cs (fun j v hj => by
    rw [add_none, cell_of_row w g (so + j) cur t (0, 0) hg]; exact hsrc j v hj)
  have hst := run_storeCells_at Try.prog g o t cs 0 cur w hg (by simpa using hfit) h1
  obtain ⟨i, hq, _, hi, _⟩ := info_parts (infoE true)
  simp only [te] at hq
  have hl2 : (loadCells ⟨g, so, none⟩ (Nat.min sl dl * 2)).run Try.prog w = .ok cs.toArray w := by rw [← hn]; exact hl
  simp [Builtin.copy_, run_underlying Try.underlying53, Builtin.lenOf, Builtin.firstCells, sizeOf, typeInfo, hq, hi, hl2, hst, goInt]
end Go.Proofs.Ytoenigbfcbillaa
