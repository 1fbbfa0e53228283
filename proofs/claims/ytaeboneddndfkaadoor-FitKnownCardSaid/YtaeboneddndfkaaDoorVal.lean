/-
  What is proved here: how a list of values (three numbers each) lies in memory, rows of values that the call owns, appends to them, and when two values are equal; no condition but those that each fact states.
-/
import Derived.Test.YtaeboneddndfkaaDoorRows
import Derived.WalkKit
import Derived.WalkSpells
import Derived.WalkLawsBesides
import Derived.Lib.Hide
import Derived.Laws.OwnMore
import Derived.Laws.AppendOwnNone
import Derived.Laws.CopyOwn
import Derived.Below
import Derived.OwnWalk
import Derived.Deep.QuietTactic
import Derived.BigQuiet
import Derived.StillTailTactics
import Derived.Maps.AppendAt
import Derived.Laws.StructEq
import Derived.Deep.RegionHeld3
import Derived.Deep.DeepCutAuto
namespace Go.Proofs.YtaeboneddndfkaaDoor
open Go.RowKit

/-- A value of the stack: type, width, number. -/
structure V3 where
  t : Int
  w : Int
  n : Int
def V3.row (x : V3) : List Value := [.int .i64 x.t, .int .i64 x.w, .int .u64 x.n]
def pv (xs : List V3) : List Value := xs.flatMap V3.row
theorem pv_length (ps : List V3) : (pv ps).length = ps.length * 3 := by
  induction ps with
  | nil => rfl
  | cons s ps ih => simp only [pv, V3.row, List.flatMap_cons, List.length_append, List.length_cons, List.length_nil] at ih ⊢; omega
theorem pv_app (a b : List V3) : pv (a ++ b) = pv a ++ pv b := by simp [pv]
theorem pv_one (ps : List V3) : ∀ u ∈ pv ps, u.oneCell' = true := by
  intro u hu
  simp only [pv, V3.row, List.mem_flatMap] at hu
  obtain ⟨s, _, hs⟩ := hu
  simp only [List.mem_cons, List.not_mem_nil, or_false] at hs
  rcases hs with rfl | rfl | rfl <;> rfl
theorem pv_cons (x : V3) (ps : List V3) : pv (x :: ps) = .int .i64 x.t :: .int .i64 x.w :: .int .u64 x.n :: pv ps := by simp [pv, V3.row]
theorem pv_at : ∀ (ps : List V3) (j : Nat) (s : V3), ps[j]? = some s → (pv ps)[j * 3]? = some (.int .i64 s.t) ∧ (pv ps)[j * 3 + 1]? = some (.int .i64 s.w) ∧ (pv ps)[j * 3 + 2]? = some (.int .u64 s.n)
  | [], j, s, h => by simp at h
  | x :: ps, 0, s, h => by
    obtain rfl : x = s := by simpa using h
    simp [pv, V3.row]
  | x :: ps, j + 1, s, h => by
    have ih := pv_at ps j s (by simpa using h)
    rw [pv_cons, show (j + 1) * 3 = j * 3 + 1 + 1 + 1 by omega]
    simpa using ih
theorem pv_inv : ∀ (ys : List V3) (j : Nat) (u : Value), (pv ys)[j]? = some u → ∃ q r s, ys[q]? = some s ∧ j = q * 3 + r ∧ ((r = 0 ∧ u = .int .i64 s.t) ∨ (r = 1 ∧ u = .int .i64 s.w) ∨ (r = 2 ∧ u = .int .u64 s.n))
  | [], j, u, h => by simp [pv] at h
  | s :: ys, j, u, h => by
    rw [pv_cons] at h
    match j, h with
    | 0, h => exact ⟨0, 0, s, rfl, rfl, .inl ⟨rfl, by simpa using h.symm⟩⟩
    | 1, h => exact ⟨0, 1, s, rfl, rfl, .inr (.inl ⟨rfl, by simpa using h.symm⟩)⟩
    | 2, h => exact ⟨0, 2, s, rfl, rfl, .inr (.inr ⟨rfl, by simpa using h.symm⟩)⟩
    | j + 3, h =>
      obtain ⟨q, r, s', h1, h2, h3⟩ := pv_inv ys j u (by simpa using h)
      exact ⟨q + 1, r, s', by simpa using h1, by omega, h3⟩
theorem pv_take : ∀ (xs : List V3) (n : Nat), pv (xs.take n) = (pv xs).take (n * 3)
  | [], n => by simp [pv]
  | x :: xs, 0 => by simp [pv]
  | x :: xs, n + 1 => by
    rw [List.take_succ_cons, pv_cons, pv_cons, pv_take xs n, show (n + 1) * 3 = n * 3 + 1 + 1 + 1 by omega]
    simp

/-- The three cells of a value. -/
def At3 (w : World) (b o : Nat) (s : V3) : Prop := w.cell? ⟨b, o, none⟩ = some (.int .i64 s.t) ∧ w.cell? ⟨b, o + 1, none⟩ = some (.int .i64 s.w) ∧ w.cell? ⟨b, o + 2, none⟩ = some (.int .u64 s.n)
theorem At3.below {w w' : World} {B b o : Nat} {s : V3} (h : At3 w b o s) (hb : Below B w w') (hl : b < B) : At3 w' b o s :=
  ⟨(hb.cell (p := ⟨b, o, none⟩) hl).trans h.1, (hb.cell (p := ⟨b, o + 1, none⟩) hl).trans h.2.1, (hb.cell (p := ⟨b, o + 2, none⟩) hl).trans h.2.2⟩
/-- The slice (A, n, c) reads as the values xs. -/
def Rs (w : World) (A : Option Addr) (n c : Nat) (xs : List V3) : Prop :=
  xs.length = n ∧ n ≤ c ∧ c ≤ maxLen ∧ (0 < n → ∃ b off, A = some ⟨b, off, none⟩ ∧ b < w.heap.size ∧ ∀ j s, xs[j]? = some s → At3 w b (off + j * 3) s)
/-- A value reads as the values xs. -/
def Rd (w : World) (v : Value) (xs : List V3) : Prop := ∃ A n c, v = .slice A n c ∧ Rs w A n c xs
theorem Rs.below {w w' : World} {A : Option Addr} {n c : Nat} {xs : List V3} (h : Rs w A n c xs) (hb : Below w.heap.size w w') : Rs w' A n c xs := by
  refine ⟨h.1, h.2.1, h.2.2.1, fun hn => ?_⟩
  obtain ⟨b, off, rfl, hlt, hc⟩ := h.2.2.2 hn
  exact ⟨b, off, rfl, Nat.lt_of_lt_of_le hlt hb.size, fun j s hs => (hc j s hs).below hb hlt⟩
theorem Rd.below {w w' : World} {v : Value} {xs : List V3} (h : Rd w v xs) (hb : Below w.heap.size w w') : Rd w' v xs := by
  obtain ⟨A, n, c, rfl, hr⟩ := h
  exact ⟨A, n, c, rfl, hr.below hb⟩
theorem Rs.nil (w : World) (A : Option Addr) (c : Nat) (hc : c ≤ maxLen) : Rs w A 0 c [] := ⟨rfl, Nat.zero_le _, hc, fun h => absurd h (by omega)⟩
theorem Rd.nil (w : World) : Rd w (.slice none 0 0) [] := ⟨none, 0, 0, rfl, Rs.nil w _ _ (Nat.zero_le _)⟩
theorem Rs.rd {w : World} {A : Option Addr} {n c : Nat} {xs : List V3} (h : Rs w A n c xs) : Rd w (.slice A n c) xs := ⟨_, _, _, rfl, h⟩

/-- A row of the call's own. -/
abbrev OV (w : World) (B : Nat) (v : Value) (xs : List V3) : Prop := w.ownsRow B 24 3 v xs.length (pv xs)
theorem OV.rs {w : World} {B : Nat} {v : Value} {xs : List V3} (h : OV w B v xs) : ∃ A c, v = .slice A xs.length c ∧ Rs w A xs.length c xs := by
  rcases h.2 with ⟨rfl, h0⟩ | ⟨g, cap, cur, rfl, hb, hg, hnc, hcm, hcs, ht⟩
  · obtain rfl : xs = [] := List.eq_nil_of_length_eq_zero h0
    exact ⟨none, 0, rfl, Rs.nil w _ _ (Nat.zero_le _)⟩
  · refine ⟨_, cap, rfl, rfl, hnc, hcm, fun hn => ⟨g, 0, rfl, ?_, fun j s hs => ?_⟩⟩
    · rcases Nat.lt_or_ge g w.heap.size with hlt | hge
      · exact hlt
      · rw [Array.getElem?_eq_none hge] at hg; cases hg
    · have hj : j < xs.length := (List.getElem?_eq_some_iff.1 hs).1
      obtain ⟨h0, h1, h2⟩ := pv_at xs j s hs
      have c0 := h.cellAt (j * 3) (by omega)
      have c1 := h.cellAt (j * 3 + 1) (by omega)
      have c2 := h.cellAt (j * 3 + 2) (by omega)
      unfold At3
      rw [Nat.zero_add]
      exact ⟨c0.trans h0, c1.trans h1, c2.trans h2⟩
theorem OV.rd {w : World} {B : Nat} {v : Value} {xs : List V3} (h : OV w B v xs) : Rd w v xs := by
  obtain ⟨A, c, rfl, hr⟩ := h.rs
  exact hr.rd
theorem OV.nil (w : World) (B : Nat) : OV w B (.slice none 0 0) [] := World.ownsRow_nil _ _ _ _
/-- Kept where its block is kept. -/
theorem OV.keep {w w' : World} {B : Nat} {v : Value} {xs : List V3} (h : OV w B v xs) (hk : ∀ k, k < w.heap.size → v.ownBlock = some k → w'.heap[k]? = w.heap[k]?) : OV w' B v xs := by
  refine ⟨h.1, ?_⟩
  rcases h.2 with h0 | ⟨g, cap, cur, hv, hg, hh, r⟩
  · exact .inl h0
  · have hl : g < w.heap.size := (h.lt g (by rw [hv]; rfl)).2
    exact .inr ⟨g, cap, cur, hv, hg, (hk g hl (by rw [hv]; rfl)).trans hh, r⟩
theorem OV.below {w w' : World} {B : Nat} {v : Value} {xs : List V3} (h : OV w B v xs) (hb : Below w.heap.size w w') : OV w' B v xs := h.keep fun k hk _ => hb.block k hk
theorem OV.mono {w : World} {B B' : Nat} {v : Value} {xs : List V3} (h : OV w B v xs) (hB : B' ≤ B) : OV w B' v xs := by
  refine ⟨h.1, ?_⟩
  rcases h.2 with h0 | ⟨g, cap, cur, h1, h2, h3⟩
  · exact .inl h0
  · exact .inr ⟨g, cap, cur, h1, Nat.le_trans hB h2, h3⟩
theorem OV.bd {w : World} {B : Nat} {v : Value} {xs : List V3} (h : OV w B v xs) : ∀ k, v.ownBlock = some k → B ≤ k ∧ k < w.heap.size := fun k hk => h.lt k hk

/-- A slice expression x[lo:lo+m] of a readable slice. -/
theorem Rs.cut {w : World} {b off n c : Nat} {xs : List V3} (h : Rs w (some ⟨b, off, none⟩) n c xs) {lo m c' : Nat} (hm : lo + m ≤ n) (hc : m ≤ c') (hc' : c' ≤ maxLen) :
    Rs w (some ⟨b, off + lo * 3, none⟩) m c' ((xs.drop lo).take m) := by
  refine ⟨?_, hc, hc', fun hp => ?_⟩
  · rw [List.length_take, List.length_drop, h.1]; omega
  · obtain ⟨b', off', he, hlt, hcell⟩ := h.2.2.2 (by omega)
    simp only [Option.some.injEq, Addr.mk.injEq, and_true] at he
    obtain ⟨rfl, rfl⟩ := he
    refine ⟨_, _, rfl, hlt, fun j x hx => ?_⟩
    rw [List.getElem?_take] at hx
    split at hx
    · rw [List.getElem?_drop] at hx
      have := hcell _ _ hx
      rwa [show off + (lo + j) * 3 = off + lo * 3 + j * 3 by omega] at this
    · cases hx
/-- x[:m]. -/
theorem Rs.pre {w : World} {A : Option Addr} {n c : Nat} {xs : List V3} (h : Rs w A n c xs) {m : Nat} (hm : m ≤ n) : Rs w A m c (xs.take m) := by
  refine ⟨by rw [List.length_take, h.1]; omega, Nat.le_trans hm h.2.1, h.2.2.1, fun hp => ?_⟩
  obtain ⟨b, off, rfl, hlt, hc⟩ := h.2.2.2 (by omega)
  refine ⟨b, off, rfl, hlt, fun j x hx => hc j x ?_⟩
  rw [List.getElem?_take] at hx
  split at hx
  · exact hx
  · cases hx

theorem infoV : (Tryd.prog.info? 24).map (fun i => (i.zero, i.size, i.bytes)) = some (some (.agg #[.int .i64 0, .int .i64 0, .int .u64 0]), 3, 24) := by kernel_rfl
theorem run_app {w : World} {B n m c : Nat} {v : Value} {xs : List Value} {ys : List V3} {A : Option Addr} (ty : TypeId) (hown : w.ownsRow B 24 3 v n xs) (hr : Rs w A m c ys)
    (hb : n + m ≤ 4000000) (hbase : B ≤ w.heap.size) :
    ∃ v' w', (Builtin.append_ #[29, 29] ty #[v, .slice A m c]).run Tryd.prog w = .ok v' w' ∧ w'.ownsRow B 24 3 v' (n + m) (xs ++ pv ys) ∧ w.grownBy w' v.ownBlock ∧ (v'.ownBlock = v.ownBlock ∨ v'.ownBlock = some w.heap.size) := by
  obtain ⟨i, hi, hz0, hz1, hz2⟩ := info_parts infoV
  obtain ⟨h1, h2, h3, h5⟩ := hr
  rcases A with _ | ad
  · have hm : m = 0 := by
      rcases Nat.eq_zero_or_pos m with h0 | h0
      · exact h0
      · obtain ⟨b, off, he, _⟩ := h5 h0; cases he
    subst hm
    have hx : ys = [] := List.eq_nil_of_length_eq_zero h1
    subst hx
    refine ⟨v, w, ?_, by simpa [pv] using hown, World.grownBy.refl w _, .inl rfl⟩
    rcases hown.2 with ⟨rfl, rfl⟩ | ⟨g, cap, cur, rfl, _, _, hnc, _⟩
    · simp [Builtin.append_, run_underlying Tryd.underlying29, sizeOf, typeInfo, hi, Builtin.lenOf, Builtin.firstCells]
    · simp [Builtin.append_, run_underlying Tryd.underlying29, sizeOf, typeInfo, hi, Builtin.lenOf, Builtin.firstCells, hnc, storeCells]
  · obtain ⟨v', w', hrun, q1, q2, _, q4⟩ := run_append_own_at (P := Tryd.prog) w B 29 ty 24 i _ 3 24 Tryd.underlying29 hi hz0 hz1 hz2 rfl (by decide) v n xs hown ad m c (pv ys)
      (by rw [pv_length, h1]) (fun j u hj => by
        obtain ⟨q, r, s, hs, hjq, hu⟩ := pv_inv ys j u hj
        have hjl := (List.getElem?_eq_some_iff.1 hs).1
        obtain ⟨b, off, he, _, hc⟩ := h5 (by omega)
        cases he
        obtain ⟨c0, c1, c2⟩ := hc q s hs
        rw [show ((⟨b, off, none⟩ : Addr).add j) = ⟨b, off + j, none⟩ by unfold Addr.add; by_cases h : j = 0 <;> simp [h]]
        rcases hu with ⟨rfl, rfl⟩ | ⟨rfl, rfl⟩ | ⟨rfl, rfl⟩
        · rw [hjq]; exact c0
        · rw [hjq, ← Nat.add_assoc]; exact c1
        · rw [hjq, ← Nat.add_assoc]; exact c2) (pv_one ys) (by simp only [maxLen]; omega) (by omega) hbase
    exact ⟨v', w', hrun, q1, q2, q4⟩
/-- append to a row of one's own. -/
theorem wpList_app {ops : Array Oper} {rest : List Oper} {o : Oper} {a : Act} {Q : Exit → Act → World → Prop} {w : World} {B m c : Nat} {v : Value} {xs ys : List V3} {A : Option Addr}
    (hgd : o.guard = none) (s x : Operand) (ho : o.op = .call { callee := .builtin .append, args := #[s, x], argTypes := #[29, 29] })
    (hs : a.eval s = v) (hx : a.eval x = .slice A m c) (hown : OV w B v xs) (hr : Rs w A m c ys) (hb : xs.length + m ≤ 4000000) (hbase : B ≤ w.heap.size)
    (h : ∀ v' w', OV w' B v' (xs ++ ys) → w.grownBy w' v.ownBlock → (v'.ownBlock = v.ownBlock ∨ v'.ownBlock = some w.heap.size) → wpList Tryd.prog ops Q rest (a.put o.dst v') w') : wpList Tryd.prog ops Q (o :: rest) a w := by
  refine wpList_plain hgd fun K hK => ?_
  obtain ⟨v', w', hrun, h2, h3, h4⟩ := run_app o.type hown hr hb hbase
  have h2' : OV w' B v' (xs ++ ys) := by unfold OV; rw [List.length_append, pv_app, hr.1]; exact h2
  unfold Oper.wp execOp
  simp only [ho, resolve, invoke, builtin, Sem.run_bind, Sem.run_pure, Result.andThen_ok, List.map_toArray, List.map_cons, List.map_nil, hs, hx, hrun]
  exact hK _ _ (h v' w' h2' h3 h4)

/-! Equality of two values. -/
theorem valS : Tryd.prog.underlying 24 = some (.struct (Tryd.prog.fieldsOf 24)) := by kernel_rfl
theorem valH : Tryd.prog.stoodInHeld 24 = false := by kernel_rfl
theorem valG : Tryd.prog.eqGuardType Tryd.prog.depth 24 = false := by kernel_rfl
theorem neVal (w : World) (a b c d e f : Int) : (binOp .neq 24 (.agg #[.int .i64 a, .int .i64 b, .int .u64 c]) (.agg #[.int .i64 d, .int .i64 e, .int .u64 f])).run Tryd.prog w = .ok (.bool (!((a == d) && ((b == e) && (c == f))))) w := by
  have u3 := Tryd.underlying3
  have a3 := Tryd.isAgg3
  have z3 := Tryd.sizeOf3
  have u5 := Tryd.underlying22
  have a5 := Tryd.isAgg22
  have z5 := Tryd.sizeOf22
  rw [run_neq_struct, show (10000 : Nat) = 9999 + 1 from rfl, run_equalIn_agg w 9999 24 _ _ valS valH]
  simp only [Program.fieldsOf, Tryd.underlying24]
  go_simp
  by_cases h1 : a = d
  · by_cases h2 : b = e
    · by_cases h3 : c = f
      · simp [h1, h2, h3]
      · simp [h1, h2, h3]
    · simp [h1, h2]
  · simp [h1]
theorem val_eq {s r : V3} (h : s = r) : (!((s.t == r.t) && ((s.w == r.w) && (s.n == r.n)))) = false := by subst h; simp
theorem val_ne {s r : V3} (h : s ≠ r) : (!((s.t == r.t) && ((s.w == r.w) && (s.n == r.n)))) = true := by
  obtain ⟨k, a, b⟩ := s
  obtain ⟨k', a', b'⟩ := r
  by_cases h1 : k = k'
  · subst h1
    by_cases h2 : a = a'
    · subst h2
      have : b ≠ b' := by rintro rfl; exact h rfl
      simp [this]
    · simp [h2]
  · simp [h1]
end Go.Proofs.YtaeboneddndfkaaDoor
