/-
  What is proved here: what one operation of a drawn region owes, apart from the frame it stands in: an empty node, a row of nodes, a row of strings, a call, a read; no condition but those that each fact states.
-/
import Derived.Test.YtlleknofnlmecaaDoorLit
import Derived.Test.YtlleknofnlmecaaDoorInv
namespace Go.Proofs.YtlleknofnlmecaaDoor
open Go Go.RowKit

section
variable {ops : Array Oper} {Q : Exit → Act → World → Prop} {i : Nat} {o : Oper} {K : Act → World → Prop} {b : Act} {w : World}
theorem stp_zero (hi : ops[i]? = some o) (hg : o.guard = none) (ho : o.op = .build 26 #[]) (h : K (b.put o.dst (.agg #[.int .i64 0, .int .i64 0, .int .u64 0, .string ⟨#[]⟩, .slice none 0 0, .slice none 0 0])) w) : wpOp Tryd.prog ops Q i K b w := by
  refine wpOp_of hi (by simp [Region.wanted, hg]) ?_
  unfold Oper.wp execOp
  simp only [ho]
  go_simp
  exact h
theorem stp_move (hi : ops[i]? = some o) (hg : o.guard = none) {x : Operand} (ho : o.op = .assign x) (h : K (b.put o.dst (b.eval x)) w) : wpOp Tryd.prog ops Q i K b w := by
  refine wpOp_of hi (by simp [Region.wanted, hg]) ?_
  unfold Oper.wp execOp
  simp only [ho]
  exact h
theorem stp_call {f : FuncId} (he : ∀ args w, (callFunc f args).run Tryd.prog w = .ok (.enter f args) w) (hi : ops[i]? = some o) (hg : o.guard = none) {xs : Array Operand} {ts : Array TypeId} (ho : o.op = .call { callee := .value (.func f), args := xs, argTypes := ts }) {args : Array Value} (ha : xs.map b.eval = args) {R : Ending → World → Prop} (hc : Calls Tryd.prog f args w R)
    (h : ∀ e w', R e w' → ∃ v, e = .returned v ∧ K (b.put o.dst v) w') : wpOp Tryd.prog ops Q i K b w := by
  refine wpOp_of hi (by simp [Region.wanted, hg]) ?_
  unfold Oper.wp execOp
  simp only [ho, resolve, Act.eval, invoke, Sem.run_bind]
  rw [ha]
  simp [Deferred.ofValue, go_sem, he]
  refine Calls.mono hc ?_
  intro e w' hR
  obtain ⟨v, rfl, hK⟩ := h e w' hR
  exact hK
theorem stp_load (hi : ops[i]? = some o) (hg : o.guard = none) {t : Tmp} (ho : o.op = .load 26 (.tmp t)) {g : Nat} {x0 x1 x2 x3 x4 x5 : Value} (hx : b.tmps[t]?.getD undef = .pointer (some ⟨g, 0, none⟩)) (hB : Bx w g x0 x1 x2 x3 x4 x5)
    (h : K (b.put o.dst (.agg #[x0, x1, x2, x3, x4, x5])) w) : wpOp Tryd.prog ops Q i K b w := by
  obtain ⟨c0, c1, c2, c3, c4, c5⟩ := hB.all
  refine wpOp_of hi (by simp [Region.wanted, hg]) ?_
  unfold Oper.wp execOp
  simp only [ho]
  go_simp
  exact h
theorem stp_two (hi : ops[i]? = some o) (hg : o.guard = none) {tx ty : Tmp} (ho : o.op = .buildSlice 24 2 #[(0, .tmp tx), (1, .tmp ty)]) {x0 x1 x2 x3 x4 x5 y0 y1 y2 y3 y4 y5 : Value} (hx : b.tmps[tx]?.getD undef = .agg #[x0, x1, x2, x3, x4, x5]) (hy : b.tmps[ty]?.getD undef = .agg #[y0, y1, y2, y3, y4, y5])
    (h : K (b.put o.dst (.slice (some ⟨w.heap.size, 0, none⟩) 2 2)) (w.alloc (.cells (x0 :: x1 :: x2 :: x3 :: x4 :: x5 :: y0 :: y1 :: y2 :: y3 :: y4 :: y5 :: []).toArray 26))) : wpOp Tryd.prog ops Q i K b w := by
  refine wpOp_of hi (by simp [Region.wanted, hg]) ?_
  unfold Oper.wp execOp
  simp only [ho]
  go_simp
  exact h
theorem stp_three (hi : ops[i]? = some o) (hg : o.guard = none) {tx ty tz : Tmp} (ho : o.op = .buildSlice 24 3 #[(0, .tmp tx), (1, .tmp ty), (2, .tmp tz)]) {x0 x1 x2 x3 x4 x5 y0 y1 y2 y3 y4 y5 z0 z1 z2 z3 z4 z5 : Value} (hx : b.tmps[tx]?.getD undef = .agg #[x0, x1, x2, x3, x4, x5]) (hy : b.tmps[ty]?.getD undef = .agg #[y0, y1, y2, y3, y4, y5]) (hz : b.tmps[tz]?.getD undef = .agg #[z0, z1, z2, z3, z4, z5])
    (h : K (b.put o.dst (.slice (some ⟨w.heap.size, 0, none⟩) 3 3)) (w.alloc (.cells (x0 :: x1 :: x2 :: x3 :: x4 :: x5 :: y0 :: y1 :: y2 :: y3 :: y4 :: y5 :: z0 :: z1 :: z2 :: z3 :: z4 :: z5 :: []).toArray 26))) : wpOp Tryd.prog ops Q i K b w := by
  refine wpOp_of hi (by simp [Region.wanted, hg]) ?_
  unfold Oper.wp execOp
  simp only [ho]
  go_simp
  exact h
theorem stp_seven (hi : ops[i]? = some o) (hg : o.guard = none) {tx ty tz ts tt tu tv : Tmp} (ho : o.op = .buildSlice 24 7 #[(0, .tmp tx), (1, .tmp ty), (2, .tmp tz), (3, .tmp ts), (4, .tmp tt), (5, .tmp tu), (6, .tmp tv)]) {x0 x1 x2 x3 x4 x5 y0 y1 y2 y3 y4 y5 z0 z1 z2 z3 z4 z5 s0 s1 s2 s3 s4 s5 t0 t1 t2 t3 t4 t5 u0 u1 u2 u3 u4 u5 v0 v1 v2 v3 v4 v5 : Value} (hx : b.tmps[tx]?.getD undef = .agg #[x0, x1, x2, x3, x4, x5]) (hy : b.tmps[ty]?.getD undef = .agg #[y0, y1, y2, y3, y4, y5]) (hz : b.tmps[tz]?.getD undef = .agg #[z0, z1, z2, z3, z4, z5]) (hs : b.tmps[ts]?.getD undef = .agg #[s0, s1, s2, s3, s4, s5]) (ht : b.tmps[tt]?.getD undef = .agg #[t0, t1, t2, t3, t4, t5]) (hu : b.tmps[tu]?.getD undef = .agg #[u0, u1, u2, u3, u4, u5]) (hv : b.tmps[tv]?.getD undef = .agg #[v0, v1, v2, v3, v4, v5])
    (h : K (b.put o.dst (.slice (some ⟨w.heap.size, 0, none⟩) 7 7)) (w.alloc (.cells (x0 :: x1 :: x2 :: x3 :: x4 :: x5 :: y0 :: y1 :: y2 :: y3 :: y4 :: y5 :: z0 :: z1 :: z2 :: z3 :: z4 :: z5 :: s0 :: s1 :: s2 :: s3 :: s4 :: s5 :: t0 :: t1 :: t2 :: t3 :: t4 :: t5 :: u0 :: u1 :: u2 :: u3 :: u4 :: u5 :: v0 :: v1 :: v2 :: v3 :: v4 :: v5 :: []).toArray 26))) : wpOp Tryd.prog ops Q i K b w := by
  refine wpOp_of hi (by simp [Region.wanted, hg]) ?_
  unfold Oper.wp execOp
  simp only [ho]
  go_simp
  exact h
theorem stp_keys2 (hi : ops[i]? = some o) (hg : o.guard = none) {x y : ByteArray} (ho : o.op = .buildSlice 23 2 #[(0, .const (.string x)), (1, .const (.string y))])
    (h : K (b.put o.dst (.slice (some ⟨w.heap.size, 0, none⟩) 2 2)) (w.alloc (.cells #[.string x, .string y] 9))) : wpOp Tryd.prog ops Q i K b w := by
  refine wpOp_of hi (by simp [Region.wanted, hg]) ?_
  unfold Oper.wp execOp
  simp only [ho]
  go_simp
  exact h
theorem stp_keys3 (hi : ops[i]? = some o) (hg : o.guard = none) {x y z : ByteArray} (ho : o.op = .buildSlice 23 3 #[(0, .const (.string x)), (1, .const (.string y)), (2, .const (.string z))])
    (h : K (b.put o.dst (.slice (some ⟨w.heap.size, 0, none⟩) 3 3)) (w.alloc (.cells #[.string x, .string y, .string z] 9))) : wpOp Tryd.prog ops Q i K b w := by
  refine wpOp_of hi (by simp [Region.wanted, hg]) ?_
  unfold Oper.wp execOp
  simp only [ho]
  go_simp
  exact h
end
/-! What holds of an operation's value: it is a node, a row of m nodes, a row of m strings. -/
inductive Kd where
  | n
  | r (m : Nat)
  | k (m : Nat)
def IsN (v : Value) (w : World) : Prop := ∃ k n u s A m c B p q, v = .agg #[.int .i64 k, .int .i64 n, .int .u64 u, .string s, .slice A m c, .slice B p q] ∧ NdE w [.int .i64 k, .int .i64 n, .int .u64 u, .string s, .slice A m c, .slice B p q]
def IsR (m : Nat) (v : Value) (w : World) : Prop := ∃ g, v = .slice (some ⟨g, 0, none⟩) m m ∧ RdN w (.slice (some ⟨g, 0, none⟩) m m) m
def IsK (m : Nat) (v : Value) (w : World) : Prop := ∃ g, v = .slice (some ⟨g, 0, none⟩) m m ∧ RdK w (.slice (some ⟨g, 0, none⟩) m m)
def RK (ks : List Kd) (j : Nat) (v : Value) (w : World) : Prop :=
  match ks[j]? with
  | some .n => IsN v w
  | some (.r m) => IsR m v w
  | some (.k m) => IsK m v w
  | none => True
theorem rk_keep {ks : List Kd} {w w' : World} (hb : Below w.heap.size w w') {j : Nat} {v : Value} (h : RK ks j v w) : RK ks j v w' := by
  unfold RK at h ⊢
  split
  · rename_i e; rw [e] at h; obtain ⟨k, n, u, s, A, m, c, B, p, q, rfl, hn⟩ := h; exact ⟨k, n, u, s, A, m, c, B, p, q, rfl, hn.below hb⟩
  · rename_i e; rw [e] at h; obtain ⟨g, rfl, hn⟩ := h; exact ⟨g, rfl, hn.below hb⟩
  · rename_i e; rw [e] at h; obtain ⟨g, rfl, hn⟩ := h; exact ⟨g, rfl, hn.below hb⟩
  · trivial
theorem dep {o : Oper} {F : Nat → Prop} (h : ∀ e ∈ o.after, Region.binds .any e = true → F e.on) (k : Nat) (hk : (o.after.any fun e => decide (e.on = k) && Region.binds .any e) = true) : F k := by
  obtain ⟨e, he, hb⟩ := Array.any_eq_true'.1 hk
  rw [Bool.and_eq_true, decide_eq_true_eq] at hb
  rw [← hb.1]
  exact h e he hb.2
theorem val_at {ds : List Tmp} {b : Act} {j t : Nat} {v : Value} (ht : ds.getD j 0 = t) (h : valOf ds b j = v) : b.tmps[t]?.getD undef = v := by
  subst ht
  rw [← h, valOf]
  simp
theorem lt_all {ds : List Tmp} {n : Nat} (h : ds.all (fun t => decide (t < n)) = true) : ∀ t ∈ ds, t < n := fun t ht => by simpa using List.all_eq_true.1 h t ht
theorem Fr.at {a b : Act} {ds : List Tmp} (h : Fr a ds b) {t : Tmp} {v : Value} (ht : ds.contains t = false) (ha : a.tmps.getD t undef = v) : b.tmps[t]?.getD undef = v := by
  have := h.2.2 t (by simpa using ht)
  rw [ha] at this
  rw [← this]; simp
theorem each_op {ops : Array Oper} {G : Nat → Oper → Prop} (h : AllOps (fun i o => ops[i]? = some o → G i o) 0 ops.toList) : ∀ (i : Nat) (o : Oper), ops[i]? = some o → G i o := fun _ _ hi => all_ops h hi hi
theorem isn_leaf (w : World) {k n u : Int} {s : ByteArray} (hr : Rng k n u) (hs : s.size ≤ maxLen) : IsN (.agg #[.int .i64 k, .int .i64 n, .int .u64 u, .string s, .slice none 0 0, .slice none 0 0]) w := ⟨_, _, _, _, _, _, _, _, _, _, rfl, nde_leaf w hr hs⟩
end Go.Proofs.YtlleknofnlmecaaDoor
