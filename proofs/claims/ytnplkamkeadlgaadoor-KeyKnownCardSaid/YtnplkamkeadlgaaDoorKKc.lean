/-
  What is proved here: nodes and rows of nodes that a law lays down by literals, as values that read as some node or some list of nodes; no condition but those that each fact states; and: a region that draws its order of evaluation, by what holds of each operation's value: an operation that may come up finds what holds of the values that it waits for, and shows what holds of its own; so each operation is looked at once, whatever the orders; no condition but those that each fact states; and: what one operation of a drawn region owes, apart from the frame it stands in: an empty node, a row of nodes, a row of strings, a call, a read; no condition but those that each fact states; and: what one operation of a drawn region owes, apart from the frame it stands in: a string of a row, a part of a row of strings, an append of such a part to a row of the call's own, the least and the greatest of two numbers; no condition but those that each fact states; and: KeyKnown returns true and leaves all memory that was there as it was; conditions: its calls do so (known7_core).
-/
import Derived.Test.YtnplkamkeadlgaaDoorMake
import Derived.Orders
import Derived.Test.YtnplkamkeadlgaaDoorExB
import Derived.Deep.DeepCutAuto
import Derived.Deep.CutBlock
import Derived.Deep.RegionHeld3
namespace Go.Proofs.YtnplkamkeadlgaaDoor
open Go.RowKit

/-- Six cells that read as some node. -/
def NdE (W : World) (cs : List Value) : Prop := ∃ t, Nd W t cs
/-- A value that reads as some list of m nodes. -/
def RdN (W : World) (v : Value) (m : Nat) : Prop := ∃ l A c, v = .slice A m c ∧ l.length = m ∧ m ≤ c ∧ c ≤ maxLen ∧ (0 < m → ∃ b off, A = some ⟨b, off, none⟩ ∧ b < W.heap.size ∧ NdL W b l off)
/-- A value that reads as some list of strings. -/
def RdK (W : World) (v : Value) : Prop := ∃ ks, RdS W v ks
theorem NdE.below {W W' : World} {cs : List Value} (h : NdE W cs) (hb : Below W.heap.size W W') : NdE W' cs := by
  obtain ⟨t, ht⟩ := h; exact ⟨t, ht.below hb⟩
theorem RdN.below {W W' : World} {v : Value} {m : Nat} (h : RdN W v m) (hb : Below W.heap.size W W') : RdN W' v m := by
  obtain ⟨l, A, c, e, h1, h2, h3, h4⟩ := h
  refine ⟨l, A, c, e, h1, h2, h3, fun hm => ?_⟩
  obtain ⟨b, off, e2, hlt, hl⟩ := h4 hm
  exact ⟨b, off, e2, Nat.lt_of_lt_of_le hlt hb.size, hl.below hb hlt⟩
theorem RdK.below {W W' : World} {v : Value} (h : RdK W v) (hb : Below W.heap.size W W') : RdK W' v := by
  obtain ⟨ks, hk⟩ := h; exact ⟨ks, hk.below hb⟩
theorem rdn_nil (W : World) : RdN W (.slice none 0 0) 0 := ⟨[], none, 0, rfl, rfl, Nat.le_refl _, Nat.zero_le _, fun h => absurd h (by omega)⟩
theorem rdk_nil (W : World) : RdK W (.slice none 0 0) := ⟨[], rds_nil W⟩
theorem nde_mk {W : World} {k n u : Int} {s : ByteArray} {kv lv : Value} {m : Nat} (hr : Rng k n u) (hs : s.size ≤ maxLen) (hk : RdK W kv) (hl : RdN W lv m) : NdE W [.int .i64 k, .int .i64 n, .int .u64 u, .string s, kv, lv] := by
  obtain ⟨ks, hks⟩ := hk
  obtain ⟨l, A, c, rfl, h1, h2, h3, h4⟩ := hl
  exact ⟨.mk k n u s ks l, hr, hs, kv, A, m, c, rfl, hks, h1, h2, h3, h4⟩
theorem nde_leaf (W : World) {k n u : Int} {s : ByteArray} (hr : Rng k n u) (hs : s.size ≤ maxLen) : NdE W [.int .i64 k, .int .i64 n, .int .u64 u, .string s, .slice none 0 0, .slice none 0 0] := nde_mk hr hs (rdk_nil W) (rdn_nil W)
theorem ndl_any {W : World} {g : Nat} : ∀ (L : List (List Value)) (off : Nat), (∀ i c, L.flatten[i]? = some c → W.cell? ⟨g, off + i, none⟩ = some c) → (∀ x ∈ L, NdE W x) → ∃ l, l.length = L.length ∧ NdL W g l off
  | [], _, _, _ => ⟨[], rfl, trivial⟩
  | x :: L, off, hc, hx => by
    obtain ⟨t, ht⟩ := hx x (by simp)
    have h6 : x.length = 6 := by
      rcases t with ⟨kk, nn, uu, s, ks, l'⟩
      obtain ⟨_, _, kv, A, m, c, rfl, _⟩ := ht
      rfl
    obtain ⟨l, h1, h2⟩ := ndl_any L (off + 6) (fun i c h => by
      have := hc (6 + i) c (by rw [List.flatten_cons, List.getElem?_append_right (by omega), h6, Nat.add_sub_cancel_left]; exact h)
      rw [show off + 6 + i = off + (6 + i) by omega]; exact this) (fun y hy => hx y (by simp [hy]))
    refine ⟨t :: l, by simp [h1], ⟨x, fun i hi => ?_, ht⟩, h2⟩
    obtain ⟨c, hxc⟩ : ∃ c, x[i]? = some c := ⟨_, List.getElem?_eq_getElem (by omega)⟩
    rw [hxc]
    exact hc i c (by rw [List.flatten_cons, List.getElem?_append_left (by omega)]; exact hxc)
/-- A row of nodes that was laid as a literal. -/
theorem rdn_lit {W : World} {g : Nat} {cs : Array Value} (L : List (List Value)) {m : Nat} (hB : Blk W g 31 cs) (hc : cs = L.flatten.toArray) (hm : L.length = m) (hx : ∀ x ∈ L, NdE W x) (hl : m ≤ maxLen) : RdN W (.slice (some ⟨g, 0, none⟩) m m) m := by
  obtain ⟨l, h1, h2⟩ := ndl_any (W := W) (g := g) L 0 (fun i c h => by rw [Nat.zero_add, Blk.cell hB, hc]; simpa using h) hx
  exact ⟨l, _, m, rfl, by rw [h1, hm], Nat.le_refl _, hl, fun _ => ⟨g, 0, rfl, hB.lt, h2⟩⟩
/-- A row of strings that was laid as a literal. -/
theorem rdk_lit {W : World} {g : Nat} {cs : Array Value} (ks : List ByteArray) {m : Nat} (hB : Blk W g 9 cs) (hc : cs = (ks.map Value.string).toArray) (hm : ks.length = m) (hs : ∀ s ∈ ks, s.size ≤ maxLen) (hl : m ≤ maxLen) : RdK W (.slice (some ⟨g, 0, none⟩) m m) :=
  ⟨ks, _, m, m, rfl, hm, Nat.le_refl _, hl, hs, fun _ => ⟨g, 0, rfl, hB.lt, fun j s h => by rw [Nat.zero_add, Blk.cell hB, hc]; simp [h]⟩⟩
/-- The six cells of one node of such a list. -/
theorem RdN.six {W : World} {v : Value} {m : Nat} (h : RdN W v m) {j : Nat} (hj : j < m) : ∃ b off c k n u s A1 m1 c1 A2 m2 c2, v = .slice (some ⟨b, off, none⟩) m c ∧ m ≤ c ∧ c ≤ maxLen ∧ b < W.heap.size ∧ W.cell? ⟨b, off + j * 6, none⟩ = some (.int .i64 k) ∧ W.cell? ⟨b, off + j * 6 + 1, none⟩ = some (.int .i64 n) ∧ W.cell? ⟨b, off + j * 6 + 2, none⟩ = some (.int .u64 u) ∧ W.cell? ⟨b, off + j * 6 + 3, none⟩ = some (.string s) ∧
    W.cell? ⟨b, off + j * 6 + 4, none⟩ = some (.slice A1 m1 c1) ∧ W.cell? ⟨b, off + j * 6 + 5, none⟩ = some (.slice A2 m2 c2) ∧ NdE W [.int .i64 k, .int .i64 n, .int .u64 u, .string s, .slice A1 m1 c1, .slice A2 m2 c2] := by
  obtain ⟨l, A, c, rfl, h1, h2, h3, h4⟩ := h
  obtain ⟨b, off, rfl, hlt, hl⟩ := h4 (by omega)
  obtain ⟨t, ht⟩ : ∃ t, l[j]? = some t := ⟨_, List.getElem?_eq_getElem (by omega)⟩
  obtain ⟨v0, v1, v2, v3, v4, v5, d0, d1, d2, d3, d4, d5, hn⟩ := hl.six (Below.refl _ _) hlt ht
  obtain ⟨k0, i0, n0, s0, A1, m1, c1, A2, m2, c2, rfl, rfl, rfl, rfl, rfl, rfl⟩ := hn.shape6
  exact ⟨b, off, c, k0, i0, n0, s0, A1, m1, c1, A2, m2, c2, rfl, h2, h3, hlt, d0, d1, d2, d3, d4, d5, t, hn⟩
/-- The same, where the list's place is known. -/
theorem RdN.six_at {W : World} {g m c : Nat} (h : RdN W (.slice (some ⟨g, 0, none⟩) m c) m) {j : Nat} (hj : j < m) : ∃ k n u s A1 m1 c1 A2 m2 c2, W.cell? ⟨g, j * 6, none⟩ = some (.int .i64 k) ∧ W.cell? ⟨g, j * 6 + 1, none⟩ = some (.int .i64 n) ∧ W.cell? ⟨g, j * 6 + 2, none⟩ = some (.int .u64 u) ∧ W.cell? ⟨g, j * 6 + 3, none⟩ = some (.string s) ∧
    W.cell? ⟨g, j * 6 + 4, none⟩ = some (.slice A1 m1 c1) ∧ W.cell? ⟨g, j * 6 + 5, none⟩ = some (.slice A2 m2 c2) ∧ NdE W [.int .i64 k, .int .i64 n, .int .u64 u, .string s, .slice A1 m1 c1, .slice A2 m2 c2] := by
  obtain ⟨b, off, c', k, n, u, s, A1, m1, c1, A2, m2, c2, e, _, _, _, d0, d1, d2, d3, d4, d5, hn⟩ := h.six hj
  injection e with e1 e2 e3
  injection e1 with e1
  injection e1 with e4 e5 _
  subst e4 e5
  rw [Nat.zero_add] at d0 d1 d2 d3 d4 d5
  exact ⟨k, n, u, s, A1, m1, c1, A2, m2, c2, d0, d1, d2, d3, d4, d5, hn⟩
/-- The block of a list whose place is known lies in memory. -/
theorem RdN.lt {W : World} {g m c : Nat} (h : RdN W (.slice (some ⟨g, 0, none⟩) m c) m) (hm : 0 < m) : g < W.heap.size := by
  obtain ⟨b, off, c', k, n, u, s, A1, m1, c1, A2, m2, c2, e, _, _, hl, _⟩ := h.six hm
  injection e with e1 e2 e3
  injection e1 with e1
  injection e1 with e4 e5 _
  subst e4
  exact hl
/-- What a law's read of such a list's node gives, in every later world. -/
theorem RdN.held {W : World} {g m c : Nat} (h : RdN W (.slice (some ⟨g, 0, none⟩) m c) m) {j : Nat} (hj : j < m) : ∃ k n u s A1 m1 c1 A2 m2 c2, ∀ X, Below W.heap.size W X → (X.cell? ⟨g, j * 6, none⟩ = some (.int .i64 k) ∧ X.cell? ⟨g, j * 6 + 1, none⟩ = some (.int .i64 n) ∧ X.cell? ⟨g, j * 6 + 2, none⟩ = some (.int .u64 u) ∧ X.cell? ⟨g, j * 6 + 3, none⟩ = some (.string s) ∧
    X.cell? ⟨g, j * 6 + 4, none⟩ = some (.slice A1 m1 c1) ∧ X.cell? ⟨g, j * 6 + 5, none⟩ = some (.slice A2 m2 c2) ∧ NdE X [.int .i64 k, .int .i64 n, .int .u64 u, .string s, .slice A1 m1 c1, .slice A2 m2 c2]) := by
  have hl := h.lt (by omega)
  obtain ⟨k, n, u, s, A1, m1, c1, A2, m2, c2, d0, d1, d2, d3, d4, d5, hn⟩ := h.six_at hj
  exact ⟨k, n, u, s, A1, m1, c1, A2, m2, c2, fun X hb => ⟨(hb.cell (p := ⟨g, _, none⟩) hl).trans d0, (hb.cell (p := ⟨g, _, none⟩) hl).trans d1, (hb.cell (p := ⟨g, _, none⟩) hl).trans d2, (hb.cell (p := ⟨g, _, none⟩) hl).trans d3, (hb.cell (p := ⟨g, _, none⟩) hl).trans d4, (hb.cell (p := ⟨g, _, none⟩) hl).trans d5, hn.below hb⟩⟩
theorem nde_zero (W : World) : NdE W [.int .i64 0, .int .i64 0, .int .u64 0, .string ⟨#[]⟩, .slice none 0 0, .slice none 0 0] := nde_leaf W ⟨by decide, by decide, by decide, by decide, by decide, by decide⟩ (by decide)
/-- A vector of two nodes that a call was handed. -/
theorem two_vec {x2 x3 : World} {a0 a1 a2 a3 a4 a5 b0 b1 b2 b3 b4 b5 : Value} (ha : NdE x2 [a0, a1, a2, a3, a4, a5]) (hb : NdE x2 [b0, b1, b2, b3, b4, b5]) (h : Below (x2.alloc (.cells #[a0, a1, a2, a3, a4, a5, b0, b1, b2, b3, b4, b5] 31)).heap.size (x2.alloc (.cells #[a0, a1, a2, a3, a4, a5, b0, b1, b2, b3, b4, b5] 31)) x3) :
    NdE x3 [.int .i64 10, .int .i64 0, .int .u64 0, .string ⟨#[]⟩, .slice none 0 0, .slice (some ⟨x2.heap.size, 0, none⟩) 2 2] ∧ Below x2.heap.size x2 x3 := by
  have ha0 : Below x2.heap.size x2 (x2.alloc (.cells #[a0, a1, a2, a3, a4, a5, b0, b1, b2, b3, b4, b5] 31)) := (Below.refl _ _).alloc (Nat.le_refl _) _
  refine ⟨nde_mk ⟨by decide, by decide, by decide, by decide, by decide, by decide⟩ (by decide) (rdk_nil _) ((rdn_lit (m := 2) [[a0, a1, a2, a3, a4, a5], [b0, b1, b2, b3, b4, b5]] (Blk.new x2 _ _) rfl rfl ?_ (by decide)).below h), ha0.trans (h.mono ha0.size)⟩
  intro x hx
  simp only [List.mem_cons, List.not_mem_nil, or_false] at hx
  rcases hx with rfl | rfl
  · exact ha.below ha0
  · exact hb.below ha0
/-- A row of the call's own, of nodes that are known one by one. -/
theorem rdn_own {W : World} {base n : Nat} {v : Value} {xs : List Value} (L : List (List Value)) (h : W.ownsRow base 31 6 v n xs) (hx : xs = L.flatten) (hl : L.length = n) (hL : ∀ x ∈ L, NdE W x) : RdN W v n := by
  obtain ⟨A, c, rfl, h1, h2, h3⟩ := (Ow.of h).cells
  rcases Nat.eq_zero_or_pos n with h0 | h0
  · subst h0
    exact ⟨[], A, c, rfl, rfl, h1, h2, fun h => absurd h (by omega)⟩
  · obtain ⟨g, rfl, hg, -, hc⟩ := h3 h0
    have h6 : ∀ L : List (List Value), (∀ x ∈ L, NdE W x) → L.flatten.length = L.length * 6 := by
      intro L
      induction L with
      | nil => intro _; rfl
      | cons x L ih =>
        intro hL
        obtain ⟨t, ht⟩ := hL x (by simp)
        have h6 : x.length = 6 := by
          rcases t with ⟨kk, nn, uu, s, ks, l'⟩
          obtain ⟨_, _, kv, A, m, c, rfl, _⟩ := ht
          rfl
        rw [List.flatten_cons, List.length_append, h6, ih fun y hy => hL y (by simp [hy])]
        simp
        omega
    have hlen := h6 L hL
    obtain ⟨l, h4, h5⟩ := ndl_any (W := W) (g := g) L 0 (fun i u hi => by
      have hi2 : i < L.flatten.length := (List.getElem?_eq_some_iff.1 hi).1
      rw [Nat.zero_add, hc i (by omega), hx]; exact hi) hL
    exact ⟨l, _, c, rfl, by omega, h1, h2, fun _ => ⟨g, 0, rfl, hg, h5⟩⟩
theorem infoL : (Tryd.prog.info? 31).map (fun i => (i.zero, i.size, i.bytes)) = some (some (.agg #[.int .i64 0, .int .i64 0, .int .u64 0, .string ⟨#[]⟩, .slice none 0 0, .slice none 0 0]), 6, 88) := by kernel_rfl
/-- append of one node that has just been laid down onto a row of the call's own. -/
theorem wpList_kid {ops : Array Oper} {rest : List Oper} {o : Oper} {a : Act} {Q : Exit → Act → World → Prop} {W : World} {base n g : Nat} {v : Value} {xs : List Value} {c0 c1 c2 c3 c4 c5 : Value}
    (hw : Region.wanted o (yielded ops a.tmps) = true) (s x : Operand) (ho : o.op = .call { callee := .builtin .append, args := #[s, x], argTypes := #[29, 29] })
    (hs : a.eval s = v) (hx : a.eval x = .slice (some ⟨g, 0, none⟩) 1 1) (hown : W.ownsRow base 31 6 v n xs) (hB : Blk W g 31 #[c0, c1, c2, c3, c4, c5]) (hone : ∀ u ∈ [c0, c1, c2, c3, c4, c5], u.oneCell' = true) (hb : n + 1 ≤ 65536) (hbase : base ≤ W.heap.size)
    (h : ∀ v' w', w'.ownsRow base 31 6 v' (n + 1) (xs ++ [c0, c1, c2, c3, c4, c5]) → W.grownBy w' v.ownBlock → wpList Tryd.prog ops Q rest (a.put o.dst v') w') : wpList Tryd.prog ops Q (o :: rest) a W := by
  obtain ⟨i, hi, hz0, hz1, hz2⟩ := info_parts infoL
  obtain ⟨v', w', hrun, h2, h3, _⟩ := run_append_own (P := Tryd.prog) (w := W) base 29 o.type 31 i _ 6 88 Tryd.underlying29 hi hz0 hz1 hz2 rfl (by decide) v n xs hown ⟨g, 0, none⟩ 1 1 [c0, c1, c2, c3, c4, c5] rfl
    (fun j u hj => by
      have e : (⟨g, 0, none⟩ : Addr).add j = ⟨g, j, none⟩ := by unfold Addr.add; by_cases h : j = 0 <;> simp [h]
      rw [e, Blk.cell hB]; simpa using hj) hone (by unfold maxLen; omega) (by omega) hbase
  refine wpList_step fun K hK => ?_
  rw [if_pos hw]
  unfold Oper.wp execOp
  simp only [ho, resolve, invoke, builtin, Sem.run_bind, Sem.run_pure, Result.andThen_ok, List.map_toArray, List.map_cons, List.map_nil, hs, hx, hrun]
  exact hK _ _ (h v' w' h2 h3)
end Go.Proofs.YtnplkamkeadlgaaDoor
namespace Go.Proofs.YtnplkamkeadlgaaDoor
open Go

section
variable {P : Program} {ops : Array Oper} {Q : Exit → Act → World → Prop} {md : Region.Mode}

/-- How many operations have not come up yet. -/
def unl (n : Nat) (listed : Array Bool) : Nat := ((List.range n).filter fun i => !listed.getD i true).length
/-- Operations wait for earlier ones alone. -/
def waitsB (md : Region.Mode) (ops : Array Oper) : Bool := (List.range ops.size).all fun i => match ops[i]? with | some o => o.after.all (fun e => !Region.binds md e || decide (e.on < i)) | none => true
theorem waitsB_spec (h : waitsB md ops = true) {i : Nat} {o : Oper} (hi : ops[i]? = some o) : ∀ e ∈ o.after, Region.binds md e = true → e.on < i := by
  intro e he hb
  have hlt : i < ops.size := (Array.getElem?_eq_some_iff.1 hi).1
  have h1 := List.all_eq_true.1 h i (List.mem_range.2 hlt)
  rw [hi] at h1
  have h2 := Array.all_eq_true'.1 h1 e he
  simpa [hb] using h2
theorem getD_flip {listed : Array Bool} {i : Nat} (hi : i < listed.size) : listed.getD i true = listed.getD i false := by
  simp [Array.getD, hi]
theorem all_listed (hw : waitsB md ops = true) {listed : Array Bool} (hsz : listed.size = ops.size) (hr : Region.ready md ops listed = []) : ∀ i, i < ops.size → listed.getD i false = true := by
  intro i
  induction i using Nat.strongRecOn with
  | _ i ih =>
    intro hi
    cases hl : listed.getD i false with
    | true => rfl
    | false =>
      obtain ⟨o, ho⟩ : ∃ o, ops[i]? = some o := ⟨_, Array.getElem?_eq_getElem hi⟩
      have hm : i ∈ Region.ready md ops listed := by
        unfold Region.ready
        rw [List.mem_filter]
        refine ⟨List.mem_range.2 hi, ?_⟩
        rw [getD_flip (by omega), hl, ho]
        simp only [Bool.not_false, Bool.true_and, Option.map_some, Option.getD_some]
        rw [Array.all_eq_true']
        intro e he
        cases hb : Region.binds md e with
        | false => rfl
        | true =>
          have hlt := waitsB_spec hw ho e he hb
          rw [ih e.on hlt (by omega)]
          rfl
      rw [hr] at hm
      cases hm
theorem unl_set {n i : Nat} {listed : Array Bool} (hi : i < n) (hs : i < listed.size) (hl : listed.getD i true = false) : unl n (listed.setIfInBounds i true) + 1 ≤ unl n listed := by
  unfold unl
  have e : ((List.range n).filter fun j => !(listed.setIfInBounds i true).getD j true) = ((List.range n).filter fun j => !listed.getD j true).filter fun j => j != i := by
    rw [List.filter_filter]
    congr 1
    funext j
    by_cases hj : j = i
    · subst hj; simp [hs]
    · rw [getD_set_ne true (Ne.symm hj)]; simp [hj]
  rw [e]
  have hmem : i ∈ ((List.range n).filter fun j => !listed.getD j true) := by
    rw [List.mem_filter]; exact ⟨List.mem_range.2 hi, by simp [hl]⟩
  have : ∀ (l : List Nat), i ∈ l → (l.filter fun j => j != i).length + 1 ≤ l.length := by
    intro l
    induction l with
    | nil => intro h; cases h
    | cons a l ih =>
      intro h
      by_cases ha : a = i
      · subst ha
        rw [List.filter_cons]
        simp only [bne_self_eq_false, Bool.false_eq_true, if_false, List.length_cons]
        exact Nat.succ_le_succ (List.length_filter_le _ _)
      · have h2 := ih ((List.mem_cons.1 h).resolve_left (fun e => ha e.symm))
        rw [List.filter_cons]
        simp only [bne_iff_ne, ne_eq, ha, not_false_eq_true, if_true, List.length_cons]
        omega
  exact this _ hmem

/-- What holds of the operations that have come up is kept by each step: then the region ends with all of it. -/
theorem wpAny_inv (hw : waitsB md ops = true) (I : Array Bool → Act → World → Prop)
    (hs : ∀ (listed : Array Bool) (a : Act) (w : World) (i : Nat) (o : Oper), I listed a w → listed.size = ops.size → ops[i]? = some o → listed.getD i true = false → (∀ e ∈ o.after, Region.binds md e = true → listed.getD e.on false = true) → wpOp P ops Q i (I (listed.setIfInBounds i true)) a w)
    (he : ∀ (listed : Array Bool) (a : Act) (w : World), I listed a w → (∀ i, i < ops.size → listed.getD i false = true) → Q .normal a w) :
    ∀ (fuel : Nat) (listed : Array Bool) (a : Act) (w : World), listed.size = ops.size → unl ops.size listed ≤ fuel → I listed a w → wpAny P md ops Q fuel listed a w := by
  intro fuel
  induction fuel with
  | zero =>
    intro listed a w hsz hu hI
    have hr : Region.ready md ops listed = [] := by
      rcases hrr : Region.ready md ops listed with _ | ⟨i, l⟩
      · rfl
      · have hm : i ∈ Region.ready md ops listed := by rw [hrr]; simp
        obtain ⟨hun, o, ho, _⟩ := mem_ready.1 hm
        have := unl_set (n := ops.size) (Array.getElem?_eq_some_iff.1 ho).1 (by rw [hsz]; exact (Array.getElem?_eq_some_iff.1 ho).1) hun
        omega
    exact ⟨hr, he listed a w hI (all_listed hw hsz hr)⟩
  | succ fuel ih =>
    intro listed a w hsz hu hI
    refine ⟨fun hr => he listed a w hI (all_listed hw hsz hr), fun i hi => ?_⟩
    obtain ⟨hun, o, ho, hall⟩ := mem_ready.1 hi
    have hlt := (Array.getElem?_eq_some_iff.1 ho).1
    refine wpOp_mono (fun a' w' h => ?_) (hs listed a w i o hI hsz ho hun hall)
    have := unl_set (n := ops.size) hlt (by omega) hun
    exact ih _ a' w' (by simp [hsz]) (by omega) h
end

/-- The operations' temporaries: the i-th one's is the i-th of ds. -/
def dstsB (ops : Array Oper) (ds : List Tmp) : Bool := ops.size == ds.length && (List.range ops.size).all fun i => match ops[i]? with | some o => o.dst == ds[i]? | none => true
theorem dstsB_spec {ops : Array Oper} {ds : List Tmp} (h : dstsB ops ds = true) : ops.size = ds.length ∧ ∀ (i : Nat) (o : Oper), ops[i]? = some o → o.dst = ds[i]? := by
  unfold dstsB at h
  rw [Bool.and_eq_true] at h
  refine ⟨by simpa using h.1, fun i o hi => ?_⟩
  have h1 := List.all_eq_true.1 h.2 i (List.mem_range.2 (Array.getElem?_eq_some_iff.1 hi).1)
  rw [hi] at h1
  simpa using h1
/-- A frame that differs in the operations' temporaries alone. -/
def Fr (a : Act) (ds : List Tmp) (b : Act) : Prop := b.defers = a.defers ∧ b.tmps.size = a.tmps.size ∧ ∀ t, t ∉ ds → b.tmps.getD t undef = a.tmps.getD t undef
/-- The value of the j-th operation. -/
def valOf (ds : List Tmp) (b : Act) (j : Nat) : Value := b.tmps.getD (ds.getD j 0) undef
theorem Fr.put {a b : Act} {ds : List Tmp} {t : Tmp} {v : Value} (h : Fr a ds b) (ht : t ∈ ds) : Fr a ds (b.put (some t) v) := by
  refine ⟨h.1, by simpa [Act.put] using h.2.1, fun s hs => ?_⟩
  rw [← h.2.2 s hs]
  have hne : t ≠ s := fun e => hs (e ▸ ht)
  simp [Act.put, Array.getElem?_setIfInBounds_ne hne]
theorem getD_put_same {b : Act} {t : Tmp} {v : Value} (ht : t < b.tmps.size) : (b.put (some t) v).tmps.getD t undef = v := by simp [Act.put, ht]
theorem getD_put_ne {b : Act} {t s : Tmp} {v : Value} (h : t ≠ s) : (b.put (some t) v).tmps.getD s undef = b.tmps.getD s undef := by simp [Act.put, Array.getElem?_setIfInBounds_ne h]

/-- A drawn region, by what holds of each operation's value (R) and of the world (S). -/
theorem wp_region_vals {P : Program} {ops : Array Oper} {Q : Exit → Act → World → Prop} {id : Nat} {a : Act} {w : World} (ds : List Tmp) (S : World → Prop) (R : Nat → Value → World → Prop)
    (hm : P.follows .mixedOrders = true) (hw : waitsB .any ops = true) (hds : dstsB ops ds = true) (hnd : ds.Nodup) (hlt : ∀ t ∈ ds, t < a.tmps.size) (hS : S { w with drawn := w.drawn + 1 })
    (hs : ∀ (i : Nat) (o : Oper), ops[i]? = some o → ∀ (b : Act) (w : World), Fr a ds b → S w → (∀ e ∈ o.after, Region.binds .any e = true → R e.on (valOf ds b e.on) w) →
      ∀ K : Act → World → Prop, (∀ v w', S w' → R i v w' → (∀ j u, R j u w → R j u w') → K (b.put o.dst v) w') → wpOp P ops Q i K b w)
    (he : ∀ (b : Act) (w : World), Fr a ds b → S w → (∀ j, j < ds.length → R j (valOf ds b j) w) → Q .normal b w) :
    (Code.region id ops true).wp P Q a w := by
  obtain ⟨hlen, hdst⟩ := dstsB_spec hds
  refine wp_region_any hm ?_
  refine wpAny_inv hw (fun listed b w => Fr a ds b ∧ S w ∧ ∀ j, j < ops.size → listed.getD j false = true → R j (valOf ds b j) w) ?_ ?_ ops.size _ a _ (by simp) ?_ ⟨⟨rfl, rfl, fun _ _ => rfl⟩, hS, fun j hj h => ?_⟩
  · rintro listed b w i o ⟨hF, hSw, hR⟩ hsz hi hun hdep
    have hlti := (Array.getElem?_eq_some_iff.1 hi).1
    have ho := hdst i o hi
    obtain ⟨t, ht⟩ : ∃ t, ds[i]? = some t := ⟨_, List.getElem?_eq_getElem (by omega)⟩
    have htm : t ∈ ds := List.mem_of_getElem? ht
    have htl : t < b.tmps.size := by rw [hF.2.1]; exact hlt t htm
    refine hs i o hi b w hF hSw (fun e he hb => hR e.on ?_ (hdep e he hb)) _ ?_
    · have := waitsB_spec hw hi e he hb; omega
    · intro v w' hS' hRi hst
      rw [ho, ht]
      refine ⟨hF.put htm, hS', fun j hj hl => ?_⟩
      unfold valOf
      by_cases hji : j = i
      · subst hji
        rw [List.getD_eq_getElem?_getD, ht]
        show R j ((b.put (some t) v).tmps.getD t undef) w'
        rw [getD_put_same htl]
        exact hRi
      · have hne : t ≠ ds.getD j 0 := by
          intro e
          obtain ⟨s, hs2⟩ : ∃ s, ds[j]? = some s := ⟨_, List.getElem?_eq_getElem (by omega)⟩
          rw [List.getD_eq_getElem?_getD, hs2] at e
          simp only [Option.getD_some] at e
          subst e
          exact hji ((List.getElem?_inj (i := j) (j := i) (by omega) hnd).1 (hs2.trans ht.symm))
        rw [getD_put_ne hne]
        refine hst _ _ (hR j hj ?_)
        rw [← hl, getD_set_ne false (Ne.symm hji)]
  · rintro listed b w ⟨hF, hSw, hR⟩ hall
    exact he b w hF hSw fun j hj => hR j (by omega) (hall j (by omega))
  · unfold unl
    exact Nat.le_trans (List.length_filter_le _ _) (by simp)
  · simp [Array.getD] at h
/-- The temporaries set one by one. -/
def putAll (t : Array Value) : List Tmp → (Nat → Value) → Nat → Array Value
  | [], _, _ => t
  | d :: ds, f, j => putAll (t.setIfInBounds d (f j)) ds f (j + 1)
theorem putAll_size : ∀ (ds : List Tmp) (t : Array Value) (f : Nat → Value) (j : Nat), (putAll t ds f j).size = t.size
  | [], _, _, _ => rfl
  | d :: ds, t, f, j => by rw [putAll, putAll_size]; simp
theorem putAll_out : ∀ (ds : List Tmp) (t : Array Value) (f : Nat → Value) (j s : Nat), s ∉ ds → (putAll t ds f j).getD s undef = t.getD s undef
  | [], _, _, _, _, _ => rfl
  | d :: ds, t, f, j, s, h => by
    have h1 : d ≠ s := fun e => h (by simp [e])
    rw [putAll, putAll_out ds _ f (j + 1) s (fun hh => h (by simp [hh]))]
    simp [Array.getElem?_setIfInBounds_ne h1]
theorem putAll_in : ∀ (ds : List Tmp) (t : Array Value) (f : Nat → Value) (j k s : Nat), ds.Nodup → ds[k]? = some s → s < t.size → (putAll t ds f j).getD s undef = f (j + k)
  | d :: ds, t, f, j, 0, s, hn, h, hl => by
    obtain rfl : d = s := by simpa using h
    rw [putAll, putAll_out ds _ f (j + 1) d (List.nodup_cons.1 hn).1]
    simp [hl]
  | d :: ds, t, f, j, k + 1, s, hn, h, hl => by
    rw [putAll, putAll_in ds _ f (j + 1) k s (List.nodup_cons.1 hn).2 (by simpa using h) (by simpa using hl), show j + 1 + k = j + (k + 1) by omega]
/-- The frame at the region's end, written out. -/
theorem Fr.lit {a b : Act} {ds : List Tmp} (h : Fr a ds b) (hnd : ds.Nodup) (hlt : ∀ t ∈ ds, t < a.tmps.size) : b = { tmps := putAll a.tmps ds (valOf ds b) 0, defers := a.defers } := by
  obtain ⟨h1, h2, h3⟩ := h
  cases b with
  | mk tmps defers =>
    simp only at h1 h2 h3
    subst h1
    congr 1
    apply Array.ext
    · rw [putAll_size, h2]
    · intro s hs1 hs2
      have e1 : tmps[s] = tmps.getD s undef := by simp [Array.getD, hs1]
      have e2 : (putAll a.tmps ds (valOf ds { tmps := tmps, defers := a.defers }) 0)[s] = (putAll a.tmps ds (valOf ds { tmps := tmps, defers := a.defers }) 0).getD s undef := by simp [Array.getD, hs2]
      rw [e1, e2]
      by_cases hm : s ∈ ds
      · obtain ⟨k, hk⟩ := List.getElem?_of_mem hm
        rw [putAll_in ds _ _ 0 k s hnd hk (hlt s hm), Nat.zero_add]
        unfold valOf
        rw [List.getD_eq_getElem?_getD, hk]
        rfl
      · rw [putAll_out ds _ _ 0 s hm, h3 s hm]
/-- Each operation of a list, with its number. -/
def AllOps (F : Nat → Oper → Prop) : Nat → List Oper → Prop
  | _, [] => True
  | i, o :: os => F i o ∧ AllOps F (i + 1) os
theorem AllOps.at {F : Nat → Oper → Prop} : ∀ (l : List Oper) (k : Nat), AllOps F k l → ∀ (i : Nat) (o : Oper), l[i]? = some o → F (k + i) o
  | [], _, _, i, o, h => by simp at h
  | o0 :: l, k, h, 0, o, ho => by
    obtain rfl : o0 = o := by simpa using ho
    exact h.1
  | o0 :: l, k, h, i + 1, o, ho => by
    have := AllOps.at l (k + 1) h.2 i o (by simpa using ho)
    rw [show k + (i + 1) = k + 1 + i by omega]
    exact this
theorem all_ops {F : Nat → Oper → Prop} {ops : Array Oper} (h : AllOps F 0 ops.toList) {i : Nat} {o : Oper} (hi : ops[i]? = some o) : F i o := by
  have := AllOps.at ops.toList 0 h i o (by simpa using hi)
  rwa [Nat.zero_add] at this
/-- What an operation owes, its condition paid. -/
theorem wpOp_of {P : Program} {ops : Array Oper} {Q : Exit → Act → World → Prop} {i : Nat} {o : Oper} {K : Act → World → Prop} {a : Act} {w : World} (hi : ops[i]? = some o) (hw : Region.wanted o (yielded ops a.tmps) = true) (h : o.wp P a w K Q) : wpOp P ops Q i K a w := by
  unfold Go.wpOp
  simp only [hi, hw, if_true]
  exact .inl h
end Go.Proofs.YtnplkamkeadlgaaDoor
namespace Go.Proofs.YtnplkamkeadlgaaDoor
open Go Go.RowKit

section
variable {ops : Array Oper} {Q : Exit → Act → World → Prop} {i : Nat} {o : Oper} {K : Act → World → Prop} {b : Act} {w : World}
theorem stp_zero (hi : ops[i]? = some o) (hg : o.guard = none) (ho : o.op = .build 31 #[]) (h : K (b.put o.dst (.agg #[.int .i64 0, .int .i64 0, .int .u64 0, .string ⟨#[]⟩, .slice none 0 0, .slice none 0 0])) w) : wpOp Tryd.prog ops Q i K b w := by
  refine wpOp_of hi (by simp [Region.wanted, hg]) ?_
  unfold Oper.wp execOp
  simp only [ho]
  go_simp
  exact h
theorem stp_move (hi : ops[i]? = some o) (hg : o.guard = none) {x : Operand} (ho : o.op = .assign x) (h : K (b.put o.dst (b.eval x)) w) : wpOp Tryd.prog ops Q i K b w := by
  refine wpOp_of hi (by simp [Region.wanted, hg]) ?_
  unfold Oper.wp execOp
  simp only [ho]
  exact h
theorem stp_call {f : FuncId} (he : ∀ args w, (callFunc f args).run Tryd.prog w = .ok (.enter f args) w) (hi : ops[i]? = some o) (hg : o.guard = none) {xs : Array Operand} {ts : Array TypeId} (ho : o.op = .call { callee := .value (.func f), args := xs, argTypes := ts }) {args : Array Value} (ha : xs.map b.eval = args) {R : Ending → World → Prop} (hc : Calls Tryd.prog f args w R)
    (h : ∀ e w', R e w' → ∃ v, e = .returned v ∧ K (b.put o.dst v) w') : wpOp Tryd.prog ops Q i K b w := by
  refine wpOp_of hi (by simp [Region.wanted, hg]) ?_
  unfold Oper.wp execOp
  simp only [ho, resolve, Act.eval, invoke, Sem.run_bind]
  rw [ha]
  simp [Deferred.ofValue, go_sem, he]
  refine Calls.mono hc ?_
  intro e w' hR
  obtain ⟨v, rfl, hK⟩ := h e w' hR
  exact hK
theorem stp_callg {f : FuncId} (he : ∀ args w, (callFunc f args).run Tryd.prog w = .ok (.enter f args) w) (hi : ops[i]? = some o) (hw : Region.wanted o (yielded ops b.tmps) = true) {xs : Array Operand} {ts : Array TypeId} (ho : o.op = .call { callee := .value (.func f), args := xs, argTypes := ts }) {args : Array Value} (ha : xs.map b.eval = args) {R : Ending → World → Prop} (hc : Calls Tryd.prog f args w R)
    (h : ∀ e w', R e w' → ∃ v, e = .returned v ∧ K (b.put o.dst v) w') : wpOp Tryd.prog ops Q i K b w := by
  refine wpOp_of hi hw ?_
  unfold Oper.wp execOp
  simp only [ho, resolve, Act.eval, invoke, Sem.run_bind]
  rw [ha]
  simp [Deferred.ofValue, go_sem, he]
  refine Calls.mono hc ?_
  intro e w' hR
  obtain ⟨v, rfl, hK⟩ := h e w' hR
  exact hK
theorem stp_load (hi : ops[i]? = some o) (hg : o.guard = none) {t : Tmp} (ho : o.op = .load 31 (.tmp t)) {g : Nat} {x0 x1 x2 x3 x4 x5 : Value} (hx : b.tmps[t]?.getD undef = .pointer (some ⟨g, 0, none⟩)) (hB : Bx w g x0 x1 x2 x3 x4 x5)
    (h : K (b.put o.dst (.agg #[x0, x1, x2, x3, x4, x5])) w) : wpOp Tryd.prog ops Q i K b w := by
  obtain ⟨c0, c1, c2, c3, c4, c5⟩ := hB.all
  refine wpOp_of hi (by simp [Region.wanted, hg]) ?_
  unfold Oper.wp execOp
  simp only [ho]
  go_simp
  exact h
theorem stp_two (hi : ops[i]? = some o) (hg : o.guard = none) {tx ty : Tmp} (ho : o.op = .buildSlice 29 2 #[(0, .tmp tx), (1, .tmp ty)]) {x0 x1 x2 x3 x4 x5 y0 y1 y2 y3 y4 y5 : Value} (hx : b.tmps[tx]?.getD undef = .agg #[x0, x1, x2, x3, x4, x5]) (hy : b.tmps[ty]?.getD undef = .agg #[y0, y1, y2, y3, y4, y5])
    (h : K (b.put o.dst (.slice (some ⟨w.heap.size, 0, none⟩) 2 2)) (w.alloc (.cells (x0 :: x1 :: x2 :: x3 :: x4 :: x5 :: y0 :: y1 :: y2 :: y3 :: y4 :: y5 :: []).toArray 31))) : wpOp Tryd.prog ops Q i K b w := by
  refine wpOp_of hi (by simp [Region.wanted, hg]) ?_
  unfold Oper.wp execOp
  simp only [ho]
  go_simp
  exact h
theorem stp_three (hi : ops[i]? = some o) (hg : o.guard = none) {tx ty tz : Tmp} (ho : o.op = .buildSlice 29 3 #[(0, .tmp tx), (1, .tmp ty), (2, .tmp tz)]) {x0 x1 x2 x3 x4 x5 y0 y1 y2 y3 y4 y5 z0 z1 z2 z3 z4 z5 : Value} (hx : b.tmps[tx]?.getD undef = .agg #[x0, x1, x2, x3, x4, x5]) (hy : b.tmps[ty]?.getD undef = .agg #[y0, y1, y2, y3, y4, y5]) (hz : b.tmps[tz]?.getD undef = .agg #[z0, z1, z2, z3, z4, z5])
    (h : K (b.put o.dst (.slice (some ⟨w.heap.size, 0, none⟩) 3 3)) (w.alloc (.cells (x0 :: x1 :: x2 :: x3 :: x4 :: x5 :: y0 :: y1 :: y2 :: y3 :: y4 :: y5 :: z0 :: z1 :: z2 :: z3 :: z4 :: z5 :: []).toArray 31))) : wpOp Tryd.prog ops Q i K b w := by
  refine wpOp_of hi (by simp [Region.wanted, hg]) ?_
  unfold Oper.wp execOp
  simp only [ho]
  go_simp
  exact h
theorem stp_seven (hi : ops[i]? = some o) (hg : o.guard = none) {tx ty tz ts tt tu tv : Tmp} (ho : o.op = .buildSlice 29 7 #[(0, .tmp tx), (1, .tmp ty), (2, .tmp tz), (3, .tmp ts), (4, .tmp tt), (5, .tmp tu), (6, .tmp tv)]) {x0 x1 x2 x3 x4 x5 y0 y1 y2 y3 y4 y5 z0 z1 z2 z3 z4 z5 s0 s1 s2 s3 s4 s5 t0 t1 t2 t3 t4 t5 u0 u1 u2 u3 u4 u5 v0 v1 v2 v3 v4 v5 : Value} (hx : b.tmps[tx]?.getD undef = .agg #[x0, x1, x2, x3, x4, x5]) (hy : b.tmps[ty]?.getD undef = .agg #[y0, y1, y2, y3, y4, y5]) (hz : b.tmps[tz]?.getD undef = .agg #[z0, z1, z2, z3, z4, z5]) (hs : b.tmps[ts]?.getD undef = .agg #[s0, s1, s2, s3, s4, s5]) (ht : b.tmps[tt]?.getD undef = .agg #[t0, t1, t2, t3, t4, t5]) (hu : b.tmps[tu]?.getD undef = .agg #[u0, u1, u2, u3, u4, u5]) (hv : b.tmps[tv]?.getD undef = .agg #[v0, v1, v2, v3, v4, v5])
    (h : K (b.put o.dst (.slice (some ⟨w.heap.size, 0, none⟩) 7 7)) (w.alloc (.cells (x0 :: x1 :: x2 :: x3 :: x4 :: x5 :: y0 :: y1 :: y2 :: y3 :: y4 :: y5 :: z0 :: z1 :: z2 :: z3 :: z4 :: z5 :: s0 :: s1 :: s2 :: s3 :: s4 :: s5 :: t0 :: t1 :: t2 :: t3 :: t4 :: t5 :: u0 :: u1 :: u2 :: u3 :: u4 :: u5 :: v0 :: v1 :: v2 :: v3 :: v4 :: v5 :: []).toArray 31))) : wpOp Tryd.prog ops Q i K b w := by
  refine wpOp_of hi (by simp [Region.wanted, hg]) ?_
  unfold Oper.wp execOp
  simp only [ho]
  go_simp
  exact h
theorem stp_keys2 (hi : ops[i]? = some o) (hg : o.guard = none) {x y : ByteArray} (ho : o.op = .buildSlice 22 2 #[(0, .const (.string x)), (1, .const (.string y))])
    (h : K (b.put o.dst (.slice (some ⟨w.heap.size, 0, none⟩) 2 2)) (w.alloc (.cells #[.string x, .string y] 9))) : wpOp Tryd.prog ops Q i K b w := by
  refine wpOp_of hi (by simp [Region.wanted, hg]) ?_
  unfold Oper.wp execOp
  simp only [ho]
  go_simp
  exact h
theorem stp_keys3 (hi : ops[i]? = some o) (hg : o.guard = none) {x y z : ByteArray} (ho : o.op = .buildSlice 22 3 #[(0, .const (.string x)), (1, .const (.string y)), (2, .const (.string z))])
    (h : K (b.put o.dst (.slice (some ⟨w.heap.size, 0, none⟩) 3 3)) (w.alloc (.cells #[.string x, .string y, .string z] 9))) : wpOp Tryd.prog ops Q i K b w := by
  refine wpOp_of hi (by simp [Region.wanted, hg]) ?_
  unfold Oper.wp execOp
  simp only [ho]
  go_simp
  exact h
end
section
variable {ops : Array Oper} {Q : Exit → Act → World → Prop} {i : Nat} {o : Oper} {K : Act → World → Prop} {b : Act} {w : World}
theorem stq_move (hi : ops[i]? = some o) (hw : Region.wanted o (yielded ops b.tmps) = true) {t : Tmp} (ho : o.op = .move (.tmp t)) {v : Value} (hx : b.tmps[t]?.getD undef = v) (h : K (b.put o.dst v) w) : wpOp Tryd.prog ops Q i K b w := by
  refine wpOp_of hi hw ?_
  unfold Oper.wp execOp
  simp only [ho]
  go_simp
  exact h
theorem stq_node (hi : ops[i]? = some o) (hw : Region.wanted o (yielded ops b.tmps) = true) {t s : Tmp} (ho : o.op = .indexAddr 29 (.tmp t) (.tmp s)) {g m c j : Nat} (hx : b.tmps[t]?.getD undef = .slice (some ⟨g, 0, none⟩) m c) (hy : b.tmps[s]?.getD undef = .int .i64 (j : Int)) (hj : j < m) (h : K (b.put o.dst (.pointer (some ⟨g, j * 6, none⟩))) w) : wpOp Tryd.prog ops Q i K b w := by
  have h0 : (0 : Int) ≤ (j : Int) := by omega
  have h1 : (j : Int) < (m : Int) := by omega
  refine wpOp_of hi hw ?_
  unfold Oper.wp execOp
  simp only [ho]
  go_simp
  exact h
theorem stq_read (hi : ops[i]? = some o) (hw : Region.wanted o (yielded ops b.tmps) = true) {t : Tmp} (ho : o.op = .load 31 (.tmp t)) {g q : Nat} {x0 x1 x2 x3 x4 x5 : Value} (hx : b.tmps[t]?.getD undef = .pointer (some ⟨g, q, none⟩))
    (c0 : w.cell? ⟨g, q, none⟩ = some x0) (c1 : w.cell? ⟨g, q + 1, none⟩ = some x1) (c2 : w.cell? ⟨g, q + 2, none⟩ = some x2) (c3 : w.cell? ⟨g, q + 3, none⟩ = some x3) (c4 : w.cell? ⟨g, q + 4, none⟩ = some x4) (c5 : w.cell? ⟨g, q + 5, none⟩ = some x5)
    (h : K (b.put o.dst (.agg #[x0, x1, x2, x3, x4, x5])) w) : wpOp Tryd.prog ops Q i K b w := by
  refine wpOp_of hi hw ?_
  unfold Oper.wp execOp
  simp only [ho]
  go_simp
  exact h
theorem stq_not (hi : ops[i]? = some o) (hw : Region.wanted o (yielded ops b.tmps) = true) {ty : TypeId} {t : Tmp} (ho : o.op = .unOp .not ty (.tmp t)) {v : Bool} (hx : b.tmps[t]?.getD undef = .bool v) (h : K (b.put o.dst (.bool (!v))) w) : wpOp Tryd.prog ops Q i K b w := by
  refine wpOp_of hi hw ?_
  unfold Oper.wp execOp
  simp only [ho]
  go_simp
  exact h
theorem stq_half (hi : ops[i]? = some o) (hw : Region.wanted o (yielded ops b.tmps) = true) {t : Tmp} (ho : o.op = .binOp .quo 3 (.tmp t) (.const (.int .i64 2)) 3) {j k : Nat} (hx : b.tmps[t]?.getD undef = .int .i64 (j : Int)) (hk : j / 2 = k) (hj : j < 1000) (h : K (b.put o.dst (.int .i64 (k : Int))) w) : wpOp Tryd.prog ops Q i K b w := by
  have hq : ((j : Int)).tdiv 2 = (k : Int) := by rw [Int.tdiv_eq_ediv_of_nonneg (by omega)]; omega
  have hwk : IntKind.i64.wrap (k : Int) = (k : Int) := IntWalk.i64_in _ ⟨by omega, by omega⟩
  refine wpOp_of hi hw ?_
  unfold Oper.wp execOp
  simp only [ho]
  go_simp
  exact h
theorem stq_eqi (hi : ops[i]? = some o) (hw : Region.wanted o (yielded ops b.tmps) = true) {t s : Tmp} (ho : o.op = .binOp .eql 3 (.tmp t) (.tmp s) 3) {j k : Nat} {v : Bool} (hx : b.tmps[t]?.getD undef = .int .i64 (j : Int)) (hy : b.tmps[s]?.getD undef = .int .i64 (k : Int)) (hv : ((j : Int) == (k : Int)) = v) (h : K (b.put o.dst (.bool v)) w) : wpOp Tryd.prog ops Q i K b w := by
  refine wpOp_of hi hw ?_
  unfold Oper.wp execOp
  simp only [ho]
  go_simp
  exact h
theorem stq_pick (hi : ops[i]? = some o) (hw : Region.wanted o (yielded ops b.tmps) = true) {t s : Tmp} (ho : o.op = .pick (.tmp t) (.const (.bool true)) (.tmp s)) {v : Bool} {u r : Value} (hx : b.tmps[t]?.getD undef = .bool v) (hy : b.tmps[s]?.getD undef = u) (hr : (if v = true then .bool true else u) = r) (h : K (b.put o.dst r) w) : wpOp Tryd.prog ops Q i K b w := by
  refine wpOp_of hi hw ?_
  unfold Oper.wp execOp
  simp only [ho]
  subst hr
  go_simp
  exact h
theorem stq_neb (hi : ops[i]? = some o) (hw : Region.wanted o (yielded ops b.tmps) = true) {t s : Tmp} (ho : o.op = .binOp .neq 4 (.tmp t) (.tmp s) 4) {u v : Bool} (hx : b.tmps[t]?.getD undef = .bool u) (hy : b.tmps[s]?.getD undef = .bool v) (h : K (b.put o.dst (.bool (u != v))) w) : wpOp Tryd.prog ops Q i K b w := by
  refine wpOp_of hi hw ?_
  unfold Oper.wp execOp
  simp only [ho]
  go_simp
  exact h
end
/-! What holds of an operation's value: it is a node, a row of m nodes, a row of m strings. -/
inductive Kd where
  | n
  | r (m : Nat)
  | k (m : Nat)
def IsN (v : Value) (w : World) : Prop := ∃ k n u s A m c B p q, v = .agg #[.int .i64 k, .int .i64 n, .int .u64 u, .string s, .slice A m c, .slice B p q] ∧ NdE w [.int .i64 k, .int .i64 n, .int .u64 u, .string s, .slice A m c, .slice B p q]
def IsR (m : Nat) (v : Value) (w : World) : Prop := ∃ g, v = .slice (some ⟨g, 0, none⟩) m m ∧ RdN w (.slice (some ⟨g, 0, none⟩) m m) m
def IsK (m : Nat) (v : Value) (w : World) : Prop := ∃ g, v = .slice (some ⟨g, 0, none⟩) m m ∧ RdK w (.slice (some ⟨g, 0, none⟩) m m)
def RK (ks : List Kd) (j : Nat) (v : Value) (w : World) : Prop :=
  match ks[j]? with
  | some .n => IsN v w
  | some (.r m) => IsR m v w
  | some (.k m) => IsK m v w
  | none => True
theorem rk_keep {ks : List Kd} {w w' : World} (hb : Below w.heap.size w w') {j : Nat} {v : Value} (h : RK ks j v w) : RK ks j v w' := by
  unfold RK at h ⊢
  split
  · rename_i e; rw [e] at h; obtain ⟨k, n, u, s, A, m, c, B, p, q, rfl, hn⟩ := h; exact ⟨k, n, u, s, A, m, c, B, p, q, rfl, hn.below hb⟩
  · rename_i e; rw [e] at h; obtain ⟨g, rfl, hn⟩ := h; exact ⟨g, rfl, hn.below hb⟩
  · rename_i e; rw [e] at h; obtain ⟨g, rfl, hn⟩ := h; exact ⟨g, rfl, hn.below hb⟩
  · trivial
theorem dep {o : Oper} {F : Nat → Prop} (h : ∀ e ∈ o.after, Region.binds .any e = true → F e.on) (k : Nat) (hk : (o.after.any fun e => decide (e.on = k) && Region.binds .any e) = true) : F k := by
  obtain ⟨e, he, hb⟩ := Array.any_eq_true'.1 hk
  rw [Bool.and_eq_true, decide_eq_true_eq] at hb
  rw [← hb.1]
  exact h e he hb.2
theorem val_at {ds : List Tmp} {b : Act} {j t : Nat} {v : Value} (ht : ds.getD j 0 = t) (h : valOf ds b j = v) : b.tmps[t]?.getD undef = v := by
  subst ht
  rw [← h, valOf]
  simp
theorem lt_all {ds : List Tmp} {n : Nat} (h : ds.all (fun t => decide (t < n)) = true) : ∀ t ∈ ds, t < n := fun t ht => by simpa using List.all_eq_true.1 h t ht
theorem Fr.at {a b : Act} {ds : List Tmp} (h : Fr a ds b) {t : Tmp} {v : Value} (ht : ds.contains t = false) (ha : a.tmps.getD t undef = v) : b.tmps[t]?.getD undef = v := by
  have := h.2.2 t (by simpa using ht)
  rw [ha] at this
  rw [← this]; simp
theorem each_op {ops : Array Oper} {G : Nat → Oper → Prop} (h : AllOps (fun i o => ops[i]? = some o → G i o) 0 ops.toList) : ∀ (i : Nat) (o : Oper), ops[i]? = some o → G i o := fun _ _ hi => all_ops h hi hi
/-! Regions whose values are known one by one. -/
def RV (vs : List Value) (j : Nat) (v : Value) (_ : World) : Prop := v = vs.getD j undef
theorem wanted_at {ops : Array Oper} {o : Oper} {b : Act} {g t : Nat} {bb c : Bool} (hg : o.guard = some (g, bb)) (ht : (ops[g]?).bind (·.dst) = some t) (hv : b.tmps[t]?.getD undef = .bool c) : Region.wanted o (yielded ops b.tmps) = (c == bb) := by
  have h1 : b.tmps[t]? = some (.bool c) := by
    cases hb : b.tmps[t]? with
    | none => rw [hb] at hv; exact absurd hv (by unfold undef; simp)
    | some v => rw [hb] at hv; simp at hv; rw [hv]
  unfold Region.wanted
  rw [hg]
  simp only [yielded, ht, Option.bind_some, h1]
  cases c <;> cases bb <;> rfl
theorem wpOp_skip {P : Program} {ops : Array Oper} {Q : Exit → Act → World → Prop} {i : Nat} {o : Oper} {K : Act → World → Prop} {a : Act} {w : World} (hi : ops[i]? = some o) (hw : Region.wanted o (yielded ops a.tmps) = false) (h : K (a.put o.dst undef) w) : wpOp P ops Q i K a w := by
  unfold Go.wpOp
  simp only [hi, hw]
  exact h
theorem isn_leaf (w : World) {k n u : Int} {s : ByteArray} (hr : Rng k n u) (hs : s.size ≤ maxLen) : IsN (.agg #[.int .i64 k, .int .i64 n, .int .u64 u, .string s, .slice none 0 0, .slice none 0 0]) w := ⟨_, _, _, _, _, _, _, _, _, _, rfl, nde_leaf w hr hs⟩
end Go.Proofs.YtnplkamkeadlgaaDoor
namespace Go.Proofs.YtnplkamkeadlgaaDoor
open Go Go.RowKit

theorem infoSK : (Tryd.prog.info? 9).map (fun i => (i.zero, i.size, i.bytes)) = some (some (.string ⟨#[]⟩), 1, 16) := by kernel_rfl
/-- An append leaves what the old value owned as it was, in place or not. -/
theorem run_appK {w : World} {base n m c : Nat} {v : Value} {xs : List Value} {ys : List ByteArray} {ad : Addr} (ty : TypeId) (hown : w.ownsRow base 9 1 v n xs) (hv : v ≠ .slice none 0 0) (hr : RdS w (.slice (some ad) m c) ys)
    (hb : n + m ≤ 65536) (hbase : base ≤ w.heap.size) :
    ∃ v' w', (Builtin.append_ #[22, 22] ty #[v, .slice (some ad) m c]).run Tryd.prog w = .ok v' w' ∧ v' ≠ .slice none 0 0 ∧ w'.ownsRow base 9 1 v' (n + m) (xs ++ ys.map Value.string) ∧ w'.ownsRow base 9 1 v n xs ∧ w.grownBy w' v.ownBlock := by
  obtain ⟨i, hi, hz0, hz1, hz2⟩ := info_parts infoSK
  obtain ⟨A', m', c', e, h1, h2, h3, h4, h5⟩ := hr
  injection e with e1 e2 e3
  subst e1 e2 e3
  have hl : (ys.map Value.string).length = m * i.size := by rw [List.length_map, h1, hz1]; omega
  have hnews : ∀ j u, (ys.map Value.string)[j]? = some u → w.cell? (ad.add j) = some u := fun j u hj => by
    rw [List.getElem?_map] at hj
    obtain ⟨s, hs, rfl⟩ := Option.map_eq_some_iff.1 hj
    have hjl := (List.getElem?_eq_some_iff.1 hs).1
    obtain ⟨b, off, he, _, hc⟩ := h5 (by omega)
    cases he
    rw [show ((⟨b, off, none⟩ : Addr).add j) = ⟨b, off + j, none⟩ by unfold Addr.add; by_cases h : j = 0 <;> simp [h]]
    exact hc j s hs
  have hone : ∀ u ∈ ys.map Value.string, u.oneCell' = true := fun u hu => by obtain ⟨s, _, rfl⟩ := List.mem_map.1 hu; rfl
  rcases hown.2 with ⟨rfl, _⟩ | ⟨g, cap, cur, rfl, hbg, hg, hnc, hcm, hcs, htake⟩
  · exact absurd rfl hv
  · have hlen : (xs ++ ys.map Value.string).length = (n + m) * 1 := by rw [List.length_append, hown.1, List.length_map, h1]; omega
    by_cases hroom : n + m ≤ cap
    · have hfit : n * i.size + (ys.map Value.string).length ≤ cur.size := by rw [hl, hcs, hz1]; omega
      have hrun := run_append_room (P := Tryd.prog) w 22 ty 9 i Tryd.underlying22 hi g n cap cur hg ad m c (ys.map Value.string) hl hnews hone hroom hfit
      rw [hz1] at hrun
      have hcell := setRow_heap w g cur (cur.toList.take (n * 1) ++ ys.map Value.string ++ cur.toList.drop (n * 1 + (ys.map Value.string).length)).toArray 9 (0, 0) hg
      have hsz : (cur.toList.take (n * 1) ++ ys.map Value.string ++ cur.toList.drop (n * 1 + (ys.map Value.string).length)).toArray.size = cap * 1 := by
        simp only [List.size_toArray, List.length_append, List.length_take, List.length_drop, Array.length_toList, List.length_map, h1, hcs]
        omega
      refine ⟨_, _, hrun, by simp, ⟨hlen, .inr ⟨g, cap, _, rfl, hbg, hcell, hroom, hcm, hsz, ?_⟩⟩, ⟨hown.1, .inr ⟨g, cap, _, rfl, hbg, hcell, hnc, hcm, hsz, ?_⟩⟩, ⟨rfl, rfl, rfl, by simp, fun k _ hk => setRow_other w g k _ (fun e => hk (by simp [Value.ownBlock, e]))⟩⟩
      · rw [htake, ← hlen]
        exact List.take_left
      · rw [htake]
        rw [List.append_assoc, ← hown.1]
        exact List.take_left
    · have holds : ∀ j u, xs[j]? = some u → w.cell? ((⟨g, 0, none⟩ : Addr).add j) = some u := hown.cells (g := g) rfl
      have hrun := run_append_grow (P := Tryd.prog) w 22 ty 9 i (.string ⟨#[]⟩) Tryd.underlying22 hi hz0 ⟨g, 0, none⟩ n cap xs (by rw [hown.1, hz1]) holds ad m c (ys.map Value.string) hl hnews (by omega) (by omega) (growslice_fits (by omega) (by rw [hz2]; omega))
      have hge := grownCap_ge w (n + m) cap 9
      have hcm2 : grownCap w (n + m) cap 9 ≤ maxLen := grownCap_le_maxLen w (n + m) cap 9 (by simp only [maxLen]; omega)
      refine ⟨_, _, hrun, by simp, ⟨hlen, .inr ⟨w.heap.size, _, _, rfl, hbase, heap_alloc_new w.drew _, hge, hcm2, ?_, ?_⟩⟩, ⟨hown.1, .inr ⟨g, cap, cur, rfl, hbg, ?_, hnc, hcm, hcs, htake⟩⟩, ⟨rfl, rfl, rfl, by simp, fun k hk _ => Below.heap_alloc w.drew _ k hk⟩⟩
      · simp only [Array.size_append, List.size_toArray, size_zeroCells, hown.1, List.length_map, h1]
        simp [Value.cells]
        omega
      · simp only [Array.toList_append, List.append_assoc]
        rw [← List.append_assoc, ← hlen]
        exact List.take_left
      · exact (Below.heap_alloc w.drew _ g (Array.getElem?_eq_some_iff.1 hg).1).trans hg

section
variable {ops : Array Oper} {Q : Exit → Act → World → Prop} {i : Nat} {o : Oper} {K : Act → World → Prop} {b : Act} {w : World}
theorem stk_append (hi : ops[i]? = some o) (hw : Region.wanted o (yielded ops b.tmps) = true) {ts tx : Tmp} (ho : o.op = .call { callee := .builtin .append, args := #[.tmp ts, .tmp tx], argTypes := #[22, 22] })
    {base n m c : Nat} {v : Value} {xs : List Value} {ys : List ByteArray} {ad : Addr} (hs : b.tmps[ts]?.getD undef = v) (hx : b.tmps[tx]?.getD undef = .slice (some ad) m c)
    (hown : w.ownsRow base 9 1 v n xs) (hv : v ≠ .slice none 0 0) (hr : RdS w (.slice (some ad) m c) ys) (hb : n + m ≤ 65536) (hbase : base ≤ w.heap.size)
    (h : ∀ v' w', v' ≠ .slice none 0 0 → w'.ownsRow base 9 1 v' (n + m) (xs ++ ys.map Value.string) → w'.ownsRow base 9 1 v n xs → w.grownBy w' v.ownBlock → K (b.put o.dst v') w') : wpOp Tryd.prog ops Q i K b w := by
  obtain ⟨v', w', hrun, h1, h2, h3, h4⟩ := run_appK o.type hown hv hr hb hbase
  have hs' : b.eval (.tmp ts) = v := by simpa [Act.eval] using hs
  have hx' : b.eval (.tmp tx) = .slice (some ad) m c := by simpa [Act.eval] using hx
  refine wpOp_of hi hw ?_
  unfold Oper.wp execOp
  simp only [ho, resolve, invoke, builtin, Sem.run_bind, Sem.run_pure, Result.andThen_ok, List.map_toArray, List.map_cons, List.map_nil, hs', hx', hrun]
  exact h v' w' h1 h2 h3 h4
theorem stk_empty (hi : ops[i]? = some o) (hw : Region.wanted o (yielded ops b.tmps) = true) (ho : o.op = .buildSlice 22 0 #[]) (h : K (b.put o.dst (.slice (some ⟨w.heap.size, 0, none⟩) 0 0)) (w.alloc (.cells #[] 9))) : wpOp Tryd.prog ops Q i K b w := by
  refine wpOp_of hi hw ?_
  unfold Oper.wp execOp
  simp only [ho]
  go_simp
  exact h
theorem stk_str (hi : ops[i]? = some o) (hw : Region.wanted o (yielded ops b.tmps) = true) {t s : Tmp} (ho : o.op = .indexAddr 22 (.tmp t) (.tmp s)) {g m c j : Nat} (hx : b.tmps[t]?.getD undef = .slice (some ⟨g, 0, none⟩) m c) (hy : b.tmps[s]?.getD undef = .int .i64 (j : Int)) (hj : j < m) (h : K (b.put o.dst (.pointer (some ⟨g, j, none⟩))) w) : wpOp Tryd.prog ops Q i K b w := by
  have h0 : (0 : Int) ≤ (j : Int) := by omega
  have h1 : (j : Int) < (m : Int) := by omega
  refine wpOp_of hi hw ?_
  unfold Oper.wp execOp
  simp only [ho]
  go_simp
  exact h
theorem stk_read (hi : ops[i]? = some o) (hw : Region.wanted o (yielded ops b.tmps) = true) {t : Tmp} (ho : o.op = .load 9 (.tmp t)) {g q : Nat} {x0 : Value} (hx : b.tmps[t]?.getD undef = .pointer (some ⟨g, q, none⟩)) (c0 : w.cell? ⟨g, q, none⟩ = some x0) (h : K (b.put o.dst x0) w) : wpOp Tryd.prog ops Q i K b w := by
  refine wpOp_of hi hw ?_
  unfold Oper.wp execOp
  simp only [ho]
  go_simp
  exact h
theorem stk_lss (hi : ops[i]? = some o) (hw : Region.wanted o (yielded ops b.tmps) = true) {t s : Tmp} (ho : o.op = .binOp .lss 3 (.tmp t) (.tmp s) 3) {j k : Nat} {v : Bool} (hx : b.tmps[t]?.getD undef = .int .i64 (j : Int)) (hy : b.tmps[s]?.getD undef = .int .i64 (k : Int)) (hv : decide (j < k) = v) (h : K (b.put o.dst (.bool v)) w) : wpOp Tryd.prog ops Q i K b w := by
  refine wpOp_of hi hw ?_
  unfold Oper.wp execOp
  simp only [ho]
  subst hv
  go_simp
  exact h
theorem stk_geq (hi : ops[i]? = some o) (hw : Region.wanted o (yielded ops b.tmps) = true) {t s : Tmp} (ho : o.op = .binOp .geq 3 (.tmp t) (.tmp s) 3) {j k : Nat} {v : Bool} (hx : b.tmps[t]?.getD undef = .int .i64 (j : Int)) (hy : b.tmps[s]?.getD undef = .int .i64 (k : Int)) (hv : decide (k ≤ j) = v) (h : K (b.put o.dst (.bool v)) w) : wpOp Tryd.prog ops Q i K b w := by
  refine wpOp_of hi hw ?_
  unfold Oper.wp execOp
  simp only [ho]
  subst hv
  go_simp
  exact h
theorem stk_adds (hi : ops[i]? = some o) (hw : Region.wanted o (yielded ops b.tmps) = true) {t : Tmp} {y : ByteArray} (ho : o.op = .binOp .add 9 (.tmp t) (.const (.string y)) 9) {x : ByteArray} (hx : b.tmps[t]?.getD undef = .string x) (hl : x.size + y.size ≤ maxLen) (h : K (b.put o.dst (.string (x ++ y))) w) : wpOp Tryd.prog ops Q i K b w := by
  have hn : ¬ 9223372036854775807 < x.size + y.size := by unfold maxLen at hl; omega
  refine wpOp_of hi hw ?_
  unfold Oper.wp execOp
  simp only [ho]
  go_simp
  exact h
theorem stk_both (hi : ops[i]? = some o) (hw : Region.wanted o (yielded ops b.tmps) = true) {t s r : Tmp} (ho : o.op = .slice 22 (.tmp t) (some (.tmp s)) (some (.tmp r)) none) {g m c j k : Nat} (hx : b.tmps[t]?.getD undef = .slice (some ⟨g, 0, none⟩) m c) (hy : b.tmps[s]?.getD undef = .int .i64 (j : Int)) (hz : b.tmps[r]?.getD undef = .int .i64 (k : Int)) (hj : j ≤ k) (hk : k ≤ c) (hc : j < c) (h : K (b.put o.dst (.slice (some ⟨g, j, none⟩) (k - j) (c - j))) w) : wpOp Tryd.prog ops Q i K b w := by
  have h0 : (0 : Int) ≤ (j : Int) := by omega
  have h1 : (j : Int) ≤ (k : Int) := by omega
  have h2 : (k : Int) ≤ (c : Int) := by omega
  have hne : ¬ c = j := by omega
  refine wpOp_of hi hw ?_
  unfold Oper.wp execOp
  simp only [ho]
  go_simp
  exact h
theorem stk_from (hi : ops[i]? = some o) (hw : Region.wanted o (yielded ops b.tmps) = true) {t s : Tmp} (ho : o.op = .slice 22 (.tmp t) (some (.tmp s)) none none) {g m c j : Nat} (hx : b.tmps[t]?.getD undef = .slice (some ⟨g, 0, none⟩) m c) (hy : b.tmps[s]?.getD undef = .int .i64 (j : Int)) (hj : j ≤ m) (hm : m ≤ c) (hc : j < c) (h : K (b.put o.dst (.slice (some ⟨g, j, none⟩) (m - j) (c - j))) w) : wpOp Tryd.prog ops Q i K b w := by
  have h0 : (0 : Int) ≤ (j : Int) := by omega
  have h1 : (j : Int) ≤ (m : Int) := by omega
  have h2 : (m : Int) ≤ (c : Int) := by omega
  have hne : ¬ c = j := by omega
  refine wpOp_of hi hw ?_
  unfold Oper.wp execOp
  simp only [ho]
  go_simp
  exact h
theorem stk_upto (hi : ops[i]? = some o) (hw : Region.wanted o (yielded ops b.tmps) = true) {t s : Tmp} (ho : o.op = .slice 22 (.tmp t) none (some (.tmp s)) none) {g m c j : Nat} (hx : b.tmps[t]?.getD undef = .slice (some ⟨g, 0, none⟩) m c) (hy : b.tmps[s]?.getD undef = .int .i64 (j : Int)) (hj : j ≤ c) (h : K (b.put o.dst (.slice (some ⟨g, 0, none⟩) j c)) w) : wpOp Tryd.prog ops Q i K b w := by
  have h0 : (0 : Int) ≤ (j : Int) := by omega
  have h1 : (j : Int) ≤ (c : Int) := by omega
  refine wpOp_of hi hw ?_
  unfold Oper.wp execOp
  simp only [ho]
  go_simp
  exact h
theorem stk_min (hi : ops[i]? = some o) (hw : Region.wanted o (yielded ops b.tmps) = true) {t s : Tmp} (ho : o.op = .call { callee := .builtin .min, args := #[.tmp t, .tmp s], argTypes := #[3, 3] }) {j k r : Nat} (hx : b.tmps[t]?.getD undef = .int .i64 (j : Int)) (hy : b.tmps[s]?.getD undef = .int .i64 (k : Int)) (hr : min j k = r) (h : K (b.put o.dst (.int .i64 (r : Int))) w) : wpOp Tryd.prog ops Q i K b w := by
  have hi' : min (j : Int) (k : Int) = (r : Int) := by omega
  refine wpOp_of hi hw ?_
  unfold Oper.wp execOp
  simp only [ho]
  go_simp
  exact h
theorem stk_max (hi : ops[i]? = some o) (hw : Region.wanted o (yielded ops b.tmps) = true) {t s : Tmp} (ho : o.op = .call { callee := .builtin .max, args := #[.tmp t, .tmp s], argTypes := #[3, 3] }) {j k r : Nat} (hx : b.tmps[t]?.getD undef = .int .i64 (j : Int)) (hy : b.tmps[s]?.getD undef = .int .i64 (k : Int)) (hr : max j k = r) (h : K (b.put o.dst (.int .i64 (r : Int))) w) : wpOp Tryd.prog ops Q i K b w := by
  have hi' : max (j : Int) (k : Int) = (r : Int) := by omega
  refine wpOp_of hi hw ?_
  unfold Oper.wp execOp
  simp only [ho]
  go_simp
  exact h
end
/-- The same, where a step keeps what holds of the values that are there (an append in place). -/
theorem wp_region_valsK {P : Program} {ops : Array Oper} {Q : Exit → Act → World → Prop} {id : Nat} {a : Act} {w : World} (ds : List Tmp) (S : World → Prop) (R : Nat → Value → World → Prop)
    (hm : P.follows .mixedOrders = true) (hw : waitsB .any ops = true) (hds : dstsB ops ds = true) (hnd : ds.Nodup) (hlt : ∀ t ∈ ds, t < a.tmps.size) (hS : S { w with drawn := w.drawn + 1 })
    (hs : ∀ (i : Nat) (o : Oper), ops[i]? = some o → ∀ (b : Act) (w : World), Fr a ds b → S w → (∀ e ∈ o.after, Region.binds .any e = true → R e.on (valOf ds b e.on) w) →
      ∀ K : Act → World → Prop, (∀ v w', S w' → R i v w' → (∀ j, j ≠ i → R j (valOf ds b j) w → R j (valOf ds b j) w') → K (b.put o.dst v) w') → wpOp P ops Q i K b w)
    (he : ∀ (b : Act) (w : World), Fr a ds b → S w → (∀ j, j < ds.length → R j (valOf ds b j) w) → Q .normal b w) :
    (Code.region id ops true).wp P Q a w := by
  obtain ⟨hlen, hdst⟩ := dstsB_spec hds
  refine wp_region_any hm ?_
  refine wpAny_inv hw (fun listed b w => Fr a ds b ∧ S w ∧ ∀ j, j < ops.size → listed.getD j false = true → R j (valOf ds b j) w) ?_ ?_ ops.size _ a _ (by simp) ?_ ⟨⟨rfl, rfl, fun _ _ => rfl⟩, hS, fun j hj h => ?_⟩
  · rintro listed b w i o ⟨hF, hSw, hR⟩ hsz hi hun hdep
    have hlti := (Array.getElem?_eq_some_iff.1 hi).1
    have ho := hdst i o hi
    obtain ⟨t, ht⟩ : ∃ t, ds[i]? = some t := ⟨_, List.getElem?_eq_getElem (by omega)⟩
    have htm : t ∈ ds := List.mem_of_getElem? ht
    have htl : t < b.tmps.size := by rw [hF.2.1]; exact hlt t htm
    refine hs i o hi b w hF hSw (fun e he hb => hR e.on ?_ (hdep e he hb)) _ ?_
    · have := waitsB_spec hw hi e he hb; omega
    · intro v w' hS' hRi hst
      rw [ho, ht]
      refine ⟨hF.put htm, hS', fun j hj hl => ?_⟩
      unfold valOf
      by_cases hji : j = i
      · subst hji
        rw [List.getD_eq_getElem?_getD, ht]
        show R j ((b.put (some t) v).tmps.getD t undef) w'
        rw [getD_put_same htl]
        exact hRi
      · have hne : t ≠ ds.getD j 0 := by
          intro e
          obtain ⟨s, hs2⟩ : ∃ s, ds[j]? = some s := ⟨_, List.getElem?_eq_getElem (by omega)⟩
          rw [List.getD_eq_getElem?_getD, hs2] at e
          simp only [Option.getD_some] at e
          subst e
          exact hji ((List.getElem?_inj (i := j) (j := i) (by omega) hnd).1 (hs2.trans ht.symm))
        rw [getD_put_ne hne]
        refine hst j hji (hR j hj ?_)
        rw [← hl, getD_set_ne false (Ne.symm hji)]
  · rintro listed b w ⟨hF, hSw, hR⟩ hall
    exact he b w hF hSw fun j hj => hR j (by omega) (hall j (by omega))
  · unfold unl
    exact Nat.le_trans (List.length_filter_le _ _) (by simp)
  · simp [Array.getD] at h
theorem ownS_below {w w' : World} {B : Nat} {n : Nat} {v : Value} {xs : List Value} (h : w.ownsRow B 9 1 v n xs) (hb : Below w.heap.size w w') : w'.ownsRow B 9 1 v n xs :=
  h.kept (row := none) ⟨hb.os, hb.tape, hb.output, hb.size, fun k hk _ => hb.block k hk⟩ (by by_cases h : v.ownBlock = none; (· exact .inl h); (· exact .inr h))
/-- An empty row of strings of the call's own. -/
def OwA (B : Nat) (v : Value) (w : World) : Prop := ∃ g, v = .slice (some ⟨g, 0, none⟩) 0 0 ∧ w.ownsRow B 9 1 v 0 []
/-- A row of n strings of the call's own. -/
def OwS (B n : Nat) (v : Value) (w : World) : Prop := v ≠ .slice none 0 0 ∧ ∃ ks : List ByteArray, w.ownsRow B 9 1 v n (ks.map Value.string) ∧ ks.length = n ∧ ∀ x ∈ ks, x.size ≤ maxLen
theorem OwA.below {B : Nat} {v : Value} {w w' : World} (h : OwA B v w) (hb : Below w.heap.size w w') : OwA B v w' := by
  obtain ⟨g, e, ho⟩ := h
  exact ⟨g, e, ownS_below ho hb⟩
theorem OwS.below {B n : Nat} {v : Value} {w w' : World} (h : OwS B n v w) (hb : Below w.heap.size w w') : OwS B n v w' := by
  obtain ⟨h0, ks, ho, hl⟩ := h
  exact ⟨h0, ks, ownS_below ho hb, hl⟩
theorem OwS.rds {B n : Nat} {v : Value} {w : World} (h : OwS B n v w) : ∃ ks, RdS w v ks := by
  obtain ⟨h0, ks, ho, hl, hs⟩ := h
  have hlt := ho.lt
  rcases ho.2 with ⟨rfl, _⟩ | ⟨g, cap, cur, rfl, hb, hg, hnc, hcm, _⟩
  · exact absurd rfl h0
  · refine ⟨ks, some ⟨g, 0, none⟩, n, cap, rfl, hl, hnc, hcm, hs, fun _ => ⟨g, 0, rfl, (hlt g rfl).2, fun j s hj => ?_⟩⟩
    have hc := ho.cells (g := g) rfl j (.string s) (by rw [List.getElem?_map, hj]; rfl)
    rwa [show ((⟨g, 0, none⟩ : Addr).add j) = ⟨g, 0 + j, none⟩ by unfold Addr.add; by_cases h : j = 0 <;> simp [h]] at hc
/-- The empty row stays beside an append to another one. -/
theorem OwA.grown {B B' n : Nat} {u v : Value} {w w' : World} {xs : List Value} (h : OwA B u w) (hv : w.ownsRow B' 9 1 v n xs) (hn : 0 < n) (hg : w.grownBy w' v.ownBlock) : OwA B u w' := by
  obtain ⟨g, rfl, ho⟩ := h
  refine ⟨g, rfl, ho.kept hg (.inr ?_)⟩
  intro e
  rcases ho.2 with ⟨h0, _⟩ | ⟨g1, cap1, cur1, e1, _, hg1, hn1, _, hc1, _⟩
  · cases h0
  · rcases hv.2 with ⟨_, h0⟩ | ⟨g2, cap2, cur2, rfl, _, hg2, hn2, _, hc2, _⟩
    · omega
    · simp only [Value.slice.injEq, Option.some.injEq, Addr.mk.injEq] at e1
      obtain ⟨⟨rfl, _⟩, _, rfl⟩ := e1
      simp only [Value.ownBlock, Option.some.injEq] at e
      subst e
      rw [hg1] at hg2
      injection hg2 with e2
      injection e2 with e3
      subst e3
      omega
theorem stk_first {ops : Array Oper} {Q : Exit → Act → World → Prop} {i : Nat} {o : Oper} {K : Act → World → Prop} {b : Act} {w : World} (hi : ops[i]? = some o) (hw : Region.wanted o (yielded ops b.tmps) = true) (ho : o.op = .buildSlice 22 0 #[]) {B : Nat} (hB : B ≤ w.heap.size)
    (h : ∀ v w', OwA B v w' → Below w.heap.size w w' → K (b.put o.dst v) w') : wpOp Tryd.prog ops Q i K b w :=
  stk_empty hi hw ho (h _ _ ⟨_, rfl, World.ownsRow_made w #[] 0 hB (by unfold maxLen; omega) rfl⟩ ((Below.refl _ _).alloc (Nat.le_refl _) _))
theorem RdS.lenK {w : World} {A : Option Addr} {m c : Nat} {ys : List ByteArray} (h : RdS w (.slice A m c) ys) : ys.length = m := by
  obtain ⟨A', m', c', e, h1, _⟩ := h
  injection e with e1 e2 e3
  omega
theorem RdS.small {w : World} {v : Value} {ys : List ByteArray} (h : RdS w v ys) : ∀ s ∈ ys, s.size ≤ maxLen := by
  obtain ⟨A', m', c', e, _, _, _, h4, _⟩ := h
  exact h4
theorem below_grown {B : Nat} {w w' : World} {v : Value} {n : Nat} {xs : List Value} (ho : w.ownsRow B 9 1 v n xs) (hg : w.grownBy w' v.ownBlock) (hB : B ≤ w.heap.size) : Below B w w' :=
  ⟨hg.os, hg.tape, hg.output, hg.size, fun k hk => hg.block k (Nat.lt_of_lt_of_le hk hB) (fun e => by have := (ho.lt k e.symm).1; omega)⟩
/-- An append to the empty row: a new row. -/
theorem stk_app1 {ops : Array Oper} {Q : Exit → Act → World → Prop} {i : Nat} {o : Oper} {K : Act → World → Prop} {b : Act} {w : World} (hi : ops[i]? = some o) (hw : Region.wanted o (yielded ops b.tmps) = true) {ts tx : Tmp} (ho : o.op = .call { callee := .builtin .append, args := #[.tmp ts, .tmp tx], argTypes := #[22, 22] })
    {B m c : Nat} {v : Value} {ys : List ByteArray} {ad : Addr} (hs : b.tmps[ts]?.getD undef = v) (hx : b.tmps[tx]?.getD undef = .slice (some ad) m c) (hA : OwA B v w) (hr : RdS w (.slice (some ad) m c) ys) (hb : m ≤ 60000) (hB : B ≤ w.heap.size)
    (h : ∀ v' w', OwS B m v' w' → Below w.heap.size w w' → K (b.put o.dst v') w') : wpOp Tryd.prog ops Q i K b w := by
  obtain ⟨g, rfl, hown⟩ := hA
  have hl := hr.lenK
  have hsz := hr.small
  refine stk_append hi hw ho hs hx hown (by simp) hr (by omega) hB fun v' w' h1 h2 h3 h4 => h v' w' ⟨h1, ys, by simpa using h2, hl, hsz⟩ ⟨h4.os, h4.tape, h4.output, h4.size, fun k hk => ?_⟩
  by_cases hkg : k = g
  · subst hkg
    rcases hown.2 with ⟨h0, _⟩ | ⟨g1, cap1, cur1, e1, _, hg1, _, _, hc1, _⟩
    · cases h0
    · rcases h3.2 with ⟨h0, _⟩ | ⟨g2, cap2, cur2, e2, _, hg2, _, _, hc2, _⟩
      · cases h0
      · simp only [Value.slice.injEq, Option.some.injEq, Addr.mk.injEq] at e1 e2
        obtain ⟨⟨rfl, _⟩, _, rfl⟩ := e1
        obtain ⟨⟨rfl, _⟩, _, rfl⟩ := e2
        have q1 : cur1 = #[] := Array.eq_empty_of_size_eq_zero (by simpa using hc1)
        have q2 : cur2 = #[] := Array.eq_empty_of_size_eq_zero (by simpa using hc2)
        rw [hg1, hg2, q1, q2]
  · exact h4.block k hk (by simpa [Value.ownBlock] using hkg)
/-- An append to a row of the call's own: the old value keeps its strings, the empty row is kept. -/
theorem stk_app2 {ops : Array Oper} {Q : Exit → Act → World → Prop} {i : Nat} {o : Oper} {K : Act → World → Prop} {b : Act} {w : World} (hi : ops[i]? = some o) (hw : Region.wanted o (yielded ops b.tmps) = true) {ts tx : Tmp} (ho : o.op = .call { callee := .builtin .append, args := #[.tmp ts, .tmp tx], argTypes := #[22, 22] })
    {B n m c : Nat} {v : Value} {ys : List ByteArray} {ad : Addr} (hs : b.tmps[ts]?.getD undef = v) (hx : b.tmps[tx]?.getD undef = .slice (some ad) m c) (hO : OwS B n v w) (hn : 0 < n) (hr : RdS w (.slice (some ad) m c) ys) (hb : n + m ≤ 60000) (hB : B ≤ w.heap.size)
    (h : ∀ v' w', OwS B (n + m) v' w' → OwS B n v w' → (∀ u, OwA B u w → OwA B u w') → Below B w w' → K (b.put o.dst v') w') : wpOp Tryd.prog ops Q i K b w := by
  obtain ⟨hv, ks, hown, hk, hks⟩ := hO
  have hl := hr.lenK
  have hsz := hr.small
  refine stk_append hi hw ho hs hx hown hv hr (by omega) hB fun v' w' h1 h2 h3 h4 => h v' w' ⟨h1, ks ++ ys, by simpa using h2, by simp [hk, hl], fun x hx => ?_⟩ ⟨hv, ks, h3, hk, hks⟩ (fun u hu => hu.grown hown hn h4) (below_grown hown h4 hB)
  rcases List.mem_append.1 hx with hx | hx
  · exact hks x hx
  · exact hsz x hx
/-- Values known one by one, but for an empty row of the call's own (ja), a row of n strings (jb) and one of n + m (jc). -/
def R8 (vs : List Value) (B n m ja jb jc : Nat) (j : Nat) (v : Value) (w : World) : Prop :=
  cond (Nat.beq j ja) (OwA B v w) (cond (Nat.beq j jb) (OwS B n v w) (cond (Nat.beq j jc) (OwS B (n + m) v w) (v = vs.getD j undef)))
theorem R8.below {vs : List Value} {B n m ja jb jc j : Nat} {v : Value} {w w' : World} (h : R8 vs B n m ja jb jc j v w) (hb : Below w.heap.size w w') : R8 vs B n m ja jb jc j v w' := by
  unfold R8 at h ⊢
  cases h1 : Nat.beq j ja with
  | true => rw [h1] at h; exact OwA.below h hb
  | false =>
    rw [h1] at h
    simp only [cond_false] at h ⊢
    cases h2 : Nat.beq j jb with
    | true => rw [h2] at h; exact OwS.below h hb
    | false =>
      rw [h2] at h
      simp only [cond_false] at h ⊢
      cases h3 : Nat.beq j jc with
      | true => rw [h3] at h; exact OwS.below h hb
      | false => rw [h3] at h; exact h
theorem R8.app {vs : List Value} {B n m ja jb jc : Nat} {f : Nat → Value} {w w' : World} (hA : ∀ u, OwA B u w → OwA B u w') (hO : OwS B n (f jb) w') : ∀ j, j ≠ jc → R8 vs B n m ja jb jc j (f j) w → R8 vs B n m ja jb jc j (f j) w' := by
  intro j hj h
  unfold R8 at h ⊢
  cases h1 : Nat.beq j ja with
  | true => rw [h1] at h; exact hA _ h
  | false =>
    rw [h1] at h
    simp only [cond_false] at h ⊢
    cases h2 : Nat.beq j jb with
    | true =>
      obtain rfl : j = jb := Nat.eq_of_beq_eq_true h2
      exact hO
    | false =>
      rw [h2] at h
      simp only [cond_false] at h ⊢
      cases h3 : Nat.beq j jc with
      | true => exact absurd (Nat.eq_of_beq_eq_true h3) hj
      | false => rw [h3] at h; exact h
theorem unwanted_at {ops : Array Oper} {o : Oper} {b : Act} {g t : Nat} {bb : Bool} (hg : o.guard = some (g, bb)) (ht : (ops[g]?).bind (·.dst) = some t) (hv : b.tmps[t]?.getD undef = undef) : Region.wanted o (yielded ops b.tmps) = false := by
  have h1 : yielded ops b.tmps g = none := by
    unfold yielded
    rw [ht]
    simp only [Option.bind_some]
    cases hb : b.tmps[t]? with
    | none => rfl
    | some v =>
      rw [hb] at hv
      simp only [Option.getD_some] at hv
      subst hv
      rfl
  unfold Region.wanted
  rw [hg]
  simp only [h1]
  cases bb <;> rfl
theorem stk_pickf {ops : Array Oper} {Q : Exit → Act → World → Prop} {i : Nat} {o : Oper} {K : Act → World → Prop} {b : Act} {w : World} (hi : ops[i]? = some o) (hw : Region.wanted o (yielded ops b.tmps) = true) {t s : Tmp} (ho : o.op = .pick (.tmp t) (.tmp s) (.const (.bool false))) {v : Bool} {u r : Value} (hx : b.tmps[t]?.getD undef = .bool v) (hy : b.tmps[s]?.getD undef = u) (hr : (if v = true then u else .bool false) = r) (h : K (b.put o.dst r) w) : wpOp Tryd.prog ops Q i K b w := by
  refine wpOp_of hi hw ?_
  unfold Oper.wp execOp
  simp only [ho]
  subst hr
  go_simp
  exact h
end Go.Proofs.YtnplkamkeadlgaaDoor
namespace Go.Proofs.YtnplkamkeadlgaaDoor
open Go Go.RowKit

/-- The law's seven keys. -/
def S7 (i : Nat) : ByteArray := ([⟨#[]⟩, ⟨#[1]⟩, ⟨#[97]⟩, ⟨#[97, 1]⟩, ⟨#[97, 97]⟩, ⟨#[98]⟩, ⟨#[255]⟩] : List ByteArray).getD i ⟨#[]⟩
/-- A slice that reads as some list of strings. -/
def RdE (W : World) (v : Value) : Prop := ∃ ks, RdS W v ks
theorem tr7 {w w1 w2 : World} (h : Below w.heap.size w w1) (k : Below w1.heap.size w1 w2) : Below w.heap.size w w2 := h.trans (k.mono h.size)
theorem seven_at (w : World) : ∀ i, i < 7 → ∀ X, Below (w.alloc (.cells #[.string ⟨#[]⟩, .string ⟨#[1]⟩, .string ⟨#[97]⟩, .string ⟨#[97, 1]⟩, .string ⟨#[97, 97]⟩, .string ⟨#[98]⟩, .string ⟨#[255]⟩] 9)).heap.size (w.alloc (.cells #[.string ⟨#[]⟩, .string ⟨#[1]⟩, .string ⟨#[97]⟩, .string ⟨#[97, 1]⟩, .string ⟨#[97, 97]⟩, .string ⟨#[98]⟩, .string ⟨#[255]⟩] 9)) X → X.cell? ⟨w.heap.size, i, none⟩ = some (.string (S7 i)) := by
  intro i hi X hX
  have hB := Blk.below (Blk.new w 9 _) hX (by simp)
  rcases (show i = 0 ∨ i = 1 ∨ i = 2 ∨ i = 3 ∨ i = 4 ∨ i = 5 ∨ i = 6 by omega) with rfl | rfl | rfl | rfl | rfl | rfl | rfl
  all_goals exact Blk.cell hB _
theorem s7_small (i : Nat) : (S7 i).size ≤ 10 := by
  unfold S7
  by_cases h : i < 7
  · rcases (show i = 0 ∨ i = 1 ∨ i = 2 ∨ i = 3 ∨ i = 4 ∨ i = 5 ∨ i = 6 by omega) with rfl | rfl | rfl | rfl | rfl | rfl | rfl <;> decide
  · rw [List.getD_eq_getElem?_getD, List.getElem?_eq_none (by simp; omega)]
    decide
/-- Every part of the row reads as a list of strings. -/
theorem seven_part {g : Nat} {X : World} (hg : g < X.heap.size) (h : ∀ i, i < 7 → X.cell? ⟨g, i, none⟩ = some (.string (S7 i))) (lo n c : Nat) (h7 : lo + n ≤ 7) (hc : n ≤ c) (hc7 : c ≤ 7) : RdE X (.slice (some ⟨g, lo, none⟩) n c) := by
  refine ⟨(List.range n).map fun j => S7 (lo + j), some ⟨g, lo, none⟩, n, c, rfl, by simp, hc, by unfold maxLen; omega, fun s hs => ?_, fun hn => ⟨g, lo, rfl, hg, fun j s hj => ?_⟩⟩
  · obtain ⟨j, _, rfl⟩ := List.mem_map.1 hs
    exact Nat.le_trans (s7_small _) (by unfold maxLen; omega)
  · have hjn : j < n := by have := (List.getElem?_eq_some_iff.1 hj).1; simpa using this
    rw [List.getElem?_map, List.getElem?_range hjn] at hj
    obtain rfl := Option.some.inj hj
    exact h (lo + j) (by omega)
abbrev OKls (w : World) : Prop := ∀ (W : World) (i k : Nat), Below w.heap.size w W → i < 7 → k < 7 → Calls Tryd.prog 4 #[.string (S7 i), .string (S7 k)] W fun e w' => e = .returned (.bool (decide (i < k))) ∧ Below W.heap.size W w'
abbrev OKor (w : World) : Prop := ∀ (W : World) (a b : ByteArray) (v : Value), Below w.heap.size w W → a.size ≤ maxLen → b.size ≤ maxLen → RdE W v → Calls Tryd.prog 5 #[.string a, .string b, v] W fun e w' => e = .returned (.bool true) ∧ Below W.heap.size W w'
abbrev OKfi (w : World) : Prop := ∀ (W : World) (v : Value) (k : ByteArray), Below w.heap.size w W → k.size ≤ maxLen → RdE W v → Calls Tryd.prog 6 #[v, .string k] W fun e w' => e = .returned (.bool true) ∧ Below W.heap.size W w'
abbrev OKha (w : World) : Prop := ∀ (W : World) (v : Value) (k : ByteArray), Below w.heap.size w W → k.size ≤ maxLen → RdE W v → Calls Tryd.prog 7 #[v, .string k] W fun e w' => e = .returned (.bool true) ∧ Below W.heap.size W w'
def dsK : List Tmp := [18, 19, 20, 21, 22, 23, 24, 25, 26, 27, 28, 29, 30, 31, 32, 33, 34, 35, 36, 37, 38, 39, 40, 41, 42, 43, 44, 45, 46, 47, 48, 49, 50, 51, 52, 53, 54, 55, 56, 57, 58, 59, 60, 61, 62, 63, 64, 65, 66, 67, 68, 69, 70, 71, 72]
def dsL : List Tmp := [79, 80, 81, 82, 83, 84, 85, 86, 87, 88, 89, 90, 91, 92, 93, 94, 95, 96, 97, 98, 99, 100, 101, 102, 103, 104, 105, 106, 107, 108, 109]
def dsM : List Tmp := [110, 111, 112, 113, 114, 115, 116, 117, 118, 119, 120]
def vsLT (gl i k : Nat) (si : ByteArray) : List Value := (.int .i64 (k : Int)) :: (.int .i64 (i : Int)) :: (.bool true) :: (.bool true) :: (.slice (some ⟨gl, 0, none⟩) 7 7) :: (.int .i64 (i : Int)) :: (.int .i64 (k : Int)) :: (.slice (some ⟨gl, i, none⟩) (k - i) (7 - i)) :: (.bool true) :: (.bool false) :: (.bool false) :: (.slice (some ⟨gl, 0, none⟩) 7 7) :: (.int .i64 (i : Int)) :: (.int .i64 (k : Int)) :: (.slice (some ⟨gl, i, none⟩) (k - i) (7 - i)) :: (.bool true) :: (.bool false) :: (.bool false) :: (.bool false) :: (.slice (some ⟨gl, 0, none⟩) 7 7) :: (.int .i64 (i : Int)) :: (.int .i64 (k : Int)) :: (.slice (some ⟨gl, i, none⟩) (k - i) (7 - i)) :: (.slice (some ⟨gl, 0, none⟩) 7 7) :: (.int .i64 (i : Int)) :: (.pointer (some ⟨gl, i, none⟩)) :: (.string si) :: (.bool true) :: (.bool false) :: (.bool false) :: (.bool false) :: []
def vsLF (i k : Nat) : List Value := (.int .i64 (k : Int)) :: (.int .i64 (i : Int)) :: (.bool false) :: (.bool false) :: (undef) :: (undef) :: (undef) :: (undef) :: (undef) :: (undef) :: (undef) :: (undef) :: (undef) :: (undef) :: (undef) :: (undef) :: (undef) :: (undef) :: (undef) :: (undef) :: (undef) :: (undef) :: (undef) :: (undef) :: (undef) :: (undef) :: (undef) :: (undef) :: (undef) :: (undef) :: (.bool false) :: []
def vsM (gl i : Nat) : List Value := (undef) :: (.slice (some ⟨gl, 0, none⟩) 7 7) :: (.int .i64 (i : Int)) :: (.slice (some ⟨gl, i, none⟩) (7 - i) (7 - i)) :: (undef) :: (.slice (some ⟨gl, 0, none⟩) 7 7) :: (.int .i64 (i : Int)) :: (.slice (some ⟨gl, 0, none⟩) i 7) :: (undef) :: (.bool true) :: (.bool false) :: []
def vsK (gl i k lo hi : Nat) (si sk : ByteArray) (lt : Bool) : List Value := (.slice (some ⟨gl, 0, none⟩) 7 7) :: (.int .i64 (i : Int)) :: (.pointer (some ⟨gl, i, none⟩)) :: (.string si) :: (.slice (some ⟨gl, 0, none⟩) 7 7) :: (.int .i64 (k : Int)) :: (.pointer (some ⟨gl, k, none⟩)) :: (.string sk) :: (.bool lt) :: (.int .i64 (i : Int)) :: (.int .i64 (k : Int)) :: (.bool lt) :: (.bool false) :: (.bool false) :: (.slice (some ⟨gl, 0, none⟩) 7 7) :: (.int .i64 (i : Int)) :: (.pointer (some ⟨gl, i, none⟩)) :: (.string si) :: (.slice (some ⟨gl, 0, none⟩) 7 7) :: (.int .i64 (k : Int)) :: (.pointer (some ⟨gl, k, none⟩)) :: (.string sk) :: (.slice (some ⟨gl, 0, none⟩) 7 7) :: (.int .i64 (i : Int)) :: (.int .i64 (k : Int)) :: (.int .i64 (lo : Int)) :: (.int .i64 (i : Int)) :: (.int .i64 (k : Int)) :: (.int .i64 (hi : Int)) :: (.slice (some ⟨gl, lo, none⟩) (hi - lo) (7 - lo)) :: (.bool true) :: (.bool false) :: (.bool false) :: (.bool false) :: (.slice (some ⟨gl, 0, none⟩) 7 7) :: (.int .i64 (k : Int)) :: (.pointer (some ⟨gl, k, none⟩)) :: (.string sk) :: (.slice (some ⟨gl, 0, none⟩) 7 7) :: (.int .i64 (i : Int)) :: (.pointer (some ⟨gl, i, none⟩)) :: (.string si) :: (.string (si ++ ⟨#[0]⟩)) :: (undef) :: (.slice (some ⟨gl, 0, none⟩) 7 7) :: (.int .i64 (i : Int)) :: (.slice (some ⟨gl, i, none⟩) (7 - i) (7 - i)) :: (undef) :: (.slice (some ⟨gl, 0, none⟩) 7 7) :: (.int .i64 (i : Int)) :: (.slice (some ⟨gl, 0, none⟩) i 7) :: (undef) :: (.bool true) :: (.bool false) :: (.bool false) :: []

theorem infoNK : (Tryd.prog.info? 31).map (fun i => (i.zero, i.size, i.bytes)) = some (some (.agg #[.int .i64 0, .int .i64 0, .int .u64 0, .string ⟨#[]⟩, .slice none 0 0, .slice none 0 0]), 6, 88) := by kernel_rfl
def zN : List Value := [.int .i64 0, .int .i64 0, .int .u64 0, .string ⟨#[]⟩, .slice none 0 0, .slice none 0 0]
def zC : Array Value := ([zN, zN, zN, zN, zN, zN, zN] : List (List Value)).flatten.toArray
theorem run_mk7 (w : World) : (Instr.makeSlice 29 (.int .i64 7) (.int .i64 7)).run Tryd.prog w = .ok (.slice (some ⟨w.heap.size, 0, none⟩) 7 7) (w.alloc (.cells zC 31)) := by
  obtain ⟨i, hi, hz0, hz1, hz2⟩ := info_parts infoNK
  have := run_make (P := Tryd.prog) w 29 31 i _ Tryd.underlying29 hi hz0 .i64 .i64 7 7 (by omega) (Int.le_refl _) (by rw [hz2]; omega) (by omega)
  rw [hz1] at this
  exact this.trans (by kernel_rfl)
theorem zn_nde (X : World) : NdE X zN := nde_leaf X ⟨by decide, by decide, by decide, by decide, by decide, by decide⟩ (by decide)
theorem rng17 : Rng 17 0 0 := ⟨by decide, by decide, by decide, by decide, by decide, by decide⟩
theorem num_nde (X : World) (n : Int) (h0 : 0 ≤ n) (h1 : n ≤ 100) : NdE X [.int .i64 3, .int .i64 n, .int .u64 0, .string ⟨#[]⟩, .slice none 0 0, .slice none 0 0] := nde_leaf X ⟨by decide, by decide, by omega, by omega, by decide, by decide⟩ (by decide)
theorem tab7 {X : World} {gl z : Nat} (hg : gl < X.heap.size) (h : ∀ i, i < 7 → X.cell? ⟨gl, i, none⟩ = some (.string (S7 i))) (hz : RdN X (.slice (some ⟨z, 0, none⟩) 7 7) 7) :
    NdE X [.int .i64 17, .int .i64 0, .int .u64 0, .string ⟨#[]⟩, .slice (some ⟨gl, 0, none⟩) 7 7, .slice (some ⟨z, 0, none⟩) 7 7] := nde_mk rng17 (by decide) (seven_part hg h 0 7 7 (by omega) (by omega) (by omega)) hz
theorem zc_rdn (w : World) : RdN (w.alloc (.cells zC 31)) (.slice (some ⟨w.heap.size, 0, none⟩) 7 7) 7 := rdn_lit [zN, zN, zN, zN, zN, zN, zN] (Blk.new w _ _) rfl rfl (fun x hx => by
  simp only [List.mem_cons, List.not_mem_nil, or_false, or_self] at hx
  subst hx
  exact zn_nde _) (by decide)
abbrev OKwk (w : World) : Prop := ∀ (W : World), Below w.heap.size w W → Calls Tryd.prog 8 #[] W fun e w' => e = .returned (.bool true) ∧ Below W.heap.size W w'
abbrev OKso (w : World) : Prop := ∀ (W : World) (cs : List Value), Below w.heap.size w W → NdE W cs → Calls Tryd.prog 9 #[.agg cs.toArray] W fun e w' => e = .returned (.bool true) ∧ Below W.heap.size W w'
abbrev OKsa (w : World) : Prop := ∀ (W : World) (cs : List Value) (n : Int), Below w.heap.size w W → NdE W cs → Calls Tryd.prog 11 #[.agg cs.toArray, .int .i64 n] W fun e w' => e = .returned (.bool true) ∧ Below W.heap.size W w'

set_option maxRecDepth 20000 in
set_option maxHeartbeats 4000000 in
theorem known7_core (w : World) (hL : OKls w) (hO : OKor w) (hF : OKfi w) (hH : OKha w) (hW : OKwk w) (hS : OKso w) (hM : OKsa w) : Calls Tryd.prog 3 #[] w fun e w' => e = .returned (.bool true) ∧ Below w.heap.size w w' := by
  have HLE := Lib.hid hL
  have HOR := Lib.hid hO
  have HFI := Lib.hid hF
  have HHA := Lib.hid hH
  have HWK := Lib.hid hW
  have HSO := Lib.hid hS
  have HSA := Lib.hid hM
  have HSV := Lib.hid (seven_at w)
  have HB1 : Hid (Below w.heap.size w (w.alloc (.cells #[.string ⟨#[]⟩, .string ⟨#[1]⟩, .string ⟨#[97]⟩, .string ⟨#[97, 1]⟩, .string ⟨#[97, 97]⟩, .string ⟨#[98]⟩, .string ⟨#[255]⟩] 9))) := Lib.hid ((Below.refl _ _).alloc (Nat.le_refl _) _)
  have HSZ : Hid (w.heap.size < (w.alloc (.cells #[.string ⟨#[]⟩, .string ⟨#[1]⟩, .string ⟨#[97]⟩, .string ⟨#[97, 1]⟩, .string ⟨#[97, 97]⟩, .string ⟨#[98]⟩, .string ⟨#[255]⟩] 9)).heap.size) := Lib.hid (by simp)
  clear hL hO hF hH hW hS hM
  go_enter Tryd.func3, Tryd.ntmps3
  go_upto_block 0 with fail
  obtain ⟨W1, hW1⟩ : ∃ W1, w.alloc (.cells #[.string ⟨#[]⟩, .string ⟨#[1]⟩, .string ⟨#[97]⟩, .string ⟨#[97, 1]⟩, .string ⟨#[97, 97]⟩, .string ⟨#[98]⟩, .string ⟨#[255]⟩] 9) = W1 := ⟨_, rfl⟩
  obtain ⟨gl, hgl⟩ : ∃ gl, w.heap.size = gl := ⟨_, rfl⟩
  rw [hW1] at HB1 HSV HSZ
  simp only [hW1]
  rw [hgl] at HSV HSZ
  simp only [hgl]
  have HGL := Lib.hid hgl
  clear hW1 hgl
  go_cut [1] (fun l wx => l = .slice (some ⟨gl, 0, none⟩) 7 7 ∧ Hid (Below W1.heap.size W1 wx))
  case first =>
    go_wp2_with fail
    go_loopw [2] (fun v wr => ∃ i : Nat, i ≤ 7 ∧ v = .int .i64 (i : Int) ∧ Hid (Below W1.heap.size W1 wr)) (fun v _ => 7 - (intOf v).toNat)
    case atStart => exact ⟨0, Nat.zero_le _, rfl, Lib.hid (Below.refl _ _)⟩
    case round =>
      obtain ⟨i, hi, rfl, HI⟩ := hrel
      by_cases hi7 : i < 7
      · have hii : decide ((i : Int) < 7) = true := by simp; omega
        go_upto_block 2 with fail
        go_cut [1, 2] (fun l v wx => l = .slice (some ⟨gl, 0, none⟩) 7 7 ∧ v = .int .i64 (i : Int) ∧ Hid (Below W1.heap.size W1 wx))
        case first =>
          go_wp2_with fail
          go_loopw [3] (fun v wk => ∃ k : Nat, k ≤ 7 ∧ v = .int .i64 (k : Int) ∧ Hid (Below W1.heap.size W1 wk)) (fun v _ => 7 - (intOf v).toNat)
          case atStart => exact ⟨0, Nat.zero_le _, rfl, HI⟩
          case round =>
            obtain ⟨k, hk, rfl, HK⟩ := hrel
            by_cases hk7 : k < 7
            · have hkk : decide ((k : Int) < 7) = true := by simp; omega
              obtain ⟨B, hB⟩ : ∃ B, wr.heap.size = B := ⟨_, rfl⟩
              obtain ⟨si, hsi0⟩ : ∃ si, S7 i = si := ⟨_, rfl⟩
              obtain ⟨sk, hsk0⟩ : ∃ sk, S7 k = sk := ⟨_, rfl⟩
              obtain ⟨lt, hlt⟩ : ∃ lt, decide (i < k) = lt := ⟨_, rfl⟩
              obtain ⟨lo, hlo⟩ : ∃ lo, min i k = lo := ⟨_, rfl⟩
              obtain ⟨hi, hhi⟩ : ∃ hi, max i k = hi := ⟨_, rfl⟩
              have hlh : lo ≤ hi := by omega
              have hh7 : hi ≤ 7 := by omega
              have hl7 : lo < 7 := by omega
              have h10 : si.size ≤ 10 := hsi0 ▸ s7_small i
              have hsi : si.size ≤ maxLen := Nat.le_trans h10 (by decide)
              have hsk : sk.size ≤ maxLen := hsk0 ▸ Nat.le_trans (s7_small k) (by decide)
              have hsz : si.size + (⟨#[0]⟩ : ByteArray).size ≤ maxLen := Nat.le_trans (Nat.add_le_add_right h10 _) (by decide)
              have hs2 : (si ++ ⟨#[0]⟩).size ≤ maxLen := by rw [ByteArray.size_append]; exact hsz
              have HW1 : Hid (∀ X, Hid (Below B wr X) → Below W1.heap.size W1 X) := Lib.hid fun X h => HK.out.trans (h.out.mono (hB ▸ HK.out.size))
              have HBS : Hid (∀ X, Hid (Below B wr X) → B ≤ X.heap.size) := Lib.hid fun X h => hB ▸ h.out.size
              have HSL : Hid (∀ X Y, Hid (Below B wr X) → Below X.heap.size X Y → Hid (Below B wr Y)) := Lib.hid fun X Y h k => Lib.hid (h.out.trans (k.mono (HBS.out X h)))
              have HST : Hid (∀ X Y, Hid (Below B wr X) → Below B X Y → Below B wr Y) := Lib.hid fun X Y h k => h.out.trans k
              have HCI : Hid (∀ X, Hid (Below B wr X) → X.cell? ⟨gl, i, none⟩ = some (.string si)) := Lib.hid fun X h => hsi0 ▸ HSV.out i hi7 X (HW1.out X h)
              have HCK : Hid (∀ X, Hid (Below B wr X) → X.cell? ⟨gl, k, none⟩ = some (.string sk)) := Lib.hid fun X h => hsk0 ▸ HSV.out k hk7 X (HW1.out X h)
              have HPT : Hid (∀ X, Hid (Below B wr X) → ∀ lo n c, lo + n ≤ 7 → n ≤ c → c ≤ 7 → RdE X (.slice (some ⟨gl, lo, none⟩) n c)) := Lib.hid fun X h => seven_part (Nat.lt_of_lt_of_le HSZ.out (HW1.out X h).size) fun j hj => HSV.out j hj X (HW1.out X h)
              have HWB : Hid (∀ X, Hid (Below B wr X) → Below w.heap.size w X) := Lib.hid fun X h => HB1.out.trans ((HW1.out X h).mono HB1.out.size)
              have HLS : Hid (∀ X, Hid (Below B wr X) → Calls Tryd.prog 4 #[.string si, .string sk] X fun e w' => e = .returned (.bool lt) ∧ Below X.heap.size X w') := Lib.hid fun X h => by
                have := HLE.out X i k (HWB.out X h) hi7 hk7
                rwa [hsi0, hsk0, hlt] at this
              have HKO : Hid (∀ X (a b : ByteArray) (v : Value), Hid (Below B wr X) → a.size ≤ maxLen → b.size ≤ maxLen → RdE X v → Calls Tryd.prog 5 #[.string a, .string b, v] X fun e w' => e = .returned (.bool true) ∧ Below X.heap.size X w') := Lib.hid fun X a b v h => HOR.out X a b v (HWB.out X h)
              have HSd : Hid (Below B wr wr.drew) := Lib.hid (Below.refl _ _).drew
              clear hB hsi0 hsk0 h10
              go_upto_region 8 with fail
              refine wp_region_valsK dsK (fun X => Hid (Below B wr X)) (R8 (vsK gl i k lo hi si sk lt) B (7 - i) i 43 47 51) (by kernel_rfl) (by kernel_rfl) (by kernel_rfl) (by decide) (lt_all (n := 147) (by decide)) HSd ?step ?fin
              case step =>
                refine each_op ?_
                refine ⟨?_, ?_, ?_, ?_, ?_, ?_, ?_, ?_, ?_, ?_, ?_, ?_, ?_, ?_, ?_, ?_, ?_, ?_, ?_, ?_, ?_, ?_, ?_, ?_, ?_, ?_, ?_, ?_, ?_, ?_, ?_, ?_, ?_, ?_, ?_, ?_, ?_, ?_, ?_, ?_, ?_, ?_, ?_, ?_, ?_, ?_, ?_, ?_, ?_, ?_, ?_, ?_, ?_, ?_, ?_, trivial⟩
                · intro hi' b wx hF hS hd K hK
                  have h1 : b.tmps[1]?.getD undef = .slice (some ⟨gl, 0, none⟩) 7 7 := hF.at (t := 1) rfl rfl
                  exact stq_move hi' (by simp [Region.wanted]) rfl h1  (hK _ _ hS rfl (fun _ _ h => h))
                · intro hi' b wx hF hS hd K hK
                  have h2 : b.tmps[2]?.getD undef = .int .i64 (i : Int) := hF.at (t := 2) rfl rfl
                  exact stq_move hi' (by simp [Region.wanted]) rfl h2  (hK _ _ hS rfl (fun _ _ h => h))
                · intro hi' b wx hF hS hd K hK
                  have h18 := val_at (t := 18) rfl (show valOf dsK b 0 = .slice (some ⟨gl, 0, none⟩) 7 7 from dep (F := fun jz => R8 (vsK gl i k lo hi si sk lt) B (7 - i) i 43 47 51 jz (valOf dsK b jz) wx) hd 0 (by kernel_rfl))
                  have h19 := val_at (t := 19) rfl (show valOf dsK b 1 = .int .i64 (i : Int) from dep (F := fun jz => R8 (vsK gl i k lo hi si sk lt) B (7 - i) i 43 47 51 jz (valOf dsK b jz) wx) hd 1 (by kernel_rfl))
                  exact stk_str hi' (by simp [Region.wanted]) rfl h18 h19 hi7 (hK _ _ hS rfl (fun _ _ h => h))
                · intro hi' b wx hF hS hd K hK
                  have h20 := val_at (t := 20) rfl (show valOf dsK b 2 = .pointer (some ⟨gl, i, none⟩) from dep (F := fun jz => R8 (vsK gl i k lo hi si sk lt) B (7 - i) i 43 47 51 jz (valOf dsK b jz) wx) hd 2 (by kernel_rfl))
                  exact stk_read hi' (by simp [Region.wanted]) rfl h20 (HCI.out wx hS) (hK _ _ hS rfl (fun _ _ h => h))
                · intro hi' b wx hF hS hd K hK
                  have h1 : b.tmps[1]?.getD undef = .slice (some ⟨gl, 0, none⟩) 7 7 := hF.at (t := 1) rfl rfl
                  exact stq_move hi' (by simp [Region.wanted]) rfl h1  (hK _ _ hS rfl (fun _ _ h => h))
                · intro hi' b wx hF hS hd K hK
                  have h3 : b.tmps[3]?.getD undef = .int .i64 (k : Int) := hF.at (t := 3) rfl rfl
                  exact stq_move hi' (by simp [Region.wanted]) rfl h3  (hK _ _ hS rfl (fun _ _ h => h))
                · intro hi' b wx hF hS hd K hK
                  have h22 := val_at (t := 22) rfl (show valOf dsK b 4 = .slice (some ⟨gl, 0, none⟩) 7 7 from dep (F := fun jz => R8 (vsK gl i k lo hi si sk lt) B (7 - i) i 43 47 51 jz (valOf dsK b jz) wx) hd 4 (by kernel_rfl))
                  have h23 := val_at (t := 23) rfl (show valOf dsK b 5 = .int .i64 (k : Int) from dep (F := fun jz => R8 (vsK gl i k lo hi si sk lt) B (7 - i) i 43 47 51 jz (valOf dsK b jz) wx) hd 5 (by kernel_rfl))
                  exact stk_str hi' (by simp [Region.wanted]) rfl h22 h23 hk7 (hK _ _ hS rfl (fun _ _ h => h))
                · intro hi' b wx hF hS hd K hK
                  have h24 := val_at (t := 24) rfl (show valOf dsK b 6 = .pointer (some ⟨gl, k, none⟩) from dep (F := fun jz => R8 (vsK gl i k lo hi si sk lt) B (7 - i) i 43 47 51 jz (valOf dsK b jz) wx) hd 6 (by kernel_rfl))
                  exact stk_read hi' (by simp [Region.wanted]) rfl h24 (HCK.out wx hS) (hK _ _ hS rfl (fun _ _ h => h))
                · intro hi' b wx hF hS hd K hK
                  have h21 := val_at (t := 21) rfl (show valOf dsK b 3 = .string si from dep (F := fun jz => R8 (vsK gl i k lo hi si sk lt) B (7 - i) i 43 47 51 jz (valOf dsK b jz) wx) hd 3 (by kernel_rfl))
                  have h25 := val_at (t := 25) rfl (show valOf dsK b 7 = .string sk from dep (F := fun jz => R8 (vsK gl i k lo hi si sk lt) B (7 - i) i 43 47 51 jz (valOf dsK b jz) wx) hd 7 (by kernel_rfl))
                  have hSH := hS
                  refine stp_callg (enters_of Tryd.func4 (by kernel_rfl) rfl) hi' (by simp [Region.wanted]) rfl (args := #[.string si, .string sk]) (by simp [Act.eval, h21, h25]) (HLS.out wx hSH) ?_
                  rintro e w' ⟨rfl, hb⟩
                  exact ⟨_, rfl, hK _ _ (HSL.out _ _ hS hb) rfl (fun _ _ h => R8.below h hb)⟩
                · intro hi' b wx hF hS hd K hK
                  have h2 : b.tmps[2]?.getD undef = .int .i64 (i : Int) := hF.at (t := 2) rfl rfl
                  exact stq_move hi' (by simp [Region.wanted]) rfl h2  (hK _ _ hS rfl (fun _ _ h => h))
                · intro hi' b wx hF hS hd K hK
                  have h3 : b.tmps[3]?.getD undef = .int .i64 (k : Int) := hF.at (t := 3) rfl rfl
                  exact stq_move hi' (by simp [Region.wanted]) rfl h3  (hK _ _ hS rfl (fun _ _ h => h))
                · intro hi' b wx hF hS hd K hK
                  have h27 := val_at (t := 27) rfl (show valOf dsK b 9 = .int .i64 (i : Int) from dep (F := fun jz => R8 (vsK gl i k lo hi si sk lt) B (7 - i) i 43 47 51 jz (valOf dsK b jz) wx) hd 9 (by kernel_rfl))
                  have h28 := val_at (t := 28) rfl (show valOf dsK b 10 = .int .i64 (k : Int) from dep (F := fun jz => R8 (vsK gl i k lo hi si sk lt) B (7 - i) i 43 47 51 jz (valOf dsK b jz) wx) hd 10 (by kernel_rfl))
                  exact stk_lss hi' (by simp [Region.wanted]) rfl h27 h28 hlt (hK _ _ hS rfl (fun _ _ h => h))
                · intro hi' b wx hF hS hd K hK
                  have h26 := val_at (t := 26) rfl (show valOf dsK b 8 = .bool lt from dep (F := fun jz => R8 (vsK gl i k lo hi si sk lt) B (7 - i) i 43 47 51 jz (valOf dsK b jz) wx) hd 8 (by kernel_rfl))
                  have h29 := val_at (t := 29) rfl (show valOf dsK b 11 = .bool lt from dep (F := fun jz => R8 (vsK gl i k lo hi si sk lt) B (7 - i) i 43 47 51 jz (valOf dsK b jz) wx) hd 11 (by kernel_rfl))
                  exact stq_neb hi' (by simp [Region.wanted]) rfl h26 h29 (hK _ _ hS (show Value.bool (lt != lt) = .bool false by simp) (fun _ _ h => h))
                · intro hi' b wx hF hS hd K hK
                  have h30 := val_at (t := 30) rfl (show valOf dsK b 12 = .bool false from dep (F := fun jz => R8 (vsK gl i k lo hi si sk lt) B (7 - i) i 43 47 51 jz (valOf dsK b jz) wx) hd 12 (by kernel_rfl))
                  exact stq_move hi' (by simp [Region.wanted]) rfl h30  (hK _ _ hS rfl (fun _ _ h => h))
                · intro hi' b wx hF hS hd K hK
                  have hg := val_at (t := 31) rfl (show valOf dsK b 13 = .bool false from dep (F := fun jz => R8 (vsK gl i k lo hi si sk lt) B (7 - i) i 43 47 51 jz (valOf dsK b jz) wx) hd 13 (by kernel_rfl))
                  have h1 : b.tmps[1]?.getD undef = .slice (some ⟨gl, 0, none⟩) 7 7 := hF.at (t := 1) rfl rfl
                  exact stq_move hi' ((wanted_at (g := 13) (t := 31) (bb := false) (c := false) rfl rfl hg).trans rfl) rfl h1  (hK _ _ hS rfl (fun _ _ h => h))
                · intro hi' b wx hF hS hd K hK
                  have hg := val_at (t := 31) rfl (show valOf dsK b 13 = .bool false from dep (F := fun jz => R8 (vsK gl i k lo hi si sk lt) B (7 - i) i 43 47 51 jz (valOf dsK b jz) wx) hd 13 (by kernel_rfl))
                  have h2 : b.tmps[2]?.getD undef = .int .i64 (i : Int) := hF.at (t := 2) rfl rfl
                  exact stq_move hi' ((wanted_at (g := 13) (t := 31) (bb := false) (c := false) rfl rfl hg).trans rfl) rfl h2  (hK _ _ hS rfl (fun _ _ h => h))
                · intro hi' b wx hF hS hd K hK
                  have hg := val_at (t := 31) rfl (show valOf dsK b 13 = .bool false from dep (F := fun jz => R8 (vsK gl i k lo hi si sk lt) B (7 - i) i 43 47 51 jz (valOf dsK b jz) wx) hd 13 (by kernel_rfl))
                  have h32 := val_at (t := 32) rfl (show valOf dsK b 14 = .slice (some ⟨gl, 0, none⟩) 7 7 from dep (F := fun jz => R8 (vsK gl i k lo hi si sk lt) B (7 - i) i 43 47 51 jz (valOf dsK b jz) wx) hd 14 (by kernel_rfl))
                  have h33 := val_at (t := 33) rfl (show valOf dsK b 15 = .int .i64 (i : Int) from dep (F := fun jz => R8 (vsK gl i k lo hi si sk lt) B (7 - i) i 43 47 51 jz (valOf dsK b jz) wx) hd 15 (by kernel_rfl))
                  exact stk_str hi' ((wanted_at (g := 13) (t := 31) (bb := false) (c := false) rfl rfl hg).trans rfl) rfl h32 h33 hi7 (hK _ _ hS rfl (fun _ _ h => h))
                · intro hi' b wx hF hS hd K hK
                  have hg := val_at (t := 31) rfl (show valOf dsK b 13 = .bool false from dep (F := fun jz => R8 (vsK gl i k lo hi si sk lt) B (7 - i) i 43 47 51 jz (valOf dsK b jz) wx) hd 13 (by kernel_rfl))
                  have h34 := val_at (t := 34) rfl (show valOf dsK b 16 = .pointer (some ⟨gl, i, none⟩) from dep (F := fun jz => R8 (vsK gl i k lo hi si sk lt) B (7 - i) i 43 47 51 jz (valOf dsK b jz) wx) hd 16 (by kernel_rfl))
                  exact stk_read hi' ((wanted_at (g := 13) (t := 31) (bb := false) (c := false) rfl rfl hg).trans rfl) rfl h34 (HCI.out wx hS) (hK _ _ hS rfl (fun _ _ h => h))
                · intro hi' b wx hF hS hd K hK
                  have hg := val_at (t := 31) rfl (show valOf dsK b 13 = .bool false from dep (F := fun jz => R8 (vsK gl i k lo hi si sk lt) B (7 - i) i 43 47 51 jz (valOf dsK b jz) wx) hd 13 (by kernel_rfl))
                  have h1 : b.tmps[1]?.getD undef = .slice (some ⟨gl, 0, none⟩) 7 7 := hF.at (t := 1) rfl rfl
                  exact stq_move hi' ((wanted_at (g := 13) (t := 31) (bb := false) (c := false) rfl rfl hg).trans rfl) rfl h1  (hK _ _ hS rfl (fun _ _ h => h))
                · intro hi' b wx hF hS hd K hK
                  have hg := val_at (t := 31) rfl (show valOf dsK b 13 = .bool false from dep (F := fun jz => R8 (vsK gl i k lo hi si sk lt) B (7 - i) i 43 47 51 jz (valOf dsK b jz) wx) hd 13 (by kernel_rfl))
                  have h3 : b.tmps[3]?.getD undef = .int .i64 (k : Int) := hF.at (t := 3) rfl rfl
                  exact stq_move hi' ((wanted_at (g := 13) (t := 31) (bb := false) (c := false) rfl rfl hg).trans rfl) rfl h3  (hK _ _ hS rfl (fun _ _ h => h))
                · intro hi' b wx hF hS hd K hK
                  have hg := val_at (t := 31) rfl (show valOf dsK b 13 = .bool false from dep (F := fun jz => R8 (vsK gl i k lo hi si sk lt) B (7 - i) i 43 47 51 jz (valOf dsK b jz) wx) hd 13 (by kernel_rfl))
                  have h36 := val_at (t := 36) rfl (show valOf dsK b 18 = .slice (some ⟨gl, 0, none⟩) 7 7 from dep (F := fun jz => R8 (vsK gl i k lo hi si sk lt) B (7 - i) i 43 47 51 jz (valOf dsK b jz) wx) hd 18 (by kernel_rfl))
                  have h37 := val_at (t := 37) rfl (show valOf dsK b 19 = .int .i64 (k : Int) from dep (F := fun jz => R8 (vsK gl i k lo hi si sk lt) B (7 - i) i 43 47 51 jz (valOf dsK b jz) wx) hd 19 (by kernel_rfl))
                  exact stk_str hi' ((wanted_at (g := 13) (t := 31) (bb := false) (c := false) rfl rfl hg).trans rfl) rfl h36 h37 hk7 (hK _ _ hS rfl (fun _ _ h => h))
                · intro hi' b wx hF hS hd K hK
                  have hg := val_at (t := 31) rfl (show valOf dsK b 13 = .bool false from dep (F := fun jz => R8 (vsK gl i k lo hi si sk lt) B (7 - i) i 43 47 51 jz (valOf dsK b jz) wx) hd 13 (by kernel_rfl))
                  have h38 := val_at (t := 38) rfl (show valOf dsK b 20 = .pointer (some ⟨gl, k, none⟩) from dep (F := fun jz => R8 (vsK gl i k lo hi si sk lt) B (7 - i) i 43 47 51 jz (valOf dsK b jz) wx) hd 20 (by kernel_rfl))
                  exact stk_read hi' ((wanted_at (g := 13) (t := 31) (bb := false) (c := false) rfl rfl hg).trans rfl) rfl h38 (HCK.out wx hS) (hK _ _ hS rfl (fun _ _ h => h))
                · intro hi' b wx hF hS hd K hK
                  have hg := val_at (t := 31) rfl (show valOf dsK b 13 = .bool false from dep (F := fun jz => R8 (vsK gl i k lo hi si sk lt) B (7 - i) i 43 47 51 jz (valOf dsK b jz) wx) hd 13 (by kernel_rfl))
                  have h1 : b.tmps[1]?.getD undef = .slice (some ⟨gl, 0, none⟩) 7 7 := hF.at (t := 1) rfl rfl
                  exact stq_move hi' ((wanted_at (g := 13) (t := 31) (bb := false) (c := false) rfl rfl hg).trans rfl) rfl h1  (hK _ _ hS rfl (fun _ _ h => h))
                · intro hi' b wx hF hS hd K hK
                  have hg := val_at (t := 31) rfl (show valOf dsK b 13 = .bool false from dep (F := fun jz => R8 (vsK gl i k lo hi si sk lt) B (7 - i) i 43 47 51 jz (valOf dsK b jz) wx) hd 13 (by kernel_rfl))
                  have h2 : b.tmps[2]?.getD undef = .int .i64 (i : Int) := hF.at (t := 2) rfl rfl
                  exact stq_move hi' ((wanted_at (g := 13) (t := 31) (bb := false) (c := false) rfl rfl hg).trans rfl) rfl h2  (hK _ _ hS rfl (fun _ _ h => h))
                · intro hi' b wx hF hS hd K hK
                  have hg := val_at (t := 31) rfl (show valOf dsK b 13 = .bool false from dep (F := fun jz => R8 (vsK gl i k lo hi si sk lt) B (7 - i) i 43 47 51 jz (valOf dsK b jz) wx) hd 13 (by kernel_rfl))
                  have h3 : b.tmps[3]?.getD undef = .int .i64 (k : Int) := hF.at (t := 3) rfl rfl
                  exact stq_move hi' ((wanted_at (g := 13) (t := 31) (bb := false) (c := false) rfl rfl hg).trans rfl) rfl h3  (hK _ _ hS rfl (fun _ _ h => h))
                · intro hi' b wx hF hS hd K hK
                  have hg := val_at (t := 31) rfl (show valOf dsK b 13 = .bool false from dep (F := fun jz => R8 (vsK gl i k lo hi si sk lt) B (7 - i) i 43 47 51 jz (valOf dsK b jz) wx) hd 13 (by kernel_rfl))
                  have h41 := val_at (t := 41) rfl (show valOf dsK b 23 = .int .i64 (i : Int) from dep (F := fun jz => R8 (vsK gl i k lo hi si sk lt) B (7 - i) i 43 47 51 jz (valOf dsK b jz) wx) hd 23 (by kernel_rfl))
                  have h42 := val_at (t := 42) rfl (show valOf dsK b 24 = .int .i64 (k : Int) from dep (F := fun jz => R8 (vsK gl i k lo hi si sk lt) B (7 - i) i 43 47 51 jz (valOf dsK b jz) wx) hd 24 (by kernel_rfl))
                  exact stk_min hi' ((wanted_at (g := 13) (t := 31) (bb := false) (c := false) rfl rfl hg).trans rfl) rfl h41 h42 hlo (hK _ _ hS rfl (fun _ _ h => h))
                · intro hi' b wx hF hS hd K hK
                  have hg := val_at (t := 31) rfl (show valOf dsK b 13 = .bool false from dep (F := fun jz => R8 (vsK gl i k lo hi si sk lt) B (7 - i) i 43 47 51 jz (valOf dsK b jz) wx) hd 13 (by kernel_rfl))
                  have h2 : b.tmps[2]?.getD undef = .int .i64 (i : Int) := hF.at (t := 2) rfl rfl
                  exact stq_move hi' ((wanted_at (g := 13) (t := 31) (bb := false) (c := false) rfl rfl hg).trans rfl) rfl h2  (hK _ _ hS rfl (fun _ _ h => h))
                · intro hi' b wx hF hS hd K hK
                  have hg := val_at (t := 31) rfl (show valOf dsK b 13 = .bool false from dep (F := fun jz => R8 (vsK gl i k lo hi si sk lt) B (7 - i) i 43 47 51 jz (valOf dsK b jz) wx) hd 13 (by kernel_rfl))
                  have h3 : b.tmps[3]?.getD undef = .int .i64 (k : Int) := hF.at (t := 3) rfl rfl
                  exact stq_move hi' ((wanted_at (g := 13) (t := 31) (bb := false) (c := false) rfl rfl hg).trans rfl) rfl h3  (hK _ _ hS rfl (fun _ _ h => h))
                · intro hi' b wx hF hS hd K hK
                  have hg := val_at (t := 31) rfl (show valOf dsK b 13 = .bool false from dep (F := fun jz => R8 (vsK gl i k lo hi si sk lt) B (7 - i) i 43 47 51 jz (valOf dsK b jz) wx) hd 13 (by kernel_rfl))
                  have h44 := val_at (t := 44) rfl (show valOf dsK b 26 = .int .i64 (i : Int) from dep (F := fun jz => R8 (vsK gl i k lo hi si sk lt) B (7 - i) i 43 47 51 jz (valOf dsK b jz) wx) hd 26 (by kernel_rfl))
                  have h45 := val_at (t := 45) rfl (show valOf dsK b 27 = .int .i64 (k : Int) from dep (F := fun jz => R8 (vsK gl i k lo hi si sk lt) B (7 - i) i 43 47 51 jz (valOf dsK b jz) wx) hd 27 (by kernel_rfl))
                  exact stk_max hi' ((wanted_at (g := 13) (t := 31) (bb := false) (c := false) rfl rfl hg).trans rfl) rfl h44 h45 hhi (hK _ _ hS rfl (fun _ _ h => h))
                · intro hi' b wx hF hS hd K hK
                  have hg := val_at (t := 31) rfl (show valOf dsK b 13 = .bool false from dep (F := fun jz => R8 (vsK gl i k lo hi si sk lt) B (7 - i) i 43 47 51 jz (valOf dsK b jz) wx) hd 13 (by kernel_rfl))
                  have h40 := val_at (t := 40) rfl (show valOf dsK b 22 = .slice (some ⟨gl, 0, none⟩) 7 7 from dep (F := fun jz => R8 (vsK gl i k lo hi si sk lt) B (7 - i) i 43 47 51 jz (valOf dsK b jz) wx) hd 22 (by kernel_rfl))
                  have h43 := val_at (t := 43) rfl (show valOf dsK b 25 = .int .i64 (lo : Int) from dep (F := fun jz => R8 (vsK gl i k lo hi si sk lt) B (7 - i) i 43 47 51 jz (valOf dsK b jz) wx) hd 25 (by kernel_rfl))
                  have h46 := val_at (t := 46) rfl (show valOf dsK b 28 = .int .i64 (hi : Int) from dep (F := fun jz => R8 (vsK gl i k lo hi si sk lt) B (7 - i) i 43 47 51 jz (valOf dsK b jz) wx) hd 28 (by kernel_rfl))
                  exact stk_both hi' ((wanted_at (g := 13) (t := 31) (bb := false) (c := false) rfl rfl hg).trans rfl) rfl h40 h43 h46 hlh hh7 hl7 (hK _ _ hS rfl (fun _ _ h => h))
                · intro hi' b wx hF hS hd K hK
                  have hg := val_at (t := 31) rfl (show valOf dsK b 13 = .bool false from dep (F := fun jz => R8 (vsK gl i k lo hi si sk lt) B (7 - i) i 43 47 51 jz (valOf dsK b jz) wx) hd 13 (by kernel_rfl))
                  have h35 := val_at (t := 35) rfl (show valOf dsK b 17 = .string si from dep (F := fun jz => R8 (vsK gl i k lo hi si sk lt) B (7 - i) i 43 47 51 jz (valOf dsK b jz) wx) hd 17 (by kernel_rfl))
                  have h39 := val_at (t := 39) rfl (show valOf dsK b 21 = .string sk from dep (F := fun jz => R8 (vsK gl i k lo hi si sk lt) B (7 - i) i 43 47 51 jz (valOf dsK b jz) wx) hd 21 (by kernel_rfl))
                  have h47 := val_at (t := 47) rfl (show valOf dsK b 29 = .slice (some ⟨gl, lo, none⟩) (hi - lo) (7 - lo) from dep (F := fun jz => R8 (vsK gl i k lo hi si sk lt) B (7 - i) i 43 47 51 jz (valOf dsK b jz) wx) hd 29 (by kernel_rfl))
                  have hSH := hS
                  refine stp_callg (enters_of Tryd.func5 (by kernel_rfl) rfl) hi' ((wanted_at (g := 13) (t := 31) (bb := false) (c := false) rfl rfl hg).trans rfl) rfl (args := #[.string si, .string sk, .slice (some ⟨gl, lo, none⟩) (hi - lo) (7 - lo)]) (by simp [Act.eval, h35, h39, h47]) (HKO.out wx si sk _ hSH hsi hsk (HPT.out wx hSH lo (hi - lo) (7 - lo) (by omega) (by omega) (by omega))) ?_
                  rintro e w' ⟨rfl, hb⟩
                  exact ⟨_, rfl, hK _ _ (HSL.out _ _ hS hb) rfl (fun _ _ h => R8.below h hb)⟩
                · intro hi' b wx hF hS hd K hK
                  have hg := val_at (t := 31) rfl (show valOf dsK b 13 = .bool false from dep (F := fun jz => R8 (vsK gl i k lo hi si sk lt) B (7 - i) i 43 47 51 jz (valOf dsK b jz) wx) hd 13 (by kernel_rfl))
                  have h48 := val_at (t := 48) rfl (show valOf dsK b 30 = .bool true from dep (F := fun jz => R8 (vsK gl i k lo hi si sk lt) B (7 - i) i 43 47 51 jz (valOf dsK b jz) wx) hd 30 (by kernel_rfl))
                  exact stq_not hi' ((wanted_at (g := 13) (t := 31) (bb := false) (c := false) rfl rfl hg).trans rfl) rfl h48  (hK _ _ hS rfl (fun _ _ h => h))
                · intro hi' b wx hF hS hd K hK
                  have h31 := val_at (t := 31) rfl (show valOf dsK b 13 = .bool false from dep (F := fun jz => R8 (vsK gl i k lo hi si sk lt) B (7 - i) i 43 47 51 jz (valOf dsK b jz) wx) hd 13 (by kernel_rfl))
                  have h49 := val_at (t := 49) rfl (show valOf dsK b 31 = .bool false from dep (F := fun jz => R8 (vsK gl i k lo hi si sk lt) B (7 - i) i 43 47 51 jz (valOf dsK b jz) wx) hd 31 (by kernel_rfl))
                  exact stq_pick hi' (by simp [Region.wanted]) rfl h31 h49 (r := .bool false) rfl (hK _ _ hS rfl (fun _ _ h => h))
                · intro hi' b wx hF hS hd K hK
                  have h50 := val_at (t := 50) rfl (show valOf dsK b 32 = .bool false from dep (F := fun jz => R8 (vsK gl i k lo hi si sk lt) B (7 - i) i 43 47 51 jz (valOf dsK b jz) wx) hd 32 (by kernel_rfl))
                  exact stq_move hi' (by simp [Region.wanted]) rfl h50  (hK _ _ hS rfl (fun _ _ h => h))
                · intro hi' b wx hF hS hd K hK
                  have hg := val_at (t := 51) rfl (show valOf dsK b 33 = .bool false from dep (F := fun jz => R8 (vsK gl i k lo hi si sk lt) B (7 - i) i 43 47 51 jz (valOf dsK b jz) wx) hd 33 (by kernel_rfl))
                  have h1 : b.tmps[1]?.getD undef = .slice (some ⟨gl, 0, none⟩) 7 7 := hF.at (t := 1) rfl rfl
                  exact stq_move hi' ((wanted_at (g := 33) (t := 51) (bb := false) (c := false) rfl rfl hg).trans rfl) rfl h1  (hK _ _ hS rfl (fun _ _ h => h))
                · intro hi' b wx hF hS hd K hK
                  have hg := val_at (t := 51) rfl (show valOf dsK b 33 = .bool false from dep (F := fun jz => R8 (vsK gl i k lo hi si sk lt) B (7 - i) i 43 47 51 jz (valOf dsK b jz) wx) hd 33 (by kernel_rfl))
                  have h3 : b.tmps[3]?.getD undef = .int .i64 (k : Int) := hF.at (t := 3) rfl rfl
                  exact stq_move hi' ((wanted_at (g := 33) (t := 51) (bb := false) (c := false) rfl rfl hg).trans rfl) rfl h3  (hK _ _ hS rfl (fun _ _ h => h))
                · intro hi' b wx hF hS hd K hK
                  have hg := val_at (t := 51) rfl (show valOf dsK b 33 = .bool false from dep (F := fun jz => R8 (vsK gl i k lo hi si sk lt) B (7 - i) i 43 47 51 jz (valOf dsK b jz) wx) hd 33 (by kernel_rfl))
                  have h52 := val_at (t := 52) rfl (show valOf dsK b 34 = .slice (some ⟨gl, 0, none⟩) 7 7 from dep (F := fun jz => R8 (vsK gl i k lo hi si sk lt) B (7 - i) i 43 47 51 jz (valOf dsK b jz) wx) hd 34 (by kernel_rfl))
                  have h53 := val_at (t := 53) rfl (show valOf dsK b 35 = .int .i64 (k : Int) from dep (F := fun jz => R8 (vsK gl i k lo hi si sk lt) B (7 - i) i 43 47 51 jz (valOf dsK b jz) wx) hd 35 (by kernel_rfl))
                  exact stk_str hi' ((wanted_at (g := 33) (t := 51) (bb := false) (c := false) rfl rfl hg).trans rfl) rfl h52 h53 hk7 (hK _ _ hS rfl (fun _ _ h => h))
                · intro hi' b wx hF hS hd K hK
                  have hg := val_at (t := 51) rfl (show valOf dsK b 33 = .bool false from dep (F := fun jz => R8 (vsK gl i k lo hi si sk lt) B (7 - i) i 43 47 51 jz (valOf dsK b jz) wx) hd 33 (by kernel_rfl))
                  have h54 := val_at (t := 54) rfl (show valOf dsK b 36 = .pointer (some ⟨gl, k, none⟩) from dep (F := fun jz => R8 (vsK gl i k lo hi si sk lt) B (7 - i) i 43 47 51 jz (valOf dsK b jz) wx) hd 36 (by kernel_rfl))
                  exact stk_read hi' ((wanted_at (g := 33) (t := 51) (bb := false) (c := false) rfl rfl hg).trans rfl) rfl h54 (HCK.out wx hS) (hK _ _ hS rfl (fun _ _ h => h))
                · intro hi' b wx hF hS hd K hK
                  have hg := val_at (t := 51) rfl (show valOf dsK b 33 = .bool false from dep (F := fun jz => R8 (vsK gl i k lo hi si sk lt) B (7 - i) i 43 47 51 jz (valOf dsK b jz) wx) hd 33 (by kernel_rfl))
                  have h1 : b.tmps[1]?.getD undef = .slice (some ⟨gl, 0, none⟩) 7 7 := hF.at (t := 1) rfl rfl
                  exact stq_move hi' ((wanted_at (g := 33) (t := 51) (bb := false) (c := false) rfl rfl hg).trans rfl) rfl h1  (hK _ _ hS rfl (fun _ _ h => h))
                · intro hi' b wx hF hS hd K hK
                  have hg := val_at (t := 51) rfl (show valOf dsK b 33 = .bool false from dep (F := fun jz => R8 (vsK gl i k lo hi si sk lt) B (7 - i) i 43 47 51 jz (valOf dsK b jz) wx) hd 33 (by kernel_rfl))
                  have h2 : b.tmps[2]?.getD undef = .int .i64 (i : Int) := hF.at (t := 2) rfl rfl
                  exact stq_move hi' ((wanted_at (g := 33) (t := 51) (bb := false) (c := false) rfl rfl hg).trans rfl) rfl h2  (hK _ _ hS rfl (fun _ _ h => h))
                · intro hi' b wx hF hS hd K hK
                  have hg := val_at (t := 51) rfl (show valOf dsK b 33 = .bool false from dep (F := fun jz => R8 (vsK gl i k lo hi si sk lt) B (7 - i) i 43 47 51 jz (valOf dsK b jz) wx) hd 33 (by kernel_rfl))
                  have h56 := val_at (t := 56) rfl (show valOf dsK b 38 = .slice (some ⟨gl, 0, none⟩) 7 7 from dep (F := fun jz => R8 (vsK gl i k lo hi si sk lt) B (7 - i) i 43 47 51 jz (valOf dsK b jz) wx) hd 38 (by kernel_rfl))
                  have h57 := val_at (t := 57) rfl (show valOf dsK b 39 = .int .i64 (i : Int) from dep (F := fun jz => R8 (vsK gl i k lo hi si sk lt) B (7 - i) i 43 47 51 jz (valOf dsK b jz) wx) hd 39 (by kernel_rfl))
                  exact stk_str hi' ((wanted_at (g := 33) (t := 51) (bb := false) (c := false) rfl rfl hg).trans rfl) rfl h56 h57 hi7 (hK _ _ hS rfl (fun _ _ h => h))
                · intro hi' b wx hF hS hd K hK
                  have hg := val_at (t := 51) rfl (show valOf dsK b 33 = .bool false from dep (F := fun jz => R8 (vsK gl i k lo hi si sk lt) B (7 - i) i 43 47 51 jz (valOf dsK b jz) wx) hd 33 (by kernel_rfl))
                  have h58 := val_at (t := 58) rfl (show valOf dsK b 40 = .pointer (some ⟨gl, i, none⟩) from dep (F := fun jz => R8 (vsK gl i k lo hi si sk lt) B (7 - i) i 43 47 51 jz (valOf dsK b jz) wx) hd 40 (by kernel_rfl))
                  exact stk_read hi' ((wanted_at (g := 33) (t := 51) (bb := false) (c := false) rfl rfl hg).trans rfl) rfl h58 (HCI.out wx hS) (hK _ _ hS rfl (fun _ _ h => h))
                · intro hi' b wx hF hS hd K hK
                  have hg := val_at (t := 51) rfl (show valOf dsK b 33 = .bool false from dep (F := fun jz => R8 (vsK gl i k lo hi si sk lt) B (7 - i) i 43 47 51 jz (valOf dsK b jz) wx) hd 33 (by kernel_rfl))
                  have h59 := val_at (t := 59) rfl (show valOf dsK b 41 = .string si from dep (F := fun jz => R8 (vsK gl i k lo hi si sk lt) B (7 - i) i 43 47 51 jz (valOf dsK b jz) wx) hd 41 (by kernel_rfl))
                  exact stk_adds hi' ((wanted_at (g := 33) (t := 51) (bb := false) (c := false) rfl rfl hg).trans rfl) rfl h59 hsz (hK _ _ hS rfl (fun _ _ h => h))
                · intro hi' b wx hF hS hd K hK
                  have hg := val_at (t := 51) rfl (show valOf dsK b 33 = .bool false from dep (F := fun jz => R8 (vsK gl i k lo hi si sk lt) B (7 - i) i 43 47 51 jz (valOf dsK b jz) wx) hd 33 (by kernel_rfl))
                  exact stk_first hi' ((wanted_at (g := 33) (t := 51) (bb := false) (c := false) rfl rfl hg).trans rfl) rfl (HBS.out _ hS) fun v w' hv hb => hK _ _ (HSL.out _ _ hS hb) hv (fun _ _ h => R8.below h hb)
                · intro hi' b wx hF hS hd K hK
                  have hg := val_at (t := 51) rfl (show valOf dsK b 33 = .bool false from dep (F := fun jz => R8 (vsK gl i k lo hi si sk lt) B (7 - i) i 43 47 51 jz (valOf dsK b jz) wx) hd 33 (by kernel_rfl))
                  have h1 : b.tmps[1]?.getD undef = .slice (some ⟨gl, 0, none⟩) 7 7 := hF.at (t := 1) rfl rfl
                  exact stq_move hi' ((wanted_at (g := 33) (t := 51) (bb := false) (c := false) rfl rfl hg).trans rfl) rfl h1  (hK _ _ hS rfl (fun _ _ h => h))
                · intro hi' b wx hF hS hd K hK
                  have hg := val_at (t := 51) rfl (show valOf dsK b 33 = .bool false from dep (F := fun jz => R8 (vsK gl i k lo hi si sk lt) B (7 - i) i 43 47 51 jz (valOf dsK b jz) wx) hd 33 (by kernel_rfl))
                  have h2 : b.tmps[2]?.getD undef = .int .i64 (i : Int) := hF.at (t := 2) rfl rfl
                  exact stq_move hi' ((wanted_at (g := 33) (t := 51) (bb := false) (c := false) rfl rfl hg).trans rfl) rfl h2  (hK _ _ hS rfl (fun _ _ h => h))
                · intro hi' b wx hF hS hd K hK
                  have hg := val_at (t := 51) rfl (show valOf dsK b 33 = .bool false from dep (F := fun jz => R8 (vsK gl i k lo hi si sk lt) B (7 - i) i 43 47 51 jz (valOf dsK b jz) wx) hd 33 (by kernel_rfl))
                  have h62 := val_at (t := 62) rfl (show valOf dsK b 44 = .slice (some ⟨gl, 0, none⟩) 7 7 from dep (F := fun jz => R8 (vsK gl i k lo hi si sk lt) B (7 - i) i 43 47 51 jz (valOf dsK b jz) wx) hd 44 (by kernel_rfl))
                  have h63 := val_at (t := 63) rfl (show valOf dsK b 45 = .int .i64 (i : Int) from dep (F := fun jz => R8 (vsK gl i k lo hi si sk lt) B (7 - i) i 43 47 51 jz (valOf dsK b jz) wx) hd 45 (by kernel_rfl))
                  exact stk_from hi' ((wanted_at (g := 33) (t := 51) (bb := false) (c := false) rfl rfl hg).trans rfl) rfl h62 h63 (Nat.le_of_lt hi7) (Nat.le_refl _) hi7 (hK _ _ hS rfl (fun _ _ h => h))
                · intro hi' b wx hF hS hd K hK
                  have hg := val_at (t := 51) rfl (show valOf dsK b 33 = .bool false from dep (F := fun jz => R8 (vsK gl i k lo hi si sk lt) B (7 - i) i 43 47 51 jz (valOf dsK b jz) wx) hd 33 (by kernel_rfl))
                  have q61 : OwA B (valOf dsK b 43) wx := dep (F := fun jz => R8 (vsK gl i k lo hi si sk lt) B (7 - i) i 43 47 51 jz (valOf dsK b jz) wx) hd 43 (by kernel_rfl)
                  have h61 := val_at (t := 61) rfl (show valOf dsK b 43 = valOf dsK b 43 from rfl)
                  have h64 := val_at (t := 64) rfl (show valOf dsK b 46 = .slice (some ⟨gl, i, none⟩) (7 - i) (7 - i) from dep (F := fun jz => R8 (vsK gl i k lo hi si sk lt) B (7 - i) i 43 47 51 jz (valOf dsK b jz) wx) hd 46 (by kernel_rfl))
                  obtain ⟨ys, hys⟩ := HPT.out wx hS i (7 - i) (7 - i) (by omega) (Nat.le_refl _) (by omega)
                  exact stk_app1 hi' ((wanted_at (g := 33) (t := 51) (bb := false) (c := false) rfl rfl hg).trans rfl) rfl h61 h64 q61 hys (by omega) (HBS.out _ hS) fun v w' hv hb => hK _ _ (HSL.out _ _ hS hb) hv (fun _ _ h => R8.below h hb)
                · intro hi' b wx hF hS hd K hK
                  have hg := val_at (t := 51) rfl (show valOf dsK b 33 = .bool false from dep (F := fun jz => R8 (vsK gl i k lo hi si sk lt) B (7 - i) i 43 47 51 jz (valOf dsK b jz) wx) hd 33 (by kernel_rfl))
                  have h1 : b.tmps[1]?.getD undef = .slice (some ⟨gl, 0, none⟩) 7 7 := hF.at (t := 1) rfl rfl
                  exact stq_move hi' ((wanted_at (g := 33) (t := 51) (bb := false) (c := false) rfl rfl hg).trans rfl) rfl h1  (hK _ _ hS rfl (fun _ _ h => h))
                · intro hi' b wx hF hS hd K hK
                  have hg := val_at (t := 51) rfl (show valOf dsK b 33 = .bool false from dep (F := fun jz => R8 (vsK gl i k lo hi si sk lt) B (7 - i) i 43 47 51 jz (valOf dsK b jz) wx) hd 33 (by kernel_rfl))
                  have h2 : b.tmps[2]?.getD undef = .int .i64 (i : Int) := hF.at (t := 2) rfl rfl
                  exact stq_move hi' ((wanted_at (g := 33) (t := 51) (bb := false) (c := false) rfl rfl hg).trans rfl) rfl h2  (hK _ _ hS rfl (fun _ _ h => h))
                · intro hi' b wx hF hS hd K hK
                  have hg := val_at (t := 51) rfl (show valOf dsK b 33 = .bool false from dep (F := fun jz => R8 (vsK gl i k lo hi si sk lt) B (7 - i) i 43 47 51 jz (valOf dsK b jz) wx) hd 33 (by kernel_rfl))
                  have h66 := val_at (t := 66) rfl (show valOf dsK b 48 = .slice (some ⟨gl, 0, none⟩) 7 7 from dep (F := fun jz => R8 (vsK gl i k lo hi si sk lt) B (7 - i) i 43 47 51 jz (valOf dsK b jz) wx) hd 48 (by kernel_rfl))
                  have h67 := val_at (t := 67) rfl (show valOf dsK b 49 = .int .i64 (i : Int) from dep (F := fun jz => R8 (vsK gl i k lo hi si sk lt) B (7 - i) i 43 47 51 jz (valOf dsK b jz) wx) hd 49 (by kernel_rfl))
                  exact stk_upto hi' ((wanted_at (g := 33) (t := 51) (bb := false) (c := false) rfl rfl hg).trans rfl) rfl h66 h67 (Nat.le_of_lt hi7) (hK _ _ hS rfl (fun _ _ h => h))
                · intro hi' b wx hF hS hd K hK
                  have hg := val_at (t := 51) rfl (show valOf dsK b 33 = .bool false from dep (F := fun jz => R8 (vsK gl i k lo hi si sk lt) B (7 - i) i 43 47 51 jz (valOf dsK b jz) wx) hd 33 (by kernel_rfl))
                  have q65 : OwS B (7 - i) (valOf dsK b 47) wx := dep (F := fun jz => R8 (vsK gl i k lo hi si sk lt) B (7 - i) i 43 47 51 jz (valOf dsK b jz) wx) hd 47 (by kernel_rfl)
                  have h65 := val_at (t := 65) rfl (show valOf dsK b 47 = valOf dsK b 47 from rfl)
                  have h68 := val_at (t := 68) rfl (show valOf dsK b 50 = .slice (some ⟨gl, 0, none⟩) i 7 from dep (F := fun jz => R8 (vsK gl i k lo hi si sk lt) B (7 - i) i 43 47 51 jz (valOf dsK b jz) wx) hd 50 (by kernel_rfl))
                  obtain ⟨ys, hys⟩ := HPT.out wx hS 0 i 7 (by omega) (Nat.le_of_lt hi7) (Nat.le_refl _)
                  exact stk_app2 hi' ((wanted_at (g := 33) (t := 51) (bb := false) (c := false) rfl rfl hg).trans rfl) rfl h65 h68 q65 (by omega) hys (by omega) (HBS.out _ hS) fun v w' hv ho hA hb => hK _ _ (Lib.hid (HST.out _ _ hS hb)) hv (R8.app (f := valOf dsK b) hA ho)
                · intro hi' b wx hF hS hd K hK
                  have hg := val_at (t := 51) rfl (show valOf dsK b 33 = .bool false from dep (F := fun jz => R8 (vsK gl i k lo hi si sk lt) B (7 - i) i 43 47 51 jz (valOf dsK b jz) wx) hd 33 (by kernel_rfl))
                  have h55 := val_at (t := 55) rfl (show valOf dsK b 37 = .string sk from dep (F := fun jz => R8 (vsK gl i k lo hi si sk lt) B (7 - i) i 43 47 51 jz (valOf dsK b jz) wx) hd 37 (by kernel_rfl))
                  have h60 := val_at (t := 60) rfl (show valOf dsK b 42 = .string (si ++ ⟨#[0]⟩) from dep (F := fun jz => R8 (vsK gl i k lo hi si sk lt) B (7 - i) i 43 47 51 jz (valOf dsK b jz) wx) hd 42 (by kernel_rfl))
                  have q69 : OwS B (7 - i + i) (valOf dsK b 51) wx := dep (F := fun jz => R8 (vsK gl i k lo hi si sk lt) B (7 - i) i 43 47 51 jz (valOf dsK b jz) wx) hd 51 (by kernel_rfl)
                  have h69 := val_at (t := 69) rfl (show valOf dsK b 51 = valOf dsK b 51 from rfl)
                  have hSH := hS
                  obtain ⟨v, hv⟩ : ∃ v, valOf dsK b 51 = v := ⟨_, rfl⟩
                  rw [hv] at h69 q69
                  refine stp_callg (enters_of Tryd.func5 (by kernel_rfl) rfl) hi' ((wanted_at (g := 33) (t := 51) (bb := false) (c := false) rfl rfl hg).trans rfl) rfl (args := #[.string sk, .string (si ++ ⟨#[0]⟩), v]) (by simp [Act.eval, h55, h60, h69]) (HKO.out wx sk _ v hSH hsk hs2 q69.rds) ?_
                  rintro e w' ⟨rfl, hb⟩
                  exact ⟨_, rfl, hK _ _ (HSL.out _ _ hS hb) rfl (fun _ _ h => R8.below h hb)⟩
                · intro hi' b wx hF hS hd K hK
                  have hg := val_at (t := 51) rfl (show valOf dsK b 33 = .bool false from dep (F := fun jz => R8 (vsK gl i k lo hi si sk lt) B (7 - i) i 43 47 51 jz (valOf dsK b jz) wx) hd 33 (by kernel_rfl))
                  have h70 := val_at (t := 70) rfl (show valOf dsK b 52 = .bool true from dep (F := fun jz => R8 (vsK gl i k lo hi si sk lt) B (7 - i) i 43 47 51 jz (valOf dsK b jz) wx) hd 52 (by kernel_rfl))
                  exact stq_not hi' ((wanted_at (g := 33) (t := 51) (bb := false) (c := false) rfl rfl hg).trans rfl) rfl h70  (hK _ _ hS rfl (fun _ _ h => h))
                · intro hi' b wx hF hS hd K hK
                  have h51 := val_at (t := 51) rfl (show valOf dsK b 33 = .bool false from dep (F := fun jz => R8 (vsK gl i k lo hi si sk lt) B (7 - i) i 43 47 51 jz (valOf dsK b jz) wx) hd 33 (by kernel_rfl))
                  have h71 := val_at (t := 71) rfl (show valOf dsK b 53 = .bool false from dep (F := fun jz => R8 (vsK gl i k lo hi si sk lt) B (7 - i) i 43 47 51 jz (valOf dsK b jz) wx) hd 53 (by kernel_rfl))
                  exact stq_pick hi' (by simp [Region.wanted]) rfl h51 h71 (r := .bool false) rfl (hK _ _ hS rfl (fun _ _ h => h))
              case fin =>
                intro b w3 hF hS hR
                have hb := hF.lit (by decide) (lt_all (n := 147) (by decide))
                obtain ⟨f, hf⟩ : ∃ f, valOf dsK b = f := ⟨_, rfl⟩
                rw [hf] at hb hR
                have hv : f 54 = .bool false := hR 54 (by decide)
                have HX := Lib.hid (HW1.out w3 hS)
                subst hb
                simp only [putAll, dsK, Nat.reduceAdd, List.setIfInBounds_toArray, List.set_cons_zero, List.set_cons_succ, hv]
                clear hR hF hf hv
                go_wp2_with fail
                go_roundw
                case rel => exact ⟨k + 1, by omega, by go_num, HX⟩
                case measure => simp [intOf]; omega
            · obtain rfl : k = 7 := by omega
              go_wp2_with fail
              go_meet
              exact ⟨rfl, rfl, HK⟩
        case rest =>
          clear HI
          obtain ⟨rfl, rfl, HC1⟩ := hcut
          go_upto_block 4 with fail
          go_cut [1, 2] (fun l v wx => l = .slice (some ⟨gl, 0, none⟩) 7 7 ∧ v = .int .i64 (i : Int) ∧ Hid (Below W1.heap.size W1 wx))
          case first =>
            go_wp2_with fail
            go_loopw [4] (fun v wk => ∃ k : Nat, k ≤ 8 ∧ v = .int .i64 (k : Int) ∧ Hid (Below W1.heap.size W1 wk)) (fun v _ => 8 - (intOf v).toNat)
            case atStart => exact ⟨0, Nat.zero_le _, rfl, HC1⟩
            case round =>
              obtain ⟨k, hk, rfl, HK⟩ := hrel
              by_cases hk7 : k ≤ 7
              · have hkk : decide ((k : Int) ≤ 7) = true := by simp; omega
                obtain ⟨B, hB⟩ : ∃ B, wr.heap.size = B := ⟨_, rfl⟩
                obtain ⟨si, hsi0⟩ : ∃ si, S7 i = si := ⟨_, rfl⟩
                have hsi : si.size ≤ maxLen := hsi0 ▸ Nat.le_trans (s7_small i) (by decide)
                have HW1 : Hid (∀ X, Hid (Below B wr X) → Below W1.heap.size W1 X) := Lib.hid fun X h => HK.out.trans (h.out.mono (hB ▸ HK.out.size))
                have HBS : Hid (∀ X, Hid (Below B wr X) → B ≤ X.heap.size) := Lib.hid fun X h => hB ▸ h.out.size
                have HSL : Hid (∀ X Y, Hid (Below B wr X) → Below X.heap.size X Y → Hid (Below B wr Y)) := Lib.hid fun X Y h k => Lib.hid (h.out.trans (k.mono (HBS.out X h)))
                have HST : Hid (∀ X Y, Hid (Below B wr X) → Below B X Y → Below B wr Y) := Lib.hid fun X Y h k => h.out.trans k
                have HCI : Hid (∀ X, Hid (Below B wr X) → X.cell? ⟨gl, i, none⟩ = some (.string si)) := Lib.hid fun X h => hsi0 ▸ HSV.out i hi7 X (HW1.out X h)
                have HPT : Hid (∀ X, Hid (Below B wr X) → ∀ lo n c, lo + n ≤ 7 → n ≤ c → c ≤ 7 → RdE X (.slice (some ⟨gl, lo, none⟩) n c)) := Lib.hid fun X h => seven_part (Nat.lt_of_lt_of_le HSZ.out (HW1.out X h).size) fun j hj => HSV.out j hj X (HW1.out X h)
                have HWB : Hid (∀ X, Hid (Below B wr X) → Below w.heap.size w X) := Lib.hid fun X h => HB1.out.trans ((HW1.out X h).mono HB1.out.size)
                have HKF : Hid (∀ X (v : Value) (s : ByteArray), Hid (Below B wr X) → s.size ≤ maxLen → RdE X v → Calls Tryd.prog 6 #[v, .string s] X fun e w' => e = .returned (.bool true) ∧ Below X.heap.size X w') := Lib.hid fun X v s h => HFI.out X v s (HWB.out X h)
                have HKH : Hid (∀ X (v : Value) (s : ByteArray), Hid (Below B wr X) → s.size ≤ maxLen → RdE X v → Calls Tryd.prog 7 #[v, .string s] X fun e w' => e = .returned (.bool true) ∧ Below X.heap.size X w') := Lib.hid fun X v s h => HHA.out X v s (HWB.out X h)
                have HSd : Hid (Below B wr wr.drew) := Lib.hid (Below.refl _ _).drew
                clear hB hsi0
                by_cases hik : i ≤ k
                · have hge : decide (i ≤ k) = true := by simp [hik]
                  go_upto_region 13 with fail
                  refine wp_region_vals dsL (fun X => Hid (Below B wr X)) (RV (vsLT gl i k si)) (by kernel_rfl) (by kernel_rfl) (by kernel_rfl) (by decide) (lt_all (n := 147) (by decide)) HSd ?step ?fin
                  case step =>
                    refine each_op ?_
                    refine ⟨?_, ?_, ?_, ?_, ?_, ?_, ?_, ?_, ?_, ?_, ?_, ?_, ?_, ?_, ?_, ?_, ?_, ?_, ?_, ?_, ?_, ?_, ?_, ?_, ?_, ?_, ?_, ?_, ?_, ?_, ?_, trivial⟩
                    · intro hi' b wx hF hS hd K hK
                      have h4 : b.tmps[4]?.getD undef = .int .i64 (k : Int) := hF.at (t := 4) rfl rfl
                      exact stq_move hi' (by simp [Region.wanted]) rfl h4  (hK _ _ hS rfl (fun _ _ h => h))
                    · intro hi' b wx hF hS hd K hK
                      have h2 : b.tmps[2]?.getD undef = .int .i64 (i : Int) := hF.at (t := 2) rfl rfl
                      exact stq_move hi' (by simp [Region.wanted]) rfl h2  (hK _ _ hS rfl (fun _ _ h => h))
                    · intro hi' b wx hF hS hd K hK
                      have h79 := val_at (t := 79) rfl (show valOf dsL b 0 = .int .i64 (k : Int) from dep (F := fun jz => RV (vsLT gl i k si) jz (valOf dsL b jz) wx) hd 0 (by kernel_rfl))
                      have h80 := val_at (t := 80) rfl (show valOf dsL b 1 = .int .i64 (i : Int) from dep (F := fun jz => RV (vsLT gl i k si) jz (valOf dsL b jz) wx) hd 1 (by kernel_rfl))
                      exact stk_geq hi' (by simp [Region.wanted]) rfl h79 h80 hge (hK _ _ hS rfl (fun _ _ h => h))
                    · intro hi' b wx hF hS hd K hK
                      have h81 := val_at (t := 81) rfl (show valOf dsL b 2 = .bool true from dep (F := fun jz => RV (vsLT gl i k si) jz (valOf dsL b jz) wx) hd 2 (by kernel_rfl))
                      exact stq_move hi' (by simp [Region.wanted]) rfl h81  (hK _ _ hS rfl (fun _ _ h => h))
                    · intro hi' b wx hF hS hd K hK
                      have hg := val_at (t := 82) rfl (show valOf dsL b 3 = .bool true from dep (F := fun jz => RV (vsLT gl i k si) jz (valOf dsL b jz) wx) hd 3 (by kernel_rfl))
                      have h1 : b.tmps[1]?.getD undef = .slice (some ⟨gl, 0, none⟩) 7 7 := hF.at (t := 1) rfl rfl
                      exact stq_move hi' ((wanted_at (g := 3) (t := 82) (bb := true) (c := true) rfl rfl hg).trans rfl) rfl h1  (hK _ _ hS rfl (fun _ _ h => h))
                    · intro hi' b wx hF hS hd K hK
                      have hg := val_at (t := 82) rfl (show valOf dsL b 3 = .bool true from dep (F := fun jz => RV (vsLT gl i k si) jz (valOf dsL b jz) wx) hd 3 (by kernel_rfl))
                      have h2 : b.tmps[2]?.getD undef = .int .i64 (i : Int) := hF.at (t := 2) rfl rfl
                      exact stq_move hi' ((wanted_at (g := 3) (t := 82) (bb := true) (c := true) rfl rfl hg).trans rfl) rfl h2  (hK _ _ hS rfl (fun _ _ h => h))
                    · intro hi' b wx hF hS hd K hK
                      have hg := val_at (t := 82) rfl (show valOf dsL b 3 = .bool true from dep (F := fun jz => RV (vsLT gl i k si) jz (valOf dsL b jz) wx) hd 3 (by kernel_rfl))
                      have h4 : b.tmps[4]?.getD undef = .int .i64 (k : Int) := hF.at (t := 4) rfl rfl
                      exact stq_move hi' ((wanted_at (g := 3) (t := 82) (bb := true) (c := true) rfl rfl hg).trans rfl) rfl h4  (hK _ _ hS rfl (fun _ _ h => h))
                    · intro hi' b wx hF hS hd K hK
                      have hg := val_at (t := 82) rfl (show valOf dsL b 3 = .bool true from dep (F := fun jz => RV (vsLT gl i k si) jz (valOf dsL b jz) wx) hd 3 (by kernel_rfl))
                      have h83 := val_at (t := 83) rfl (show valOf dsL b 4 = .slice (some ⟨gl, 0, none⟩) 7 7 from dep (F := fun jz => RV (vsLT gl i k si) jz (valOf dsL b jz) wx) hd 4 (by kernel_rfl))
                      have h84 := val_at (t := 84) rfl (show valOf dsL b 5 = .int .i64 (i : Int) from dep (F := fun jz => RV (vsLT gl i k si) jz (valOf dsL b jz) wx) hd 5 (by kernel_rfl))
                      have h85 := val_at (t := 85) rfl (show valOf dsL b 6 = .int .i64 (k : Int) from dep (F := fun jz => RV (vsLT gl i k si) jz (valOf dsL b jz) wx) hd 6 (by kernel_rfl))
                      exact stk_both hi' ((wanted_at (g := 3) (t := 82) (bb := true) (c := true) rfl rfl hg).trans rfl) rfl h83 h84 h85 hik hk7 hi7 (hK _ _ hS rfl (fun _ _ h => h))
                    · intro hi' b wx hF hS hd K hK
                      have hg := val_at (t := 82) rfl (show valOf dsL b 3 = .bool true from dep (F := fun jz => RV (vsLT gl i k si) jz (valOf dsL b jz) wx) hd 3 (by kernel_rfl))
                      have h86 := val_at (t := 86) rfl (show valOf dsL b 7 = .slice (some ⟨gl, i, none⟩) (k - i) (7 - i) from dep (F := fun jz => RV (vsLT gl i k si) jz (valOf dsL b jz) wx) hd 7 (by kernel_rfl))
                      have hSH := hS
                      refine stp_callg (enters_of Tryd.func6 (by kernel_rfl) rfl) hi' ((wanted_at (g := 3) (t := 82) (bb := true) (c := true) rfl rfl hg).trans rfl) rfl (args := #[.slice (some ⟨gl, i, none⟩) (k - i) (7 - i), .string ⟨#[97, 0]⟩]) (by simp [Act.eval, h86]) (HKF.out wx _ _ hSH (by decide) (HPT.out wx hSH i (k - i) (7 - i) (by omega) (by omega) (by omega))) ?_
                      rintro e w' ⟨rfl, hb⟩
                      exact ⟨_, rfl, hK _ _ (HSL.out _ _ hS hb) rfl (fun _ _ h => h)⟩
                    · intro hi' b wx hF hS hd K hK
                      have hg := val_at (t := 82) rfl (show valOf dsL b 3 = .bool true from dep (F := fun jz => RV (vsLT gl i k si) jz (valOf dsL b jz) wx) hd 3 (by kernel_rfl))
                      have h87 := val_at (t := 87) rfl (show valOf dsL b 8 = .bool true from dep (F := fun jz => RV (vsLT gl i k si) jz (valOf dsL b jz) wx) hd 8 (by kernel_rfl))
                      exact stq_not hi' ((wanted_at (g := 3) (t := 82) (bb := true) (c := true) rfl rfl hg).trans rfl) rfl h87  (hK _ _ hS rfl (fun _ _ h => h))
                    · intro hi' b wx hF hS hd K hK
                      have hg := val_at (t := 82) rfl (show valOf dsL b 3 = .bool true from dep (F := fun jz => RV (vsLT gl i k si) jz (valOf dsL b jz) wx) hd 3 (by kernel_rfl))
                      have h88 := val_at (t := 88) rfl (show valOf dsL b 9 = .bool false from dep (F := fun jz => RV (vsLT gl i k si) jz (valOf dsL b jz) wx) hd 9 (by kernel_rfl))
                      exact stq_move hi' ((wanted_at (g := 3) (t := 82) (bb := true) (c := true) rfl rfl hg).trans rfl) rfl h88  (hK _ _ hS rfl (fun _ _ h => h))
                    · intro hi' b wx hF hS hd K hK
                      have hg := val_at (t := 89) rfl (show valOf dsL b 10 = .bool false from dep (F := fun jz => RV (vsLT gl i k si) jz (valOf dsL b jz) wx) hd 10 (by kernel_rfl))
                      have h1 : b.tmps[1]?.getD undef = .slice (some ⟨gl, 0, none⟩) 7 7 := hF.at (t := 1) rfl rfl
                      exact stq_move hi' ((wanted_at (g := 10) (t := 89) (bb := false) (c := false) rfl rfl hg).trans rfl) rfl h1  (hK _ _ hS rfl (fun _ _ h => h))
                    · intro hi' b wx hF hS hd K hK
                      have hg := val_at (t := 89) rfl (show valOf dsL b 10 = .bool false from dep (F := fun jz => RV (vsLT gl i k si) jz (valOf dsL b jz) wx) hd 10 (by kernel_rfl))
                      have h2 : b.tmps[2]?.getD undef = .int .i64 (i : Int) := hF.at (t := 2) rfl rfl
                      exact stq_move hi' ((wanted_at (g := 10) (t := 89) (bb := false) (c := false) rfl rfl hg).trans rfl) rfl h2  (hK _ _ hS rfl (fun _ _ h => h))
                    · intro hi' b wx hF hS hd K hK
                      have hg := val_at (t := 89) rfl (show valOf dsL b 10 = .bool false from dep (F := fun jz => RV (vsLT gl i k si) jz (valOf dsL b jz) wx) hd 10 (by kernel_rfl))
                      have h4 : b.tmps[4]?.getD undef = .int .i64 (k : Int) := hF.at (t := 4) rfl rfl
                      exact stq_move hi' ((wanted_at (g := 10) (t := 89) (bb := false) (c := false) rfl rfl hg).trans rfl) rfl h4  (hK _ _ hS rfl (fun _ _ h => h))
                    · intro hi' b wx hF hS hd K hK
                      have hg := val_at (t := 89) rfl (show valOf dsL b 10 = .bool false from dep (F := fun jz => RV (vsLT gl i k si) jz (valOf dsL b jz) wx) hd 10 (by kernel_rfl))
                      have h90 := val_at (t := 90) rfl (show valOf dsL b 11 = .slice (some ⟨gl, 0, none⟩) 7 7 from dep (F := fun jz => RV (vsLT gl i k si) jz (valOf dsL b jz) wx) hd 11 (by kernel_rfl))
                      have h91 := val_at (t := 91) rfl (show valOf dsL b 12 = .int .i64 (i : Int) from dep (F := fun jz => RV (vsLT gl i k si) jz (valOf dsL b jz) wx) hd 12 (by kernel_rfl))
                      have h92 := val_at (t := 92) rfl (show valOf dsL b 13 = .int .i64 (k : Int) from dep (F := fun jz => RV (vsLT gl i k si) jz (valOf dsL b jz) wx) hd 13 (by kernel_rfl))
                      exact stk_both hi' ((wanted_at (g := 10) (t := 89) (bb := false) (c := false) rfl rfl hg).trans rfl) rfl h90 h91 h92 hik hk7 hi7 (hK _ _ hS rfl (fun _ _ h => h))
                    · intro hi' b wx hF hS hd K hK
                      have hg := val_at (t := 89) rfl (show valOf dsL b 10 = .bool false from dep (F := fun jz => RV (vsLT gl i k si) jz (valOf dsL b jz) wx) hd 10 (by kernel_rfl))
                      have h93 := val_at (t := 93) rfl (show valOf dsL b 14 = .slice (some ⟨gl, i, none⟩) (k - i) (7 - i) from dep (F := fun jz => RV (vsLT gl i k si) jz (valOf dsL b jz) wx) hd 14 (by kernel_rfl))
                      have hSH := hS
                      refine stp_callg (enters_of Tryd.func6 (by kernel_rfl) rfl) hi' ((wanted_at (g := 10) (t := 89) (bb := false) (c := false) rfl rfl hg).trans rfl) rfl (args := #[.slice (some ⟨gl, i, none⟩) (k - i) (7 - i), .string ⟨#[]⟩]) (by simp [Act.eval, h93]) (HKF.out wx _ _ hSH (by decide) (HPT.out wx hSH i (k - i) (7 - i) (by omega) (by omega) (by omega))) ?_
                      rintro e w' ⟨rfl, hb⟩
                      exact ⟨_, rfl, hK _ _ (HSL.out _ _ hS hb) rfl (fun _ _ h => h)⟩
                    · intro hi' b wx hF hS hd K hK
                      have hg := val_at (t := 89) rfl (show valOf dsL b 10 = .bool false from dep (F := fun jz => RV (vsLT gl i k si) jz (valOf dsL b jz) wx) hd 10 (by kernel_rfl))
                      have h94 := val_at (t := 94) rfl (show valOf dsL b 15 = .bool true from dep (F := fun jz => RV (vsLT gl i k si) jz (valOf dsL b jz) wx) hd 15 (by kernel_rfl))
                      exact stq_not hi' ((wanted_at (g := 10) (t := 89) (bb := false) (c := false) rfl rfl hg).trans rfl) rfl h94  (hK _ _ hS rfl (fun _ _ h => h))
                    · intro hi' b wx hF hS hd K hK
                      have hg := val_at (t := 82) rfl (show valOf dsL b 3 = .bool true from dep (F := fun jz => RV (vsLT gl i k si) jz (valOf dsL b jz) wx) hd 3 (by kernel_rfl))
                      have h89 := val_at (t := 89) rfl (show valOf dsL b 10 = .bool false from dep (F := fun jz => RV (vsLT gl i k si) jz (valOf dsL b jz) wx) hd 10 (by kernel_rfl))
                      have h95 := val_at (t := 95) rfl (show valOf dsL b 16 = .bool false from dep (F := fun jz => RV (vsLT gl i k si) jz (valOf dsL b jz) wx) hd 16 (by kernel_rfl))
                      exact stq_pick hi' ((wanted_at (g := 3) (t := 82) (bb := true) (c := true) rfl rfl hg).trans rfl) rfl h89 h95 (r := .bool false) rfl (hK _ _ hS rfl (fun _ _ h => h))
                    · intro hi' b wx hF hS hd K hK
                      have hg := val_at (t := 82) rfl (show valOf dsL b 3 = .bool true from dep (F := fun jz => RV (vsLT gl i k si) jz (valOf dsL b jz) wx) hd 3 (by kernel_rfl))
                      have h96 := val_at (t := 96) rfl (show valOf dsL b 17 = .bool false from dep (F := fun jz => RV (vsLT gl i k si) jz (valOf dsL b jz) wx) hd 17 (by kernel_rfl))
                      exact stq_move hi' ((wanted_at (g := 3) (t := 82) (bb := true) (c := true) rfl rfl hg).trans rfl) rfl h96  (hK _ _ hS rfl (fun _ _ h => h))
                    · intro hi' b wx hF hS hd K hK
                      have hg := val_at (t := 97) rfl (show valOf dsL b 18 = .bool false from dep (F := fun jz => RV (vsLT gl i k si) jz (valOf dsL b jz) wx) hd 18 (by kernel_rfl))
                      have h1 : b.tmps[1]?.getD undef = .slice (some ⟨gl, 0, none⟩) 7 7 := hF.at (t := 1) rfl rfl
                      exact stq_move hi' ((wanted_at (g := 18) (t := 97) (bb := false) (c := false) rfl rfl hg).trans rfl) rfl h1  (hK _ _ hS rfl (fun _ _ h => h))
                    · intro hi' b wx hF hS hd K hK
                      have hg := val_at (t := 97) rfl (show valOf dsL b 18 = .bool false from dep (F := fun jz => RV (vsLT gl i k si) jz (valOf dsL b jz) wx) hd 18 (by kernel_rfl))
                      have h2 : b.tmps[2]?.getD undef = .int .i64 (i : Int) := hF.at (t := 2) rfl rfl
                      exact stq_move hi' ((wanted_at (g := 18) (t := 97) (bb := false) (c := false) rfl rfl hg).trans rfl) rfl h2  (hK _ _ hS rfl (fun _ _ h => h))
                    · intro hi' b wx hF hS hd K hK
                      have hg := val_at (t := 97) rfl (show valOf dsL b 18 = .bool false from dep (F := fun jz => RV (vsLT gl i k si) jz (valOf dsL b jz) wx) hd 18 (by kernel_rfl))
                      have h4 : b.tmps[4]?.getD undef = .int .i64 (k : Int) := hF.at (t := 4) rfl rfl
                      exact stq_move hi' ((wanted_at (g := 18) (t := 97) (bb := false) (c := false) rfl rfl hg).trans rfl) rfl h4  (hK _ _ hS rfl (fun _ _ h => h))
                    · intro hi' b wx hF hS hd K hK
                      have hg := val_at (t := 97) rfl (show valOf dsL b 18 = .bool false from dep (F := fun jz => RV (vsLT gl i k si) jz (valOf dsL b jz) wx) hd 18 (by kernel_rfl))
                      have h98 := val_at (t := 98) rfl (show valOf dsL b 19 = .slice (some ⟨gl, 0, none⟩) 7 7 from dep (F := fun jz => RV (vsLT gl i k si) jz (valOf dsL b jz) wx) hd 19 (by kernel_rfl))
                      have h99 := val_at (t := 99) rfl (show valOf dsL b 20 = .int .i64 (i : Int) from dep (F := fun jz => RV (vsLT gl i k si) jz (valOf dsL b jz) wx) hd 20 (by kernel_rfl))
                      have h100 := val_at (t := 100) rfl (show valOf dsL b 21 = .int .i64 (k : Int) from dep (F := fun jz => RV (vsLT gl i k si) jz (valOf dsL b jz) wx) hd 21 (by kernel_rfl))
                      exact stk_both hi' ((wanted_at (g := 18) (t := 97) (bb := false) (c := false) rfl rfl hg).trans rfl) rfl h98 h99 h100 hik hk7 hi7 (hK _ _ hS rfl (fun _ _ h => h))
                    · intro hi' b wx hF hS hd K hK
                      have hg := val_at (t := 97) rfl (show valOf dsL b 18 = .bool false from dep (F := fun jz => RV (vsLT gl i k si) jz (valOf dsL b jz) wx) hd 18 (by kernel_rfl))
                      have h1 : b.tmps[1]?.getD undef = .slice (some ⟨gl, 0, none⟩) 7 7 := hF.at (t := 1) rfl rfl
                      exact stq_move hi' ((wanted_at (g := 18) (t := 97) (bb := false) (c := false) rfl rfl hg).trans rfl) rfl h1  (hK _ _ hS rfl (fun _ _ h => h))
                    · intro hi' b wx hF hS hd K hK
                      have hg := val_at (t := 97) rfl (show valOf dsL b 18 = .bool false from dep (F := fun jz => RV (vsLT gl i k si) jz (valOf dsL b jz) wx) hd 18 (by kernel_rfl))
                      have h2 : b.tmps[2]?.getD undef = .int .i64 (i : Int) := hF.at (t := 2) rfl rfl
                      exact stq_move hi' ((wanted_at (g := 18) (t := 97) (bb := false) (c := false) rfl rfl hg).trans rfl) rfl h2  (hK _ _ hS rfl (fun _ _ h => h))
                    · intro hi' b wx hF hS hd K hK
                      have hg := val_at (t := 97) rfl (show valOf dsL b 18 = .bool false from dep (F := fun jz => RV (vsLT gl i k si) jz (valOf dsL b jz) wx) hd 18 (by kernel_rfl))
                      have h102 := val_at (t := 102) rfl (show valOf dsL b 23 = .slice (some ⟨gl, 0, none⟩) 7 7 from dep (F := fun jz => RV (vsLT gl i k si) jz (valOf dsL b jz) wx) hd 23 (by kernel_rfl))
                      have h103 := val_at (t := 103) rfl (show valOf dsL b 24 = .int .i64 (i : Int) from dep (F := fun jz => RV (vsLT gl i k si) jz (valOf dsL b jz) wx) hd 24 (by kernel_rfl))
                      exact stk_str hi' ((wanted_at (g := 18) (t := 97) (bb := false) (c := false) rfl rfl hg).trans rfl) rfl h102 h103 hi7 (hK _ _ hS rfl (fun _ _ h => h))
                    · intro hi' b wx hF hS hd K hK
                      have hg := val_at (t := 97) rfl (show valOf dsL b 18 = .bool false from dep (F := fun jz => RV (vsLT gl i k si) jz (valOf dsL b jz) wx) hd 18 (by kernel_rfl))
                      have h104 := val_at (t := 104) rfl (show valOf dsL b 25 = .pointer (some ⟨gl, i, none⟩) from dep (F := fun jz => RV (vsLT gl i k si) jz (valOf dsL b jz) wx) hd 25 (by kernel_rfl))
                      exact stk_read hi' ((wanted_at (g := 18) (t := 97) (bb := false) (c := false) rfl rfl hg).trans rfl) rfl h104 (HCI.out wx hS) (hK _ _ hS rfl (fun _ _ h => h))
                    · intro hi' b wx hF hS hd K hK
                      have hg := val_at (t := 97) rfl (show valOf dsL b 18 = .bool false from dep (F := fun jz => RV (vsLT gl i k si) jz (valOf dsL b jz) wx) hd 18 (by kernel_rfl))
                      have h101 := val_at (t := 101) rfl (show valOf dsL b 22 = .slice (some ⟨gl, i, none⟩) (k - i) (7 - i) from dep (F := fun jz => RV (vsLT gl i k si) jz (valOf dsL b jz) wx) hd 22 (by kernel_rfl))
                      have h105 := val_at (t := 105) rfl (show valOf dsL b 26 = .string si from dep (F := fun jz => RV (vsLT gl i k si) jz (valOf dsL b jz) wx) hd 26 (by kernel_rfl))
                      have hSH := hS
                      refine stp_callg (enters_of Tryd.func7 (by kernel_rfl) rfl) hi' ((wanted_at (g := 18) (t := 97) (bb := false) (c := false) rfl rfl hg).trans rfl) rfl (args := #[.slice (some ⟨gl, i, none⟩) (k - i) (7 - i), .string si]) (by simp [Act.eval, h101, h105]) (HKH.out wx _ _ hSH hsi (HPT.out wx hSH i (k - i) (7 - i) (by omega) (by omega) (by omega))) ?_
                      rintro e w' ⟨rfl, hb⟩
                      exact ⟨_, rfl, hK _ _ (HSL.out _ _ hS hb) rfl (fun _ _ h => h)⟩
                    · intro hi' b wx hF hS hd K hK
                      have hg := val_at (t := 97) rfl (show valOf dsL b 18 = .bool false from dep (F := fun jz => RV (vsLT gl i k si) jz (valOf dsL b jz) wx) hd 18 (by kernel_rfl))
                      have h106 := val_at (t := 106) rfl (show valOf dsL b 27 = .bool true from dep (F := fun jz => RV (vsLT gl i k si) jz (valOf dsL b jz) wx) hd 27 (by kernel_rfl))
                      exact stq_not hi' ((wanted_at (g := 18) (t := 97) (bb := false) (c := false) rfl rfl hg).trans rfl) rfl h106  (hK _ _ hS rfl (fun _ _ h => h))
                    · intro hi' b wx hF hS hd K hK
                      have hg := val_at (t := 82) rfl (show valOf dsL b 3 = .bool true from dep (F := fun jz => RV (vsLT gl i k si) jz (valOf dsL b jz) wx) hd 3 (by kernel_rfl))
                      have h97 := val_at (t := 97) rfl (show valOf dsL b 18 = .bool false from dep (F := fun jz => RV (vsLT gl i k si) jz (valOf dsL b jz) wx) hd 18 (by kernel_rfl))
                      have h107 := val_at (t := 107) rfl (show valOf dsL b 28 = .bool false from dep (F := fun jz => RV (vsLT gl i k si) jz (valOf dsL b jz) wx) hd 28 (by kernel_rfl))
                      exact stq_pick hi' ((wanted_at (g := 3) (t := 82) (bb := true) (c := true) rfl rfl hg).trans rfl) rfl h97 h107 (r := .bool false) rfl (hK _ _ hS rfl (fun _ _ h => h))
                    · intro hi' b wx hF hS hd K hK
                      have h82 := val_at (t := 82) rfl (show valOf dsL b 3 = .bool true from dep (F := fun jz => RV (vsLT gl i k si) jz (valOf dsL b jz) wx) hd 3 (by kernel_rfl))
                      have h108 := val_at (t := 108) rfl (show valOf dsL b 29 = .bool false from dep (F := fun jz => RV (vsLT gl i k si) jz (valOf dsL b jz) wx) hd 29 (by kernel_rfl))
                      exact stk_pickf hi' (by simp [Region.wanted]) rfl h82 h108 (r := .bool false) rfl (hK _ _ hS rfl (fun _ _ h => h))
                  case fin =>
                    intro b w3 hF hS hR
                    have hb := hF.lit (by decide) (lt_all (n := 147) (by decide))
                    obtain ⟨f, hf⟩ : ∃ f, valOf dsL b = f := ⟨_, rfl⟩
                    rw [hf] at hb hR
                    have hv : f 30 = .bool false := hR 30 (by decide)
                    have HX := Lib.hid (HW1.out w3 hS)
                    subst hb
                    simp only [putAll, dsL, Nat.reduceAdd, List.setIfInBounds_toArray, List.set_cons_zero, List.set_cons_succ, hv]
                    clear hR hF hf hv
                    go_wp2_with fail
                    go_roundw
                    case rel => exact ⟨k + 1, by omega, by go_num, HX⟩
                    case measure => simp [intOf]; omega
                · have hge : decide (i ≤ k) = false := by simp [hik]
                  go_upto_region 13 with fail
                  refine wp_region_vals dsL (fun X => Hid (Below B wr X)) (RV (vsLF i k)) (by kernel_rfl) (by kernel_rfl) (by kernel_rfl) (by decide) (lt_all (n := 147) (by decide)) HSd ?step ?fin
                  case step =>
                    refine each_op ?_
                    refine ⟨?_, ?_, ?_, ?_, ?_, ?_, ?_, ?_, ?_, ?_, ?_, ?_, ?_, ?_, ?_, ?_, ?_, ?_, ?_, ?_, ?_, ?_, ?_, ?_, ?_, ?_, ?_, ?_, ?_, ?_, ?_, trivial⟩
                    · intro hi' b wx hF hS hd K hK
                      have h4 : b.tmps[4]?.getD undef = .int .i64 (k : Int) := hF.at (t := 4) rfl rfl
                      exact stq_move hi' (by simp [Region.wanted]) rfl h4  (hK _ _ hS rfl (fun _ _ h => h))
                    · intro hi' b wx hF hS hd K hK
                      have h2 : b.tmps[2]?.getD undef = .int .i64 (i : Int) := hF.at (t := 2) rfl rfl
                      exact stq_move hi' (by simp [Region.wanted]) rfl h2  (hK _ _ hS rfl (fun _ _ h => h))
                    · intro hi' b wx hF hS hd K hK
                      have h79 := val_at (t := 79) rfl (show valOf dsL b 0 = .int .i64 (k : Int) from dep (F := fun jz => RV (vsLF i k) jz (valOf dsL b jz) wx) hd 0 (by kernel_rfl))
                      have h80 := val_at (t := 80) rfl (show valOf dsL b 1 = .int .i64 (i : Int) from dep (F := fun jz => RV (vsLF i k) jz (valOf dsL b jz) wx) hd 1 (by kernel_rfl))
                      exact stk_geq hi' (by simp [Region.wanted]) rfl h79 h80 hge (hK _ _ hS rfl (fun _ _ h => h))
                    · intro hi' b wx hF hS hd K hK
                      have h81 := val_at (t := 81) rfl (show valOf dsL b 2 = .bool false from dep (F := fun jz => RV (vsLF i k) jz (valOf dsL b jz) wx) hd 2 (by kernel_rfl))
                      exact stq_move hi' (by simp [Region.wanted]) rfl h81  (hK _ _ hS rfl (fun _ _ h => h))
                    · intro hi' b wx hF hS hd K hK
                      have hg := val_at (t := 82) rfl (show valOf dsL b 3 = .bool false from dep (F := fun jz => RV (vsLF i k) jz (valOf dsL b jz) wx) hd 3 (by kernel_rfl))
                      exact wpOp_skip hi' ((wanted_at (g := 3) (t := 82) (bb := true) (c := false) rfl rfl hg).trans rfl) (hK _ _ hS rfl (fun _ _ h => h))
                    · intro hi' b wx hF hS hd K hK
                      have hg := val_at (t := 82) rfl (show valOf dsL b 3 = .bool false from dep (F := fun jz => RV (vsLF i k) jz (valOf dsL b jz) wx) hd 3 (by kernel_rfl))
                      exact wpOp_skip hi' ((wanted_at (g := 3) (t := 82) (bb := true) (c := false) rfl rfl hg).trans rfl) (hK _ _ hS rfl (fun _ _ h => h))
                    · intro hi' b wx hF hS hd K hK
                      have hg := val_at (t := 82) rfl (show valOf dsL b 3 = .bool false from dep (F := fun jz => RV (vsLF i k) jz (valOf dsL b jz) wx) hd 3 (by kernel_rfl))
                      exact wpOp_skip hi' ((wanted_at (g := 3) (t := 82) (bb := true) (c := false) rfl rfl hg).trans rfl) (hK _ _ hS rfl (fun _ _ h => h))
                    · intro hi' b wx hF hS hd K hK
                      have hg := val_at (t := 82) rfl (show valOf dsL b 3 = .bool false from dep (F := fun jz => RV (vsLF i k) jz (valOf dsL b jz) wx) hd 3 (by kernel_rfl))
                      exact wpOp_skip hi' ((wanted_at (g := 3) (t := 82) (bb := true) (c := false) rfl rfl hg).trans rfl) (hK _ _ hS rfl (fun _ _ h => h))
                    · intro hi' b wx hF hS hd K hK
                      have hg := val_at (t := 82) rfl (show valOf dsL b 3 = .bool false from dep (F := fun jz => RV (vsLF i k) jz (valOf dsL b jz) wx) hd 3 (by kernel_rfl))
                      exact wpOp_skip hi' ((wanted_at (g := 3) (t := 82) (bb := true) (c := false) rfl rfl hg).trans rfl) (hK _ _ hS rfl (fun _ _ h => h))
                    · intro hi' b wx hF hS hd K hK
                      have hg := val_at (t := 82) rfl (show valOf dsL b 3 = .bool false from dep (F := fun jz => RV (vsLF i k) jz (valOf dsL b jz) wx) hd 3 (by kernel_rfl))
                      exact wpOp_skip hi' ((wanted_at (g := 3) (t := 82) (bb := true) (c := false) rfl rfl hg).trans rfl) (hK _ _ hS rfl (fun _ _ h => h))
                    · intro hi' b wx hF hS hd K hK
                      have hg := val_at (t := 82) rfl (show valOf dsL b 3 = .bool false from dep (F := fun jz => RV (vsLF i k) jz (valOf dsL b jz) wx) hd 3 (by kernel_rfl))
                      exact wpOp_skip hi' ((wanted_at (g := 3) (t := 82) (bb := true) (c := false) rfl rfl hg).trans rfl) (hK _ _ hS rfl (fun _ _ h => h))
                    · intro hi' b wx hF hS hd K hK
                      have hg := val_at (t := 89) rfl (show valOf dsL b 10 = undef from dep (F := fun jz => RV (vsLF i k) jz (valOf dsL b jz) wx) hd 10 (by kernel_rfl))
                      exact wpOp_skip hi' (unwanted_at (g := 10) (t := 89) rfl rfl hg) (hK _ _ hS rfl (fun _ _ h => h))
                    · intro hi' b wx hF hS hd K hK
                      have hg := val_at (t := 89) rfl (show valOf dsL b 10 = undef from dep (F := fun jz => RV (vsLF i k) jz (valOf dsL b jz) wx) hd 10 (by kernel_rfl))
                      exact wpOp_skip hi' (unwanted_at (g := 10) (t := 89) rfl rfl hg) (hK _ _ hS rfl (fun _ _ h => h))
                    · intro hi' b wx hF hS hd K hK
                      have hg := val_at (t := 89) rfl (show valOf dsL b 10 = undef from dep (F := fun jz => RV (vsLF i k) jz (valOf dsL b jz) wx) hd 10 (by kernel_rfl))
                      exact wpOp_skip hi' (unwanted_at (g := 10) (t := 89) rfl rfl hg) (hK _ _ hS rfl (fun _ _ h => h))
                    · intro hi' b wx hF hS hd K hK
                      have hg := val_at (t := 89) rfl (show valOf dsL b 10 = undef from dep (F := fun jz => RV (vsLF i k) jz (valOf dsL b jz) wx) hd 10 (by kernel_rfl))
                      exact wpOp_skip hi' (unwanted_at (g := 10) (t := 89) rfl rfl hg) (hK _ _ hS rfl (fun _ _ h => h))
                    · intro hi' b wx hF hS hd K hK
                      have hg := val_at (t := 89) rfl (show valOf dsL b 10 = undef from dep (F := fun jz => RV (vsLF i k) jz (valOf dsL b jz) wx) hd 10 (by kernel_rfl))
                      exact wpOp_skip hi' (unwanted_at (g := 10) (t := 89) rfl rfl hg) (hK _ _ hS rfl (fun _ _ h => h))
                    · intro hi' b wx hF hS hd K hK
                      have hg := val_at (t := 89) rfl (show valOf dsL b 10 = undef from dep (F := fun jz => RV (vsLF i k) jz (valOf dsL b jz) wx) hd 10 (by kernel_rfl))
                      exact wpOp_skip hi' (unwanted_at (g := 10) (t := 89) rfl rfl hg) (hK _ _ hS rfl (fun _ _ h => h))
                    · intro hi' b wx hF hS hd K hK
                      have hg := val_at (t := 82) rfl (show valOf dsL b 3 = .bool false from dep (F := fun jz => RV (vsLF i k) jz (valOf dsL b jz) wx) hd 3 (by kernel_rfl))
                      exact wpOp_skip hi' ((wanted_at (g := 3) (t := 82) (bb := true) (c := false) rfl rfl hg).trans rfl) (hK _ _ hS rfl (fun _ _ h => h))
                    · intro hi' b wx hF hS hd K hK
                      have hg := val_at (t := 82) rfl (show valOf dsL b 3 = .bool false from dep (F := fun jz => RV (vsLF i k) jz (valOf dsL b jz) wx) hd 3 (by kernel_rfl))
                      exact wpOp_skip hi' ((wanted_at (g := 3) (t := 82) (bb := true) (c := false) rfl rfl hg).trans rfl) (hK _ _ hS rfl (fun _ _ h => h))
                    · intro hi' b wx hF hS hd K hK
                      have hg := val_at (t := 97) rfl (show valOf dsL b 18 = undef from dep (F := fun jz => RV (vsLF i k) jz (valOf dsL b jz) wx) hd 18 (by kernel_rfl))
                      exact wpOp_skip hi' (unwanted_at (g := 18) (t := 97) rfl rfl hg) (hK _ _ hS rfl (fun _ _ h => h))
                    · intro hi' b wx hF hS hd K hK
                      have hg := val_at (t := 97) rfl (show valOf dsL b 18 = undef from dep (F := fun jz => RV (vsLF i k) jz (valOf dsL b jz) wx) hd 18 (by kernel_rfl))
                      exact wpOp_skip hi' (unwanted_at (g := 18) (t := 97) rfl rfl hg) (hK _ _ hS rfl (fun _ _ h => h))
                    · intro hi' b wx hF hS hd K hK
                      have hg := val_at (t := 97) rfl (show valOf dsL b 18 = undef from dep (F := fun jz => RV (vsLF i k) jz (valOf dsL b jz) wx) hd 18 (by kernel_rfl))
                      exact wpOp_skip hi' (unwanted_at (g := 18) (t := 97) rfl rfl hg) (hK _ _ hS rfl (fun _ _ h => h))
                    · intro hi' b wx hF hS hd K hK
                      have hg := val_at (t := 97) rfl (show valOf dsL b 18 = undef from dep (F := fun jz => RV (vsLF i k) jz (valOf dsL b jz) wx) hd 18 (by kernel_rfl))
                      exact wpOp_skip hi' (unwanted_at (g := 18) (t := 97) rfl rfl hg) (hK _ _ hS rfl (fun _ _ h => h))
                    · intro hi' b wx hF hS hd K hK
                      have hg := val_at (t := 97) rfl (show valOf dsL b 18 = undef from dep (F := fun jz => RV (vsLF i k) jz (valOf dsL b jz) wx) hd 18 (by kernel_rfl))
                      exact wpOp_skip hi' (unwanted_at (g := 18) (t := 97) rfl rfl hg) (hK _ _ hS rfl (fun _ _ h => h))
                    · intro hi' b wx hF hS hd K hK
                      have hg := val_at (t := 97) rfl (show valOf dsL b 18 = undef from dep (F := fun jz => RV (vsLF i k) jz (valOf dsL b jz) wx) hd 18 (by kernel_rfl))
                      exact wpOp_skip hi' (unwanted_at (g := 18) (t := 97) rfl rfl hg) (hK _ _ hS rfl (fun _ _ h => h))
                    · intro hi' b wx hF hS hd K hK
                      have hg := val_at (t := 97) rfl (show valOf dsL b 18 = undef from dep (F := fun jz => RV (vsLF i k) jz (valOf dsL b jz) wx) hd 18 (by kernel_rfl))
                      exact wpOp_skip hi' (unwanted_at (g := 18) (t := 97) rfl rfl hg) (hK _ _ hS rfl (fun _ _ h => h))
                    · intro hi' b wx hF hS hd K hK
                      have hg := val_at (t := 97) rfl (show valOf dsL b 18 = undef from dep (F := fun jz => RV (vsLF i k) jz (valOf dsL b jz) wx) hd 18 (by kernel_rfl))
                      exact wpOp_skip hi' (unwanted_at (g := 18) (t := 97) rfl rfl hg) (hK _ _ hS rfl (fun _ _ h => h))
                    · intro hi' b wx hF hS hd K hK
                      have hg := val_at (t := 97) rfl (show valOf dsL b 18 = undef from dep (F := fun jz => RV (vsLF i k) jz (valOf dsL b jz) wx) hd 18 (by kernel_rfl))
                      exact wpOp_skip hi' (unwanted_at (g := 18) (t := 97) rfl rfl hg) (hK _ _ hS rfl (fun _ _ h => h))
                    · intro hi' b wx hF hS hd K hK
                      have hg := val_at (t := 97) rfl (show valOf dsL b 18 = undef from dep (F := fun jz => RV (vsLF i k) jz (valOf dsL b jz) wx) hd 18 (by kernel_rfl))
                      exact wpOp_skip hi' (unwanted_at (g := 18) (t := 97) rfl rfl hg) (hK _ _ hS rfl (fun _ _ h => h))
                    · intro hi' b wx hF hS hd K hK
                      have hg := val_at (t := 82) rfl (show valOf dsL b 3 = .bool false from dep (F := fun jz => RV (vsLF i k) jz (valOf dsL b jz) wx) hd 3 (by kernel_rfl))
                      exact wpOp_skip hi' ((wanted_at (g := 3) (t := 82) (bb := true) (c := false) rfl rfl hg).trans rfl) (hK _ _ hS rfl (fun _ _ h => h))
                    · intro hi' b wx hF hS hd K hK
                      have h82 := val_at (t := 82) rfl (show valOf dsL b 3 = .bool false from dep (F := fun jz => RV (vsLF i k) jz (valOf dsL b jz) wx) hd 3 (by kernel_rfl))
                      have h108 := val_at (t := 108) rfl (show valOf dsL b 29 = undef from dep (F := fun jz => RV (vsLF i k) jz (valOf dsL b jz) wx) hd 29 (by kernel_rfl))
                      exact stk_pickf hi' (by simp [Region.wanted]) rfl h82 h108 (r := .bool false) rfl (hK _ _ hS rfl (fun _ _ h => h))
                  case fin =>
                    intro b w3 hF hS hR
                    have hb := hF.lit (by decide) (lt_all (n := 147) (by decide))
                    obtain ⟨f, hf⟩ : ∃ f, valOf dsL b = f := ⟨_, rfl⟩
                    rw [hf] at hb hR
                    have hv : f 30 = .bool false := hR 30 (by decide)
                    have HX := Lib.hid (HW1.out w3 hS)
                    subst hb
                    simp only [putAll, dsL, Nat.reduceAdd, List.setIfInBounds_toArray, List.set_cons_zero, List.set_cons_succ, hv]
                    clear hR hF hf hv
                    go_wp2_with fail
                    go_roundw
                    case rel => exact ⟨k + 1, by omega, by go_num, HX⟩
                    case measure => simp [intOf]; omega
              · obtain rfl : k = 8 := by omega
                go_wp2_with fail
                go_meet
                exact ⟨rfl, rfl, HK⟩
          case rest =>
            obtain ⟨rfl, rfl, HC2⟩ := hcut
            obtain ⟨B, hB⟩ : ∃ B, wc.heap.size = B := ⟨_, rfl⟩
            obtain ⟨si, hsi0⟩ : ∃ si, S7 i = si := ⟨_, rfl⟩
            have hsi : si.size ≤ maxLen := hsi0 ▸ Nat.le_trans (s7_small i) (by decide)
            have HW1 : Hid (∀ X, Hid (Below B wc X) → Below W1.heap.size W1 X) := Lib.hid fun X h => HC2.out.trans (h.out.mono (hB ▸ HC2.out.size))
            have HBS : Hid (∀ X, Hid (Below B wc X) → B ≤ X.heap.size) := Lib.hid fun X h => hB ▸ h.out.size
            have HSL : Hid (∀ X Y, Hid (Below B wc X) → Below X.heap.size X Y → Hid (Below B wc Y)) := Lib.hid fun X Y h k => Lib.hid (h.out.trans (k.mono (HBS.out X h)))
            have HST : Hid (∀ X Y, Hid (Below B wc X) → Below B X Y → Below B wc Y) := Lib.hid fun X Y h k => h.out.trans k
            have HCI : Hid (∀ X, Hid (Below B wc X) → X.cell? ⟨gl, i, none⟩ = some (.string si)) := Lib.hid fun X h => hsi0 ▸ HSV.out i hi7 X (HW1.out X h)
            have HPT : Hid (∀ X, Hid (Below B wc X) → ∀ lo n c, lo + n ≤ 7 → n ≤ c → c ≤ 7 → RdE X (.slice (some ⟨gl, lo, none⟩) n c)) := Lib.hid fun X h => seven_part (Nat.lt_of_lt_of_le HSZ.out (HW1.out X h).size) fun j hj => HSV.out j hj X (HW1.out X h)
            have HWB : Hid (∀ X, Hid (Below B wc X) → Below w.heap.size w X) := Lib.hid fun X h => HB1.out.trans ((HW1.out X h).mono HB1.out.size)
            have HKF : Hid (∀ X (v : Value) (s : ByteArray), Hid (Below B wc X) → s.size ≤ maxLen → RdE X v → Calls Tryd.prog 6 #[v, .string s] X fun e w' => e = .returned (.bool true) ∧ Below X.heap.size X w') := Lib.hid fun X v s h => HFI.out X v s (HWB.out X h)
            have HKH : Hid (∀ X (v : Value) (s : ByteArray), Hid (Below B wc X) → s.size ≤ maxLen → RdE X v → Calls Tryd.prog 7 #[v, .string s] X fun e w' => e = .returned (.bool true) ∧ Below X.heap.size X w') := Lib.hid fun X v s h => HHA.out X v s (HWB.out X h)
            have HSd : Hid (Below B wc wc.drew) := Lib.hid (Below.refl _ _).drew
            clear hB hsi0
            go_upto_region 15 with fail
            refine wp_region_valsK dsM (fun X => Hid (Below B wc X)) (R8 (vsM gl i) B (7 - i) i 0 4 8) (by kernel_rfl) (by kernel_rfl) (by kernel_rfl) (by decide) (lt_all (n := 147) (by decide)) HSd ?step ?fin
            case step =>
              refine each_op ?_
              refine ⟨?_, ?_, ?_, ?_, ?_, ?_, ?_, ?_, ?_, ?_, ?_, trivial⟩
              · intro hi' b wx hF hS hd K hK
                exact stk_first hi' (by simp [Region.wanted]) rfl (HBS.out _ hS) fun v w' hv hb => hK _ _ (HSL.out _ _ hS hb) hv (fun _ _ h => R8.below h hb)
              · intro hi' b wx hF hS hd K hK
                have h1 : b.tmps[1]?.getD undef = .slice (some ⟨gl, 0, none⟩) 7 7 := hF.at (t := 1) rfl rfl
                exact stq_move hi' (by simp [Region.wanted]) rfl h1  (hK _ _ hS rfl (fun _ _ h => h))
              · intro hi' b wx hF hS hd K hK
                have h2 : b.tmps[2]?.getD undef = .int .i64 (i : Int) := hF.at (t := 2) rfl rfl
                exact stq_move hi' (by simp [Region.wanted]) rfl h2  (hK _ _ hS rfl (fun _ _ h => h))
              · intro hi' b wx hF hS hd K hK
                have h111 := val_at (t := 111) rfl (show valOf dsM b 1 = .slice (some ⟨gl, 0, none⟩) 7 7 from dep (F := fun jz => R8 (vsM gl i) B (7 - i) i 0 4 8 jz (valOf dsM b jz) wx) hd 1 (by kernel_rfl))
                have h112 := val_at (t := 112) rfl (show valOf dsM b 2 = .int .i64 (i : Int) from dep (F := fun jz => R8 (vsM gl i) B (7 - i) i 0 4 8 jz (valOf dsM b jz) wx) hd 2 (by kernel_rfl))
                exact stk_from hi' (by simp [Region.wanted]) rfl h111 h112 (Nat.le_of_lt hi7) (Nat.le_refl _) hi7 (hK _ _ hS rfl (fun _ _ h => h))
              · intro hi' b wx hF hS hd K hK
                have q110 : OwA B (valOf dsM b 0) wx := dep (F := fun jz => R8 (vsM gl i) B (7 - i) i 0 4 8 jz (valOf dsM b jz) wx) hd 0 (by kernel_rfl)
                have h110 := val_at (t := 110) rfl (show valOf dsM b 0 = valOf dsM b 0 from rfl)
                have h113 := val_at (t := 113) rfl (show valOf dsM b 3 = .slice (some ⟨gl, i, none⟩) (7 - i) (7 - i) from dep (F := fun jz => R8 (vsM gl i) B (7 - i) i 0 4 8 jz (valOf dsM b jz) wx) hd 3 (by kernel_rfl))
                obtain ⟨ys, hys⟩ := HPT.out wx hS i (7 - i) (7 - i) (by omega) (Nat.le_refl _) (by omega)
                exact stk_app1 hi' (by simp [Region.wanted]) rfl h110 h113 q110 hys (by omega) (HBS.out _ hS) fun v w' hv hb => hK _ _ (HSL.out _ _ hS hb) hv (fun _ _ h => R8.below h hb)
              · intro hi' b wx hF hS hd K hK
                have h1 : b.tmps[1]?.getD undef = .slice (some ⟨gl, 0, none⟩) 7 7 := hF.at (t := 1) rfl rfl
                exact stq_move hi' (by simp [Region.wanted]) rfl h1  (hK _ _ hS rfl (fun _ _ h => h))
              · intro hi' b wx hF hS hd K hK
                have h2 : b.tmps[2]?.getD undef = .int .i64 (i : Int) := hF.at (t := 2) rfl rfl
                exact stq_move hi' (by simp [Region.wanted]) rfl h2  (hK _ _ hS rfl (fun _ _ h => h))
              · intro hi' b wx hF hS hd K hK
                have h115 := val_at (t := 115) rfl (show valOf dsM b 5 = .slice (some ⟨gl, 0, none⟩) 7 7 from dep (F := fun jz => R8 (vsM gl i) B (7 - i) i 0 4 8 jz (valOf dsM b jz) wx) hd 5 (by kernel_rfl))
                have h116 := val_at (t := 116) rfl (show valOf dsM b 6 = .int .i64 (i : Int) from dep (F := fun jz => R8 (vsM gl i) B (7 - i) i 0 4 8 jz (valOf dsM b jz) wx) hd 6 (by kernel_rfl))
                exact stk_upto hi' (by simp [Region.wanted]) rfl h115 h116 (Nat.le_of_lt hi7) (hK _ _ hS rfl (fun _ _ h => h))
              · intro hi' b wx hF hS hd K hK
                have q114 : OwS B (7 - i) (valOf dsM b 4) wx := dep (F := fun jz => R8 (vsM gl i) B (7 - i) i 0 4 8 jz (valOf dsM b jz) wx) hd 4 (by kernel_rfl)
                have h114 := val_at (t := 114) rfl (show valOf dsM b 4 = valOf dsM b 4 from rfl)
                have h117 := val_at (t := 117) rfl (show valOf dsM b 7 = .slice (some ⟨gl, 0, none⟩) i 7 from dep (F := fun jz => R8 (vsM gl i) B (7 - i) i 0 4 8 jz (valOf dsM b jz) wx) hd 7 (by kernel_rfl))
                obtain ⟨ys, hys⟩ := HPT.out wx hS 0 i 7 (by omega) (Nat.le_of_lt hi7) (Nat.le_refl _)
                exact stk_app2 hi' (by simp [Region.wanted]) rfl h114 h117 q114 (by omega) hys (by omega) (HBS.out _ hS) fun v w' hv ho hA hb => hK _ _ (Lib.hid (HST.out _ _ hS hb)) hv (R8.app (f := valOf dsM b) hA ho)
              · intro hi' b wx hF hS hd K hK
                have q118 : OwS B (7 - i + i) (valOf dsM b 8) wx := dep (F := fun jz => R8 (vsM gl i) B (7 - i) i 0 4 8 jz (valOf dsM b jz) wx) hd 8 (by kernel_rfl)
                have h118 := val_at (t := 118) rfl (show valOf dsM b 8 = valOf dsM b 8 from rfl)
                have hSH := hS
                obtain ⟨v, hv⟩ : ∃ v, valOf dsM b 8 = v := ⟨_, rfl⟩
                rw [hv] at h118 q118
                refine stp_callg (enters_of Tryd.func6 (by kernel_rfl) rfl) hi' (by simp [Region.wanted]) rfl (args := #[v, .string ⟨#[97, 97]⟩]) (by simp [Act.eval, h118]) (HKF.out wx v _ hSH (by decide) q118.rds) ?_
                rintro e w' ⟨rfl, hb⟩
                exact ⟨_, rfl, hK _ _ (HSL.out _ _ hS hb) rfl (fun _ _ h => R8.below h hb)⟩
              · intro hi' b wx hF hS hd K hK
                have h119 := val_at (t := 119) rfl (show valOf dsM b 9 = .bool true from dep (F := fun jz => R8 (vsM gl i) B (7 - i) i 0 4 8 jz (valOf dsM b jz) wx) hd 9 (by kernel_rfl))
                exact stq_not hi' (by simp [Region.wanted]) rfl h119  (hK _ _ hS rfl (fun _ _ h => h))
            case fin =>
              intro b w3 hF hS hR
              have hb := hF.lit (by decide) (lt_all (n := 147) (by decide))
              obtain ⟨f, hf⟩ : ∃ f, valOf dsM b = f := ⟨_, rfl⟩
              rw [hf] at hb hR
              have hv : f 10 = .bool false := hR 10 (by decide)
              have HX := Lib.hid (HW1.out w3 hS)
              subst hb
              simp only [putAll, dsM, Nat.reduceAdd, List.setIfInBounds_toArray, List.set_cons_zero, List.set_cons_succ, hv]
              clear hR hF hf hv
              go_wp2_with fail
              go_roundw
              case rel => exact ⟨i + 1, by omega, by go_num, HX⟩
              case measure => simp [intOf]; omega
      · obtain rfl : i = 7 := by omega
        go_wp2_with fail
        go_meet
        exact ⟨rfl, HI⟩
  case rest =>
    obtain ⟨rfl, HC⟩ := hcut
    have HWB : Hid (∀ X, Below wc.heap.size wc X → Below w.heap.size w X) := Lib.hid fun X h => HB1.out.trans ((HC.out.trans (h.mono HC.out.size)).mono HB1.out.size)
    have HSX : Hid (∀ X, Below wc.heap.size wc X → ∀ j, j < 7 → X.cell? ⟨gl, j, none⟩ = some (.string (S7 j))) := Lib.hid fun X h j hj => HSV.out j hj X (HC.out.trans (h.mono HC.out.size))
    have HSG : Hid (∀ X, Below wc.heap.size wc X → gl < X.heap.size) := Lib.hid fun X h => Nat.lt_of_lt_of_le HSZ.out (Nat.le_trans HC.out.size h.size)
    have hm7 : ∀ W, (Instr.makeSlice 29 (.int .i64 7) (.int .i64 7)).run Tryd.prog W = .ok (.slice (some ⟨W.heap.size, 0, none⟩) 7 7) (W.alloc (.cells zC 31)) := run_mk7
    have HZN : Hid (∀ X, NdE X [.int .i64 0, .int .i64 0, .int .u64 0, .string ⟨#[]⟩, .slice none 0 0, .slice none 0 0]) := Lib.hid zn_nde
    have HTN : Hid (∀ X, NdE X [.int .i64 17, .int .i64 0, .int .u64 0, .string ⟨#[]⟩, .slice none 0 0, .slice none 0 0]) := Lib.hid fun X => nde_leaf X rng17 (by decide)
    have T1 : Hid True := Lib.hid trivial
    have T2 : Hid True := Lib.hid trivial
    have T3 : Hid True := Lib.hid trivial
    have U1 : Hid True := Lib.hid trivial
    have U2 : Hid True := Lib.hid trivial
    have U3 : Hid True := Lib.hid trivial
    clear HSV HC HSZ HB1
    go_wp2_with (first
      | (go_at_call 8; (with_reducible refine (HWK.out wc (HWB.out _ (Below.refl _ _))).mono ?_); rintro e v1 ⟨rfl, hb⟩; have HV1 : Hid (Below wc.heap.size wc v1) := Lib.hid hb; clear hb)
      | (go_at_call 9; clear T1; (with_reducible refine (HSO.out v1 _ (HWB.out _ HV1.out) (HZN.out v1)).mono ?_); rintro e v2 ⟨rfl, hb⟩; have HV2 : Hid (Below wc.heap.size wc v2) := Lib.hid (tr7 HV1.out hb); clear hb)
      | (go_at_call 10; clear U1; (with_reducible refine (table_any none 0 0 none 0 0 v2).mono ?_); rintro e v3 ⟨rfl, hb⟩; have HV3 : Hid (Below wc.heap.size wc v3) := Lib.hid (tr7 HV2.out hb); clear hb)
      | (go_at_call 9; clear T2; (with_reducible refine (HSO.out v3 _ (HWB.out _ HV3.out) (HTN.out v3)).mono ?_); rintro e v4 ⟨rfl, hb⟩; have HV4 : Hid (Below wc.heap.size wc v4) := Lib.hid (tr7 HV3.out hb); clear hb; have HZR := Lib.hid (zc_rdn v4); have HV4a : Hid (Below wc.heap.size wc (v4.alloc (.cells zC 31))) := Lib.hid (HV4.out.alloc HV4.out.size _))
      | (go_at_call 10; clear U2; (with_reducible refine (table_any _ _ _ _ _ _ _).mono ?_); rintro e v5 ⟨rfl, hb⟩; have HV5 : Hid (Below wc.heap.size wc v5) := Lib.hid (tr7 HV4a.out hb); have HT5 : Hid (NdE v5 [.int .i64 17, .int .i64 0, .int .u64 0, .string ⟨#[]⟩, .slice (some ⟨gl, 0, none⟩) 7 7, .slice (some ⟨v4.heap.size, 0, none⟩) 7 7]) := Lib.hid (tab7 (HSG.out _ HV5.out) (HSX.out _ HV5.out) (HZR.out.below hb)); clear hb)
      | (go_at_call 9; clear T3; (with_reducible refine (HSO.out v5 _ (HWB.out _ HV5.out) HT5.out).mono ?_); rintro e v6 ⟨rfl, hb⟩; have HV6 : Hid (Below wc.heap.size wc v6) := Lib.hid (tr7 HV5.out hb); clear hb; have HV6a : Hid (Below wc.heap.size wc (v6.alloc (.cells #[.string ⟨#[98]⟩, .string ⟨#[97]⟩, .string ⟨#[99]⟩] 9))) := Lib.hid (HV6.out.alloc HV6.out.size _); have HK6 : Hid (RdK (v6.alloc (.cells #[.string ⟨#[98]⟩, .string ⟨#[97]⟩, .string ⟨#[99]⟩] 9)) (.slice (some ⟨v6.heap.size, 0, none⟩) 3 3)) := Lib.hid (rdk_lit [⟨#[98]⟩, ⟨#[97]⟩, ⟨#[99]⟩] (Blk.new v6 _ _) rfl rfl (fun s hs => by simp only [List.mem_cons, List.not_mem_nil, or_false] at hs; rcases hs with rfl | rfl | rfl <;> decide) (by decide)))
      | (go_at_call 12; (with_reducible refine (num_any 1 _).mono ?_); rintro e v7 ⟨rfl, hb⟩; have HV7 : Hid (Below wc.heap.size wc v7) := Lib.hid (tr7 HV6a.out hb); have HK7 := Lib.hid (RdK.below HK6.out hb); clear hb)
      | (go_at_call 12; (with_reducible refine (num_any 2 _).mono ?_); rintro e v8 ⟨rfl, hb⟩; have HV8 : Hid (Below wc.heap.size wc v8) := Lib.hid (tr7 HV7.out hb); have HK8 := Lib.hid (RdK.below HK7.out hb); clear hb)
      | (go_at_call 12; (with_reducible refine (num_any 3 _).mono ?_); rintro e v9 ⟨rfl, hb⟩; have HV9 : Hid (Below wc.heap.size wc v9) := Lib.hid (tr7 HV8.out hb); have HK9 := Lib.hid (RdK.below HK8.out hb); clear hb; have HV9a : Hid (Below wc.heap.size wc (v9.alloc (.cells #[.int .i64 3, .int .i64 1, .int .u64 0, .string ⟨#[]⟩, .slice none 0 0, .slice none 0 0, .int .i64 3, .int .i64 2, .int .u64 0, .string ⟨#[]⟩, .slice none 0 0, .slice none 0 0, .int .i64 3, .int .i64 3, .int .u64 0, .string ⟨#[]⟩, .slice none 0 0, .slice none 0 0] 31))) := Lib.hid (HV9.out.alloc HV9.out.size _); have HK9a : Hid (RdK (v9.alloc (.cells #[.int .i64 3, .int .i64 1, .int .u64 0, .string ⟨#[]⟩, .slice none 0 0, .slice none 0 0, .int .i64 3, .int .i64 2, .int .u64 0, .string ⟨#[]⟩, .slice none 0 0, .slice none 0 0, .int .i64 3, .int .i64 3, .int .u64 0, .string ⟨#[]⟩, .slice none 0 0, .slice none 0 0] 31)) (.slice (some ⟨v6.heap.size, 0, none⟩) 3 3)) := Lib.hid (RdK.below HK9.out ((Below.refl _ _).alloc (Nat.le_refl _) _)); have HR9 : Hid (RdN (v9.alloc (.cells #[.int .i64 3, .int .i64 1, .int .u64 0, .string ⟨#[]⟩, .slice none 0 0, .slice none 0 0, .int .i64 3, .int .i64 2, .int .u64 0, .string ⟨#[]⟩, .slice none 0 0, .slice none 0 0, .int .i64 3, .int .i64 3, .int .u64 0, .string ⟨#[]⟩, .slice none 0 0, .slice none 0 0] 31)) (.slice (some ⟨v9.heap.size, 0, none⟩) 3 3) 3) := Lib.hid (rdn_lit [[.int .i64 3, .int .i64 1, .int .u64 0, .string ⟨#[]⟩, .slice none 0 0, .slice none 0 0], [.int .i64 3, .int .i64 2, .int .u64 0, .string ⟨#[]⟩, .slice none 0 0, .slice none 0 0], [.int .i64 3, .int .i64 3, .int .u64 0, .string ⟨#[]⟩, .slice none 0 0, .slice none 0 0]] (Blk.new v9 _ _) rfl rfl (fun x hx => by simp only [List.mem_cons, List.not_mem_nil, or_false] at hx; rcases hx with rfl | rfl | rfl <;> exact num_nde _ _ (by decide) (by decide)) (by decide)))
      | (go_at_call 10; clear U3; (with_reducible refine (table_any _ _ _ _ _ _ _).mono ?_); rintro e va ⟨rfl, hb⟩; have HVa : Hid (Below wc.heap.size wc va) := Lib.hid (tr7 HV9a.out hb); have HTa : Hid (NdE va [.int .i64 17, .int .i64 0, .int .u64 0, .string ⟨#[]⟩, .slice (some ⟨v6.heap.size, 0, none⟩) 3 3, .slice (some ⟨v9.heap.size, 0, none⟩) 3 3]) := Lib.hid ((nde_mk rng17 (by decide) HK9a.out HR9.out).below hb); clear hb)
      | (go_at_call 11; (with_reducible refine (HSA.out va _ 1 (HWB.out _ HVa.out) HTa.out).mono ?_); rintro e vb ⟨rfl, hb⟩; have HVb : Hid (Below wc.heap.size wc vb) := Lib.hid (tr7 HVa.out hb); clear hb))
    go_ret
    exact ⟨rfl, HWB.out _ HVb.out⟩
end Go.Proofs.YtnplkamkeadlgaaDoor
