/-
  What is proved here: two of the law's four nodes of a number are alike exactly if both are signed or both unsigned, or the number fits both; and: nodes and rows of nodes that a law lays down by literals, as values that read as some node or some list of nodes; no condition but those that each fact states; and: a region that draws its order of evaluation, by what holds of each operation's value: an operation that may come up finds what holds of the values that it waits for, and shows what holds of its own; so each operation is looked at once, whatever the orders; no condition but those that each fact states; and: what one operation of a drawn region owes, apart from the frame it stands in: an empty node, a row of nodes, a row of strings, a call, a read; no condition but those that each fact states; and: NormalKnown returns true and leaves all memory that was there as it was; conditions: its calls do so (known9_core).
-/
import Derived.Test.YtemkfpofmblblaaDoorMake
import Derived.Orders
import Derived.Test.YtemkfpofmblblaaDoorExB
import Derived.Deep.DeepCutAuto
import Derived.Deep.CutBlock
import Derived.Deep.RegionHeld3
import Derived.Test.YtemkfpofmblblaaDoorNAlike
import Derived.Test.YtemkfpofmblblaaDoorLaw9
namespace Go.Proofs.YtemkfpofmblblaaDoor
open Go.RowKit

/-- Six cells that read as some node. -/
def NdE (W : World) (cs : List Value) : Prop := ∃ t, Nd W t cs
/-- A value that reads as some list of m nodes. -/
def RdN (W : World) (v : Value) (m : Nat) : Prop := ∃ l A c, v = .slice A m c ∧ l.length = m ∧ m ≤ c ∧ c ≤ maxLen ∧ (0 < m → ∃ b off, A = some ⟨b, off, none⟩ ∧ b < W.heap.size ∧ NdL W b l off)
/-- A value that reads as some list of strings. -/
def RdK (W : World) (v : Value) : Prop := ∃ ks, RdS W v ks
theorem NdE.below {W W' : World} {cs : List Value} (h : NdE W cs) (hb : Below W.heap.size W W') : NdE W' cs := by
  obtain ⟨t, ht⟩ := h; exact ⟨t, ht.below hb⟩
theorem RdN.below {W W' : World} {v : Value} {m : Nat} (h : RdN W v m) (hb : Below W.heap.size W W') : RdN W' v m := by
  obtain ⟨l, A, c, e, h1, h2, h3, h4⟩ := h
  refine ⟨l, A, c, e, h1, h2, h3, fun hm => ?_⟩
  obtain ⟨b, off, e2, hlt, hl⟩ := h4 hm
  exact ⟨b, off, e2, Nat.lt_of_lt_of_le hlt hb.size, hl.below hb hlt⟩
theorem RdK.below {W W' : World} {v : Value} (h : RdK W v) (hb : Below W.heap.size W W') : RdK W' v := by
  obtain ⟨ks, hk⟩ := h; exact ⟨ks, hk.below hb⟩
theorem rdn_nil (W : World) : RdN W (.slice none 0 0) 0 := ⟨[], none, 0, rfl, rfl, Nat.le_refl _, Nat.zero_le _, fun h => absurd h (by omega)⟩
theorem rdk_nil (W : World) : RdK W (.slice none 0 0) := ⟨[], rds_nil W⟩
theorem nde_mk {W : World} {k n u : Int} {s : ByteArray} {kv lv : Value} {m : Nat} (hr : Rng k n u) (hs : s.size ≤ maxLen) (hk : RdK W kv) (hl : RdN W lv m) : NdE W [.int .i64 k, .int .i64 n, .int .u64 u, .string s, kv, lv] := by
  obtain ⟨ks, hks⟩ := hk
  obtain ⟨l, A, c, rfl, h1, h2, h3, h4⟩ := hl
  exact ⟨.mk k n u s ks l, hr, hs, kv, A, m, c, rfl, hks, h1, h2, h3, h4⟩
theorem nde_leaf (W : World) {k n u : Int} {s : ByteArray} (hr : Rng k n u) (hs : s.size ≤ maxLen) : NdE W [.int .i64 k, .int .i64 n, .int .u64 u, .string s, .slice none 0 0, .slice none 0 0] := nde_mk hr hs (rdk_nil W) (rdn_nil W)
theorem ndl_any {W : World} {g : Nat} : ∀ (L : List (List Value)) (off : Nat), (∀ i c, L.flatten[i]? = some c → W.cell? ⟨g, off + i, none⟩ = some c) → (∀ x ∈ L, NdE W x) → ∃ l, l.length = L.length ∧ NdL W g l off
  | [], _, _, _ => ⟨[], rfl, trivial⟩
  | x :: L, off, hc, hx => by
    obtain ⟨t, ht⟩ := hx x (by simp)
    have h6 : x.length = 6 := by
      rcases t with ⟨kk, nn, uu, s, ks, l'⟩
      obtain ⟨_, _, kv, A, m, c, rfl, _⟩ := ht
      rfl
    obtain ⟨l, h1, h2⟩ := ndl_any L (off + 6) (fun i c h => by
      have := hc (6 + i) c (by rw [List.flatten_cons, List.getElem?_append_right (by omega), h6, Nat.add_sub_cancel_left]; exact h)
      rw [show off + 6 + i = off + (6 + i) by omega]; exact this) (fun y hy => hx y (by simp [hy]))
    refine ⟨t :: l, by simp [h1], ⟨x, fun i hi => ?_, ht⟩, h2⟩
    obtain ⟨c, hxc⟩ : ∃ c, x[i]? = some c := ⟨_, List.getElem?_eq_getElem (by omega)⟩
    rw [hxc]
    exact hc i c (by rw [List.flatten_cons, List.getElem?_append_left (by omega)]; exact hxc)
/-- A row of nodes that was laid as a literal. -/
theorem rdn_lit {W : World} {g : Nat} {cs : Array Value} (L : List (List Value)) {m : Nat} (hB : Blk W g 27 cs) (hc : cs = L.flatten.toArray) (hm : L.length = m) (hx : ∀ x ∈ L, NdE W x) (hl : m ≤ maxLen) : RdN W (.slice (some ⟨g, 0, none⟩) m m) m := by
  obtain ⟨l, h1, h2⟩ := ndl_any (W := W) (g := g) L 0 (fun i c h => by rw [Nat.zero_add, Blk.cell hB, hc]; simpa using h) hx
  exact ⟨l, _, m, rfl, by rw [h1, hm], Nat.le_refl _, hl, fun _ => ⟨g, 0, rfl, hB.lt, h2⟩⟩
/-- A row of strings that was laid as a literal. -/
theorem rdk_lit {W : World} {g : Nat} {cs : Array Value} (ks : List ByteArray) {m : Nat} (hB : Blk W g 9 cs) (hc : cs = (ks.map Value.string).toArray) (hm : ks.length = m) (hs : ∀ s ∈ ks, s.size ≤ maxLen) (hl : m ≤ maxLen) : RdK W (.slice (some ⟨g, 0, none⟩) m m) :=
  ⟨ks, _, m, m, rfl, hm, Nat.le_refl _, hl, hs, fun _ => ⟨g, 0, rfl, hB.lt, fun j s h => by rw [Nat.zero_add, Blk.cell hB, hc]; simp [h]⟩⟩
/-- The six cells of one node of such a list. -/
theorem RdN.six {W : World} {v : Value} {m : Nat} (h : RdN W v m) {j : Nat} (hj : j < m) : ∃ b off c k n u s A1 m1 c1 A2 m2 c2, v = .slice (some ⟨b, off, none⟩) m c ∧ m ≤ c ∧ c ≤ maxLen ∧ b < W.heap.size ∧ W.cell? ⟨b, off + j * 6, none⟩ = some (.int .i64 k) ∧ W.cell? ⟨b, off + j * 6 + 1, none⟩ = some (.int .i64 n) ∧ W.cell? ⟨b, off + j * 6 + 2, none⟩ = some (.int .u64 u) ∧ W.cell? ⟨b, off + j * 6 + 3, none⟩ = some (.string s) ∧
    W.cell? ⟨b, off + j * 6 + 4, none⟩ = some (.slice A1 m1 c1) ∧ W.cell? ⟨b, off + j * 6 + 5, none⟩ = some (.slice A2 m2 c2) ∧ NdE W [.int .i64 k, .int .i64 n, .int .u64 u, .string s, .slice A1 m1 c1, .slice A2 m2 c2] := by
  obtain ⟨l, A, c, rfl, h1, h2, h3, h4⟩ := h
  obtain ⟨b, off, rfl, hlt, hl⟩ := h4 (by omega)
  obtain ⟨t, ht⟩ : ∃ t, l[j]? = some t := ⟨_, List.getElem?_eq_getElem (by omega)⟩
  obtain ⟨v0, v1, v2, v3, v4, v5, d0, d1, d2, d3, d4, d5, hn⟩ := hl.six (Below.refl _ _) hlt ht
  obtain ⟨k0, i0, n0, s0, A1, m1, c1, A2, m2, c2, rfl, rfl, rfl, rfl, rfl, rfl⟩ := hn.shape6
  exact ⟨b, off, c, k0, i0, n0, s0, A1, m1, c1, A2, m2, c2, rfl, h2, h3, hlt, d0, d1, d2, d3, d4, d5, t, hn⟩
/-- The same, where the list's place is known. -/
theorem RdN.six_at {W : World} {g m c : Nat} (h : RdN W (.slice (some ⟨g, 0, none⟩) m c) m) {j : Nat} (hj : j < m) : ∃ k n u s A1 m1 c1 A2 m2 c2, W.cell? ⟨g, j * 6, none⟩ = some (.int .i64 k) ∧ W.cell? ⟨g, j * 6 + 1, none⟩ = some (.int .i64 n) ∧ W.cell? ⟨g, j * 6 + 2, none⟩ = some (.int .u64 u) ∧ W.cell? ⟨g, j * 6 + 3, none⟩ = some (.string s) ∧
    W.cell? ⟨g, j * 6 + 4, none⟩ = some (.slice A1 m1 c1) ∧ W.cell? ⟨g, j * 6 + 5, none⟩ = some (.slice A2 m2 c2) ∧ NdE W [.int .i64 k, .int .i64 n, .int .u64 u, .string s, .slice A1 m1 c1, .slice A2 m2 c2] := by
  obtain ⟨b, off, c', k, n, u, s, A1, m1, c1, A2, m2, c2, e, _, _, _, d0, d1, d2, d3, d4, d5, hn⟩ := h.six hj
  injection e with e1 e2 e3
  injection e1 with e1
  injection e1 with e4 e5 _
  subst e4 e5
  rw [Nat.zero_add] at d0 d1 d2 d3 d4 d5
  exact ⟨k, n, u, s, A1, m1, c1, A2, m2, c2, d0, d1, d2, d3, d4, d5, hn⟩
/-- The block of a list whose place is known lies in memory. -/
theorem RdN.lt {W : World} {g m c : Nat} (h : RdN W (.slice (some ⟨g, 0, none⟩) m c) m) (hm : 0 < m) : g < W.heap.size := by
  obtain ⟨b, off, c', k, n, u, s, A1, m1, c1, A2, m2, c2, e, _, _, hl, _⟩ := h.six hm
  injection e with e1 e2 e3
  injection e1 with e1
  injection e1 with e4 e5 _
  subst e4
  exact hl
/-- What a law's read of such a list's node gives, in every later world. -/
theorem RdN.held {W : World} {g m c : Nat} (h : RdN W (.slice (some ⟨g, 0, none⟩) m c) m) {j : Nat} (hj : j < m) : ∃ k n u s A1 m1 c1 A2 m2 c2, ∀ X, Below W.heap.size W X → (X.cell? ⟨g, j * 6, none⟩ = some (.int .i64 k) ∧ X.cell? ⟨g, j * 6 + 1, none⟩ = some (.int .i64 n) ∧ X.cell? ⟨g, j * 6 + 2, none⟩ = some (.int .u64 u) ∧ X.cell? ⟨g, j * 6 + 3, none⟩ = some (.string s) ∧
    X.cell? ⟨g, j * 6 + 4, none⟩ = some (.slice A1 m1 c1) ∧ X.cell? ⟨g, j * 6 + 5, none⟩ = some (.slice A2 m2 c2) ∧ NdE X [.int .i64 k, .int .i64 n, .int .u64 u, .string s, .slice A1 m1 c1, .slice A2 m2 c2]) := by
  have hl := h.lt (by omega)
  obtain ⟨k, n, u, s, A1, m1, c1, A2, m2, c2, d0, d1, d2, d3, d4, d5, hn⟩ := h.six_at hj
  exact ⟨k, n, u, s, A1, m1, c1, A2, m2, c2, fun X hb => ⟨(hb.cell (p := ⟨g, _, none⟩) hl).trans d0, (hb.cell (p := ⟨g, _, none⟩) hl).trans d1, (hb.cell (p := ⟨g, _, none⟩) hl).trans d2, (hb.cell (p := ⟨g, _, none⟩) hl).trans d3, (hb.cell (p := ⟨g, _, none⟩) hl).trans d4, (hb.cell (p := ⟨g, _, none⟩) hl).trans d5, hn.below hb⟩⟩
theorem nde_zero (W : World) : NdE W [.int .i64 0, .int .i64 0, .int .u64 0, .string ⟨#[]⟩, .slice none 0 0, .slice none 0 0] := nde_leaf W ⟨by decide, by decide, by decide, by decide, by decide, by decide⟩ (by decide)
/-- A vector of two nodes that a call was handed. -/
theorem two_vec {x2 x3 : World} {a0 a1 a2 a3 a4 a5 b0 b1 b2 b3 b4 b5 : Value} (ha : NdE x2 [a0, a1, a2, a3, a4, a5]) (hb : NdE x2 [b0, b1, b2, b3, b4, b5]) (h : Below (x2.alloc (.cells #[a0, a1, a2, a3, a4, a5, b0, b1, b2, b3, b4, b5] 27)).heap.size (x2.alloc (.cells #[a0, a1, a2, a3, a4, a5, b0, b1, b2, b3, b4, b5] 27)) x3) :
    NdE x3 [.int .i64 10, .int .i64 0, .int .u64 0, .string ⟨#[]⟩, .slice none 0 0, .slice (some ⟨x2.heap.size, 0, none⟩) 2 2] ∧ Below x2.heap.size x2 x3 := by
  have ha0 : Below x2.heap.size x2 (x2.alloc (.cells #[a0, a1, a2, a3, a4, a5, b0, b1, b2, b3, b4, b5] 27)) := (Below.refl _ _).alloc (Nat.le_refl _) _
  refine ⟨nde_mk ⟨by decide, by decide, by decide, by decide, by decide, by decide⟩ (by decide) (rdk_nil _) ((rdn_lit (m := 2) [[a0, a1, a2, a3, a4, a5], [b0, b1, b2, b3, b4, b5]] (Blk.new x2 _ _) rfl rfl ?_ (by decide)).below h), ha0.trans (h.mono ha0.size)⟩
  intro x hx
  simp only [List.mem_cons, List.not_mem_nil, or_false] at hx
  rcases hx with rfl | rfl
  · exact ha.below ha0
  · exact hb.below ha0
/-- A row of the call's own, of nodes that are known one by one. -/
theorem rdn_own {W : World} {base n : Nat} {v : Value} {xs : List Value} (L : List (List Value)) (h : W.ownsRow base 27 6 v n xs) (hx : xs = L.flatten) (hl : L.length = n) (hL : ∀ x ∈ L, NdE W x) : RdN W v n := by
  obtain ⟨A, c, rfl, h1, h2, h3⟩ := (Ow.of h).cells
  rcases Nat.eq_zero_or_pos n with h0 | h0
  · subst h0
    exact ⟨[], A, c, rfl, rfl, h1, h2, fun h => absurd h (by omega)⟩
  · obtain ⟨g, rfl, hg, -, hc⟩ := h3 h0
    have h6 : ∀ L : List (List Value), (∀ x ∈ L, NdE W x) → L.flatten.length = L.length * 6 := by
      intro L
      induction L with
      | nil => intro _; rfl
      | cons x L ih =>
        intro hL
        obtain ⟨t, ht⟩ := hL x (by simp)
        have h6 : x.length = 6 := by
          rcases t with ⟨kk, nn, uu, s, ks, l'⟩
          obtain ⟨_, _, kv, A, m, c, rfl, _⟩ := ht
          rfl
        rw [List.flatten_cons, List.length_append, h6, ih fun y hy => hL y (by simp [hy])]
        simp
        omega
    have hlen := h6 L hL
    obtain ⟨l, h4, h5⟩ := ndl_any (W := W) (g := g) L 0 (fun i u hi => by
      have hi2 : i < L.flatten.length := (List.getElem?_eq_some_iff.1 hi).1
      rw [Nat.zero_add, hc i (by omega), hx]; exact hi) hL
    exact ⟨l, _, c, rfl, by omega, h1, h2, fun _ => ⟨g, 0, rfl, hg, h5⟩⟩
theorem infoL : (Tryd.prog.info? 27).map (fun i => (i.zero, i.size, i.bytes)) = some (some (.agg #[.int .i64 0, .int .i64 0, .int .u64 0, .string ⟨#[]⟩, .slice none 0 0, .slice none 0 0]), 6, 88) := by kernel_rfl
/-- append of one node that has just been laid down onto a row of the call's own. -/
theorem wpList_kid {ops : Array Oper} {rest : List Oper} {o : Oper} {a : Act} {Q : Exit → Act → World → Prop} {W : World} {base n g : Nat} {v : Value} {xs : List Value} {c0 c1 c2 c3 c4 c5 : Value}
    (hw : Region.wanted o (yielded ops a.tmps) = true) (s x : Operand) (ho : o.op = .call { callee := .builtin .append, args := #[s, x], argTypes := #[25, 25] })
    (hs : a.eval s = v) (hx : a.eval x = .slice (some ⟨g, 0, none⟩) 1 1) (hown : W.ownsRow base 27 6 v n xs) (hB : Blk W g 27 #[c0, c1, c2, c3, c4, c5]) (hone : ∀ u ∈ [c0, c1, c2, c3, c4, c5], u.oneCell' = true) (hb : n + 1 ≤ 65536) (hbase : base ≤ W.heap.size)
    (h : ∀ v' w', w'.ownsRow base 27 6 v' (n + 1) (xs ++ [c0, c1, c2, c3, c4, c5]) → W.grownBy w' v.ownBlock → wpList Tryd.prog ops Q rest (a.put o.dst v') w') : wpList Tryd.prog ops Q (o :: rest) a W := by
  obtain ⟨i, hi, hz0, hz1, hz2⟩ := info_parts infoL
  obtain ⟨v', w', hrun, h2, h3, _⟩ := run_append_own (P := Tryd.prog) (w := W) base 25 o.type 27 i _ 6 88 Tryd.underlying25 hi hz0 hz1 hz2 rfl (by decide) v n xs hown ⟨g, 0, none⟩ 1 1 [c0, c1, c2, c3, c4, c5] rfl
    (fun j u hj => by
      have e : (⟨g, 0, none⟩ : Addr).add j = ⟨g, j, none⟩ := by unfold Addr.add; by_cases h : j = 0 <;> simp [h]
      rw [e, Blk.cell hB]; simpa using hj) hone (by unfold maxLen; omega) (by omega) hbase
  refine wpList_step fun K hK => ?_
  rw [if_pos hw]
  unfold Oper.wp execOp
  simp only [ho, resolve, invoke, builtin, Sem.run_bind, Sem.run_pure, Result.andThen_ok, List.map_toArray, List.map_cons, List.map_nil, hs, hx, hrun]
  exact hK _ _ (h v' w' h2 h3)
end Go.Proofs.YtemkfpofmblblaaDoor
namespace Go.Proofs.YtemkfpofmblblaaDoor
open Go

section
variable {P : Program} {ops : Array Oper} {Q : Exit → Act → World → Prop} {md : Region.Mode}

/-- How many operations have not come up yet. -/
def unl (n : Nat) (listed : Array Bool) : Nat := ((List.range n).filter fun i => !listed.getD i true).length
/-- Operations wait for earlier ones alone. -/
def waitsB (md : Region.Mode) (ops : Array Oper) : Bool := (List.range ops.size).all fun i => match ops[i]? with | some o => o.after.all (fun e => !Region.binds md e || decide (e.on < i)) | none => true
theorem waitsB_spec (h : waitsB md ops = true) {i : Nat} {o : Oper} (hi : ops[i]? = some o) : ∀ e ∈ o.after, Region.binds md e = true → e.on < i := by
  intro e he hb
  have hlt : i < ops.size := (Array.getElem?_eq_some_iff.1 hi).1
  have h1 := List.all_eq_true.1 h i (List.mem_range.2 hlt)
  rw [hi] at h1
  have h2 := Array.all_eq_true'.1 h1 e he
  simpa [hb] using h2
theorem getD_flip {listed : Array Bool} {i : Nat} (hi : i < listed.size) : listed.getD i true = listed.getD i false := by
  simp [Array.getD, hi]
theorem all_listed (hw : waitsB md ops = true) {listed : Array Bool} (hsz : listed.size = ops.size) (hr : Region.ready md ops listed = []) : ∀ i, i < ops.size → listed.getD i false = true := by
  intro i
  induction i using Nat.strongRecOn with
  | _ i ih =>
    intro hi
    cases hl : listed.getD i false with
    | true => rfl
    | false =>
      obtain ⟨o, ho⟩ : ∃ o, ops[i]? = some o := ⟨_, Array.getElem?_eq_getElem hi⟩
      have hm : i ∈ Region.ready md ops listed := by
        unfold Region.ready
        rw [List.mem_filter]
        refine ⟨List.mem_range.2 hi, ?_⟩
        rw [getD_flip (by omega), hl, ho]
        simp only [Bool.not_false, Bool.true_and, Option.map_some, Option.getD_some]
        rw [Array.all_eq_true']
        intro e he
        cases hb : Region.binds md e with
        | false => rfl
        | true =>
          have hlt := waitsB_spec hw ho e he hb
          rw [ih e.on hlt (by omega)]
          rfl
      rw [hr] at hm
      cases hm
theorem unl_set {n i : Nat} {listed : Array Bool} (hi : i < n) (hs : i < listed.size) (hl : listed.getD i true = false) : unl n (listed.setIfInBounds i true) + 1 ≤ unl n listed := by
  unfold unl
  have e : ((List.range n).filter fun j => !(listed.setIfInBounds i true).getD j true) = ((List.range n).filter fun j => !listed.getD j true).filter fun j => j != i := by
    rw [List.filter_filter]
    congr 1
    funext j
    by_cases hj : j = i
    · subst hj; simp [hs]
    · rw [getD_set_ne true (Ne.symm hj)]; simp [hj]
  rw [e]
  have hmem : i ∈ ((List.range n).filter fun j => !listed.getD j true) := by
    rw [List.mem_filter]; exact ⟨List.mem_range.2 hi, by simp [hl]⟩
  have : ∀ (l : List Nat), i ∈ l → (l.filter fun j => j != i).length + 1 ≤ l.length := by
    intro l
    induction l with
    | nil => intro h; cases h
    | cons a l ih =>
      intro h
      by_cases ha : a = i
      · subst ha
        rw [List.filter_cons]
        simp only [bne_self_eq_false, Bool.false_eq_true, if_false, List.length_cons]
        exact Nat.succ_le_succ (List.length_filter_le _ _)
      · have h2 := ih ((List.mem_cons.1 h).resolve_left (fun e => ha e.symm))
        rw [List.filter_cons]
        simp only [bne_iff_ne, ne_eq, ha, not_false_eq_true, if_true, List.length_cons]
        omega
  exact this _ hmem

/-- What holds of the operations that have come up is kept by each step: then the region ends with all of it. -/
theorem wpAny_inv (hw : waitsB md ops = true) (I : Array Bool → Act → World → Prop)
    (hs : ∀ (listed : Array Bool) (a : Act) (w : World) (i : Nat) (o : Oper), I listed a w → listed.size = ops.size → ops[i]? = some o → listed.getD i true = false → (∀ e ∈ o.after, Region.binds md e = true → listed.getD e.on false = true) → wpOp P ops Q i (I (listed.setIfInBounds i true)) a w)
    (he : ∀ (listed : Array Bool) (a : Act) (w : World), I listed a w → (∀ i, i < ops.size → listed.getD i false = true) → Q .normal a w) :
    ∀ (fuel : Nat) (listed : Array Bool) (a : Act) (w : World), listed.size = ops.size → unl ops.size listed ≤ fuel → I listed a w → wpAny P md ops Q fuel listed a w := by
  intro fuel
  induction fuel with
  | zero =>
    intro listed a w hsz hu hI
    have hr : Region.ready md ops listed = [] := by
      rcases hrr : Region.ready md ops listed with _ | ⟨i, l⟩
      · rfl
      · have hm : i ∈ Region.ready md ops listed := by rw [hrr]; simp
        obtain ⟨hun, o, ho, _⟩ := mem_ready.1 hm
        have := unl_set (n := ops.size) (Array.getElem?_eq_some_iff.1 ho).1 (by rw [hsz]; exact (Array.getElem?_eq_some_iff.1 ho).1) hun
        omega
    exact ⟨hr, he listed a w hI (all_listed hw hsz hr)⟩
  | succ fuel ih =>
    intro listed a w hsz hu hI
    refine ⟨fun hr => he listed a w hI (all_listed hw hsz hr), fun i hi => ?_⟩
    obtain ⟨hun, o, ho, hall⟩ := mem_ready.1 hi
    have hlt := (Array.getElem?_eq_some_iff.1 ho).1
    refine wpOp_mono (fun a' w' h => ?_) (hs listed a w i o hI hsz ho hun hall)
    have := unl_set (n := ops.size) hlt (by omega) hun
    exact ih _ a' w' (by simp [hsz]) (by omega) h
end

/-- The operations' temporaries: the i-th one's is the i-th of ds. -/
def dstsB (ops : Array Oper) (ds : List Tmp) : Bool := ops.size == ds.length && (List.range ops.size).all fun i => match ops[i]? with | some o => o.dst == ds[i]? | none => true
theorem dstsB_spec {ops : Array Oper} {ds : List Tmp} (h : dstsB ops ds = true) : ops.size = ds.length ∧ ∀ (i : Nat) (o : Oper), ops[i]? = some o → o.dst = ds[i]? := by
  unfold dstsB at h
  rw [Bool.and_eq_true] at h
  refine ⟨by simpa using h.1, fun i o hi => ?_⟩
  have h1 := List.all_eq_true.1 h.2 i (List.mem_range.2 (Array.getElem?_eq_some_iff.1 hi).1)
  rw [hi] at h1
  simpa using h1
/-- A frame that differs in the operations' temporaries alone. -/
def Fr (a : Act) (ds : List Tmp) (b : Act) : Prop := b.defers = a.defers ∧ b.tmps.size = a.tmps.size ∧ ∀ t, t ∉ ds → b.tmps.getD t undef = a.tmps.getD t undef
/-- The value of the j-th operation. -/
def valOf (ds : List Tmp) (b : Act) (j : Nat) : Value := b.tmps.getD (ds.getD j 0) undef
theorem Fr.put {a b : Act} {ds : List Tmp} {t : Tmp} {v : Value} (h : Fr a ds b) (ht : t ∈ ds) : Fr a ds (b.put (some t) v) := by
  refine ⟨h.1, by simpa [Act.put] using h.2.1, fun s hs => ?_⟩
  rw [← h.2.2 s hs]
  have hne : t ≠ s := fun e => hs (e ▸ ht)
  simp [Act.put, Array.getElem?_setIfInBounds_ne hne]
theorem getD_put_same {b : Act} {t : Tmp} {v : Value} (ht : t < b.tmps.size) : (b.put (some t) v).tmps.getD t undef = v := by simp [Act.put, ht]
theorem getD_put_ne {b : Act} {t s : Tmp} {v : Value} (h : t ≠ s) : (b.put (some t) v).tmps.getD s undef = b.tmps.getD s undef := by simp [Act.put, Array.getElem?_setIfInBounds_ne h]

/-- A drawn region, by what holds of each operation's value (R) and of the world (S). -/
theorem wp_region_vals {P : Program} {ops : Array Oper} {Q : Exit → Act → World → Prop} {id : Nat} {a : Act} {w : World} (ds : List Tmp) (S : World → Prop) (R : Nat → Value → World → Prop)
    (hm : P.follows .mixedOrders = true) (hw : waitsB .any ops = true) (hds : dstsB ops ds = true) (hnd : ds.Nodup) (hlt : ∀ t ∈ ds, t < a.tmps.size) (hS : S { w with drawn := w.drawn + 1 })
    (hs : ∀ (i : Nat) (o : Oper), ops[i]? = some o → ∀ (b : Act) (w : World), Fr a ds b → S w → (∀ e ∈ o.after, Region.binds .any e = true → R e.on (valOf ds b e.on) w) →
      ∀ K : Act → World → Prop, (∀ v w', S w' → R i v w' → (∀ j u, R j u w → R j u w') → K (b.put o.dst v) w') → wpOp P ops Q i K b w)
    (he : ∀ (b : Act) (w : World), Fr a ds b → S w → (∀ j, j < ds.length → R j (valOf ds b j) w) → Q .normal b w) :
    (Code.region id ops true).wp P Q a w := by
  obtain ⟨hlen, hdst⟩ := dstsB_spec hds
  refine wp_region_any hm ?_
  refine wpAny_inv hw (fun listed b w => Fr a ds b ∧ S w ∧ ∀ j, j < ops.size → listed.getD j false = true → R j (valOf ds b j) w) ?_ ?_ ops.size _ a _ (by simp) ?_ ⟨⟨rfl, rfl, fun _ _ => rfl⟩, hS, fun j hj h => ?_⟩
  · rintro listed b w i o ⟨hF, hSw, hR⟩ hsz hi hun hdep
    have hlti := (Array.getElem?_eq_some_iff.1 hi).1
    have ho := hdst i o hi
    obtain ⟨t, ht⟩ : ∃ t, ds[i]? = some t := ⟨_, List.getElem?_eq_getElem (by omega)⟩
    have htm : t ∈ ds := List.mem_of_getElem? ht
    have htl : t < b.tmps.size := by rw [hF.2.1]; exact hlt t htm
    refine hs i o hi b w hF hSw (fun e he hb => hR e.on ?_ (hdep e he hb)) _ ?_
    · have := waitsB_spec hw hi e he hb; omega
    · intro v w' hS' hRi hst
      rw [ho, ht]
      refine ⟨hF.put htm, hS', fun j hj hl => ?_⟩
      unfold valOf
      by_cases hji : j = i
      · subst hji
        rw [List.getD_eq_getElem?_getD, ht]
        show R j ((b.put (some t) v).tmps.getD t undef) w'
        rw [getD_put_same htl]
        exact hRi
      · have hne : t ≠ ds.getD j 0 := by
          intro e
          obtain ⟨s, hs2⟩ : ∃ s, ds[j]? = some s := ⟨_, List.getElem?_eq_getElem (by omega)⟩
          rw [List.getD_eq_getElem?_getD, hs2] at e
          simp only [Option.getD_some] at e
          subst e
          exact hji ((List.getElem?_inj (i := j) (j := i) (by omega) hnd).1 (hs2.trans ht.symm))
        rw [getD_put_ne hne]
        refine hst _ _ (hR j hj ?_)
        rw [← hl, getD_set_ne false (Ne.symm hji)]
  · rintro listed b w ⟨hF, hSw, hR⟩ hall
    exact he b w hF hSw fun j hj => hR j (by omega) (hall j (by omega))
  · unfold unl
    exact Nat.le_trans (List.length_filter_le _ _) (by simp)
  · simp [Array.getD] at h
/-- The temporaries set one by one. -/
def putAll (t : Array Value) : List Tmp → (Nat → Value) → Nat → Array Value
  | [], _, _ => t
  | d :: ds, f, j => putAll (t.setIfInBounds d (f j)) ds f (j + 1)
theorem putAll_size : ∀ (ds : List Tmp) (t : Array Value) (f : Nat → Value) (j : Nat), (putAll t ds f j).size = t.size
  | [], _, _, _ => rfl
  | d :: ds, t, f, j => by rw [putAll, putAll_size]; simp
theorem putAll_out : ∀ (ds : List Tmp) (t : Array Value) (f : Nat → Value) (j s : Nat), s ∉ ds → (putAll t ds f j).getD s undef = t.getD s undef
  | [], _, _, _, _, _ => rfl
  | d :: ds, t, f, j, s, h => by
    have h1 : d ≠ s := fun e => h (by simp [e])
    rw [putAll, putAll_out ds _ f (j + 1) s (fun hh => h (by simp [hh]))]
    simp [Array.getElem?_setIfInBounds_ne h1]
theorem putAll_in : ∀ (ds : List Tmp) (t : Array Value) (f : Nat → Value) (j k s : Nat), ds.Nodup → ds[k]? = some s → s < t.size → (putAll t ds f j).getD s undef = f (j + k)
  | d :: ds, t, f, j, 0, s, hn, h, hl => by
    obtain rfl : d = s := by simpa using h
    rw [putAll, putAll_out ds _ f (j + 1) d (List.nodup_cons.1 hn).1]
    simp [hl]
  | d :: ds, t, f, j, k + 1, s, hn, h, hl => by
    rw [putAll, putAll_in ds _ f (j + 1) k s (List.nodup_cons.1 hn).2 (by simpa using h) (by simpa using hl), show j + 1 + k = j + (k + 1) by omega]
/-- The frame at the region's end, written out. -/
theorem Fr.lit {a b : Act} {ds : List Tmp} (h : Fr a ds b) (hnd : ds.Nodup) (hlt : ∀ t ∈ ds, t < a.tmps.size) : b = { tmps := putAll a.tmps ds (valOf ds b) 0, defers := a.defers } := by
  obtain ⟨h1, h2, h3⟩ := h
  cases b with
  | mk tmps defers =>
    simp only at h1 h2 h3
    subst h1
    congr 1
    apply Array.ext
    · rw [putAll_size, h2]
    · intro s hs1 hs2
      have e1 : tmps[s] = tmps.getD s undef := by simp [Array.getD, hs1]
      have e2 : (putAll a.tmps ds (valOf ds { tmps := tmps, defers := a.defers }) 0)[s] = (putAll a.tmps ds (valOf ds { tmps := tmps, defers := a.defers }) 0).getD s undef := by simp [Array.getD, hs2]
      rw [e1, e2]
      by_cases hm : s ∈ ds
      · obtain ⟨k, hk⟩ := List.getElem?_of_mem hm
        rw [putAll_in ds _ _ 0 k s hnd hk (hlt s hm), Nat.zero_add]
        unfold valOf
        rw [List.getD_eq_getElem?_getD, hk]
        rfl
      · rw [putAll_out ds _ _ 0 s hm, h3 s hm]
/-- Each operation of a list, with its number. -/
def AllOps (F : Nat → Oper → Prop) : Nat → List Oper → Prop
  | _, [] => True
  | i, o :: os => F i o ∧ AllOps F (i + 1) os
theorem AllOps.at {F : Nat → Oper → Prop} : ∀ (l : List Oper) (k : Nat), AllOps F k l → ∀ (i : Nat) (o : Oper), l[i]? = some o → F (k + i) o
  | [], _, _, i, o, h => by simp at h
  | o0 :: l, k, h, 0, o, ho => by
    obtain rfl : o0 = o := by simpa using ho
    exact h.1
  | o0 :: l, k, h, i + 1, o, ho => by
    have := AllOps.at l (k + 1) h.2 i o (by simpa using ho)
    rw [show k + (i + 1) = k + 1 + i by omega]
    exact this
theorem all_ops {F : Nat → Oper → Prop} {ops : Array Oper} (h : AllOps F 0 ops.toList) {i : Nat} {o : Oper} (hi : ops[i]? = some o) : F i o := by
  have := AllOps.at ops.toList 0 h i o (by simpa using hi)
  rwa [Nat.zero_add] at this
/-- What an operation owes, its condition paid. -/
theorem wpOp_of {P : Program} {ops : Array Oper} {Q : Exit → Act → World → Prop} {i : Nat} {o : Oper} {K : Act → World → Prop} {a : Act} {w : World} (hi : ops[i]? = some o) (hw : Region.wanted o (yielded ops a.tmps) = true) (h : o.wp P a w K Q) : wpOp P ops Q i K a w := by
  unfold Go.wpOp
  simp only [hi, hw, if_true]
  exact .inl h
end Go.Proofs.YtemkfpofmblblaaDoor
namespace Go.Proofs.YtemkfpofmblblaaDoor
open Go Go.RowKit

section
variable {ops : Array Oper} {Q : Exit → Act → World → Prop} {i : Nat} {o : Oper} {K : Act → World → Prop} {b : Act} {w : World}
theorem stp_zero (hi : ops[i]? = some o) (hg : o.guard = none) (ho : o.op = .build 27 #[]) (h : K (b.put o.dst (.agg #[.int .i64 0, .int .i64 0, .int .u64 0, .string ⟨#[]⟩, .slice none 0 0, .slice none 0 0])) w) : wpOp Tryd.prog ops Q i K b w := by
  refine wpOp_of hi (by simp [Region.wanted, hg]) ?_
  unfold Oper.wp execOp
  simp only [ho]
  go_simp
  exact h
theorem stp_move (hi : ops[i]? = some o) (hg : o.guard = none) {x : Operand} (ho : o.op = .assign x) (h : K (b.put o.dst (b.eval x)) w) : wpOp Tryd.prog ops Q i K b w := by
  refine wpOp_of hi (by simp [Region.wanted, hg]) ?_
  unfold Oper.wp execOp
  simp only [ho]
  exact h
theorem stp_call {f : FuncId} (he : ∀ args w, (callFunc f args).run Tryd.prog w = .ok (.enter f args) w) (hi : ops[i]? = some o) (hg : o.guard = none) {xs : Array Operand} {ts : Array TypeId} (ho : o.op = .call { callee := .value (.func f), args := xs, argTypes := ts }) {args : Array Value} (ha : xs.map b.eval = args) {R : Ending → World → Prop} (hc : Calls Tryd.prog f args w R)
    (h : ∀ e w', R e w' → ∃ v, e = .returned v ∧ K (b.put o.dst v) w') : wpOp Tryd.prog ops Q i K b w := by
  refine wpOp_of hi (by simp [Region.wanted, hg]) ?_
  unfold Oper.wp execOp
  simp only [ho, resolve, Act.eval, invoke, Sem.run_bind]
  rw [ha]
  simp [Deferred.ofValue, go_sem, he]
  refine Calls.mono hc ?_
  intro e w' hR
  obtain ⟨v, rfl, hK⟩ := h e w' hR
  exact hK
theorem stp_callg {f : FuncId} (he : ∀ args w, (callFunc f args).run Tryd.prog w = .ok (.enter f args) w) (hi : ops[i]? = some o) (hw : Region.wanted o (yielded ops b.tmps) = true) {xs : Array Operand} {ts : Array TypeId} (ho : o.op = .call { callee := .value (.func f), args := xs, argTypes := ts }) {args : Array Value} (ha : xs.map b.eval = args) {R : Ending → World → Prop} (hc : Calls Tryd.prog f args w R)
    (h : ∀ e w', R e w' → ∃ v, e = .returned v ∧ K (b.put o.dst v) w') : wpOp Tryd.prog ops Q i K b w := by
  refine wpOp_of hi hw ?_
  unfold Oper.wp execOp
  simp only [ho, resolve, Act.eval, invoke, Sem.run_bind]
  rw [ha]
  simp [Deferred.ofValue, go_sem, he]
  refine Calls.mono hc ?_
  intro e w' hR
  obtain ⟨v, rfl, hK⟩ := h e w' hR
  exact hK
theorem stp_load (hi : ops[i]? = some o) (hg : o.guard = none) {t : Tmp} (ho : o.op = .load 27 (.tmp t)) {g : Nat} {x0 x1 x2 x3 x4 x5 : Value} (hx : b.tmps[t]?.getD undef = .pointer (some ⟨g, 0, none⟩)) (hB : Bx w g x0 x1 x2 x3 x4 x5)
    (h : K (b.put o.dst (.agg #[x0, x1, x2, x3, x4, x5])) w) : wpOp Tryd.prog ops Q i K b w := by
  obtain ⟨c0, c1, c2, c3, c4, c5⟩ := hB.all
  refine wpOp_of hi (by simp [Region.wanted, hg]) ?_
  unfold Oper.wp execOp
  simp only [ho]
  go_simp
  exact h
theorem stp_two (hi : ops[i]? = some o) (hg : o.guard = none) {tx ty : Tmp} (ho : o.op = .buildSlice 25 2 #[(0, .tmp tx), (1, .tmp ty)]) {x0 x1 x2 x3 x4 x5 y0 y1 y2 y3 y4 y5 : Value} (hx : b.tmps[tx]?.getD undef = .agg #[x0, x1, x2, x3, x4, x5]) (hy : b.tmps[ty]?.getD undef = .agg #[y0, y1, y2, y3, y4, y5])
    (h : K (b.put o.dst (.slice (some ⟨w.heap.size, 0, none⟩) 2 2)) (w.alloc (.cells (x0 :: x1 :: x2 :: x3 :: x4 :: x5 :: y0 :: y1 :: y2 :: y3 :: y4 :: y5 :: []).toArray 27))) : wpOp Tryd.prog ops Q i K b w := by
  refine wpOp_of hi (by simp [Region.wanted, hg]) ?_
  unfold Oper.wp execOp
  simp only [ho]
  go_simp
  exact h
theorem stp_three (hi : ops[i]? = some o) (hg : o.guard = none) {tx ty tz : Tmp} (ho : o.op = .buildSlice 25 3 #[(0, .tmp tx), (1, .tmp ty), (2, .tmp tz)]) {x0 x1 x2 x3 x4 x5 y0 y1 y2 y3 y4 y5 z0 z1 z2 z3 z4 z5 : Value} (hx : b.tmps[tx]?.getD undef = .agg #[x0, x1, x2, x3, x4, x5]) (hy : b.tmps[ty]?.getD undef = .agg #[y0, y1, y2, y3, y4, y5]) (hz : b.tmps[tz]?.getD undef = .agg #[z0, z1, z2, z3, z4, z5])
    (h : K (b.put o.dst (.slice (some ⟨w.heap.size, 0, none⟩) 3 3)) (w.alloc (.cells (x0 :: x1 :: x2 :: x3 :: x4 :: x5 :: y0 :: y1 :: y2 :: y3 :: y4 :: y5 :: z0 :: z1 :: z2 :: z3 :: z4 :: z5 :: []).toArray 27))) : wpOp Tryd.prog ops Q i K b w := by
  refine wpOp_of hi (by simp [Region.wanted, hg]) ?_
  unfold Oper.wp execOp
  simp only [ho]
  go_simp
  exact h
theorem stp_seven (hi : ops[i]? = some o) (hg : o.guard = none) {tx ty tz ts tt tu tv : Tmp} (ho : o.op = .buildSlice 25 7 #[(0, .tmp tx), (1, .tmp ty), (2, .tmp tz), (3, .tmp ts), (4, .tmp tt), (5, .tmp tu), (6, .tmp tv)]) {x0 x1 x2 x3 x4 x5 y0 y1 y2 y3 y4 y5 z0 z1 z2 z3 z4 z5 s0 s1 s2 s3 s4 s5 t0 t1 t2 t3 t4 t5 u0 u1 u2 u3 u4 u5 v0 v1 v2 v3 v4 v5 : Value} (hx : b.tmps[tx]?.getD undef = .agg #[x0, x1, x2, x3, x4, x5]) (hy : b.tmps[ty]?.getD undef = .agg #[y0, y1, y2, y3, y4, y5]) (hz : b.tmps[tz]?.getD undef = .agg #[z0, z1, z2, z3, z4, z5]) (hs : b.tmps[ts]?.getD undef = .agg #[s0, s1, s2, s3, s4, s5]) (ht : b.tmps[tt]?.getD undef = .agg #[t0, t1, t2, t3, t4, t5]) (hu : b.tmps[tu]?.getD undef = .agg #[u0, u1, u2, u3, u4, u5]) (hv : b.tmps[tv]?.getD undef = .agg #[v0, v1, v2, v3, v4, v5])
    (h : K (b.put o.dst (.slice (some ⟨w.heap.size, 0, none⟩) 7 7)) (w.alloc (.cells (x0 :: x1 :: x2 :: x3 :: x4 :: x5 :: y0 :: y1 :: y2 :: y3 :: y4 :: y5 :: z0 :: z1 :: z2 :: z3 :: z4 :: z5 :: s0 :: s1 :: s2 :: s3 :: s4 :: s5 :: t0 :: t1 :: t2 :: t3 :: t4 :: t5 :: u0 :: u1 :: u2 :: u3 :: u4 :: u5 :: v0 :: v1 :: v2 :: v3 :: v4 :: v5 :: []).toArray 27))) : wpOp Tryd.prog ops Q i K b w := by
  refine wpOp_of hi (by simp [Region.wanted, hg]) ?_
  unfold Oper.wp execOp
  simp only [ho]
  go_simp
  exact h
theorem stp_keys2 (hi : ops[i]? = some o) (hg : o.guard = none) {x y : ByteArray} (ho : o.op = .buildSlice 24 2 #[(0, .const (.string x)), (1, .const (.string y))])
    (h : K (b.put o.dst (.slice (some ⟨w.heap.size, 0, none⟩) 2 2)) (w.alloc (.cells #[.string x, .string y] 9))) : wpOp Tryd.prog ops Q i K b w := by
  refine wpOp_of hi (by simp [Region.wanted, hg]) ?_
  unfold Oper.wp execOp
  simp only [ho]
  go_simp
  exact h
theorem stp_keys3 (hi : ops[i]? = some o) (hg : o.guard = none) {x y z : ByteArray} (ho : o.op = .buildSlice 24 3 #[(0, .const (.string x)), (1, .const (.string y)), (2, .const (.string z))])
    (h : K (b.put o.dst (.slice (some ⟨w.heap.size, 0, none⟩) 3 3)) (w.alloc (.cells #[.string x, .string y, .string z] 9))) : wpOp Tryd.prog ops Q i K b w := by
  refine wpOp_of hi (by simp [Region.wanted, hg]) ?_
  unfold Oper.wp execOp
  simp only [ho]
  go_simp
  exact h
end
section
variable {ops : Array Oper} {Q : Exit → Act → World → Prop} {i : Nat} {o : Oper} {K : Act → World → Prop} {b : Act} {w : World}
theorem stq_move (hi : ops[i]? = some o) (hw : Region.wanted o (yielded ops b.tmps) = true) {t : Tmp} (ho : o.op = .move (.tmp t)) {v : Value} (hx : b.tmps[t]?.getD undef = v) (h : K (b.put o.dst v) w) : wpOp Tryd.prog ops Q i K b w := by
  refine wpOp_of hi hw ?_
  unfold Oper.wp execOp
  simp only [ho]
  go_simp
  exact h
theorem stq_node (hi : ops[i]? = some o) (hw : Region.wanted o (yielded ops b.tmps) = true) {t s : Tmp} (ho : o.op = .indexAddr 25 (.tmp t) (.tmp s)) {g m c j : Nat} (hx : b.tmps[t]?.getD undef = .slice (some ⟨g, 0, none⟩) m c) (hy : b.tmps[s]?.getD undef = .int .i64 (j : Int)) (hj : j < m) (h : K (b.put o.dst (.pointer (some ⟨g, j * 6, none⟩))) w) : wpOp Tryd.prog ops Q i K b w := by
  have h0 : (0 : Int) ≤ (j : Int) := by omega
  have h1 : (j : Int) < (m : Int) := by omega
  refine wpOp_of hi hw ?_
  unfold Oper.wp execOp
  simp only [ho]
  go_simp
  exact h
theorem stq_read (hi : ops[i]? = some o) (hw : Region.wanted o (yielded ops b.tmps) = true) {t : Tmp} (ho : o.op = .load 27 (.tmp t)) {g q : Nat} {x0 x1 x2 x3 x4 x5 : Value} (hx : b.tmps[t]?.getD undef = .pointer (some ⟨g, q, none⟩))
    (c0 : w.cell? ⟨g, q, none⟩ = some x0) (c1 : w.cell? ⟨g, q + 1, none⟩ = some x1) (c2 : w.cell? ⟨g, q + 2, none⟩ = some x2) (c3 : w.cell? ⟨g, q + 3, none⟩ = some x3) (c4 : w.cell? ⟨g, q + 4, none⟩ = some x4) (c5 : w.cell? ⟨g, q + 5, none⟩ = some x5)
    (h : K (b.put o.dst (.agg #[x0, x1, x2, x3, x4, x5])) w) : wpOp Tryd.prog ops Q i K b w := by
  refine wpOp_of hi hw ?_
  unfold Oper.wp execOp
  simp only [ho]
  go_simp
  exact h
theorem stq_not (hi : ops[i]? = some o) (hw : Region.wanted o (yielded ops b.tmps) = true) {ty : TypeId} {t : Tmp} (ho : o.op = .unOp .not ty (.tmp t)) {v : Bool} (hx : b.tmps[t]?.getD undef = .bool v) (h : K (b.put o.dst (.bool (!v))) w) : wpOp Tryd.prog ops Q i K b w := by
  refine wpOp_of hi hw ?_
  unfold Oper.wp execOp
  simp only [ho]
  go_simp
  exact h
theorem stq_half (hi : ops[i]? = some o) (hw : Region.wanted o (yielded ops b.tmps) = true) {t : Tmp} (ho : o.op = .binOp .quo 3 (.tmp t) (.const (.int .i64 2)) 3) {j k : Nat} (hx : b.tmps[t]?.getD undef = .int .i64 (j : Int)) (hk : j / 2 = k) (hj : j < 1000) (h : K (b.put o.dst (.int .i64 (k : Int))) w) : wpOp Tryd.prog ops Q i K b w := by
  have hq : ((j : Int)).tdiv 2 = (k : Int) := by rw [Int.tdiv_eq_ediv_of_nonneg (by omega)]; omega
  have hwk : IntKind.i64.wrap (k : Int) = (k : Int) := IntWalk.i64_in _ ⟨by omega, by omega⟩
  refine wpOp_of hi hw ?_
  unfold Oper.wp execOp
  simp only [ho]
  go_simp
  exact h
theorem stq_eqi (hi : ops[i]? = some o) (hw : Region.wanted o (yielded ops b.tmps) = true) {t s : Tmp} (ho : o.op = .binOp .eql 3 (.tmp t) (.tmp s) 3) {j k : Nat} {v : Bool} (hx : b.tmps[t]?.getD undef = .int .i64 (j : Int)) (hy : b.tmps[s]?.getD undef = .int .i64 (k : Int)) (hv : ((j : Int) == (k : Int)) = v) (h : K (b.put o.dst (.bool v)) w) : wpOp Tryd.prog ops Q i K b w := by
  refine wpOp_of hi hw ?_
  unfold Oper.wp execOp
  simp only [ho]
  go_simp
  exact h
theorem stq_pick (hi : ops[i]? = some o) (hw : Region.wanted o (yielded ops b.tmps) = true) {t s : Tmp} (ho : o.op = .pick (.tmp t) (.const (.bool true)) (.tmp s)) {v : Bool} {u r : Value} (hx : b.tmps[t]?.getD undef = .bool v) (hy : b.tmps[s]?.getD undef = u) (hr : (if v = true then .bool true else u) = r) (h : K (b.put o.dst r) w) : wpOp Tryd.prog ops Q i K b w := by
  refine wpOp_of hi hw ?_
  unfold Oper.wp execOp
  simp only [ho]
  subst hr
  go_simp
  exact h
theorem stq_neb (hi : ops[i]? = some o) (hw : Region.wanted o (yielded ops b.tmps) = true) {t s : Tmp} (ho : o.op = .binOp .neq 4 (.tmp t) (.tmp s) 4) {u v : Bool} (hx : b.tmps[t]?.getD undef = .bool u) (hy : b.tmps[s]?.getD undef = .bool v) (h : K (b.put o.dst (.bool (u != v))) w) : wpOp Tryd.prog ops Q i K b w := by
  refine wpOp_of hi hw ?_
  unfold Oper.wp execOp
  simp only [ho]
  go_simp
  exact h
theorem stq_u64 (hi : ops[i]? = some o) (hw : Region.wanted o (yielded ops b.tmps) = true) {t s : Tmp} (ho : o.op = .indexAddr 23 (.tmp t) (.tmp s)) {g m c j : Nat} (hx : b.tmps[t]?.getD undef = .slice (some ⟨g, 0, none⟩) m c) (hy : b.tmps[s]?.getD undef = .int .i64 (j : Int)) (hj : j < m) (h : K (b.put o.dst (.pointer (some ⟨g, j, none⟩))) w) : wpOp Tryd.prog ops Q i K b w := by
  have h0 : (0 : Int) ≤ (j : Int) := by omega
  have h1 : (j : Int) < (m : Int) := by omega
  refine wpOp_of hi hw ?_
  unfold Oper.wp execOp
  simp only [ho]
  go_simp
  exact h
theorem stq_read1 (hi : ops[i]? = some o) (hw : Region.wanted o (yielded ops b.tmps) = true) {t : Tmp} (ho : o.op = .load 22 (.tmp t)) {g q : Nat} {x0 : Value} (hx : b.tmps[t]?.getD undef = .pointer (some ⟨g, q, none⟩)) (c0 : w.cell? ⟨g, q, none⟩ = some x0) (h : K (b.put o.dst x0) w) : wpOp Tryd.prog ops Q i K b w := by
  refine wpOp_of hi hw ?_
  unfold Oper.wp execOp
  simp only [ho]
  go_simp
  exact h
theorem stq_ltu (hi : ops[i]? = some o) (hw : Region.wanted o (yielded ops b.tmps) = true) {t : Tmp} {n : Int} (ho : o.op = .binOp .lss 22 (.tmp t) (.const (.int .u64 n)) 22) {x : Int} {v : Bool} (hx : b.tmps[t]?.getD undef = .int .u64 x) (hv : decide (x < n) = v) (h : K (b.put o.dst (.bool v)) w) : wpOp Tryd.prog ops Q i K b w := by
  refine wpOp_of hi hw ?_
  unfold Oper.wp execOp
  simp only [ho]
  subst hv
  go_simp
  exact h
end
/-! What holds of an operation's value: it is a node, a row of m nodes, a row of m strings. -/
inductive Kd where
  | n
  | r (m : Nat)
  | k (m : Nat)
def IsN (v : Value) (w : World) : Prop := ∃ k n u s A m c B p q, v = .agg #[.int .i64 k, .int .i64 n, .int .u64 u, .string s, .slice A m c, .slice B p q] ∧ NdE w [.int .i64 k, .int .i64 n, .int .u64 u, .string s, .slice A m c, .slice B p q]
def IsR (m : Nat) (v : Value) (w : World) : Prop := ∃ g, v = .slice (some ⟨g, 0, none⟩) m m ∧ RdN w (.slice (some ⟨g, 0, none⟩) m m) m
def IsK (m : Nat) (v : Value) (w : World) : Prop := ∃ g, v = .slice (some ⟨g, 0, none⟩) m m ∧ RdK w (.slice (some ⟨g, 0, none⟩) m m)
def RK (ks : List Kd) (j : Nat) (v : Value) (w : World) : Prop :=
  match ks[j]? with
  | some .n => IsN v w
  | some (.r m) => IsR m v w
  | some (.k m) => IsK m v w
  | none => True
theorem rk_keep {ks : List Kd} {w w' : World} (hb : Below w.heap.size w w') {j : Nat} {v : Value} (h : RK ks j v w) : RK ks j v w' := by
  unfold RK at h ⊢
  split
  · rename_i e; rw [e] at h; obtain ⟨k, n, u, s, A, m, c, B, p, q, rfl, hn⟩ := h; exact ⟨k, n, u, s, A, m, c, B, p, q, rfl, hn.below hb⟩
  · rename_i e; rw [e] at h; obtain ⟨g, rfl, hn⟩ := h; exact ⟨g, rfl, hn.below hb⟩
  · rename_i e; rw [e] at h; obtain ⟨g, rfl, hn⟩ := h; exact ⟨g, rfl, hn.below hb⟩
  · trivial
theorem dep {o : Oper} {F : Nat → Prop} (h : ∀ e ∈ o.after, Region.binds .any e = true → F e.on) (k : Nat) (hk : (o.after.any fun e => decide (e.on = k) && Region.binds .any e) = true) : F k := by
  obtain ⟨e, he, hb⟩ := Array.any_eq_true'.1 hk
  rw [Bool.and_eq_true, decide_eq_true_eq] at hb
  rw [← hb.1]
  exact h e he hb.2
theorem val_at {ds : List Tmp} {b : Act} {j t : Nat} {v : Value} (ht : ds.getD j 0 = t) (h : valOf ds b j = v) : b.tmps[t]?.getD undef = v := by
  subst ht
  rw [← h, valOf]
  simp
theorem lt_all {ds : List Tmp} {n : Nat} (h : ds.all (fun t => decide (t < n)) = true) : ∀ t ∈ ds, t < n := fun t ht => by simpa using List.all_eq_true.1 h t ht
theorem Fr.at {a b : Act} {ds : List Tmp} (h : Fr a ds b) {t : Tmp} {v : Value} (ht : ds.contains t = false) (ha : a.tmps.getD t undef = v) : b.tmps[t]?.getD undef = v := by
  have := h.2.2 t (by simpa using ht)
  rw [ha] at this
  rw [← this]; simp
theorem each_op {ops : Array Oper} {G : Nat → Oper → Prop} (h : AllOps (fun i o => ops[i]? = some o → G i o) 0 ops.toList) : ∀ (i : Nat) (o : Oper), ops[i]? = some o → G i o := fun _ _ hi => all_ops h hi hi
/-! Regions whose values are known one by one. -/
def RV (vs : List Value) (j : Nat) (v : Value) (_ : World) : Prop := v = vs.getD j undef
theorem wanted_at {ops : Array Oper} {o : Oper} {b : Act} {g t : Nat} {bb c : Bool} (hg : o.guard = some (g, bb)) (ht : (ops[g]?).bind (·.dst) = some t) (hv : b.tmps[t]?.getD undef = .bool c) : Region.wanted o (yielded ops b.tmps) = (c == bb) := by
  have h1 : b.tmps[t]? = some (.bool c) := by
    cases hb : b.tmps[t]? with
    | none => rw [hb] at hv; exact absurd hv (by unfold undef; simp)
    | some v => rw [hb] at hv; simp at hv; rw [hv]
  unfold Region.wanted
  rw [hg]
  simp only [yielded, ht, Option.bind_some, h1]
  cases c <;> cases bb <;> rfl
theorem wpOp_skip {P : Program} {ops : Array Oper} {Q : Exit → Act → World → Prop} {i : Nat} {o : Oper} {K : Act → World → Prop} {a : Act} {w : World} (hi : ops[i]? = some o) (hw : Region.wanted o (yielded ops a.tmps) = false) (h : K (a.put o.dst undef) w) : wpOp P ops Q i K a w := by
  unfold Go.wpOp
  simp only [hi, hw]
  exact h
theorem isn_leaf (w : World) {k n u : Int} {s : ByteArray} (hr : Rng k n u) (hs : s.size ≤ maxLen) : IsN (.agg #[.int .i64 k, .int .i64 n, .int .u64 u, .string s, .slice none 0 0, .slice none 0 0]) w := ⟨_, _, _, _, _, _, _, _, _, _, rfl, nde_leaf w hr hs⟩
end Go.Proofs.YtemkfpofmblblaaDoor
namespace Go.Proofs.YtemkfpofmblblaaDoor
open Go.RowKit

/-- The law's four nodes of a number: kinds, signed and unsigned numbers. -/
def kdA (k : Nat) : Int := if k = 0 then 4 else if k = 1 then 9 else if k = 2 then 3 else 8
def nnA (y : Int) (k : Nat) : Int := if k < 2 then 0 else y
def uuA (x : Int) (k : Nat) : Int := if k < 2 then x else 0
def al9 (x : Int) (k n : Nat) : Bool := decide (k / 2 = n / 2) || decide (x < 9223372036854775808)
theorem uns_any (u : Int) (w : World) : Calls Tryd.prog 4 #[.int .u64 u] w fun e w' => e = .returned (.agg #[.int .i64 4, .int .i64 0, .int .u64 u, .string ⟨#[]⟩, .slice none 0 0, .slice none 0 0]) ∧ Below w.heap.size w w' := by
  go_enter Tryd.func4, Tryd.ntmps4
  go_wp2
  exact ret_six (p := 2) (g := w.heap.size) rfl rfl (Blk.new _ _ _) rfl ⟨rfl, (Below.refl _ w).alloc (Nat.le_refl _) _⟩
theorem list_any (k : Int) (A : Option Addr) (m c : Nat) (w : World) : Calls Tryd.prog 9 #[.int .i64 k, .slice A m c] w fun e w' => e = .returned (.agg #[.int .i64 k, .int .i64 0, .int .u64 0, .string ⟨#[]⟩, .slice none 0 0, .slice A m c]) ∧ Below w.heap.size w w' := by
  go_enter Tryd.func9, Tryd.ntmps9
  go_wp2
  exact ret_six (p := 4) (g := w.heap.size) rfl rfl (Blk.new _ _ _) rfl ⟨rfl, (Below.refl _ w).alloc (Nat.le_refl _) _⟩
theorem ends_at (w : World) : ∀ i, i < 8 → ∃ x : Int, 0 ≤ x ∧ x ≤ 18446744073709551615 ∧ ∀ X, Below (w.alloc (.cells #[.int .u64 0, .int .u64 1, .int .u64 127, .int .u64 128, .int .u64 2147483647, .int .u64 9223372036854775807, .int .u64 9223372036854775808, .int .u64 18446744073709551615] 22)).heap.size (w.alloc (.cells #[.int .u64 0, .int .u64 1, .int .u64 127, .int .u64 128, .int .u64 2147483647, .int .u64 9223372036854775807, .int .u64 9223372036854775808, .int .u64 18446744073709551615] 22)) X → X.cell? ⟨w.heap.size, i, none⟩ = some (.int .u64 x) := by
  intro i hi
  have hB := Blk.new w 22 #[.int .u64 0, .int .u64 1, .int .u64 127, .int .u64 128, .int .u64 2147483647, .int .u64 9223372036854775807, .int .u64 9223372036854775808, .int .u64 18446744073709551615]
  rcases (show i = 0 ∨ i = 1 ∨ i = 2 ∨ i = 3 ∨ i = 4 ∨ i = 5 ∨ i = 6 ∨ i = 7 by omega) with rfl | rfl | rfl | rfl | rfl | rfl | rfl | rfl
  · exact ⟨0, by decide, by decide, fun X hX => (Blk.cell (Blk.below hB hX (by simp)) 0).trans rfl⟩
  · exact ⟨1, by decide, by decide, fun X hX => (Blk.cell (Blk.below hB hX (by simp)) 1).trans rfl⟩
  · exact ⟨127, by decide, by decide, fun X hX => (Blk.cell (Blk.below hB hX (by simp)) 2).trans rfl⟩
  · exact ⟨128, by decide, by decide, fun X hX => (Blk.cell (Blk.below hB hX (by simp)) 3).trans rfl⟩
  · exact ⟨2147483647, by decide, by decide, fun X hX => (Blk.cell (Blk.below hB hX (by simp)) 4).trans rfl⟩
  · exact ⟨9223372036854775807, by decide, by decide, fun X hX => (Blk.cell (Blk.below hB hX (by simp)) 5).trans rfl⟩
  · exact ⟨9223372036854775808, by decide, by decide, fun X hX => (Blk.cell (Blk.below hB hX (by simp)) 6).trans rfl⟩
  · exact ⟨18446744073709551615, by decide, by decide, fun X hX => (Blk.cell (Blk.below hB hX (by simp)) 7).trans rfl⟩
/-- The row of four nodes, in every later world. -/
theorem four_at (w2 : World) (x y : Int) : ∀ k, k < 4 → ∀ X, Below (w2.alloc (.cells #[.int .i64 4, .int .i64 0, .int .u64 x, .string ⟨#[]⟩, .slice none 0 0, .slice none 0 0, .int .i64 9, .int .i64 0, .int .u64 x, .string ⟨#[]⟩, .slice none 0 0, .slice none 0 0, .int .i64 3, .int .i64 y, .int .u64 0, .string ⟨#[]⟩, .slice none 0 0, .slice none 0 0, .int .i64 8, .int .i64 y, .int .u64 0, .string ⟨#[]⟩, .slice none 0 0, .slice none 0 0] 27)).heap.size (w2.alloc (.cells #[.int .i64 4, .int .i64 0, .int .u64 x, .string ⟨#[]⟩, .slice none 0 0, .slice none 0 0, .int .i64 9, .int .i64 0, .int .u64 x, .string ⟨#[]⟩, .slice none 0 0, .slice none 0 0, .int .i64 3, .int .i64 y, .int .u64 0, .string ⟨#[]⟩, .slice none 0 0, .slice none 0 0, .int .i64 8, .int .i64 y, .int .u64 0, .string ⟨#[]⟩, .slice none 0 0, .slice none 0 0] 27)) X →
    (X.cell? ⟨w2.heap.size, k * 6, none⟩ = some (.int .i64 (kdA k)) ∧ X.cell? ⟨w2.heap.size, k * 6 + 1, none⟩ = some (.int .i64 (nnA y k)) ∧ X.cell? ⟨w2.heap.size, k * 6 + 2, none⟩ = some (.int .u64 (uuA x k)) ∧ X.cell? ⟨w2.heap.size, k * 6 + 3, none⟩ = some (.string ⟨#[]⟩) ∧ X.cell? ⟨w2.heap.size, k * 6 + 4, none⟩ = some (.slice none 0 0) ∧ X.cell? ⟨w2.heap.size, k * 6 + 5, none⟩ = some (.slice none 0 0)) := by
  intro k hk X hX
  have hB := Blk.below (Blk.new w2 27 #[.int .i64 4, .int .i64 0, .int .u64 x, .string ⟨#[]⟩, .slice none 0 0, .slice none 0 0, .int .i64 9, .int .i64 0, .int .u64 x, .string ⟨#[]⟩, .slice none 0 0, .slice none 0 0, .int .i64 3, .int .i64 y, .int .u64 0, .string ⟨#[]⟩, .slice none 0 0, .slice none 0 0, .int .i64 8, .int .i64 y, .int .u64 0, .string ⟨#[]⟩, .slice none 0 0, .slice none 0 0]) hX (by simp)
  rcases (show k = 0 ∨ k = 1 ∨ k = 2 ∨ k = 3 by omega) with rfl | rfl | rfl | rfl
  all_goals exact ⟨Blk.cell hB _, Blk.cell hB _, Blk.cell hB _, Blk.cell hB _, Blk.cell hB _, Blk.cell hB _⟩
theorem nde_four (W : World) {x y : Int} (x0 : 0 ≤ x) (x1 : x ≤ 18446744073709551615) (y0 : -9223372036854775808 ≤ y) (y1 : y ≤ 9223372036854775807) (k : Nat) : NdE W [.int .i64 (kdA k), .int .i64 (nnA y k), .int .u64 (uuA x k), .string ⟨#[]⟩, .slice none 0 0, .slice none 0 0] := by
  have h0 : -9223372036854775808 ≤ kdA k ∧ kdA k ≤ 9223372036854775807 := by unfold kdA; split <;> (try split) <;> (try split) <;> omega
  have h1 : -9223372036854775808 ≤ nnA y k ∧ nnA y k ≤ 9223372036854775807 := by unfold nnA; split <;> omega
  have h2 : 0 ≤ uuA x k ∧ uuA x k ≤ 18446744073709551615 := by unfold uuA; split <;> omega
  exact nde_leaf W ⟨h0.1, h0.2, h1.1, h1.2, h2.1, h2.2⟩ (by decide)
theorem four_rdn (w2 : World) (x y : Int) (x0 : 0 ≤ x) (x1 : x ≤ 18446744073709551615) (y0 : -9223372036854775808 ≤ y) (y1 : y ≤ 9223372036854775807) : RdN (w2.alloc (.cells #[.int .i64 4, .int .i64 0, .int .u64 x, .string ⟨#[]⟩, .slice none 0 0, .slice none 0 0, .int .i64 9, .int .i64 0, .int .u64 x, .string ⟨#[]⟩, .slice none 0 0, .slice none 0 0, .int .i64 3, .int .i64 y, .int .u64 0, .string ⟨#[]⟩, .slice none 0 0, .slice none 0 0, .int .i64 8, .int .i64 y, .int .u64 0, .string ⟨#[]⟩, .slice none 0 0, .slice none 0 0] 27)) (.slice (some ⟨w2.heap.size, 0, none⟩) 4 4) 4 := by
  refine rdn_lit [[.int .i64 4, .int .i64 0, .int .u64 x, .string ⟨#[]⟩, .slice none 0 0, .slice none 0 0], [.int .i64 9, .int .i64 0, .int .u64 x, .string ⟨#[]⟩, .slice none 0 0, .slice none 0 0], [.int .i64 3, .int .i64 y, .int .u64 0, .string ⟨#[]⟩, .slice none 0 0, .slice none 0 0], [.int .i64 8, .int .i64 y, .int .u64 0, .string ⟨#[]⟩, .slice none 0 0, .slice none 0 0]] (Blk.new w2 _ _) rfl rfl ?_ (by decide)
  intro z hz
  simp only [List.mem_cons, List.not_mem_nil, or_false] at hz
  rcases hz with rfl | rfl | rfl | rfl
  · exact nde_four _ x0 x1 y0 y1 0
  · exact nde_four _ x0 x1 y0 y1 1
  · exact nde_four _ x0 x1 y0 y1 2
  · exact nde_four _ x0 x1 y0 y1 3
/-- What the law's own calls give, in every world later than w. -/
abbrev OKa (w : World) : Prop := ∀ (W : World) (ca cb : List Value), Below w.heap.size w W → NdE W ca → NdE W cb → Calls Tryd.prog 6 #[.agg ca.toArray, .agg cb.toArray] W fun e w' => e = .returned (.bool true) ∧ Below W.heap.size W w'
abbrev OKf (w : World) : Prop := ∀ (W : World) (cs : List Value), Below w.heap.size w W → NdE W cs → Calls Tryd.prog 8 #[.agg cs.toArray] W fun e w' => e = .returned (.bool true) ∧ Below W.heap.size W w'
abbrev OKl (w : World) : Prop := ∀ (W : World) (x y : Int) (k n : Nat), Below w.heap.size w W → 0 ≤ x → x ≤ 18446744073709551615 → IntKind.i64.wrap x = y → k < 4 → n < 4 →
  Calls Tryd.prog 7 #[.agg #[.int .i64 (kdA k), .int .i64 (nnA y k), .int .u64 (uuA x k), .string ⟨#[]⟩, .slice none 0 0, .slice none 0 0], .agg #[.int .i64 (kdA n), .int .i64 (nnA y n), .int .u64 (uuA x n), .string ⟨#[]⟩, .slice none 0 0, .slice none 0 0]] W fun e w' => e = .returned (.bool (al9 x k n)) ∧ Below W.heap.size W w'
abbrev OKv (w : World) : Prop := ∀ (W : World), Below w.heap.size w W → Calls Tryd.prog 10 #[] W fun e w' => e = .returned (.bool true) ∧ Below W.heap.size W w'
theorem num_leaf (W : World) (n : Int) (h0 : -1000 ≤ n) (h1 : n ≤ 1000) : NdE W [.int .i64 3, .int .i64 n, .int .u64 0, .string ⟨#[]⟩, .slice none 0 0, .slice none 0 0] := nde_leaf W ⟨by decide, by decide, by omega, by omega, by decide, by decide⟩ (by decide)
theorem uns_leaf (W : World) (n : Int) (h0 : 0 ≤ n) (h1 : n ≤ 1000) : NdE W [.int .i64 4, .int .i64 0, .int .u64 n, .string ⟨#[]⟩, .slice none 0 0, .slice none 0 0] := nde_leaf W ⟨by decide, by decide, by decide, by decide, by omega, by omega⟩ (by decide)
/-- A node with two children, and one with one child, that a call was handed. -/
theorem two_list {x2 x3 : World} {k : Int} {a0 a1 a2 a3 a4 a5 b0 b1 b2 b3 b4 b5 : Value} (hr : Rng k 0 0) (ha : NdE x2 [a0, a1, a2, a3, a4, a5]) (hb : NdE x2 [b0, b1, b2, b3, b4, b5]) (h : Below (x2.alloc (.cells #[a0, a1, a2, a3, a4, a5, b0, b1, b2, b3, b4, b5] 27)).heap.size (x2.alloc (.cells #[a0, a1, a2, a3, a4, a5, b0, b1, b2, b3, b4, b5] 27)) x3) :
    NdE x3 [.int .i64 k, .int .i64 0, .int .u64 0, .string ⟨#[]⟩, .slice none 0 0, .slice (some ⟨x2.heap.size, 0, none⟩) 2 2] ∧ Below x2.heap.size x2 x3 := by
  have ha0 := al0 x2 (.cells #[a0, a1, a2, a3, a4, a5, b0, b1, b2, b3, b4, b5] 27)
  refine ⟨nde_mk hr (by decide) (rdk_nil _) ((rdn_lit (m := 2) [[a0, a1, a2, a3, a4, a5], [b0, b1, b2, b3, b4, b5]] (Blk.new x2 _ _) rfl rfl ?_ (by decide)).below h), tr ha0 h⟩
  intro x hx
  simp only [List.mem_cons, List.not_mem_nil, or_false] at hx
  rcases hx with rfl | rfl
  · exact ha.below ha0
  · exact hb.below ha0
theorem one_list {x2 x3 : World} {k : Int} {a0 a1 a2 a3 a4 a5 : Value} (hr : Rng k 0 0) (ha : NdE x2 [a0, a1, a2, a3, a4, a5]) (h : Below (x2.alloc (.cells #[a0, a1, a2, a3, a4, a5] 27)).heap.size (x2.alloc (.cells #[a0, a1, a2, a3, a4, a5] 27)) x3) :
    NdE x3 [.int .i64 k, .int .i64 0, .int .u64 0, .string ⟨#[]⟩, .slice none 0 0, .slice (some ⟨x2.heap.size, 0, none⟩) 1 1] ∧ Below x2.heap.size x2 x3 := by
  have ha0 := al0 x2 (.cells #[a0, a1, a2, a3, a4, a5] 27)
  refine ⟨nde_mk hr (by decide) (rdk_nil _) ((rdn_lit (m := 1) [[a0, a1, a2, a3, a4, a5]] (Blk.new x2 _ _) rfl rfl ?_ (by decide)).below h), tr ha0 h⟩
  intro x hx
  simp only [List.mem_cons, List.not_mem_nil, or_false] at hx
  subst hx
  exact ha.below ha0
/-- The temporaries of the comparison's operations. -/
def dsN : List Tmp := [49, 50, 51, 52, 53, 54, 55, 56, 57, 58, 59, 60, 61, 62, 63, 64, 65, 66, 67, 68, 69, 70, 71, 72, 73, 74, 75, 76, 77, 78, 79, 80, 81, 82]
/-- The values of the comparison's operations. -/
def vsNA (a0 : Int) (a1 : Int) (a2 : Int) (b0 : Int) (b1 : Int) (b2 : Int) (k : Nat) (n : Nat) (K2 : Nat) (gl : Nat) : List Value := (.slice (some ⟨gl, 0, none⟩) 4 4) :: (.int .i64 (k : Int)) :: (.pointer (some ⟨gl, k * 6, none⟩)) :: (.agg #[.int .i64 a0, .int .i64 a1, .int .u64 a2, .string ⟨#[]⟩, .slice none 0 0, .slice none 0 0]) :: (.slice (some ⟨gl, 0, none⟩) 4 4) :: (.int .i64 (n : Int)) :: (.pointer (some ⟨gl, n * 6, none⟩)) :: (.agg #[.int .i64 b0, .int .i64 b1, .int .u64 b2, .string ⟨#[]⟩, .slice none 0 0, .slice none 0 0]) :: (.bool true) :: (.bool false) :: (.bool false) :: (.slice (some ⟨gl, 0, none⟩) 4 4) :: (.int .i64 (k : Int)) :: (.pointer (some ⟨gl, k * 6, none⟩)) :: (.agg #[.int .i64 a0, .int .i64 a1, .int .u64 a2, .string ⟨#[]⟩, .slice none 0 0, .slice none 0 0]) :: (.slice (some ⟨gl, 0, none⟩) 4 4) :: (.int .i64 (n : Int)) :: (.pointer (some ⟨gl, n * 6, none⟩)) :: (.agg #[.int .i64 b0, .int .i64 b1, .int .u64 b2, .string ⟨#[]⟩, .slice none 0 0, .slice none 0 0]) :: (.bool true) :: (.int .i64 (k : Int)) :: (.int .i64 (K2 : Int)) :: (.int .i64 (n : Int)) :: (.int .i64 (K2 : Int)) :: (.bool true) :: (.bool true) :: (undef) :: (undef) :: (undef) :: (undef) :: (undef) :: (.bool true) :: (.bool false) :: (.bool false) :: []
def vsNB (a0 : Int) (a1 : Int) (a2 : Int) (b0 : Int) (b1 : Int) (b2 : Int) (x : Int) (k : Nat) (n : Nat) (i : Nat) (K2 : Nat) (N2 : Nat) (gl : Nat) (ge : Nat) : List Value := (.slice (some ⟨gl, 0, none⟩) 4 4) :: (.int .i64 (k : Int)) :: (.pointer (some ⟨gl, k * 6, none⟩)) :: (.agg #[.int .i64 a0, .int .i64 a1, .int .u64 a2, .string ⟨#[]⟩, .slice none 0 0, .slice none 0 0]) :: (.slice (some ⟨gl, 0, none⟩) 4 4) :: (.int .i64 (n : Int)) :: (.pointer (some ⟨gl, n * 6, none⟩)) :: (.agg #[.int .i64 b0, .int .i64 b1, .int .u64 b2, .string ⟨#[]⟩, .slice none 0 0, .slice none 0 0]) :: (.bool true) :: (.bool false) :: (.bool false) :: (.slice (some ⟨gl, 0, none⟩) 4 4) :: (.int .i64 (k : Int)) :: (.pointer (some ⟨gl, k * 6, none⟩)) :: (.agg #[.int .i64 a0, .int .i64 a1, .int .u64 a2, .string ⟨#[]⟩, .slice none 0 0, .slice none 0 0]) :: (.slice (some ⟨gl, 0, none⟩) 4 4) :: (.int .i64 (n : Int)) :: (.pointer (some ⟨gl, n * 6, none⟩)) :: (.agg #[.int .i64 b0, .int .i64 b1, .int .u64 b2, .string ⟨#[]⟩, .slice none 0 0, .slice none 0 0]) :: (.bool true) :: (.int .i64 (k : Int)) :: (.int .i64 (K2 : Int)) :: (.int .i64 (n : Int)) :: (.int .i64 (N2 : Int)) :: (.bool false) :: (.bool false) :: (.slice (some ⟨ge, 0, none⟩) 8 8) :: (.int .i64 (i : Int)) :: (.pointer (some ⟨ge, i, none⟩)) :: (.int .u64 x) :: (.bool true) :: (.bool true) :: (.bool false) :: (.bool false) :: []
def vsNC (a0 : Int) (a1 : Int) (a2 : Int) (b0 : Int) (b1 : Int) (b2 : Int) (x : Int) (k : Nat) (n : Nat) (i : Nat) (K2 : Nat) (N2 : Nat) (gl : Nat) (ge : Nat) : List Value := (.slice (some ⟨gl, 0, none⟩) 4 4) :: (.int .i64 (k : Int)) :: (.pointer (some ⟨gl, k * 6, none⟩)) :: (.agg #[.int .i64 a0, .int .i64 a1, .int .u64 a2, .string ⟨#[]⟩, .slice none 0 0, .slice none 0 0]) :: (.slice (some ⟨gl, 0, none⟩) 4 4) :: (.int .i64 (n : Int)) :: (.pointer (some ⟨gl, n * 6, none⟩)) :: (.agg #[.int .i64 b0, .int .i64 b1, .int .u64 b2, .string ⟨#[]⟩, .slice none 0 0, .slice none 0 0]) :: (.bool true) :: (.bool false) :: (.bool false) :: (.slice (some ⟨gl, 0, none⟩) 4 4) :: (.int .i64 (k : Int)) :: (.pointer (some ⟨gl, k * 6, none⟩)) :: (.agg #[.int .i64 a0, .int .i64 a1, .int .u64 a2, .string ⟨#[]⟩, .slice none 0 0, .slice none 0 0]) :: (.slice (some ⟨gl, 0, none⟩) 4 4) :: (.int .i64 (n : Int)) :: (.pointer (some ⟨gl, n * 6, none⟩)) :: (.agg #[.int .i64 b0, .int .i64 b1, .int .u64 b2, .string ⟨#[]⟩, .slice none 0 0, .slice none 0 0]) :: (.bool false) :: (.int .i64 (k : Int)) :: (.int .i64 (K2 : Int)) :: (.int .i64 (n : Int)) :: (.int .i64 (N2 : Int)) :: (.bool false) :: (.bool false) :: (.slice (some ⟨ge, 0, none⟩) 8 8) :: (.int .i64 (i : Int)) :: (.pointer (some ⟨ge, i, none⟩)) :: (.int .u64 x) :: (.bool false) :: (.bool false) :: (.bool false) :: (.bool false) :: []
theorem rng_k {k : Int} (h0 : -1000 ≤ k) (h1 : k ≤ 1000) : Rng k 0 0 := ⟨by omega, by omega, by decide, by decide, by decide, by decide⟩

set_option maxRecDepth 20000 in
set_option maxHeartbeats 4000000 in
theorem known9_core (w : World) (hA : OKa w) (hF : OKf w) (hL : OKl w) (hW : OKv w) : Calls Tryd.prog 3 #[] w fun e w' => e = .returned (.bool true) ∧ Below w.heap.size w w' := by
  have HAL := Lib.hid hA
  have HFO := Lib.hid hF
  have HLI := Lib.hid hL
  have HWK := Lib.hid hW
  have HNU : Hid (∀ n W, Calls Tryd.prog 5 #[.int .i64 n] W fun e w' => e = .returned (.agg #[.int .i64 3, .int .i64 n, .int .u64 0, .string ⟨#[]⟩, .slice none 0 0, .slice none 0 0]) ∧ Below W.heap.size W w') := Lib.hid fun n W => num_any n W
  have HUN : Hid (∀ n W, Calls Tryd.prog 4 #[.int .u64 n] W fun e w' => e = .returned (.agg #[.int .i64 4, .int .i64 0, .int .u64 n, .string ⟨#[]⟩, .slice none 0 0, .slice none 0 0]) ∧ Below W.heap.size W w') := Lib.hid fun n W => uns_any n W
  have HLT : Hid (∀ k A m c W, Calls Tryd.prog 9 #[.int .i64 k, .slice A m c] W fun e w' => e = .returned (.agg #[.int .i64 k, .int .i64 0, .int .u64 0, .string ⟨#[]⟩, .slice none 0 0, .slice A m c]) ∧ Below W.heap.size W w') := Lib.hid fun k A m c W => list_any k A m c W
  have HEN := Lib.hid (ends_at w)
  have HB1 : Hid (Below w.heap.size w (w.alloc (.cells #[.int .u64 0, .int .u64 1, .int .u64 127, .int .u64 128, .int .u64 2147483647, .int .u64 9223372036854775807, .int .u64 9223372036854775808, .int .u64 18446744073709551615] 22))) := Lib.hid (al0 _ _)
  clear hA hF hL hW
  go_enter Tryd.func3, Tryd.ntmps3
  go_upto_block 0 with fail
  obtain ⟨W1, hW1⟩ : ∃ W1, w.alloc (.cells #[.int .u64 0, .int .u64 1, .int .u64 127, .int .u64 128, .int .u64 2147483647, .int .u64 9223372036854775807, .int .u64 9223372036854775808, .int .u64 18446744073709551615] 22) = W1 := ⟨_, rfl⟩
  obtain ⟨ge, hge⟩ : ∃ ge, w.heap.size = ge := ⟨_, rfl⟩
  rw [hW1] at HB1 HEN
  have HGE := Lib.hid hge
  simp only [hW1, hge]
  rw [hge] at HEN
  clear hW1 hge
  go_cut [1] (fun _ wx => Hid (Below w.heap.size w wx))
  case first =>
    go_wp2_with fail
    go_loopw [2] (fun v wr => ∃ i : Nat, i ≤ 8 ∧ v = .int .i64 (i : Int) ∧ Hid (Below W1.heap.size W1 wr)) (fun v _ => 8 - (intOf v).toNat)
    case atStart => exact ⟨0, Nat.zero_le _, rfl, Lib.hid (Below.refl _ _)⟩
    case round =>
      obtain ⟨i, hi, rfl, HI⟩ := hrel
      by_cases hi8 : i < 8
      · obtain ⟨x, x0, x1, hx⟩ := HEN.out i hi8
        obtain ⟨y, hy⟩ : ∃ y, IntKind.i64.wrap x = y := ⟨_, rfl⟩
        have hyb : -9223372036854775808 ≤ y ∧ y ≤ 9223372036854775807 := by rw [← hy, IntKind.wrap_i64]; omega
        have HX := Lib.hid hx
        have HY := Lib.hid hy
        have hii : decide ((i : Int) < 8) = true := by simp; omega
        have hi0 : (0 : Int) ≤ (i : Int) := by omega
        have hi1 : (i : Int) < 8 := by omega
        have hall : ∀ X, Hid (Below wr.heap.size wr X) → (X.cell? ⟨ge, i, none⟩ = some (.int .u64 x) ∧ Hid (Below wr.heap.size wr X)) := fun X h => ⟨HX.out X (HI.out.trans (h.out.mono HI.out.size)), h⟩
        have HSd : Hid (Below wr.heap.size wr wr.drew) := Lib.hid (Below.refl _ _).drew
        have HXB := Lib.hid (show 0 ≤ x ∧ x ≤ 18446744073709551615 from ⟨x0, x1⟩)
        clear hx x0 x1
        go_upto_region 5 with fail
        go_region_held3 (fun X => X.cell? ⟨ge, i, none⟩ = some (.int .u64 x) ∧ Hid (Below wr.heap.size wr X))
          (first | (with_reducible exact hall _ HSd) | (with_reducible exact hall _ (by assumption)) | (with_reducible exact hall _ (Lib.hid (tr (Hid.out (by assumption)) (al0 _ _)))))
          (first
            | (go_at_call 4; (with_reducible refine (HUN.out _ _).mono ?_); rintro e e1 ⟨rfl, hb⟩; have HE1 : Hid (Below wr.heap.size wr e1) := Lib.hid (tr HSd.out hb); clear hb)
            | (go_at_call 5; (with_reducible refine (HNU.out _ _).mono ?_); rintro e e2 ⟨rfl, hb⟩; have HE2 : Hid (Below wr.heap.size wr e2) := Lib.hid (tr HE1.out hb); clear hb))
        have HFX := Lib.hid (four_at e2 x y)
        have HRN := Lib.hid (four_rdn e2 x y HXB.out.1 HXB.out.2 hyb.1 hyb.2)
        have HWL : Hid (Below w.heap.size w (e2.alloc (.cells #[.int .i64 4, .int .i64 0, .int .u64 x, .string ⟨#[]⟩, .slice none 0 0, .slice none 0 0, .int .i64 9, .int .i64 0, .int .u64 x, .string ⟨#[]⟩, .slice none 0 0, .slice none 0 0, .int .i64 3, .int .i64 y, .int .u64 0, .string ⟨#[]⟩, .slice none 0 0, .slice none 0 0, .int .i64 8, .int .i64 y, .int .u64 0, .string ⟨#[]⟩, .slice none 0 0, .slice none 0 0] 27))) := Lib.hid (HB1.out.trans ((tr (HI.out.trans (HE2.out.mono HI.out.size)) (al0 _ _)).mono HB1.out.size))
        have HIL : Hid (Below W1.heap.size W1 (e2.alloc (.cells #[.int .i64 4, .int .i64 0, .int .u64 x, .string ⟨#[]⟩, .slice none 0 0, .slice none 0 0, .int .i64 9, .int .i64 0, .int .u64 x, .string ⟨#[]⟩, .slice none 0 0, .slice none 0 0, .int .i64 3, .int .i64 y, .int .u64 0, .string ⟨#[]⟩, .slice none 0 0, .slice none 0 0, .int .i64 8, .int .i64 y, .int .u64 0, .string ⟨#[]⟩, .slice none 0 0, .slice none 0 0] 27))) := Lib.hid (tr (HI.out.trans (HE2.out.mono HI.out.size)) (al0 _ _))
        obtain ⟨Wl, hWl⟩ : ∃ Wl, e2.alloc (.cells #[.int .i64 4, .int .i64 0, .int .u64 x, .string ⟨#[]⟩, .slice none 0 0, .slice none 0 0, .int .i64 9, .int .i64 0, .int .u64 x, .string ⟨#[]⟩, .slice none 0 0, .slice none 0 0, .int .i64 3, .int .i64 y, .int .u64 0, .string ⟨#[]⟩, .slice none 0 0, .slice none 0 0, .int .i64 8, .int .i64 y, .int .u64 0, .string ⟨#[]⟩, .slice none 0 0, .slice none 0 0] 27) = Wl := ⟨_, rfl⟩
        obtain ⟨gl, hgl⟩ : ∃ gl, e2.heap.size = gl := ⟨_, rfl⟩
        rw [hWl] at HFX HRN HWL HIL
        rw [hgl] at HFX HRN
        simp only [hWl, hgl]
        clear hWl hgl HE1 HE2 HSd hall HI hi0 hi1
        go_wp2_with fail
        go_loopw [4] (fun v wk => ∃ k : Nat, k ≤ 4 ∧ v = .int .i64 (k : Int) ∧ Hid (Below Wl.heap.size Wl wk)) (fun v _ => 4 - (intOf v).toNat)
        case atStart => exact ⟨0, Nat.zero_le _, rfl, Lib.hid (Below.refl _ _)⟩
        case round =>
          obtain ⟨k, hk, rfl, HK⟩ := hrel
          by_cases hk4 : k < 4
          · have hkk : decide ((k : Int) < 4) = true := by simp; omega
            go_wp2_with fail
            go_loopw [5] (fun v wk => ∃ n : Nat, n ≤ 4 ∧ v = .int .i64 (n : Int) ∧ Hid (Below Wl.heap.size Wl wk)) (fun v _ => 4 - (intOf v).toNat)
            case atStart => exact ⟨0, Nat.zero_le _, rfl, HK⟩
            case round =>
              obtain ⟨n, hn, rfl, HN⟩ := hrel
              by_cases hn4 : n < 4
              · have HWR : Hid (∀ X, Hid (Below wr.heap.size wr X) → Below w.heap.size w X) := Lib.hid fun X h => (HWL.out.trans (HN.out.mono HWL.out.size)).trans (h.out.mono (Nat.le_trans HWL.out.size HN.out.size))
                have HLK : Hid (∀ X, Hid (Below wr.heap.size wr X) → Calls Tryd.prog 7 #[.agg #[.int .i64 (kdA k), .int .i64 (nnA y k), .int .u64 (uuA x k), .string ⟨#[]⟩, .slice none 0 0, .slice none 0 0], .agg #[.int .i64 (kdA n), .int .i64 (nnA y n), .int .u64 (uuA x n), .string ⟨#[]⟩, .slice none 0 0, .slice none 0 0]] X fun e w' => e = .returned (.bool (al9 x k n)) ∧ Below X.heap.size X w') := Lib.hid fun X h => HLI.out X x y k n (HWR.out X h) HXB.out.1 HXB.out.2 HY.out hk4 hn4
                have HNA : Hid (∀ X, Hid (Below wr.heap.size wr X) → Calls Tryd.prog 6 #[.agg #[.int .i64 (kdA k), .int .i64 (nnA y k), .int .u64 (uuA x k), .string ⟨#[]⟩, .slice none 0 0, .slice none 0 0], .agg #[.int .i64 (kdA n), .int .i64 (nnA y n), .int .u64 (uuA x n), .string ⟨#[]⟩, .slice none 0 0, .slice none 0 0]] X fun e w' => e = .returned (.bool true) ∧ Below X.heap.size X w') := Lib.hid fun X h => HAL.out X _ _ (HWR.out X h) (nde_four X HXB.out.1 HXB.out.2 hyb.1 hyb.2 k) (nde_four X HXB.out.1 HXB.out.2 hyb.1 hyb.2 n)
                have HFK := Lib.hid (HFX.out k hk4)
                have HFN := Lib.hid (HFX.out n hn4)
                have HXI : Hid (∀ X, Hid (Below wr.heap.size wr X) → X.cell? ⟨ge, i, none⟩ = some (.int .u64 x)) := Lib.hid fun X h => HX.out X ((HIL.out.trans (HN.out.mono HIL.out.size)).trans (h.out.mono (Nat.le_trans HIL.out.size HN.out.size)))
                obtain ⟨a0, ha0⟩ : ∃ a0, kdA k = a0 := ⟨_, rfl⟩
                obtain ⟨a1, ha1⟩ : ∃ a1, nnA y k = a1 := ⟨_, rfl⟩
                obtain ⟨a2, ha2⟩ : ∃ a2, uuA x k = a2 := ⟨_, rfl⟩
                obtain ⟨b0, hb0⟩ : ∃ b0, kdA n = b0 := ⟨_, rfl⟩
                obtain ⟨b1, hb1⟩ : ∃ b1, nnA y n = b1 := ⟨_, rfl⟩
                obtain ⟨b2, hb2⟩ : ∃ b2, uuA x n = b2 := ⟨_, rfl⟩
                rw [ha0, ha1, ha2] at HLK HNA HFK
                rw [hb0, hb1, hb2] at HLK HNA HFN
                clear ha0 ha1 ha2 hb0 hb1 hb2
                have hall : ∀ X, Hid (Below wr.heap.size wr X) → (X.cell? ⟨gl, k * 6, none⟩ = some (.int .i64 a0) ∧ X.cell? ⟨gl, k * 6 + 1, none⟩ = some (.int .i64 a1) ∧ X.cell? ⟨gl, k * 6 + 2, none⟩ = some (.int .u64 a2) ∧ X.cell? ⟨gl, k * 6 + 3, none⟩ = some (.string ⟨#[]⟩) ∧ X.cell? ⟨gl, k * 6 + 4, none⟩ = some (.slice none 0 0) ∧ X.cell? ⟨gl, k * 6 + 5, none⟩ = some (.slice none 0 0) ∧ X.cell? ⟨gl, n * 6, none⟩ = some (.int .i64 b0) ∧ X.cell? ⟨gl, n * 6 + 1, none⟩ = some (.int .i64 b1) ∧ X.cell? ⟨gl, n * 6 + 2, none⟩ = some (.int .u64 b2) ∧ X.cell? ⟨gl, n * 6 + 3, none⟩ = some (.string ⟨#[]⟩) ∧ X.cell? ⟨gl, n * 6 + 4, none⟩ = some (.slice none 0 0) ∧ X.cell? ⟨gl, n * 6 + 5, none⟩ = some (.slice none 0 0) ∧ X.cell? ⟨ge, i, none⟩ = some (.int .u64 x) ∧ Hid (Below wr.heap.size wr X)) := fun X h => by
                  have hx := HN.out.trans (h.out.mono HN.out.size)
                  obtain ⟨c0, c1, c2, c3, c4, c5⟩ := HFK.out X hx
                  obtain ⟨d0, d1, d2, d3, d4, d5⟩ := HFN.out X hx
                  exact ⟨c0, c1, c2, c3, c4, c5, d0, d1, d2, d3, d4, d5, HXI.out X h, h⟩
                have HSd : Hid (Below wr.heap.size wr wr.drew) := Lib.hid (Below.refl _ _).drew
                have hkp : ∀ {X Y : World}, (X.cell? ⟨gl, k * 6, none⟩ = some (.int .i64 a0) ∧ X.cell? ⟨gl, k * 6 + 1, none⟩ = some (.int .i64 a1) ∧ X.cell? ⟨gl, k * 6 + 2, none⟩ = some (.int .u64 a2) ∧ X.cell? ⟨gl, k * 6 + 3, none⟩ = some (.string ⟨#[]⟩) ∧ X.cell? ⟨gl, k * 6 + 4, none⟩ = some (.slice none 0 0) ∧ X.cell? ⟨gl, k * 6 + 5, none⟩ = some (.slice none 0 0) ∧ X.cell? ⟨gl, n * 6, none⟩ = some (.int .i64 b0) ∧ X.cell? ⟨gl, n * 6 + 1, none⟩ = some (.int .i64 b1) ∧ X.cell? ⟨gl, n * 6 + 2, none⟩ = some (.int .u64 b2) ∧ X.cell? ⟨gl, n * 6 + 3, none⟩ = some (.string ⟨#[]⟩) ∧ X.cell? ⟨gl, n * 6 + 4, none⟩ = some (.slice none 0 0) ∧ X.cell? ⟨gl, n * 6 + 5, none⟩ = some (.slice none 0 0) ∧ X.cell? ⟨ge, i, none⟩ = some (.int .u64 x) ∧ Hid (Below wr.heap.size wr X)) → Below X.heap.size X Y → (Y.cell? ⟨gl, k * 6, none⟩ = some (.int .i64 a0) ∧ Y.cell? ⟨gl, k * 6 + 1, none⟩ = some (.int .i64 a1) ∧ Y.cell? ⟨gl, k * 6 + 2, none⟩ = some (.int .u64 a2) ∧ Y.cell? ⟨gl, k * 6 + 3, none⟩ = some (.string ⟨#[]⟩) ∧ Y.cell? ⟨gl, k * 6 + 4, none⟩ = some (.slice none 0 0) ∧ Y.cell? ⟨gl, k * 6 + 5, none⟩ = some (.slice none 0 0) ∧ Y.cell? ⟨gl, n * 6, none⟩ = some (.int .i64 b0) ∧ Y.cell? ⟨gl, n * 6 + 1, none⟩ = some (.int .i64 b1) ∧ Y.cell? ⟨gl, n * 6 + 2, none⟩ = some (.int .u64 b2) ∧ Y.cell? ⟨gl, n * 6 + 3, none⟩ = some (.string ⟨#[]⟩) ∧ Y.cell? ⟨gl, n * 6 + 4, none⟩ = some (.slice none 0 0) ∧ Y.cell? ⟨gl, n * 6 + 5, none⟩ = some (.slice none 0 0) ∧ Y.cell? ⟨ge, i, none⟩ = some (.int .u64 x) ∧ Hid (Below wr.heap.size wr Y)) := fun h k => hall _ (Lib.hid (tr (Hid.out h.2.2.2.2.2.2.2.2.2.2.2.2.2) k))
                obtain ⟨K2, hK2⟩ : ∃ K2, k / 2 = K2 := ⟨_, rfl⟩
                obtain ⟨N2, hN2⟩ : ∃ N2, n / 2 = N2 := ⟨_, rfl⟩
                by_cases he : K2 = N2
                · have hal : al9 x k n = true := by unfold al9; rw [hK2, hN2, he]; simp
                  rw [hal] at HLK
                  subst he
                  have hee : ((K2 : Int) == (K2 : Int)) = true := by simp
                  clear hal
                  go_upto_region 12 with fail
                  refine wp_region_vals dsN (fun X => X.cell? ⟨gl, k * 6, none⟩ = some (.int .i64 a0) ∧ X.cell? ⟨gl, k * 6 + 1, none⟩ = some (.int .i64 a1) ∧ X.cell? ⟨gl, k * 6 + 2, none⟩ = some (.int .u64 a2) ∧ X.cell? ⟨gl, k * 6 + 3, none⟩ = some (.string ⟨#[]⟩) ∧ X.cell? ⟨gl, k * 6 + 4, none⟩ = some (.slice none 0 0) ∧ X.cell? ⟨gl, k * 6 + 5, none⟩ = some (.slice none 0 0) ∧ X.cell? ⟨gl, n * 6, none⟩ = some (.int .i64 b0) ∧ X.cell? ⟨gl, n * 6 + 1, none⟩ = some (.int .i64 b1) ∧ X.cell? ⟨gl, n * 6 + 2, none⟩ = some (.int .u64 b2) ∧ X.cell? ⟨gl, n * 6 + 3, none⟩ = some (.string ⟨#[]⟩) ∧ X.cell? ⟨gl, n * 6 + 4, none⟩ = some (.slice none 0 0) ∧ X.cell? ⟨gl, n * 6 + 5, none⟩ = some (.slice none 0 0) ∧ X.cell? ⟨ge, i, none⟩ = some (.int .u64 x) ∧ Hid (Below wr.heap.size wr X)) (RV (vsNA a0 a1 a2 b0 b1 b2 k n K2 gl)) (by kernel_rfl) (by kernel_rfl) (by kernel_rfl) (by decide) (lt_all (n := 138) (by decide)) (hall _ HSd) ?step ?fin
                  case step =>
                    refine each_op ?_
                    refine ⟨?_, ?_, ?_, ?_, ?_, ?_, ?_, ?_, ?_, ?_, ?_, ?_, ?_, ?_, ?_, ?_, ?_, ?_, ?_, ?_, ?_, ?_, ?_, ?_, ?_, ?_, ?_, ?_, ?_, ?_, ?_, ?_, ?_, ?_, trivial⟩
                    · intro hi b wx hF hS hd K hK
                      have h3 : b.tmps[3]?.getD undef = .slice (some ⟨gl, 0, none⟩) 4 4 := hF.at (t := 3) rfl rfl
                      exact stq_move hi (by simp [Region.wanted]) rfl h3  (hK _ _ hS rfl (fun _ _ h => h))
                    · intro hi b wx hF hS hd K hK
                      have h4 : b.tmps[4]?.getD undef = .int .i64 (k : Int) := hF.at (t := 4) rfl rfl
                      exact stq_move hi (by simp [Region.wanted]) rfl h4  (hK _ _ hS rfl (fun _ _ h => h))
                    · intro hi b wx hF hS hd K hK
                      have h49 := val_at (t := 49) rfl (show valOf dsN b 0 = .slice (some ⟨gl, 0, none⟩) 4 4 from dep (F := fun jz => RV (vsNA a0 a1 a2 b0 b1 b2 k n K2 gl) jz (valOf dsN b jz) wx) hd 0 (by kernel_rfl))
                      have h50 := val_at (t := 50) rfl (show valOf dsN b 1 = .int .i64 (k : Int) from dep (F := fun jz => RV (vsNA a0 a1 a2 b0 b1 b2 k n K2 gl) jz (valOf dsN b jz) wx) hd 1 (by kernel_rfl))
                      exact stq_node hi (by simp [Region.wanted]) rfl h49 h50 hk4 (hK _ _ hS rfl (fun _ _ h => h))
                    · intro hi b wx hF hS hd K hK
                      have h51 := val_at (t := 51) rfl (show valOf dsN b 2 = .pointer (some ⟨gl, k * 6, none⟩) from dep (F := fun jz => RV (vsNA a0 a1 a2 b0 b1 b2 k n K2 gl) jz (valOf dsN b jz) wx) hd 2 (by kernel_rfl))
                      have hS2 := hS
                      obtain ⟨c0, c1, c2, c3, c4, c5, d0, d1, d2, d3, d4, d5, ce, hSH⟩ := hS2
                      exact stq_read hi (by simp [Region.wanted]) rfl h51 c0 c1 c2 c3 c4 c5 (hK _ _ hS rfl (fun _ _ h => h))
                    · intro hi b wx hF hS hd K hK
                      have h3 : b.tmps[3]?.getD undef = .slice (some ⟨gl, 0, none⟩) 4 4 := hF.at (t := 3) rfl rfl
                      exact stq_move hi (by simp [Region.wanted]) rfl h3  (hK _ _ hS rfl (fun _ _ h => h))
                    · intro hi b wx hF hS hd K hK
                      have h5 : b.tmps[5]?.getD undef = .int .i64 (n : Int) := hF.at (t := 5) rfl rfl
                      exact stq_move hi (by simp [Region.wanted]) rfl h5  (hK _ _ hS rfl (fun _ _ h => h))
                    · intro hi b wx hF hS hd K hK
                      have h53 := val_at (t := 53) rfl (show valOf dsN b 4 = .slice (some ⟨gl, 0, none⟩) 4 4 from dep (F := fun jz => RV (vsNA a0 a1 a2 b0 b1 b2 k n K2 gl) jz (valOf dsN b jz) wx) hd 4 (by kernel_rfl))
                      have h54 := val_at (t := 54) rfl (show valOf dsN b 5 = .int .i64 (n : Int) from dep (F := fun jz => RV (vsNA a0 a1 a2 b0 b1 b2 k n K2 gl) jz (valOf dsN b jz) wx) hd 5 (by kernel_rfl))
                      exact stq_node hi (by simp [Region.wanted]) rfl h53 h54 hn4 (hK _ _ hS rfl (fun _ _ h => h))
                    · intro hi b wx hF hS hd K hK
                      have h55 := val_at (t := 55) rfl (show valOf dsN b 6 = .pointer (some ⟨gl, n * 6, none⟩) from dep (F := fun jz => RV (vsNA a0 a1 a2 b0 b1 b2 k n K2 gl) jz (valOf dsN b jz) wx) hd 6 (by kernel_rfl))
                      have hS2 := hS
                      obtain ⟨c0, c1, c2, c3, c4, c5, d0, d1, d2, d3, d4, d5, ce, hSH⟩ := hS2
                      exact stq_read hi (by simp [Region.wanted]) rfl h55 d0 d1 d2 d3 d4 d5 (hK _ _ hS rfl (fun _ _ h => h))
                    · intro hi b wx hF hS hd K hK
                      have h52 := val_at (t := 52) rfl (show valOf dsN b 3 = .agg #[.int .i64 a0, .int .i64 a1, .int .u64 a2, .string ⟨#[]⟩, .slice none 0 0, .slice none 0 0] from dep (F := fun jz => RV (vsNA a0 a1 a2 b0 b1 b2 k n K2 gl) jz (valOf dsN b jz) wx) hd 3 (by kernel_rfl))
                      have h56 := val_at (t := 56) rfl (show valOf dsN b 7 = .agg #[.int .i64 b0, .int .i64 b1, .int .u64 b2, .string ⟨#[]⟩, .slice none 0 0, .slice none 0 0] from dep (F := fun jz => RV (vsNA a0 a1 a2 b0 b1 b2 k n K2 gl) jz (valOf dsN b jz) wx) hd 7 (by kernel_rfl))
                      have hS2 := hS
                      obtain ⟨c0, c1, c2, c3, c4, c5, d0, d1, d2, d3, d4, d5, ce, hSH⟩ := hS2
                      refine stp_callg (enters_of Tryd.func6 (by kernel_rfl) rfl) hi (by simp [Region.wanted]) rfl (args := #[.agg #[.int .i64 a0, .int .i64 a1, .int .u64 a2, .string ⟨#[]⟩, .slice none 0 0, .slice none 0 0], .agg #[.int .i64 b0, .int .i64 b1, .int .u64 b2, .string ⟨#[]⟩, .slice none 0 0, .slice none 0 0]]) (by simp [Act.eval, h52, h56]) (HNA.out wx hSH) ?_
                      rintro e w' ⟨rfl, hb⟩
                      exact ⟨_, rfl, hK _ _ (hkp hS hb) rfl (fun _ _ h => h)⟩
                    · intro hi b wx hF hS hd K hK
                      have h57 := val_at (t := 57) rfl (show valOf dsN b 8 = .bool true from dep (F := fun jz => RV (vsNA a0 a1 a2 b0 b1 b2 k n K2 gl) jz (valOf dsN b jz) wx) hd 8 (by kernel_rfl))
                      exact stq_not hi (by simp [Region.wanted]) rfl h57  (hK _ _ hS rfl (fun _ _ h => h))
                    · intro hi b wx hF hS hd K hK
                      have h58 := val_at (t := 58) rfl (show valOf dsN b 9 = .bool false from dep (F := fun jz => RV (vsNA a0 a1 a2 b0 b1 b2 k n K2 gl) jz (valOf dsN b jz) wx) hd 9 (by kernel_rfl))
                      exact stq_move hi (by simp [Region.wanted]) rfl h58  (hK _ _ hS rfl (fun _ _ h => h))
                    · intro hi b wx hF hS hd K hK
                      have hg := val_at (t := 59) rfl (show valOf dsN b 10 = .bool false from dep (F := fun jz => RV (vsNA a0 a1 a2 b0 b1 b2 k n K2 gl) jz (valOf dsN b jz) wx) hd 10 (by kernel_rfl))
                      have h3 : b.tmps[3]?.getD undef = .slice (some ⟨gl, 0, none⟩) 4 4 := hF.at (t := 3) rfl rfl
                      exact stq_move hi ((wanted_at (g := 10) (t := 59) (bb := false) (c := false) rfl rfl hg).trans rfl) rfl h3  (hK _ _ hS rfl (fun _ _ h => h))
                    · intro hi b wx hF hS hd K hK
                      have hg := val_at (t := 59) rfl (show valOf dsN b 10 = .bool false from dep (F := fun jz => RV (vsNA a0 a1 a2 b0 b1 b2 k n K2 gl) jz (valOf dsN b jz) wx) hd 10 (by kernel_rfl))
                      have h4 : b.tmps[4]?.getD undef = .int .i64 (k : Int) := hF.at (t := 4) rfl rfl
                      exact stq_move hi ((wanted_at (g := 10) (t := 59) (bb := false) (c := false) rfl rfl hg).trans rfl) rfl h4  (hK _ _ hS rfl (fun _ _ h => h))
                    · intro hi b wx hF hS hd K hK
                      have hg := val_at (t := 59) rfl (show valOf dsN b 10 = .bool false from dep (F := fun jz => RV (vsNA a0 a1 a2 b0 b1 b2 k n K2 gl) jz (valOf dsN b jz) wx) hd 10 (by kernel_rfl))
                      have h60 := val_at (t := 60) rfl (show valOf dsN b 11 = .slice (some ⟨gl, 0, none⟩) 4 4 from dep (F := fun jz => RV (vsNA a0 a1 a2 b0 b1 b2 k n K2 gl) jz (valOf dsN b jz) wx) hd 11 (by kernel_rfl))
                      have h61 := val_at (t := 61) rfl (show valOf dsN b 12 = .int .i64 (k : Int) from dep (F := fun jz => RV (vsNA a0 a1 a2 b0 b1 b2 k n K2 gl) jz (valOf dsN b jz) wx) hd 12 (by kernel_rfl))
                      exact stq_node hi ((wanted_at (g := 10) (t := 59) (bb := false) (c := false) rfl rfl hg).trans rfl) rfl h60 h61 hk4 (hK _ _ hS rfl (fun _ _ h => h))
                    · intro hi b wx hF hS hd K hK
                      have hg := val_at (t := 59) rfl (show valOf dsN b 10 = .bool false from dep (F := fun jz => RV (vsNA a0 a1 a2 b0 b1 b2 k n K2 gl) jz (valOf dsN b jz) wx) hd 10 (by kernel_rfl))
                      have h62 := val_at (t := 62) rfl (show valOf dsN b 13 = .pointer (some ⟨gl, k * 6, none⟩) from dep (F := fun jz => RV (vsNA a0 a1 a2 b0 b1 b2 k n K2 gl) jz (valOf dsN b jz) wx) hd 13 (by kernel_rfl))
                      have hS2 := hS
                      obtain ⟨c0, c1, c2, c3, c4, c5, d0, d1, d2, d3, d4, d5, ce, hSH⟩ := hS2
                      exact stq_read hi ((wanted_at (g := 10) (t := 59) (bb := false) (c := false) rfl rfl hg).trans rfl) rfl h62 c0 c1 c2 c3 c4 c5 (hK _ _ hS rfl (fun _ _ h => h))
                    · intro hi b wx hF hS hd K hK
                      have hg := val_at (t := 59) rfl (show valOf dsN b 10 = .bool false from dep (F := fun jz => RV (vsNA a0 a1 a2 b0 b1 b2 k n K2 gl) jz (valOf dsN b jz) wx) hd 10 (by kernel_rfl))
                      have h3 : b.tmps[3]?.getD undef = .slice (some ⟨gl, 0, none⟩) 4 4 := hF.at (t := 3) rfl rfl
                      exact stq_move hi ((wanted_at (g := 10) (t := 59) (bb := false) (c := false) rfl rfl hg).trans rfl) rfl h3  (hK _ _ hS rfl (fun _ _ h => h))
                    · intro hi b wx hF hS hd K hK
                      have hg := val_at (t := 59) rfl (show valOf dsN b 10 = .bool false from dep (F := fun jz => RV (vsNA a0 a1 a2 b0 b1 b2 k n K2 gl) jz (valOf dsN b jz) wx) hd 10 (by kernel_rfl))
                      have h5 : b.tmps[5]?.getD undef = .int .i64 (n : Int) := hF.at (t := 5) rfl rfl
                      exact stq_move hi ((wanted_at (g := 10) (t := 59) (bb := false) (c := false) rfl rfl hg).trans rfl) rfl h5  (hK _ _ hS rfl (fun _ _ h => h))
                    · intro hi b wx hF hS hd K hK
                      have hg := val_at (t := 59) rfl (show valOf dsN b 10 = .bool false from dep (F := fun jz => RV (vsNA a0 a1 a2 b0 b1 b2 k n K2 gl) jz (valOf dsN b jz) wx) hd 10 (by kernel_rfl))
                      have h64 := val_at (t := 64) rfl (show valOf dsN b 15 = .slice (some ⟨gl, 0, none⟩) 4 4 from dep (F := fun jz => RV (vsNA a0 a1 a2 b0 b1 b2 k n K2 gl) jz (valOf dsN b jz) wx) hd 15 (by kernel_rfl))
                      have h65 := val_at (t := 65) rfl (show valOf dsN b 16 = .int .i64 (n : Int) from dep (F := fun jz => RV (vsNA a0 a1 a2 b0 b1 b2 k n K2 gl) jz (valOf dsN b jz) wx) hd 16 (by kernel_rfl))
                      exact stq_node hi ((wanted_at (g := 10) (t := 59) (bb := false) (c := false) rfl rfl hg).trans rfl) rfl h64 h65 hn4 (hK _ _ hS rfl (fun _ _ h => h))
                    · intro hi b wx hF hS hd K hK
                      have hg := val_at (t := 59) rfl (show valOf dsN b 10 = .bool false from dep (F := fun jz => RV (vsNA a0 a1 a2 b0 b1 b2 k n K2 gl) jz (valOf dsN b jz) wx) hd 10 (by kernel_rfl))
                      have h66 := val_at (t := 66) rfl (show valOf dsN b 17 = .pointer (some ⟨gl, n * 6, none⟩) from dep (F := fun jz => RV (vsNA a0 a1 a2 b0 b1 b2 k n K2 gl) jz (valOf dsN b jz) wx) hd 17 (by kernel_rfl))
                      have hS2 := hS
                      obtain ⟨c0, c1, c2, c3, c4, c5, d0, d1, d2, d3, d4, d5, ce, hSH⟩ := hS2
                      exact stq_read hi ((wanted_at (g := 10) (t := 59) (bb := false) (c := false) rfl rfl hg).trans rfl) rfl h66 d0 d1 d2 d3 d4 d5 (hK _ _ hS rfl (fun _ _ h => h))
                    · intro hi b wx hF hS hd K hK
                      have hg := val_at (t := 59) rfl (show valOf dsN b 10 = .bool false from dep (F := fun jz => RV (vsNA a0 a1 a2 b0 b1 b2 k n K2 gl) jz (valOf dsN b jz) wx) hd 10 (by kernel_rfl))
                      have h63 := val_at (t := 63) rfl (show valOf dsN b 14 = .agg #[.int .i64 a0, .int .i64 a1, .int .u64 a2, .string ⟨#[]⟩, .slice none 0 0, .slice none 0 0] from dep (F := fun jz => RV (vsNA a0 a1 a2 b0 b1 b2 k n K2 gl) jz (valOf dsN b jz) wx) hd 14 (by kernel_rfl))
                      have h67 := val_at (t := 67) rfl (show valOf dsN b 18 = .agg #[.int .i64 b0, .int .i64 b1, .int .u64 b2, .string ⟨#[]⟩, .slice none 0 0, .slice none 0 0] from dep (F := fun jz => RV (vsNA a0 a1 a2 b0 b1 b2 k n K2 gl) jz (valOf dsN b jz) wx) hd 18 (by kernel_rfl))
                      have hS2 := hS
                      obtain ⟨c0, c1, c2, c3, c4, c5, d0, d1, d2, d3, d4, d5, ce, hSH⟩ := hS2
                      refine stp_callg (enters_of Tryd.func7 (by kernel_rfl) rfl) hi ((wanted_at (g := 10) (t := 59) (bb := false) (c := false) rfl rfl hg).trans rfl) rfl (args := #[.agg #[.int .i64 a0, .int .i64 a1, .int .u64 a2, .string ⟨#[]⟩, .slice none 0 0, .slice none 0 0], .agg #[.int .i64 b0, .int .i64 b1, .int .u64 b2, .string ⟨#[]⟩, .slice none 0 0, .slice none 0 0]]) (by simp [Act.eval, h63, h67]) (HLK.out wx hSH) ?_
                      rintro e w' ⟨rfl, hb⟩
                      exact ⟨_, rfl, hK _ _ (hkp hS hb) rfl (fun _ _ h => h)⟩
                    · intro hi b wx hF hS hd K hK
                      have hg := val_at (t := 59) rfl (show valOf dsN b 10 = .bool false from dep (F := fun jz => RV (vsNA a0 a1 a2 b0 b1 b2 k n K2 gl) jz (valOf dsN b jz) wx) hd 10 (by kernel_rfl))
                      have h4 : b.tmps[4]?.getD undef = .int .i64 (k : Int) := hF.at (t := 4) rfl rfl
                      exact stq_move hi ((wanted_at (g := 10) (t := 59) (bb := false) (c := false) rfl rfl hg).trans rfl) rfl h4  (hK _ _ hS rfl (fun _ _ h => h))
                    · intro hi b wx hF hS hd K hK
                      have hg := val_at (t := 59) rfl (show valOf dsN b 10 = .bool false from dep (F := fun jz => RV (vsNA a0 a1 a2 b0 b1 b2 k n K2 gl) jz (valOf dsN b jz) wx) hd 10 (by kernel_rfl))
                      have h69 := val_at (t := 69) rfl (show valOf dsN b 20 = .int .i64 (k : Int) from dep (F := fun jz => RV (vsNA a0 a1 a2 b0 b1 b2 k n K2 gl) jz (valOf dsN b jz) wx) hd 20 (by kernel_rfl))
                      exact stq_half hi ((wanted_at (g := 10) (t := 59) (bb := false) (c := false) rfl rfl hg).trans rfl) rfl h69 hK2 (by omega) (hK _ _ hS rfl (fun _ _ h => h))
                    · intro hi b wx hF hS hd K hK
                      have hg := val_at (t := 59) rfl (show valOf dsN b 10 = .bool false from dep (F := fun jz => RV (vsNA a0 a1 a2 b0 b1 b2 k n K2 gl) jz (valOf dsN b jz) wx) hd 10 (by kernel_rfl))
                      have h5 : b.tmps[5]?.getD undef = .int .i64 (n : Int) := hF.at (t := 5) rfl rfl
                      exact stq_move hi ((wanted_at (g := 10) (t := 59) (bb := false) (c := false) rfl rfl hg).trans rfl) rfl h5  (hK _ _ hS rfl (fun _ _ h => h))
                    · intro hi b wx hF hS hd K hK
                      have hg := val_at (t := 59) rfl (show valOf dsN b 10 = .bool false from dep (F := fun jz => RV (vsNA a0 a1 a2 b0 b1 b2 k n K2 gl) jz (valOf dsN b jz) wx) hd 10 (by kernel_rfl))
                      have h71 := val_at (t := 71) rfl (show valOf dsN b 22 = .int .i64 (n : Int) from dep (F := fun jz => RV (vsNA a0 a1 a2 b0 b1 b2 k n K2 gl) jz (valOf dsN b jz) wx) hd 22 (by kernel_rfl))
                      exact stq_half hi ((wanted_at (g := 10) (t := 59) (bb := false) (c := false) rfl rfl hg).trans rfl) rfl h71 hN2 (by omega) (hK _ _ hS rfl (fun _ _ h => h))
                    · intro hi b wx hF hS hd K hK
                      have hg := val_at (t := 59) rfl (show valOf dsN b 10 = .bool false from dep (F := fun jz => RV (vsNA a0 a1 a2 b0 b1 b2 k n K2 gl) jz (valOf dsN b jz) wx) hd 10 (by kernel_rfl))
                      have h70 := val_at (t := 70) rfl (show valOf dsN b 21 = .int .i64 (K2 : Int) from dep (F := fun jz => RV (vsNA a0 a1 a2 b0 b1 b2 k n K2 gl) jz (valOf dsN b jz) wx) hd 21 (by kernel_rfl))
                      have h72 := val_at (t := 72) rfl (show valOf dsN b 23 = .int .i64 (K2 : Int) from dep (F := fun jz => RV (vsNA a0 a1 a2 b0 b1 b2 k n K2 gl) jz (valOf dsN b jz) wx) hd 23 (by kernel_rfl))
                      exact stq_eqi hi ((wanted_at (g := 10) (t := 59) (bb := false) (c := false) rfl rfl hg).trans rfl) rfl h70 h72 hee (hK _ _ hS rfl (fun _ _ h => h))
                    · intro hi b wx hF hS hd K hK
                      have hg := val_at (t := 59) rfl (show valOf dsN b 10 = .bool false from dep (F := fun jz => RV (vsNA a0 a1 a2 b0 b1 b2 k n K2 gl) jz (valOf dsN b jz) wx) hd 10 (by kernel_rfl))
                      have h73 := val_at (t := 73) rfl (show valOf dsN b 24 = .bool true from dep (F := fun jz => RV (vsNA a0 a1 a2 b0 b1 b2 k n K2 gl) jz (valOf dsN b jz) wx) hd 24 (by kernel_rfl))
                      exact stq_move hi ((wanted_at (g := 10) (t := 59) (bb := false) (c := false) rfl rfl hg).trans rfl) rfl h73  (hK _ _ hS rfl (fun _ _ h => h))
                    · intro hi b wx hF hS hd K hK
                      have hg := val_at (t := 74) rfl (show valOf dsN b 25 = .bool true from dep (F := fun jz => RV (vsNA a0 a1 a2 b0 b1 b2 k n K2 gl) jz (valOf dsN b jz) wx) hd 25 (by kernel_rfl))
                      exact wpOp_skip hi ((wanted_at (g := 25) (t := 74) (bb := false) (c := true) rfl rfl hg).trans rfl) (hK _ _ hS rfl (fun _ _ h => h))
                    · intro hi b wx hF hS hd K hK
                      have hg := val_at (t := 74) rfl (show valOf dsN b 25 = .bool true from dep (F := fun jz => RV (vsNA a0 a1 a2 b0 b1 b2 k n K2 gl) jz (valOf dsN b jz) wx) hd 25 (by kernel_rfl))
                      exact wpOp_skip hi ((wanted_at (g := 25) (t := 74) (bb := false) (c := true) rfl rfl hg).trans rfl) (hK _ _ hS rfl (fun _ _ h => h))
                    · intro hi b wx hF hS hd K hK
                      have hg := val_at (t := 74) rfl (show valOf dsN b 25 = .bool true from dep (F := fun jz => RV (vsNA a0 a1 a2 b0 b1 b2 k n K2 gl) jz (valOf dsN b jz) wx) hd 25 (by kernel_rfl))
                      exact wpOp_skip hi ((wanted_at (g := 25) (t := 74) (bb := false) (c := true) rfl rfl hg).trans rfl) (hK _ _ hS rfl (fun _ _ h => h))
                    · intro hi b wx hF hS hd K hK
                      have hg := val_at (t := 74) rfl (show valOf dsN b 25 = .bool true from dep (F := fun jz => RV (vsNA a0 a1 a2 b0 b1 b2 k n K2 gl) jz (valOf dsN b jz) wx) hd 25 (by kernel_rfl))
                      exact wpOp_skip hi ((wanted_at (g := 25) (t := 74) (bb := false) (c := true) rfl rfl hg).trans rfl) (hK _ _ hS rfl (fun _ _ h => h))
                    · intro hi b wx hF hS hd K hK
                      have hg := val_at (t := 74) rfl (show valOf dsN b 25 = .bool true from dep (F := fun jz => RV (vsNA a0 a1 a2 b0 b1 b2 k n K2 gl) jz (valOf dsN b jz) wx) hd 25 (by kernel_rfl))
                      exact wpOp_skip hi ((wanted_at (g := 25) (t := 74) (bb := false) (c := true) rfl rfl hg).trans rfl) (hK _ _ hS rfl (fun _ _ h => h))
                    · intro hi b wx hF hS hd K hK
                      have hg := val_at (t := 59) rfl (show valOf dsN b 10 = .bool false from dep (F := fun jz => RV (vsNA a0 a1 a2 b0 b1 b2 k n K2 gl) jz (valOf dsN b jz) wx) hd 10 (by kernel_rfl))
                      have h74 := val_at (t := 74) rfl (show valOf dsN b 25 = .bool true from dep (F := fun jz => RV (vsNA a0 a1 a2 b0 b1 b2 k n K2 gl) jz (valOf dsN b jz) wx) hd 25 (by kernel_rfl))
                      have h79 := val_at (t := 79) rfl (show valOf dsN b 30 = undef from dep (F := fun jz => RV (vsNA a0 a1 a2 b0 b1 b2 k n K2 gl) jz (valOf dsN b jz) wx) hd 30 (by kernel_rfl))
                      exact stq_pick hi ((wanted_at (g := 10) (t := 59) (bb := false) (c := false) rfl rfl hg).trans rfl) rfl h74 h79 (r := .bool true) rfl (hK _ _ hS rfl (fun _ _ h => h))
                    · intro hi b wx hF hS hd K hK
                      have hg := val_at (t := 59) rfl (show valOf dsN b 10 = .bool false from dep (F := fun jz => RV (vsNA a0 a1 a2 b0 b1 b2 k n K2 gl) jz (valOf dsN b jz) wx) hd 10 (by kernel_rfl))
                      have h68 := val_at (t := 68) rfl (show valOf dsN b 19 = .bool true from dep (F := fun jz => RV (vsNA a0 a1 a2 b0 b1 b2 k n K2 gl) jz (valOf dsN b jz) wx) hd 19 (by kernel_rfl))
                      have h80 := val_at (t := 80) rfl (show valOf dsN b 31 = .bool true from dep (F := fun jz => RV (vsNA a0 a1 a2 b0 b1 b2 k n K2 gl) jz (valOf dsN b jz) wx) hd 31 (by kernel_rfl))
                      exact stq_neb hi ((wanted_at (g := 10) (t := 59) (bb := false) (c := false) rfl rfl hg).trans rfl) rfl h68 h80  (hK _ _ hS rfl (fun _ _ h => h))
                    · intro hi b wx hF hS hd K hK
                      have h59 := val_at (t := 59) rfl (show valOf dsN b 10 = .bool false from dep (F := fun jz => RV (vsNA a0 a1 a2 b0 b1 b2 k n K2 gl) jz (valOf dsN b jz) wx) hd 10 (by kernel_rfl))
                      have h81 := val_at (t := 81) rfl (show valOf dsN b 32 = .bool false from dep (F := fun jz => RV (vsNA a0 a1 a2 b0 b1 b2 k n K2 gl) jz (valOf dsN b jz) wx) hd 32 (by kernel_rfl))
                      exact stq_pick hi (by simp [Region.wanted]) rfl h59 h81 (r := .bool false) rfl (hK _ _ hS rfl (fun _ _ h => h))
                  case fin =>
                    intro b w3 hF hS hR
                    have hb := hF.lit (by decide) (lt_all (n := 138) (by decide))
                    obtain ⟨f, hf⟩ : ∃ f, valOf dsN b = f := ⟨_, rfl⟩
                    rw [hf] at hb hR
                    have hv : f 33 = .bool false := hR 33 (by decide)
                    obtain ⟨-, -, -, -, -, -, -, -, -, -, -, -, -, HS3⟩ := hS
                    subst hb
                    simp only [putAll, dsN, Nat.reduceAdd, List.setIfInBounds_toArray, List.set_cons_zero, List.set_cons_succ, hv]
                    clear hR hF hf hv
                    go_wp2_with fail
                    go_roundw
                    case rel => exact ⟨n + 1, by omega, by go_num, Lib.hid (tr HN.out HS3.out)⟩
                    case measure => simp [intOf]; omega
                · have hee : ((K2 : Int) == (N2 : Int)) = false := by simp; omega
                  cases hlx : decide (x < 9223372036854775808) with
                  | true =>
                    have hal : al9 x k n = true := by unfold al9; rw [hlx]; simp
                    rw [hal] at HLK
                    clear hal
                    go_upto_region 12 with fail
                    refine wp_region_vals dsN (fun X => X.cell? ⟨gl, k * 6, none⟩ = some (.int .i64 a0) ∧ X.cell? ⟨gl, k * 6 + 1, none⟩ = some (.int .i64 a1) ∧ X.cell? ⟨gl, k * 6 + 2, none⟩ = some (.int .u64 a2) ∧ X.cell? ⟨gl, k * 6 + 3, none⟩ = some (.string ⟨#[]⟩) ∧ X.cell? ⟨gl, k * 6 + 4, none⟩ = some (.slice none 0 0) ∧ X.cell? ⟨gl, k * 6 + 5, none⟩ = some (.slice none 0 0) ∧ X.cell? ⟨gl, n * 6, none⟩ = some (.int .i64 b0) ∧ X.cell? ⟨gl, n * 6 + 1, none⟩ = some (.int .i64 b1) ∧ X.cell? ⟨gl, n * 6 + 2, none⟩ = some (.int .u64 b2) ∧ X.cell? ⟨gl, n * 6 + 3, none⟩ = some (.string ⟨#[]⟩) ∧ X.cell? ⟨gl, n * 6 + 4, none⟩ = some (.slice none 0 0) ∧ X.cell? ⟨gl, n * 6 + 5, none⟩ = some (.slice none 0 0) ∧ X.cell? ⟨ge, i, none⟩ = some (.int .u64 x) ∧ Hid (Below wr.heap.size wr X)) (RV (vsNB a0 a1 a2 b0 b1 b2 x k n i K2 N2 gl ge)) (by kernel_rfl) (by kernel_rfl) (by kernel_rfl) (by decide) (lt_all (n := 138) (by decide)) (hall _ HSd) ?step ?fin
                    case step =>
                      refine each_op ?_
                      refine ⟨?_, ?_, ?_, ?_, ?_, ?_, ?_, ?_, ?_, ?_, ?_, ?_, ?_, ?_, ?_, ?_, ?_, ?_, ?_, ?_, ?_, ?_, ?_, ?_, ?_, ?_, ?_, ?_, ?_, ?_, ?_, ?_, ?_, ?_, trivial⟩
                      · intro hi b wx hF hS hd K hK
                        have h3 : b.tmps[3]?.getD undef = .slice (some ⟨gl, 0, none⟩) 4 4 := hF.at (t := 3) rfl rfl
                        exact stq_move hi (by simp [Region.wanted]) rfl h3  (hK _ _ hS rfl (fun _ _ h => h))
                      · intro hi b wx hF hS hd K hK
                        have h4 : b.tmps[4]?.getD undef = .int .i64 (k : Int) := hF.at (t := 4) rfl rfl
                        exact stq_move hi (by simp [Region.wanted]) rfl h4  (hK _ _ hS rfl (fun _ _ h => h))
                      · intro hi b wx hF hS hd K hK
                        have h49 := val_at (t := 49) rfl (show valOf dsN b 0 = .slice (some ⟨gl, 0, none⟩) 4 4 from dep (F := fun jz => RV (vsNB a0 a1 a2 b0 b1 b2 x k n i K2 N2 gl ge) jz (valOf dsN b jz) wx) hd 0 (by kernel_rfl))
                        have h50 := val_at (t := 50) rfl (show valOf dsN b 1 = .int .i64 (k : Int) from dep (F := fun jz => RV (vsNB a0 a1 a2 b0 b1 b2 x k n i K2 N2 gl ge) jz (valOf dsN b jz) wx) hd 1 (by kernel_rfl))
                        exact stq_node hi (by simp [Region.wanted]) rfl h49 h50 hk4 (hK _ _ hS rfl (fun _ _ h => h))
                      · intro hi b wx hF hS hd K hK
                        have h51 := val_at (t := 51) rfl (show valOf dsN b 2 = .pointer (some ⟨gl, k * 6, none⟩) from dep (F := fun jz => RV (vsNB a0 a1 a2 b0 b1 b2 x k n i K2 N2 gl ge) jz (valOf dsN b jz) wx) hd 2 (by kernel_rfl))
                        have hS2 := hS
                        obtain ⟨c0, c1, c2, c3, c4, c5, d0, d1, d2, d3, d4, d5, ce, hSH⟩ := hS2
                        exact stq_read hi (by simp [Region.wanted]) rfl h51 c0 c1 c2 c3 c4 c5 (hK _ _ hS rfl (fun _ _ h => h))
                      · intro hi b wx hF hS hd K hK
                        have h3 : b.tmps[3]?.getD undef = .slice (some ⟨gl, 0, none⟩) 4 4 := hF.at (t := 3) rfl rfl
                        exact stq_move hi (by simp [Region.wanted]) rfl h3  (hK _ _ hS rfl (fun _ _ h => h))
                      · intro hi b wx hF hS hd K hK
                        have h5 : b.tmps[5]?.getD undef = .int .i64 (n : Int) := hF.at (t := 5) rfl rfl
                        exact stq_move hi (by simp [Region.wanted]) rfl h5  (hK _ _ hS rfl (fun _ _ h => h))
                      · intro hi b wx hF hS hd K hK
                        have h53 := val_at (t := 53) rfl (show valOf dsN b 4 = .slice (some ⟨gl, 0, none⟩) 4 4 from dep (F := fun jz => RV (vsNB a0 a1 a2 b0 b1 b2 x k n i K2 N2 gl ge) jz (valOf dsN b jz) wx) hd 4 (by kernel_rfl))
                        have h54 := val_at (t := 54) rfl (show valOf dsN b 5 = .int .i64 (n : Int) from dep (F := fun jz => RV (vsNB a0 a1 a2 b0 b1 b2 x k n i K2 N2 gl ge) jz (valOf dsN b jz) wx) hd 5 (by kernel_rfl))
                        exact stq_node hi (by simp [Region.wanted]) rfl h53 h54 hn4 (hK _ _ hS rfl (fun _ _ h => h))
                      · intro hi b wx hF hS hd K hK
                        have h55 := val_at (t := 55) rfl (show valOf dsN b 6 = .pointer (some ⟨gl, n * 6, none⟩) from dep (F := fun jz => RV (vsNB a0 a1 a2 b0 b1 b2 x k n i K2 N2 gl ge) jz (valOf dsN b jz) wx) hd 6 (by kernel_rfl))
                        have hS2 := hS
                        obtain ⟨c0, c1, c2, c3, c4, c5, d0, d1, d2, d3, d4, d5, ce, hSH⟩ := hS2
                        exact stq_read hi (by simp [Region.wanted]) rfl h55 d0 d1 d2 d3 d4 d5 (hK _ _ hS rfl (fun _ _ h => h))
                      · intro hi b wx hF hS hd K hK
                        have h52 := val_at (t := 52) rfl (show valOf dsN b 3 = .agg #[.int .i64 a0, .int .i64 a1, .int .u64 a2, .string ⟨#[]⟩, .slice none 0 0, .slice none 0 0] from dep (F := fun jz => RV (vsNB a0 a1 a2 b0 b1 b2 x k n i K2 N2 gl ge) jz (valOf dsN b jz) wx) hd 3 (by kernel_rfl))
                        have h56 := val_at (t := 56) rfl (show valOf dsN b 7 = .agg #[.int .i64 b0, .int .i64 b1, .int .u64 b2, .string ⟨#[]⟩, .slice none 0 0, .slice none 0 0] from dep (F := fun jz => RV (vsNB a0 a1 a2 b0 b1 b2 x k n i K2 N2 gl ge) jz (valOf dsN b jz) wx) hd 7 (by kernel_rfl))
                        have hS2 := hS
                        obtain ⟨c0, c1, c2, c3, c4, c5, d0, d1, d2, d3, d4, d5, ce, hSH⟩ := hS2
                        refine stp_callg (enters_of Tryd.func6 (by kernel_rfl) rfl) hi (by simp [Region.wanted]) rfl (args := #[.agg #[.int .i64 a0, .int .i64 a1, .int .u64 a2, .string ⟨#[]⟩, .slice none 0 0, .slice none 0 0], .agg #[.int .i64 b0, .int .i64 b1, .int .u64 b2, .string ⟨#[]⟩, .slice none 0 0, .slice none 0 0]]) (by simp [Act.eval, h52, h56]) (HNA.out wx hSH) ?_
                        rintro e w' ⟨rfl, hb⟩
                        exact ⟨_, rfl, hK _ _ (hkp hS hb) rfl (fun _ _ h => h)⟩
                      · intro hi b wx hF hS hd K hK
                        have h57 := val_at (t := 57) rfl (show valOf dsN b 8 = .bool true from dep (F := fun jz => RV (vsNB a0 a1 a2 b0 b1 b2 x k n i K2 N2 gl ge) jz (valOf dsN b jz) wx) hd 8 (by kernel_rfl))
                        exact stq_not hi (by simp [Region.wanted]) rfl h57  (hK _ _ hS rfl (fun _ _ h => h))
                      · intro hi b wx hF hS hd K hK
                        have h58 := val_at (t := 58) rfl (show valOf dsN b 9 = .bool false from dep (F := fun jz => RV (vsNB a0 a1 a2 b0 b1 b2 x k n i K2 N2 gl ge) jz (valOf dsN b jz) wx) hd 9 (by kernel_rfl))
                        exact stq_move hi (by simp [Region.wanted]) rfl h58  (hK _ _ hS rfl (fun _ _ h => h))
                      · intro hi b wx hF hS hd K hK
                        have hg := val_at (t := 59) rfl (show valOf dsN b 10 = .bool false from dep (F := fun jz => RV (vsNB a0 a1 a2 b0 b1 b2 x k n i K2 N2 gl ge) jz (valOf dsN b jz) wx) hd 10 (by kernel_rfl))
                        have h3 : b.tmps[3]?.getD undef = .slice (some ⟨gl, 0, none⟩) 4 4 := hF.at (t := 3) rfl rfl
                        exact stq_move hi ((wanted_at (g := 10) (t := 59) (bb := false) (c := false) rfl rfl hg).trans rfl) rfl h3  (hK _ _ hS rfl (fun _ _ h => h))
                      · intro hi b wx hF hS hd K hK
                        have hg := val_at (t := 59) rfl (show valOf dsN b 10 = .bool false from dep (F := fun jz => RV (vsNB a0 a1 a2 b0 b1 b2 x k n i K2 N2 gl ge) jz (valOf dsN b jz) wx) hd 10 (by kernel_rfl))
                        have h4 : b.tmps[4]?.getD undef = .int .i64 (k : Int) := hF.at (t := 4) rfl rfl
                        exact stq_move hi ((wanted_at (g := 10) (t := 59) (bb := false) (c := false) rfl rfl hg).trans rfl) rfl h4  (hK _ _ hS rfl (fun _ _ h => h))
                      · intro hi b wx hF hS hd K hK
                        have hg := val_at (t := 59) rfl (show valOf dsN b 10 = .bool false from dep (F := fun jz => RV (vsNB a0 a1 a2 b0 b1 b2 x k n i K2 N2 gl ge) jz (valOf dsN b jz) wx) hd 10 (by kernel_rfl))
                        have h60 := val_at (t := 60) rfl (show valOf dsN b 11 = .slice (some ⟨gl, 0, none⟩) 4 4 from dep (F := fun jz => RV (vsNB a0 a1 a2 b0 b1 b2 x k n i K2 N2 gl ge) jz (valOf dsN b jz) wx) hd 11 (by kernel_rfl))
                        have h61 := val_at (t := 61) rfl (show valOf dsN b 12 = .int .i64 (k : Int) from dep (F := fun jz => RV (vsNB a0 a1 a2 b0 b1 b2 x k n i K2 N2 gl ge) jz (valOf dsN b jz) wx) hd 12 (by kernel_rfl))
                        exact stq_node hi ((wanted_at (g := 10) (t := 59) (bb := false) (c := false) rfl rfl hg).trans rfl) rfl h60 h61 hk4 (hK _ _ hS rfl (fun _ _ h => h))
                      · intro hi b wx hF hS hd K hK
                        have hg := val_at (t := 59) rfl (show valOf dsN b 10 = .bool false from dep (F := fun jz => RV (vsNB a0 a1 a2 b0 b1 b2 x k n i K2 N2 gl ge) jz (valOf dsN b jz) wx) hd 10 (by kernel_rfl))
                        have h62 := val_at (t := 62) rfl (show valOf dsN b 13 = .pointer (some ⟨gl, k * 6, none⟩) from dep (F := fun jz => RV (vsNB a0 a1 a2 b0 b1 b2 x k n i K2 N2 gl ge) jz (valOf dsN b jz) wx) hd 13 (by kernel_rfl))
                        have hS2 := hS
                        obtain ⟨c0, c1, c2, c3, c4, c5, d0, d1, d2, d3, d4, d5, ce, hSH⟩ := hS2
                        exact stq_read hi ((wanted_at (g := 10) (t := 59) (bb := false) (c := false) rfl rfl hg).trans rfl) rfl h62 c0 c1 c2 c3 c4 c5 (hK _ _ hS rfl (fun _ _ h => h))
                      · intro hi b wx hF hS hd K hK
                        have hg := val_at (t := 59) rfl (show valOf dsN b 10 = .bool false from dep (F := fun jz => RV (vsNB a0 a1 a2 b0 b1 b2 x k n i K2 N2 gl ge) jz (valOf dsN b jz) wx) hd 10 (by kernel_rfl))
                        have h3 : b.tmps[3]?.getD undef = .slice (some ⟨gl, 0, none⟩) 4 4 := hF.at (t := 3) rfl rfl
                        exact stq_move hi ((wanted_at (g := 10) (t := 59) (bb := false) (c := false) rfl rfl hg).trans rfl) rfl h3  (hK _ _ hS rfl (fun _ _ h => h))
                      · intro hi b wx hF hS hd K hK
                        have hg := val_at (t := 59) rfl (show valOf dsN b 10 = .bool false from dep (F := fun jz => RV (vsNB a0 a1 a2 b0 b1 b2 x k n i K2 N2 gl ge) jz (valOf dsN b jz) wx) hd 10 (by kernel_rfl))
                        have h5 : b.tmps[5]?.getD undef = .int .i64 (n : Int) := hF.at (t := 5) rfl rfl
                        exact stq_move hi ((wanted_at (g := 10) (t := 59) (bb := false) (c := false) rfl rfl hg).trans rfl) rfl h5  (hK _ _ hS rfl (fun _ _ h => h))
                      · intro hi b wx hF hS hd K hK
                        have hg := val_at (t := 59) rfl (show valOf dsN b 10 = .bool false from dep (F := fun jz => RV (vsNB a0 a1 a2 b0 b1 b2 x k n i K2 N2 gl ge) jz (valOf dsN b jz) wx) hd 10 (by kernel_rfl))
                        have h64 := val_at (t := 64) rfl (show valOf dsN b 15 = .slice (some ⟨gl, 0, none⟩) 4 4 from dep (F := fun jz => RV (vsNB a0 a1 a2 b0 b1 b2 x k n i K2 N2 gl ge) jz (valOf dsN b jz) wx) hd 15 (by kernel_rfl))
                        have h65 := val_at (t := 65) rfl (show valOf dsN b 16 = .int .i64 (n : Int) from dep (F := fun jz => RV (vsNB a0 a1 a2 b0 b1 b2 x k n i K2 N2 gl ge) jz (valOf dsN b jz) wx) hd 16 (by kernel_rfl))
                        exact stq_node hi ((wanted_at (g := 10) (t := 59) (bb := false) (c := false) rfl rfl hg).trans rfl) rfl h64 h65 hn4 (hK _ _ hS rfl (fun _ _ h => h))
                      · intro hi b wx hF hS hd K hK
                        have hg := val_at (t := 59) rfl (show valOf dsN b 10 = .bool false from dep (F := fun jz => RV (vsNB a0 a1 a2 b0 b1 b2 x k n i K2 N2 gl ge) jz (valOf dsN b jz) wx) hd 10 (by kernel_rfl))
                        have h66 := val_at (t := 66) rfl (show valOf dsN b 17 = .pointer (some ⟨gl, n * 6, none⟩) from dep (F := fun jz => RV (vsNB a0 a1 a2 b0 b1 b2 x k n i K2 N2 gl ge) jz (valOf dsN b jz) wx) hd 17 (by kernel_rfl))
                        have hS2 := hS
                        obtain ⟨c0, c1, c2, c3, c4, c5, d0, d1, d2, d3, d4, d5, ce, hSH⟩ := hS2
                        exact stq_read hi ((wanted_at (g := 10) (t := 59) (bb := false) (c := false) rfl rfl hg).trans rfl) rfl h66 d0 d1 d2 d3 d4 d5 (hK _ _ hS rfl (fun _ _ h => h))
                      · intro hi b wx hF hS hd K hK
                        have hg := val_at (t := 59) rfl (show valOf dsN b 10 = .bool false from dep (F := fun jz => RV (vsNB a0 a1 a2 b0 b1 b2 x k n i K2 N2 gl ge) jz (valOf dsN b jz) wx) hd 10 (by kernel_rfl))
                        have h63 := val_at (t := 63) rfl (show valOf dsN b 14 = .agg #[.int .i64 a0, .int .i64 a1, .int .u64 a2, .string ⟨#[]⟩, .slice none 0 0, .slice none 0 0] from dep (F := fun jz => RV (vsNB a0 a1 a2 b0 b1 b2 x k n i K2 N2 gl ge) jz (valOf dsN b jz) wx) hd 14 (by kernel_rfl))
                        have h67 := val_at (t := 67) rfl (show valOf dsN b 18 = .agg #[.int .i64 b0, .int .i64 b1, .int .u64 b2, .string ⟨#[]⟩, .slice none 0 0, .slice none 0 0] from dep (F := fun jz => RV (vsNB a0 a1 a2 b0 b1 b2 x k n i K2 N2 gl ge) jz (valOf dsN b jz) wx) hd 18 (by kernel_rfl))
                        have hS2 := hS
                        obtain ⟨c0, c1, c2, c3, c4, c5, d0, d1, d2, d3, d4, d5, ce, hSH⟩ := hS2
                        refine stp_callg (enters_of Tryd.func7 (by kernel_rfl) rfl) hi ((wanted_at (g := 10) (t := 59) (bb := false) (c := false) rfl rfl hg).trans rfl) rfl (args := #[.agg #[.int .i64 a0, .int .i64 a1, .int .u64 a2, .string ⟨#[]⟩, .slice none 0 0, .slice none 0 0], .agg #[.int .i64 b0, .int .i64 b1, .int .u64 b2, .string ⟨#[]⟩, .slice none 0 0, .slice none 0 0]]) (by simp [Act.eval, h63, h67]) (HLK.out wx hSH) ?_
                        rintro e w' ⟨rfl, hb⟩
                        exact ⟨_, rfl, hK _ _ (hkp hS hb) rfl (fun _ _ h => h)⟩
                      · intro hi b wx hF hS hd K hK
                        have hg := val_at (t := 59) rfl (show valOf dsN b 10 = .bool false from dep (F := fun jz => RV (vsNB a0 a1 a2 b0 b1 b2 x k n i K2 N2 gl ge) jz (valOf dsN b jz) wx) hd 10 (by kernel_rfl))
                        have h4 : b.tmps[4]?.getD undef = .int .i64 (k : Int) := hF.at (t := 4) rfl rfl
                        exact stq_move hi ((wanted_at (g := 10) (t := 59) (bb := false) (c := false) rfl rfl hg).trans rfl) rfl h4  (hK _ _ hS rfl (fun _ _ h => h))
                      · intro hi b wx hF hS hd K hK
                        have hg := val_at (t := 59) rfl (show valOf dsN b 10 = .bool false from dep (F := fun jz => RV (vsNB a0 a1 a2 b0 b1 b2 x k n i K2 N2 gl ge) jz (valOf dsN b jz) wx) hd 10 (by kernel_rfl))
                        have h69 := val_at (t := 69) rfl (show valOf dsN b 20 = .int .i64 (k : Int) from dep (F := fun jz => RV (vsNB a0 a1 a2 b0 b1 b2 x k n i K2 N2 gl ge) jz (valOf dsN b jz) wx) hd 20 (by kernel_rfl))
                        exact stq_half hi ((wanted_at (g := 10) (t := 59) (bb := false) (c := false) rfl rfl hg).trans rfl) rfl h69 hK2 (by omega) (hK _ _ hS rfl (fun _ _ h => h))
                      · intro hi b wx hF hS hd K hK
                        have hg := val_at (t := 59) rfl (show valOf dsN b 10 = .bool false from dep (F := fun jz => RV (vsNB a0 a1 a2 b0 b1 b2 x k n i K2 N2 gl ge) jz (valOf dsN b jz) wx) hd 10 (by kernel_rfl))
                        have h5 : b.tmps[5]?.getD undef = .int .i64 (n : Int) := hF.at (t := 5) rfl rfl
                        exact stq_move hi ((wanted_at (g := 10) (t := 59) (bb := false) (c := false) rfl rfl hg).trans rfl) rfl h5  (hK _ _ hS rfl (fun _ _ h => h))
                      · intro hi b wx hF hS hd K hK
                        have hg := val_at (t := 59) rfl (show valOf dsN b 10 = .bool false from dep (F := fun jz => RV (vsNB a0 a1 a2 b0 b1 b2 x k n i K2 N2 gl ge) jz (valOf dsN b jz) wx) hd 10 (by kernel_rfl))
                        have h71 := val_at (t := 71) rfl (show valOf dsN b 22 = .int .i64 (n : Int) from dep (F := fun jz => RV (vsNB a0 a1 a2 b0 b1 b2 x k n i K2 N2 gl ge) jz (valOf dsN b jz) wx) hd 22 (by kernel_rfl))
                        exact stq_half hi ((wanted_at (g := 10) (t := 59) (bb := false) (c := false) rfl rfl hg).trans rfl) rfl h71 hN2 (by omega) (hK _ _ hS rfl (fun _ _ h => h))
                      · intro hi b wx hF hS hd K hK
                        have hg := val_at (t := 59) rfl (show valOf dsN b 10 = .bool false from dep (F := fun jz => RV (vsNB a0 a1 a2 b0 b1 b2 x k n i K2 N2 gl ge) jz (valOf dsN b jz) wx) hd 10 (by kernel_rfl))
                        have h70 := val_at (t := 70) rfl (show valOf dsN b 21 = .int .i64 (K2 : Int) from dep (F := fun jz => RV (vsNB a0 a1 a2 b0 b1 b2 x k n i K2 N2 gl ge) jz (valOf dsN b jz) wx) hd 21 (by kernel_rfl))
                        have h72 := val_at (t := 72) rfl (show valOf dsN b 23 = .int .i64 (N2 : Int) from dep (F := fun jz => RV (vsNB a0 a1 a2 b0 b1 b2 x k n i K2 N2 gl ge) jz (valOf dsN b jz) wx) hd 23 (by kernel_rfl))
                        exact stq_eqi hi ((wanted_at (g := 10) (t := 59) (bb := false) (c := false) rfl rfl hg).trans rfl) rfl h70 h72 hee (hK _ _ hS rfl (fun _ _ h => h))
                      · intro hi b wx hF hS hd K hK
                        have hg := val_at (t := 59) rfl (show valOf dsN b 10 = .bool false from dep (F := fun jz => RV (vsNB a0 a1 a2 b0 b1 b2 x k n i K2 N2 gl ge) jz (valOf dsN b jz) wx) hd 10 (by kernel_rfl))
                        have h73 := val_at (t := 73) rfl (show valOf dsN b 24 = .bool false from dep (F := fun jz => RV (vsNB a0 a1 a2 b0 b1 b2 x k n i K2 N2 gl ge) jz (valOf dsN b jz) wx) hd 24 (by kernel_rfl))
                        exact stq_move hi ((wanted_at (g := 10) (t := 59) (bb := false) (c := false) rfl rfl hg).trans rfl) rfl h73  (hK _ _ hS rfl (fun _ _ h => h))
                      · intro hi b wx hF hS hd K hK
                        have hg := val_at (t := 74) rfl (show valOf dsN b 25 = .bool false from dep (F := fun jz => RV (vsNB a0 a1 a2 b0 b1 b2 x k n i K2 N2 gl ge) jz (valOf dsN b jz) wx) hd 25 (by kernel_rfl))
                        have h1 : b.tmps[1]?.getD undef = .slice (some ⟨ge, 0, none⟩) 8 8 := hF.at (t := 1) rfl rfl
                        exact stq_move hi ((wanted_at (g := 25) (t := 74) (bb := false) (c := false) rfl rfl hg).trans rfl) rfl h1  (hK _ _ hS rfl (fun _ _ h => h))
                      · intro hi b wx hF hS hd K hK
                        have hg := val_at (t := 74) rfl (show valOf dsN b 25 = .bool false from dep (F := fun jz => RV (vsNB a0 a1 a2 b0 b1 b2 x k n i K2 N2 gl ge) jz (valOf dsN b jz) wx) hd 25 (by kernel_rfl))
                        have h2 : b.tmps[2]?.getD undef = .int .i64 (i : Int) := hF.at (t := 2) rfl rfl
                        exact stq_move hi ((wanted_at (g := 25) (t := 74) (bb := false) (c := false) rfl rfl hg).trans rfl) rfl h2  (hK _ _ hS rfl (fun _ _ h => h))
                      · intro hi b wx hF hS hd K hK
                        have hg := val_at (t := 74) rfl (show valOf dsN b 25 = .bool false from dep (F := fun jz => RV (vsNB a0 a1 a2 b0 b1 b2 x k n i K2 N2 gl ge) jz (valOf dsN b jz) wx) hd 25 (by kernel_rfl))
                        have h75 := val_at (t := 75) rfl (show valOf dsN b 26 = .slice (some ⟨ge, 0, none⟩) 8 8 from dep (F := fun jz => RV (vsNB a0 a1 a2 b0 b1 b2 x k n i K2 N2 gl ge) jz (valOf dsN b jz) wx) hd 26 (by kernel_rfl))
                        have h76 := val_at (t := 76) rfl (show valOf dsN b 27 = .int .i64 (i : Int) from dep (F := fun jz => RV (vsNB a0 a1 a2 b0 b1 b2 x k n i K2 N2 gl ge) jz (valOf dsN b jz) wx) hd 27 (by kernel_rfl))
                        exact stq_u64 hi ((wanted_at (g := 25) (t := 74) (bb := false) (c := false) rfl rfl hg).trans rfl) rfl h75 h76 hi8 (hK _ _ hS rfl (fun _ _ h => h))
                      · intro hi b wx hF hS hd K hK
                        have hg := val_at (t := 74) rfl (show valOf dsN b 25 = .bool false from dep (F := fun jz => RV (vsNB a0 a1 a2 b0 b1 b2 x k n i K2 N2 gl ge) jz (valOf dsN b jz) wx) hd 25 (by kernel_rfl))
                        have h77 := val_at (t := 77) rfl (show valOf dsN b 28 = .pointer (some ⟨ge, i, none⟩) from dep (F := fun jz => RV (vsNB a0 a1 a2 b0 b1 b2 x k n i K2 N2 gl ge) jz (valOf dsN b jz) wx) hd 28 (by kernel_rfl))
                        have hS2 := hS
                        obtain ⟨c0, c1, c2, c3, c4, c5, d0, d1, d2, d3, d4, d5, ce, hSH⟩ := hS2
                        exact stq_read1 hi ((wanted_at (g := 25) (t := 74) (bb := false) (c := false) rfl rfl hg).trans rfl) rfl h77 ce (hK _ _ hS rfl (fun _ _ h => h))
                      · intro hi b wx hF hS hd K hK
                        have hg := val_at (t := 74) rfl (show valOf dsN b 25 = .bool false from dep (F := fun jz => RV (vsNB a0 a1 a2 b0 b1 b2 x k n i K2 N2 gl ge) jz (valOf dsN b jz) wx) hd 25 (by kernel_rfl))
                        have h78 := val_at (t := 78) rfl (show valOf dsN b 29 = .int .u64 x from dep (F := fun jz => RV (vsNB a0 a1 a2 b0 b1 b2 x k n i K2 N2 gl ge) jz (valOf dsN b jz) wx) hd 29 (by kernel_rfl))
                        exact stq_ltu hi ((wanted_at (g := 25) (t := 74) (bb := false) (c := false) rfl rfl hg).trans rfl) rfl h78 hlx (hK _ _ hS rfl (fun _ _ h => h))
                      · intro hi b wx hF hS hd K hK
                        have hg := val_at (t := 59) rfl (show valOf dsN b 10 = .bool false from dep (F := fun jz => RV (vsNB a0 a1 a2 b0 b1 b2 x k n i K2 N2 gl ge) jz (valOf dsN b jz) wx) hd 10 (by kernel_rfl))
                        have h74 := val_at (t := 74) rfl (show valOf dsN b 25 = .bool false from dep (F := fun jz => RV (vsNB a0 a1 a2 b0 b1 b2 x k n i K2 N2 gl ge) jz (valOf dsN b jz) wx) hd 25 (by kernel_rfl))
                        have h79 := val_at (t := 79) rfl (show valOf dsN b 30 = .bool true from dep (F := fun jz => RV (vsNB a0 a1 a2 b0 b1 b2 x k n i K2 N2 gl ge) jz (valOf dsN b jz) wx) hd 30 (by kernel_rfl))
                        exact stq_pick hi ((wanted_at (g := 10) (t := 59) (bb := false) (c := false) rfl rfl hg).trans rfl) rfl h74 h79 (r := .bool true) rfl (hK _ _ hS rfl (fun _ _ h => h))
                      · intro hi b wx hF hS hd K hK
                        have hg := val_at (t := 59) rfl (show valOf dsN b 10 = .bool false from dep (F := fun jz => RV (vsNB a0 a1 a2 b0 b1 b2 x k n i K2 N2 gl ge) jz (valOf dsN b jz) wx) hd 10 (by kernel_rfl))
                        have h68 := val_at (t := 68) rfl (show valOf dsN b 19 = .bool true from dep (F := fun jz => RV (vsNB a0 a1 a2 b0 b1 b2 x k n i K2 N2 gl ge) jz (valOf dsN b jz) wx) hd 19 (by kernel_rfl))
                        have h80 := val_at (t := 80) rfl (show valOf dsN b 31 = .bool true from dep (F := fun jz => RV (vsNB a0 a1 a2 b0 b1 b2 x k n i K2 N2 gl ge) jz (valOf dsN b jz) wx) hd 31 (by kernel_rfl))
                        exact stq_neb hi ((wanted_at (g := 10) (t := 59) (bb := false) (c := false) rfl rfl hg).trans rfl) rfl h68 h80  (hK _ _ hS rfl (fun _ _ h => h))
                      · intro hi b wx hF hS hd K hK
                        have h59 := val_at (t := 59) rfl (show valOf dsN b 10 = .bool false from dep (F := fun jz => RV (vsNB a0 a1 a2 b0 b1 b2 x k n i K2 N2 gl ge) jz (valOf dsN b jz) wx) hd 10 (by kernel_rfl))
                        have h81 := val_at (t := 81) rfl (show valOf dsN b 32 = .bool false from dep (F := fun jz => RV (vsNB a0 a1 a2 b0 b1 b2 x k n i K2 N2 gl ge) jz (valOf dsN b jz) wx) hd 32 (by kernel_rfl))
                        exact stq_pick hi (by simp [Region.wanted]) rfl h59 h81 (r := .bool false) rfl (hK _ _ hS rfl (fun _ _ h => h))
                    case fin =>
                      intro b w3 hF hS hR
                      have hb := hF.lit (by decide) (lt_all (n := 138) (by decide))
                      obtain ⟨f, hf⟩ : ∃ f, valOf dsN b = f := ⟨_, rfl⟩
                      rw [hf] at hb hR
                      have hv : f 33 = .bool false := hR 33 (by decide)
                      obtain ⟨-, -, -, -, -, -, -, -, -, -, -, -, -, HS3⟩ := hS
                      subst hb
                      simp only [putAll, dsN, Nat.reduceAdd, List.setIfInBounds_toArray, List.set_cons_zero, List.set_cons_succ, hv]
                      clear hR hF hf hv
                      go_wp2_with fail
                      go_roundw
                      case rel => exact ⟨n + 1, by omega, by go_num, Lib.hid (tr HN.out HS3.out)⟩
                      case measure => simp [intOf]; omega
                  | false =>
                    have hal : al9 x k n = false := by unfold al9; rw [hlx, hK2, hN2]; simp [he]
                    rw [hal] at HLK
                    clear hal
                    go_upto_region 12 with fail
                    refine wp_region_vals dsN (fun X => X.cell? ⟨gl, k * 6, none⟩ = some (.int .i64 a0) ∧ X.cell? ⟨gl, k * 6 + 1, none⟩ = some (.int .i64 a1) ∧ X.cell? ⟨gl, k * 6 + 2, none⟩ = some (.int .u64 a2) ∧ X.cell? ⟨gl, k * 6 + 3, none⟩ = some (.string ⟨#[]⟩) ∧ X.cell? ⟨gl, k * 6 + 4, none⟩ = some (.slice none 0 0) ∧ X.cell? ⟨gl, k * 6 + 5, none⟩ = some (.slice none 0 0) ∧ X.cell? ⟨gl, n * 6, none⟩ = some (.int .i64 b0) ∧ X.cell? ⟨gl, n * 6 + 1, none⟩ = some (.int .i64 b1) ∧ X.cell? ⟨gl, n * 6 + 2, none⟩ = some (.int .u64 b2) ∧ X.cell? ⟨gl, n * 6 + 3, none⟩ = some (.string ⟨#[]⟩) ∧ X.cell? ⟨gl, n * 6 + 4, none⟩ = some (.slice none 0 0) ∧ X.cell? ⟨gl, n * 6 + 5, none⟩ = some (.slice none 0 0) ∧ X.cell? ⟨ge, i, none⟩ = some (.int .u64 x) ∧ Hid (Below wr.heap.size wr X)) (RV (vsNC a0 a1 a2 b0 b1 b2 x k n i K2 N2 gl ge)) (by kernel_rfl) (by kernel_rfl) (by kernel_rfl) (by decide) (lt_all (n := 138) (by decide)) (hall _ HSd) ?step ?fin
                    case step =>
                      refine each_op ?_
                      refine ⟨?_, ?_, ?_, ?_, ?_, ?_, ?_, ?_, ?_, ?_, ?_, ?_, ?_, ?_, ?_, ?_, ?_, ?_, ?_, ?_, ?_, ?_, ?_, ?_, ?_, ?_, ?_, ?_, ?_, ?_, ?_, ?_, ?_, ?_, trivial⟩
                      · intro hi b wx hF hS hd K hK
                        have h3 : b.tmps[3]?.getD undef = .slice (some ⟨gl, 0, none⟩) 4 4 := hF.at (t := 3) rfl rfl
                        exact stq_move hi (by simp [Region.wanted]) rfl h3  (hK _ _ hS rfl (fun _ _ h => h))
                      · intro hi b wx hF hS hd K hK
                        have h4 : b.tmps[4]?.getD undef = .int .i64 (k : Int) := hF.at (t := 4) rfl rfl
                        exact stq_move hi (by simp [Region.wanted]) rfl h4  (hK _ _ hS rfl (fun _ _ h => h))
                      · intro hi b wx hF hS hd K hK
                        have h49 := val_at (t := 49) rfl (show valOf dsN b 0 = .slice (some ⟨gl, 0, none⟩) 4 4 from dep (F := fun jz => RV (vsNC a0 a1 a2 b0 b1 b2 x k n i K2 N2 gl ge) jz (valOf dsN b jz) wx) hd 0 (by kernel_rfl))
                        have h50 := val_at (t := 50) rfl (show valOf dsN b 1 = .int .i64 (k : Int) from dep (F := fun jz => RV (vsNC a0 a1 a2 b0 b1 b2 x k n i K2 N2 gl ge) jz (valOf dsN b jz) wx) hd 1 (by kernel_rfl))
                        exact stq_node hi (by simp [Region.wanted]) rfl h49 h50 hk4 (hK _ _ hS rfl (fun _ _ h => h))
                      · intro hi b wx hF hS hd K hK
                        have h51 := val_at (t := 51) rfl (show valOf dsN b 2 = .pointer (some ⟨gl, k * 6, none⟩) from dep (F := fun jz => RV (vsNC a0 a1 a2 b0 b1 b2 x k n i K2 N2 gl ge) jz (valOf dsN b jz) wx) hd 2 (by kernel_rfl))
                        have hS2 := hS
                        obtain ⟨c0, c1, c2, c3, c4, c5, d0, d1, d2, d3, d4, d5, ce, hSH⟩ := hS2
                        exact stq_read hi (by simp [Region.wanted]) rfl h51 c0 c1 c2 c3 c4 c5 (hK _ _ hS rfl (fun _ _ h => h))
                      · intro hi b wx hF hS hd K hK
                        have h3 : b.tmps[3]?.getD undef = .slice (some ⟨gl, 0, none⟩) 4 4 := hF.at (t := 3) rfl rfl
                        exact stq_move hi (by simp [Region.wanted]) rfl h3  (hK _ _ hS rfl (fun _ _ h => h))
                      · intro hi b wx hF hS hd K hK
                        have h5 : b.tmps[5]?.getD undef = .int .i64 (n : Int) := hF.at (t := 5) rfl rfl
                        exact stq_move hi (by simp [Region.wanted]) rfl h5  (hK _ _ hS rfl (fun _ _ h => h))
                      · intro hi b wx hF hS hd K hK
                        have h53 := val_at (t := 53) rfl (show valOf dsN b 4 = .slice (some ⟨gl, 0, none⟩) 4 4 from dep (F := fun jz => RV (vsNC a0 a1 a2 b0 b1 b2 x k n i K2 N2 gl ge) jz (valOf dsN b jz) wx) hd 4 (by kernel_rfl))
                        have h54 := val_at (t := 54) rfl (show valOf dsN b 5 = .int .i64 (n : Int) from dep (F := fun jz => RV (vsNC a0 a1 a2 b0 b1 b2 x k n i K2 N2 gl ge) jz (valOf dsN b jz) wx) hd 5 (by kernel_rfl))
                        exact stq_node hi (by simp [Region.wanted]) rfl h53 h54 hn4 (hK _ _ hS rfl (fun _ _ h => h))
                      · intro hi b wx hF hS hd K hK
                        have h55 := val_at (t := 55) rfl (show valOf dsN b 6 = .pointer (some ⟨gl, n * 6, none⟩) from dep (F := fun jz => RV (vsNC a0 a1 a2 b0 b1 b2 x k n i K2 N2 gl ge) jz (valOf dsN b jz) wx) hd 6 (by kernel_rfl))
                        have hS2 := hS
                        obtain ⟨c0, c1, c2, c3, c4, c5, d0, d1, d2, d3, d4, d5, ce, hSH⟩ := hS2
                        exact stq_read hi (by simp [Region.wanted]) rfl h55 d0 d1 d2 d3 d4 d5 (hK _ _ hS rfl (fun _ _ h => h))
                      · intro hi b wx hF hS hd K hK
                        have h52 := val_at (t := 52) rfl (show valOf dsN b 3 = .agg #[.int .i64 a0, .int .i64 a1, .int .u64 a2, .string ⟨#[]⟩, .slice none 0 0, .slice none 0 0] from dep (F := fun jz => RV (vsNC a0 a1 a2 b0 b1 b2 x k n i K2 N2 gl ge) jz (valOf dsN b jz) wx) hd 3 (by kernel_rfl))
                        have h56 := val_at (t := 56) rfl (show valOf dsN b 7 = .agg #[.int .i64 b0, .int .i64 b1, .int .u64 b2, .string ⟨#[]⟩, .slice none 0 0, .slice none 0 0] from dep (F := fun jz => RV (vsNC a0 a1 a2 b0 b1 b2 x k n i K2 N2 gl ge) jz (valOf dsN b jz) wx) hd 7 (by kernel_rfl))
                        have hS2 := hS
                        obtain ⟨c0, c1, c2, c3, c4, c5, d0, d1, d2, d3, d4, d5, ce, hSH⟩ := hS2
                        refine stp_callg (enters_of Tryd.func6 (by kernel_rfl) rfl) hi (by simp [Region.wanted]) rfl (args := #[.agg #[.int .i64 a0, .int .i64 a1, .int .u64 a2, .string ⟨#[]⟩, .slice none 0 0, .slice none 0 0], .agg #[.int .i64 b0, .int .i64 b1, .int .u64 b2, .string ⟨#[]⟩, .slice none 0 0, .slice none 0 0]]) (by simp [Act.eval, h52, h56]) (HNA.out wx hSH) ?_
                        rintro e w' ⟨rfl, hb⟩
                        exact ⟨_, rfl, hK _ _ (hkp hS hb) rfl (fun _ _ h => h)⟩
                      · intro hi b wx hF hS hd K hK
                        have h57 := val_at (t := 57) rfl (show valOf dsN b 8 = .bool true from dep (F := fun jz => RV (vsNC a0 a1 a2 b0 b1 b2 x k n i K2 N2 gl ge) jz (valOf dsN b jz) wx) hd 8 (by kernel_rfl))
                        exact stq_not hi (by simp [Region.wanted]) rfl h57  (hK _ _ hS rfl (fun _ _ h => h))
                      · intro hi b wx hF hS hd K hK
                        have h58 := val_at (t := 58) rfl (show valOf dsN b 9 = .bool false from dep (F := fun jz => RV (vsNC a0 a1 a2 b0 b1 b2 x k n i K2 N2 gl ge) jz (valOf dsN b jz) wx) hd 9 (by kernel_rfl))
                        exact stq_move hi (by simp [Region.wanted]) rfl h58  (hK _ _ hS rfl (fun _ _ h => h))
                      · intro hi b wx hF hS hd K hK
                        have hg := val_at (t := 59) rfl (show valOf dsN b 10 = .bool false from dep (F := fun jz => RV (vsNC a0 a1 a2 b0 b1 b2 x k n i K2 N2 gl ge) jz (valOf dsN b jz) wx) hd 10 (by kernel_rfl))
                        have h3 : b.tmps[3]?.getD undef = .slice (some ⟨gl, 0, none⟩) 4 4 := hF.at (t := 3) rfl rfl
                        exact stq_move hi ((wanted_at (g := 10) (t := 59) (bb := false) (c := false) rfl rfl hg).trans rfl) rfl h3  (hK _ _ hS rfl (fun _ _ h => h))
                      · intro hi b wx hF hS hd K hK
                        have hg := val_at (t := 59) rfl (show valOf dsN b 10 = .bool false from dep (F := fun jz => RV (vsNC a0 a1 a2 b0 b1 b2 x k n i K2 N2 gl ge) jz (valOf dsN b jz) wx) hd 10 (by kernel_rfl))
                        have h4 : b.tmps[4]?.getD undef = .int .i64 (k : Int) := hF.at (t := 4) rfl rfl
                        exact stq_move hi ((wanted_at (g := 10) (t := 59) (bb := false) (c := false) rfl rfl hg).trans rfl) rfl h4  (hK _ _ hS rfl (fun _ _ h => h))
                      · intro hi b wx hF hS hd K hK
                        have hg := val_at (t := 59) rfl (show valOf dsN b 10 = .bool false from dep (F := fun jz => RV (vsNC a0 a1 a2 b0 b1 b2 x k n i K2 N2 gl ge) jz (valOf dsN b jz) wx) hd 10 (by kernel_rfl))
                        have h60 := val_at (t := 60) rfl (show valOf dsN b 11 = .slice (some ⟨gl, 0, none⟩) 4 4 from dep (F := fun jz => RV (vsNC a0 a1 a2 b0 b1 b2 x k n i K2 N2 gl ge) jz (valOf dsN b jz) wx) hd 11 (by kernel_rfl))
                        have h61 := val_at (t := 61) rfl (show valOf dsN b 12 = .int .i64 (k : Int) from dep (F := fun jz => RV (vsNC a0 a1 a2 b0 b1 b2 x k n i K2 N2 gl ge) jz (valOf dsN b jz) wx) hd 12 (by kernel_rfl))
                        exact stq_node hi ((wanted_at (g := 10) (t := 59) (bb := false) (c := false) rfl rfl hg).trans rfl) rfl h60 h61 hk4 (hK _ _ hS rfl (fun _ _ h => h))
                      · intro hi b wx hF hS hd K hK
                        have hg := val_at (t := 59) rfl (show valOf dsN b 10 = .bool false from dep (F := fun jz => RV (vsNC a0 a1 a2 b0 b1 b2 x k n i K2 N2 gl ge) jz (valOf dsN b jz) wx) hd 10 (by kernel_rfl))
                        have h62 := val_at (t := 62) rfl (show valOf dsN b 13 = .pointer (some ⟨gl, k * 6, none⟩) from dep (F := fun jz => RV (vsNC a0 a1 a2 b0 b1 b2 x k n i K2 N2 gl ge) jz (valOf dsN b jz) wx) hd 13 (by kernel_rfl))
                        have hS2 := hS
                        obtain ⟨c0, c1, c2, c3, c4, c5, d0, d1, d2, d3, d4, d5, ce, hSH⟩ := hS2
                        exact stq_read hi ((wanted_at (g := 10) (t := 59) (bb := false) (c := false) rfl rfl hg).trans rfl) rfl h62 c0 c1 c2 c3 c4 c5 (hK _ _ hS rfl (fun _ _ h => h))
                      · intro hi b wx hF hS hd K hK
                        have hg := val_at (t := 59) rfl (show valOf dsN b 10 = .bool false from dep (F := fun jz => RV (vsNC a0 a1 a2 b0 b1 b2 x k n i K2 N2 gl ge) jz (valOf dsN b jz) wx) hd 10 (by kernel_rfl))
                        have h3 : b.tmps[3]?.getD undef = .slice (some ⟨gl, 0, none⟩) 4 4 := hF.at (t := 3) rfl rfl
                        exact stq_move hi ((wanted_at (g := 10) (t := 59) (bb := false) (c := false) rfl rfl hg).trans rfl) rfl h3  (hK _ _ hS rfl (fun _ _ h => h))
                      · intro hi b wx hF hS hd K hK
                        have hg := val_at (t := 59) rfl (show valOf dsN b 10 = .bool false from dep (F := fun jz => RV (vsNC a0 a1 a2 b0 b1 b2 x k n i K2 N2 gl ge) jz (valOf dsN b jz) wx) hd 10 (by kernel_rfl))
                        have h5 : b.tmps[5]?.getD undef = .int .i64 (n : Int) := hF.at (t := 5) rfl rfl
                        exact stq_move hi ((wanted_at (g := 10) (t := 59) (bb := false) (c := false) rfl rfl hg).trans rfl) rfl h5  (hK _ _ hS rfl (fun _ _ h => h))
                      · intro hi b wx hF hS hd K hK
                        have hg := val_at (t := 59) rfl (show valOf dsN b 10 = .bool false from dep (F := fun jz => RV (vsNC a0 a1 a2 b0 b1 b2 x k n i K2 N2 gl ge) jz (valOf dsN b jz) wx) hd 10 (by kernel_rfl))
                        have h64 := val_at (t := 64) rfl (show valOf dsN b 15 = .slice (some ⟨gl, 0, none⟩) 4 4 from dep (F := fun jz => RV (vsNC a0 a1 a2 b0 b1 b2 x k n i K2 N2 gl ge) jz (valOf dsN b jz) wx) hd 15 (by kernel_rfl))
                        have h65 := val_at (t := 65) rfl (show valOf dsN b 16 = .int .i64 (n : Int) from dep (F := fun jz => RV (vsNC a0 a1 a2 b0 b1 b2 x k n i K2 N2 gl ge) jz (valOf dsN b jz) wx) hd 16 (by kernel_rfl))
                        exact stq_node hi ((wanted_at (g := 10) (t := 59) (bb := false) (c := false) rfl rfl hg).trans rfl) rfl h64 h65 hn4 (hK _ _ hS rfl (fun _ _ h => h))
                      · intro hi b wx hF hS hd K hK
                        have hg := val_at (t := 59) rfl (show valOf dsN b 10 = .bool false from dep (F := fun jz => RV (vsNC a0 a1 a2 b0 b1 b2 x k n i K2 N2 gl ge) jz (valOf dsN b jz) wx) hd 10 (by kernel_rfl))
                        have h66 := val_at (t := 66) rfl (show valOf dsN b 17 = .pointer (some ⟨gl, n * 6, none⟩) from dep (F := fun jz => RV (vsNC a0 a1 a2 b0 b1 b2 x k n i K2 N2 gl ge) jz (valOf dsN b jz) wx) hd 17 (by kernel_rfl))
                        have hS2 := hS
                        obtain ⟨c0, c1, c2, c3, c4, c5, d0, d1, d2, d3, d4, d5, ce, hSH⟩ := hS2
                        exact stq_read hi ((wanted_at (g := 10) (t := 59) (bb := false) (c := false) rfl rfl hg).trans rfl) rfl h66 d0 d1 d2 d3 d4 d5 (hK _ _ hS rfl (fun _ _ h => h))
                      · intro hi b wx hF hS hd K hK
                        have hg := val_at (t := 59) rfl (show valOf dsN b 10 = .bool false from dep (F := fun jz => RV (vsNC a0 a1 a2 b0 b1 b2 x k n i K2 N2 gl ge) jz (valOf dsN b jz) wx) hd 10 (by kernel_rfl))
                        have h63 := val_at (t := 63) rfl (show valOf dsN b 14 = .agg #[.int .i64 a0, .int .i64 a1, .int .u64 a2, .string ⟨#[]⟩, .slice none 0 0, .slice none 0 0] from dep (F := fun jz => RV (vsNC a0 a1 a2 b0 b1 b2 x k n i K2 N2 gl ge) jz (valOf dsN b jz) wx) hd 14 (by kernel_rfl))
                        have h67 := val_at (t := 67) rfl (show valOf dsN b 18 = .agg #[.int .i64 b0, .int .i64 b1, .int .u64 b2, .string ⟨#[]⟩, .slice none 0 0, .slice none 0 0] from dep (F := fun jz => RV (vsNC a0 a1 a2 b0 b1 b2 x k n i K2 N2 gl ge) jz (valOf dsN b jz) wx) hd 18 (by kernel_rfl))
                        have hS2 := hS
                        obtain ⟨c0, c1, c2, c3, c4, c5, d0, d1, d2, d3, d4, d5, ce, hSH⟩ := hS2
                        refine stp_callg (enters_of Tryd.func7 (by kernel_rfl) rfl) hi ((wanted_at (g := 10) (t := 59) (bb := false) (c := false) rfl rfl hg).trans rfl) rfl (args := #[.agg #[.int .i64 a0, .int .i64 a1, .int .u64 a2, .string ⟨#[]⟩, .slice none 0 0, .slice none 0 0], .agg #[.int .i64 b0, .int .i64 b1, .int .u64 b2, .string ⟨#[]⟩, .slice none 0 0, .slice none 0 0]]) (by simp [Act.eval, h63, h67]) (HLK.out wx hSH) ?_
                        rintro e w' ⟨rfl, hb⟩
                        exact ⟨_, rfl, hK _ _ (hkp hS hb) rfl (fun _ _ h => h)⟩
                      · intro hi b wx hF hS hd K hK
                        have hg := val_at (t := 59) rfl (show valOf dsN b 10 = .bool false from dep (F := fun jz => RV (vsNC a0 a1 a2 b0 b1 b2 x k n i K2 N2 gl ge) jz (valOf dsN b jz) wx) hd 10 (by kernel_rfl))
                        have h4 : b.tmps[4]?.getD undef = .int .i64 (k : Int) := hF.at (t := 4) rfl rfl
                        exact stq_move hi ((wanted_at (g := 10) (t := 59) (bb := false) (c := false) rfl rfl hg).trans rfl) rfl h4  (hK _ _ hS rfl (fun _ _ h => h))
                      · intro hi b wx hF hS hd K hK
                        have hg := val_at (t := 59) rfl (show valOf dsN b 10 = .bool false from dep (F := fun jz => RV (vsNC a0 a1 a2 b0 b1 b2 x k n i K2 N2 gl ge) jz (valOf dsN b jz) wx) hd 10 (by kernel_rfl))
                        have h69 := val_at (t := 69) rfl (show valOf dsN b 20 = .int .i64 (k : Int) from dep (F := fun jz => RV (vsNC a0 a1 a2 b0 b1 b2 x k n i K2 N2 gl ge) jz (valOf dsN b jz) wx) hd 20 (by kernel_rfl))
                        exact stq_half hi ((wanted_at (g := 10) (t := 59) (bb := false) (c := false) rfl rfl hg).trans rfl) rfl h69 hK2 (by omega) (hK _ _ hS rfl (fun _ _ h => h))
                      · intro hi b wx hF hS hd K hK
                        have hg := val_at (t := 59) rfl (show valOf dsN b 10 = .bool false from dep (F := fun jz => RV (vsNC a0 a1 a2 b0 b1 b2 x k n i K2 N2 gl ge) jz (valOf dsN b jz) wx) hd 10 (by kernel_rfl))
                        have h5 : b.tmps[5]?.getD undef = .int .i64 (n : Int) := hF.at (t := 5) rfl rfl
                        exact stq_move hi ((wanted_at (g := 10) (t := 59) (bb := false) (c := false) rfl rfl hg).trans rfl) rfl h5  (hK _ _ hS rfl (fun _ _ h => h))
                      · intro hi b wx hF hS hd K hK
                        have hg := val_at (t := 59) rfl (show valOf dsN b 10 = .bool false from dep (F := fun jz => RV (vsNC a0 a1 a2 b0 b1 b2 x k n i K2 N2 gl ge) jz (valOf dsN b jz) wx) hd 10 (by kernel_rfl))
                        have h71 := val_at (t := 71) rfl (show valOf dsN b 22 = .int .i64 (n : Int) from dep (F := fun jz => RV (vsNC a0 a1 a2 b0 b1 b2 x k n i K2 N2 gl ge) jz (valOf dsN b jz) wx) hd 22 (by kernel_rfl))
                        exact stq_half hi ((wanted_at (g := 10) (t := 59) (bb := false) (c := false) rfl rfl hg).trans rfl) rfl h71 hN2 (by omega) (hK _ _ hS rfl (fun _ _ h => h))
                      · intro hi b wx hF hS hd K hK
                        have hg := val_at (t := 59) rfl (show valOf dsN b 10 = .bool false from dep (F := fun jz => RV (vsNC a0 a1 a2 b0 b1 b2 x k n i K2 N2 gl ge) jz (valOf dsN b jz) wx) hd 10 (by kernel_rfl))
                        have h70 := val_at (t := 70) rfl (show valOf dsN b 21 = .int .i64 (K2 : Int) from dep (F := fun jz => RV (vsNC a0 a1 a2 b0 b1 b2 x k n i K2 N2 gl ge) jz (valOf dsN b jz) wx) hd 21 (by kernel_rfl))
                        have h72 := val_at (t := 72) rfl (show valOf dsN b 23 = .int .i64 (N2 : Int) from dep (F := fun jz => RV (vsNC a0 a1 a2 b0 b1 b2 x k n i K2 N2 gl ge) jz (valOf dsN b jz) wx) hd 23 (by kernel_rfl))
                        exact stq_eqi hi ((wanted_at (g := 10) (t := 59) (bb := false) (c := false) rfl rfl hg).trans rfl) rfl h70 h72 hee (hK _ _ hS rfl (fun _ _ h => h))
                      · intro hi b wx hF hS hd K hK
                        have hg := val_at (t := 59) rfl (show valOf dsN b 10 = .bool false from dep (F := fun jz => RV (vsNC a0 a1 a2 b0 b1 b2 x k n i K2 N2 gl ge) jz (valOf dsN b jz) wx) hd 10 (by kernel_rfl))
                        have h73 := val_at (t := 73) rfl (show valOf dsN b 24 = .bool false from dep (F := fun jz => RV (vsNC a0 a1 a2 b0 b1 b2 x k n i K2 N2 gl ge) jz (valOf dsN b jz) wx) hd 24 (by kernel_rfl))
                        exact stq_move hi ((wanted_at (g := 10) (t := 59) (bb := false) (c := false) rfl rfl hg).trans rfl) rfl h73  (hK _ _ hS rfl (fun _ _ h => h))
                      · intro hi b wx hF hS hd K hK
                        have hg := val_at (t := 74) rfl (show valOf dsN b 25 = .bool false from dep (F := fun jz => RV (vsNC a0 a1 a2 b0 b1 b2 x k n i K2 N2 gl ge) jz (valOf dsN b jz) wx) hd 25 (by kernel_rfl))
                        have h1 : b.tmps[1]?.getD undef = .slice (some ⟨ge, 0, none⟩) 8 8 := hF.at (t := 1) rfl rfl
                        exact stq_move hi ((wanted_at (g := 25) (t := 74) (bb := false) (c := false) rfl rfl hg).trans rfl) rfl h1  (hK _ _ hS rfl (fun _ _ h => h))
                      · intro hi b wx hF hS hd K hK
                        have hg := val_at (t := 74) rfl (show valOf dsN b 25 = .bool false from dep (F := fun jz => RV (vsNC a0 a1 a2 b0 b1 b2 x k n i K2 N2 gl ge) jz (valOf dsN b jz) wx) hd 25 (by kernel_rfl))
                        have h2 : b.tmps[2]?.getD undef = .int .i64 (i : Int) := hF.at (t := 2) rfl rfl
                        exact stq_move hi ((wanted_at (g := 25) (t := 74) (bb := false) (c := false) rfl rfl hg).trans rfl) rfl h2  (hK _ _ hS rfl (fun _ _ h => h))
                      · intro hi b wx hF hS hd K hK
                        have hg := val_at (t := 74) rfl (show valOf dsN b 25 = .bool false from dep (F := fun jz => RV (vsNC a0 a1 a2 b0 b1 b2 x k n i K2 N2 gl ge) jz (valOf dsN b jz) wx) hd 25 (by kernel_rfl))
                        have h75 := val_at (t := 75) rfl (show valOf dsN b 26 = .slice (some ⟨ge, 0, none⟩) 8 8 from dep (F := fun jz => RV (vsNC a0 a1 a2 b0 b1 b2 x k n i K2 N2 gl ge) jz (valOf dsN b jz) wx) hd 26 (by kernel_rfl))
                        have h76 := val_at (t := 76) rfl (show valOf dsN b 27 = .int .i64 (i : Int) from dep (F := fun jz => RV (vsNC a0 a1 a2 b0 b1 b2 x k n i K2 N2 gl ge) jz (valOf dsN b jz) wx) hd 27 (by kernel_rfl))
                        exact stq_u64 hi ((wanted_at (g := 25) (t := 74) (bb := false) (c := false) rfl rfl hg).trans rfl) rfl h75 h76 hi8 (hK _ _ hS rfl (fun _ _ h => h))
                      · intro hi b wx hF hS hd K hK
                        have hg := val_at (t := 74) rfl (show valOf dsN b 25 = .bool false from dep (F := fun jz => RV (vsNC a0 a1 a2 b0 b1 b2 x k n i K2 N2 gl ge) jz (valOf dsN b jz) wx) hd 25 (by kernel_rfl))
                        have h77 := val_at (t := 77) rfl (show valOf dsN b 28 = .pointer (some ⟨ge, i, none⟩) from dep (F := fun jz => RV (vsNC a0 a1 a2 b0 b1 b2 x k n i K2 N2 gl ge) jz (valOf dsN b jz) wx) hd 28 (by kernel_rfl))
                        have hS2 := hS
                        obtain ⟨c0, c1, c2, c3, c4, c5, d0, d1, d2, d3, d4, d5, ce, hSH⟩ := hS2
                        exact stq_read1 hi ((wanted_at (g := 25) (t := 74) (bb := false) (c := false) rfl rfl hg).trans rfl) rfl h77 ce (hK _ _ hS rfl (fun _ _ h => h))
                      · intro hi b wx hF hS hd K hK
                        have hg := val_at (t := 74) rfl (show valOf dsN b 25 = .bool false from dep (F := fun jz => RV (vsNC a0 a1 a2 b0 b1 b2 x k n i K2 N2 gl ge) jz (valOf dsN b jz) wx) hd 25 (by kernel_rfl))
                        have h78 := val_at (t := 78) rfl (show valOf dsN b 29 = .int .u64 x from dep (F := fun jz => RV (vsNC a0 a1 a2 b0 b1 b2 x k n i K2 N2 gl ge) jz (valOf dsN b jz) wx) hd 29 (by kernel_rfl))
                        exact stq_ltu hi ((wanted_at (g := 25) (t := 74) (bb := false) (c := false) rfl rfl hg).trans rfl) rfl h78 hlx (hK _ _ hS rfl (fun _ _ h => h))
                      · intro hi b wx hF hS hd K hK
                        have hg := val_at (t := 59) rfl (show valOf dsN b 10 = .bool false from dep (F := fun jz => RV (vsNC a0 a1 a2 b0 b1 b2 x k n i K2 N2 gl ge) jz (valOf dsN b jz) wx) hd 10 (by kernel_rfl))
                        have h74 := val_at (t := 74) rfl (show valOf dsN b 25 = .bool false from dep (F := fun jz => RV (vsNC a0 a1 a2 b0 b1 b2 x k n i K2 N2 gl ge) jz (valOf dsN b jz) wx) hd 25 (by kernel_rfl))
                        have h79 := val_at (t := 79) rfl (show valOf dsN b 30 = .bool false from dep (F := fun jz => RV (vsNC a0 a1 a2 b0 b1 b2 x k n i K2 N2 gl ge) jz (valOf dsN b jz) wx) hd 30 (by kernel_rfl))
                        exact stq_pick hi ((wanted_at (g := 10) (t := 59) (bb := false) (c := false) rfl rfl hg).trans rfl) rfl h74 h79 (r := .bool false) rfl (hK _ _ hS rfl (fun _ _ h => h))
                      · intro hi b wx hF hS hd K hK
                        have hg := val_at (t := 59) rfl (show valOf dsN b 10 = .bool false from dep (F := fun jz => RV (vsNC a0 a1 a2 b0 b1 b2 x k n i K2 N2 gl ge) jz (valOf dsN b jz) wx) hd 10 (by kernel_rfl))
                        have h68 := val_at (t := 68) rfl (show valOf dsN b 19 = .bool false from dep (F := fun jz => RV (vsNC a0 a1 a2 b0 b1 b2 x k n i K2 N2 gl ge) jz (valOf dsN b jz) wx) hd 19 (by kernel_rfl))
                        have h80 := val_at (t := 80) rfl (show valOf dsN b 31 = .bool false from dep (F := fun jz => RV (vsNC a0 a1 a2 b0 b1 b2 x k n i K2 N2 gl ge) jz (valOf dsN b jz) wx) hd 31 (by kernel_rfl))
                        exact stq_neb hi ((wanted_at (g := 10) (t := 59) (bb := false) (c := false) rfl rfl hg).trans rfl) rfl h68 h80  (hK _ _ hS rfl (fun _ _ h => h))
                      · intro hi b wx hF hS hd K hK
                        have h59 := val_at (t := 59) rfl (show valOf dsN b 10 = .bool false from dep (F := fun jz => RV (vsNC a0 a1 a2 b0 b1 b2 x k n i K2 N2 gl ge) jz (valOf dsN b jz) wx) hd 10 (by kernel_rfl))
                        have h81 := val_at (t := 81) rfl (show valOf dsN b 32 = .bool false from dep (F := fun jz => RV (vsNC a0 a1 a2 b0 b1 b2 x k n i K2 N2 gl ge) jz (valOf dsN b jz) wx) hd 32 (by kernel_rfl))
                        exact stq_pick hi (by simp [Region.wanted]) rfl h59 h81 (r := .bool false) rfl (hK _ _ hS rfl (fun _ _ h => h))
                    case fin =>
                      intro b w3 hF hS hR
                      have hb := hF.lit (by decide) (lt_all (n := 138) (by decide))
                      obtain ⟨f, hf⟩ : ∃ f, valOf dsN b = f := ⟨_, rfl⟩
                      rw [hf] at hb hR
                      have hv : f 33 = .bool false := hR 33 (by decide)
                      obtain ⟨-, -, -, -, -, -, -, -, -, -, -, -, -, HS3⟩ := hS
                      subst hb
                      simp only [putAll, dsN, Nat.reduceAdd, List.setIfInBounds_toArray, List.set_cons_zero, List.set_cons_succ, hv]
                      clear hR hF hf hv
                      go_wp2_with fail
                      go_roundw
                      case rel => exact ⟨n + 1, by omega, by go_num, Lib.hid (tr HN.out HS3.out)⟩
                      case measure => simp [intOf]; omega
              · obtain rfl : n = 4 := by omega
                have HWR : Hid (∀ X, Below wr.heap.size wr X → Below w.heap.size w X) := Lib.hid fun X h => (HWL.out.trans (HN.out.mono HWL.out.size)).trans (h.mono (Nat.le_trans HWL.out.size HN.out.size))
                have HND : Hid (∀ X, NdE X [.int .i64 (kdA k), .int .i64 (nnA y k), .int .u64 (uuA x k), .string ⟨#[]⟩, .slice none 0 0, .slice none 0 0]) := Lib.hid fun X => nde_four X HXB.out.1 HXB.out.2 hyb.1 hyb.2 k
                obtain ⟨z0, z1, z2, z3, z4, z5⟩ := HFX.out k hk4 wr HN.out
                obtain ⟨a0, ha0⟩ : ∃ a0, kdA k = a0 := ⟨_, rfl⟩
                obtain ⟨a1, ha1⟩ : ∃ a1, nnA y k = a1 := ⟨_, rfl⟩
                obtain ⟨a2, ha2⟩ : ∃ a2, uuA x k = a2 := ⟨_, rfl⟩
                rw [ha0, ha1, ha2] at HND
                rw [ha0] at z0
                rw [ha1] at z1
                rw [ha2] at z2
                clear ha0 ha1 ha2
                have T1 : Hid True := Lib.hid trivial
                have T2 : Hid True := Lib.hid trivial
                go_wp2_with (first
                  | (go_at_call 8; clear T1; (with_reducible refine (HFO.out wr _ (HWR.out _ (Below.refl _ _)) (HND.out wr)).mono ?_); rintro e v1 ⟨rfl, hb⟩; have HV1 := Lib.hid hb; clear hb)
                  | (go_at_call 9; (with_reducible refine (HLT.out _ _ _ _ _).mono ?_); rintro e v2 ⟨rfl, hb⟩; have HV2 : Hid (Below wr.heap.size wr v2) := Lib.hid (tr HV1.out hb); clear hb; have HVN : Hid (NdE v2 [.int .i64 10, .int .i64 0, .int .u64 0, .string ⟨#[]⟩, .slice none 0 0, .slice (some ⟨gl, 0, none⟩) 4 4]) := Lib.hid (nde_mk (rng_k (by omega) (by omega)) (by decide) (rdk_nil _) (HRN.out.below (HN.out.trans (HV2.out.mono HN.out.size)))))
                  | (go_at_call 8; clear T2; (with_reducible refine (HFO.out v2 _ (HWR.out _ HV2.out) HVN.out).mono ?_); rintro e v3 ⟨rfl, hb⟩; have HV3 : Hid (Below wr.heap.size wr v3) := Lib.hid (tr HV2.out hb); clear hb))
                go_roundw
                case rel => exact ⟨k + 1, by omega, by go_num, Lib.hid (tr HN.out HV3.out)⟩
                case measure => simp [intOf]; omega
          · obtain rfl : k = 4 := by omega
            go_wp2_with fail
            go_roundw
            case rel => exact ⟨i + 1, by omega, by go_num, Lib.hid (HIL.out.trans (HK.out.mono HIL.out.size))⟩
            case measure => simp [intOf]; omega
      · obtain rfl : i = 8 := by omega
        go_wp2_with fail
        go_meet
        exact Lib.hid (HB1.out.trans (HI.out.mono HB1.out.size))
  case rest =>
    go_wp2_with fail
    go_loopw [6] (fun v wr => ∃ c : Int, 0 ≤ c ∧ c ≤ 19 ∧ v = .int .i64 c ∧ Hid (Below wc.heap.size wc wr)) (fun v _ => (19 - intOf v).toNat)
    case atStart => exact ⟨0, by omega, by omega, rfl, Lib.hid (Below.refl _ _)⟩
    case round =>
      obtain ⟨c, hc0, hc1, rfl, HC⟩ := hrel
      by_cases hlt : c < 19
      · have HWR : Hid (∀ X, Below wr.heap.size wr X → Below w.heap.size w X) := Lib.hid fun X h => (hcut.out.trans (HC.out.mono hcut.out.size)).trans (h.mono (Nat.le_trans hcut.out.size HC.out.size))
        have HZ1 : Hid (∀ X, NdE X [.int .i64 c, .int .i64 0, .int .u64 0, .string ⟨#[]⟩, .slice none 0 0, .slice none 0 0]) := Lib.hid fun X => nde_leaf X (rng_k (by omega) (by omega)) (by decide)
        have HZ2 : Hid (∀ X, NdE X [.int .i64 c, .int .i64 0, .int .u64 0, .string ⟨#[97]⟩, .slice none 0 0, .slice none 0 0]) := Lib.hid fun X => nde_leaf X (rng_k (by omega) (by omega)) (by decide)
        have HRC : Hid (Rng c 0 0) := Lib.hid (rng_k (by omega) (by omega))
        have T1 : Hid True := Lib.hid trivial
        have T2 : Hid True := Lib.hid trivial
        have T3 : Hid True := Lib.hid trivial
        have T4 : Hid True := Lib.hid trivial
        have T5 : Hid True := Lib.hid trivial
        have T6 : Hid True := Lib.hid trivial
        have T7 : Hid True := Lib.hid trivial
        have T8 : Hid True := Lib.hid trivial
        have T9 : Hid True := Lib.hid trivial
        have T10 : Hid True := Lib.hid trivial
        have T11 : Hid True := Lib.hid trivial
        have T12 : Hid True := Lib.hid trivial
        go_wp2_with (first
          | (go_at_call 8; clear T1; (with_reducible refine (HFO.out wr _ (HWR.out _ (Below.refl _ _)) (HZ1.out wr)).mono ?_); rintro e v1 ⟨rfl, hb⟩; have HV1 := Lib.hid hb; clear hb)
          | (go_at_call 8; clear T2; (with_reducible refine (HFO.out v1 _ (HWR.out _ HV1.out) (HZ2.out v1)).mono ?_); rintro e v2 ⟨rfl, hb⟩; have HV2 : Hid (Below wr.heap.size wr v2) := Lib.hid (tr HV1.out hb); clear hb)
          | (go_at_call 5; clear T3; (with_reducible refine (HNU.out 1 v2).mono ?_); rintro e v3 ⟨rfl, hb⟩; have HV3 : Hid (Below wr.heap.size wr v3) := Lib.hid (tr HV2.out hb); clear hb)
          | (go_at_call 5; clear T4; (with_reducible refine (HNU.out 2 v3).mono ?_); rintro e v4 ⟨rfl, hb⟩; have HV4 : Hid (Below wr.heap.size wr v4) := Lib.hid (tr HV3.out hb); clear hb)
          | (go_at_call 9; clear T5; (with_reducible refine (HLT.out _ _ _ _ _).mono ?_); rintro e v5 ⟨rfl, hb⟩; have HN5 := Lib.hid (two_list HRC.out (num_leaf v4 1 (by omega) (by omega)) (num_leaf v4 2 (by omega) (by omega)) hb); have HV5 : Hid (Below wr.heap.size wr v5) := Lib.hid (tr HV4.out HN5.out.2); clear hb)
          | (go_at_call 8; clear T6; (with_reducible refine (HFO.out v5 _ (HWR.out _ HV5.out) HN5.out.1).mono ?_); rintro e v6 ⟨rfl, hb⟩; have HV6 : Hid (Below wr.heap.size wr v6) := Lib.hid (tr HV5.out hb); clear hb)
          | (go_at_call 4; clear T7; (with_reducible refine (HUN.out 1 v6).mono ?_); rintro e v7 ⟨rfl, hb⟩; have HV7 : Hid (Below wr.heap.size wr v7) := Lib.hid (tr HV6.out hb); clear hb)
          | (go_at_call 4; clear T8; (with_reducible refine (HUN.out 2 v7).mono ?_); rintro e v8 ⟨rfl, hb⟩; have HV8 : Hid (Below wr.heap.size wr v8) := Lib.hid (tr HV7.out hb); clear hb)
          | (go_at_call 9; clear T9; (with_reducible refine (HLT.out _ _ _ _ _).mono ?_); rintro e v9 ⟨rfl, hb⟩; have HN9 := Lib.hid (two_list HRC.out (uns_leaf v8 1 (by omega) (by omega)) (uns_leaf v8 2 (by omega) (by omega)) hb); have HV9 : Hid (Below wr.heap.size wr v9) := Lib.hid (tr HV8.out HN9.out.2); clear hb)
          | (go_at_call 8; clear T10; (with_reducible refine (HFO.out v9 _ (HWR.out _ HV9.out) HN9.out.1).mono ?_); rintro e va ⟨rfl, hb⟩; have HVA : Hid (Below wr.heap.size wr va) := Lib.hid (tr HV9.out hb); clear hb)
          | (go_at_call 9; clear T11; (with_reducible refine (HLT.out _ _ _ _ _).mono ?_); rintro e vb ⟨rfl, hb⟩; have HNB := Lib.hid (one_list (rng_k (k := 10) (by omega) (by omega)) (HZ1.out va) hb); have HVB : Hid (Below wr.heap.size wr vb) := Lib.hid (tr HVA.out HNB.out.2); clear hb)
          | (go_at_call 8; clear T12; (with_reducible refine (HFO.out vb _ (HWR.out _ HVB.out) HNB.out.1).mono ?_); rintro e vd ⟨rfl, hb⟩; have HVD : Hid (Below wr.heap.size wr vd) := Lib.hid (tr HVB.out hb); clear hb))
        go_roundw
        case rel => exact ⟨c + 1, by omega, by omega, by go_num, Lib.hid (tr HC.out HVD.out)⟩
        case measure => simp [intOf]; omega
      · obtain rfl : c = 19 := by omega
        go_wp2_with (go_at_call 10; (with_reducible refine (HWK.out _ (hcut.out.trans (HC.out.mono hcut.out.size))).mono ?_); rintro e w4 ⟨rfl, hb⟩; have HB4 := Lib.hid hb; clear hb)
        go_ret
        exact ⟨rfl, tr (hcut.out.trans (HC.out.mono hcut.out.size)) HB4.out⟩
end Go.Proofs.YtemkfpofmblblaaDoor
namespace Go.Proofs.YtemkfpofmblblaaDoor
open Go.RowKit Go.Sort

/-- A number's tree. -/
def nuT (k n u : Int) : T := .mk k n u ⟨#[]⟩ [] []
theorem chk_nu {k n u : Int} (h : (k = 4 ∨ k = 9) ∧ n = 0 ∨ (k = 3 ∨ k = 8) ∧ u = 0) : chk (nuT k n u) = 0 := by
  rw [chk_zero]
  refine ⟨⟨?_, trivial⟩, by unfold nuT dp dpL; decide, by unfold nuT sz szL; decide⟩
  have hs : suchT (.mk k n u ⟨#[]⟩ [] []) = true := by
    rcases h with ⟨rfl | rfl, rfl⟩ | ⟨rfl | rfl, rfl⟩ <;> simp [suchT, partK] <;> decide
  have h5 : ¬ (T.mk k n u ⟨#[]⟩ [] []).k = 5 := by
    show ¬ k = 5
    omega
  unfold ownE
  rw [if_neg (by rw [hs]; decide), if_neg (fun h => h5 h.1)]
  rfl
theorem nf_nu {x y : Int} : ∀ k, k < 4 → nfT (nuT (kdA k) (nnA y k) (uuA x k)) = if k < 2 then (if x ≤ 9223372036854775807 then .mk 3 x 0 eS [] [] else .mk 4 0 x eS [] []) else .mk 3 y 0 eS [] [] := by
  intro k hk
  rcases (show k = 0 ∨ k = 1 ∨ k = 2 ∨ k = 3 by omega) with rfl | rfl | rfl | rfl
  · exact nf_uint (.inl rfl)
  · exact nf_uint (.inr rfl)
  · exact (nf_else (by decide) (by decide) (by decide) (by decide)).trans rfl
  · exact nf_int
theorem chk_four (x y : Int) : ∀ k, k < 4 → chk (nuT (kdA k) (nnA y k) (uuA x k)) = 0 := by
  intro k hk
  rcases (show k = 0 ∨ k = 1 ∨ k = 2 ∨ k = 3 by omega) with rfl | rfl | rfl | rfl
  · exact chk_nu (.inl ⟨.inl rfl, rfl⟩)
  · exact chk_nu (.inl ⟨.inr rfl, rfl⟩)
  · exact chk_nu (.inr ⟨.inl rfl, rfl⟩)
  · exact chk_nu (.inr ⟨.inr rfl, rfl⟩)
theorem kdA_17 (k : Nat) : kdA k ≠ 17 := by unfold kdA; split <;> (try split) <;> (try split) <;> decide
theorem alk_four {x y : Int} (x0 : 0 ≤ x) (x1 : x ≤ 18446744073709551615) (hy : IntKind.i64.wrap x = y) (k n : Nat) (hk : k < 4) (hn : n < 4) :
    alk (nuT (kdA k) (nnA y k) (uuA x k)) (nuT (kdA n) (nnA y n) (uuA x n)) ↔ al9 x k n = true := by
  have e : IntKind.i64.wrap x = (x + 9223372036854775808) % 18446744073709551616 - 9223372036854775808 := IntKind.wrap_i64 x
  rw [← alk_iff (chk_four x y k hk) (chk_four x y n hn) (srt_leaf (kdA_17 k)) (srt_leaf (kdA_17 n))]
  show nfT (nuT _ _ _) = nfT (nuT _ _ _) ↔ _
  rw [nf_nu k hk, nf_nu n hn]
  unfold al9
  simp only [Bool.or_eq_true, decide_eq_true_eq]
  by_cases h1 : k < 2 <;> by_cases h2 : n < 2 <;> by_cases h3 : x ≤ 9223372036854775807 <;> simp only [h1, h2, h3, if_true, if_false, T.mk.injEq, and_true, true_and, true_iff] <;> omega
theorem okl_of (w : World) (hT : Tab w) : OKl w := by
  intro W x y k n hb x0 x1 hy hk hn
  have hyb : -9223372036854775808 ≤ y ∧ y ≤ 9223372036854775807 := by rw [← hy, IntKind.wrap_i64]; omega
  have hr : ∀ j, Rng (kdA j) (nnA y j) (uuA x j) := fun j => by
    have h0 : -9223372036854775808 ≤ kdA j ∧ kdA j ≤ 9223372036854775807 := by unfold kdA; split <;> (try split) <;> (try split) <;> omega
    have h1 : -9223372036854775808 ≤ nnA y j ∧ nnA y j ≤ 9223372036854775807 := by unfold nnA; split <;> omega
    have h2 : 0 ≤ uuA x j ∧ uuA x j ≤ 18446744073709551615 := by unfold uuA; split <;> omega
    exact ⟨h0.1, h0.2, h1.1, h1.2, h2.1, h2.2⟩
  refine (alike_any (nuT (kdA k) (nnA y k) (uuA x k)) (nuT (kdA n) (nnA y n) (uuA x n)) _ _ W (hT.keep hb) (qq_leaf _ _ _ _ (by decide)) (qq_leaf _ _ _ _ (by decide)) (nd_leaf W _ _ _ _ (hr k) (by decide)) (nd_leaf W _ _ _ _ (hr n) (by decide))).mono ?_
  rintro e w' ⟨⟨β, rfl, hβ⟩, h⟩
  rw [alk_four x0 x1 hy k n hk hn] at hβ
  have : β = al9 x k n := by cases β <;> cases h : al9 x k n <;> simp_all
  exact ⟨by rw [this], h⟩
end Go.Proofs.YtemkfpofmblblaaDoor
