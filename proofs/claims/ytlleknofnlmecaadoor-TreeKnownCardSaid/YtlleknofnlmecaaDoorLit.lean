/-
  What is proved here: nodes and rows of nodes that a law lays down by literals, as values that read as some node or some list of nodes; no condition but those that each fact states.
-/
import Derived.Test.YtlleknofnlmecaaDoorMake
namespace Go.Proofs.YtlleknofnlmecaaDoor
open Go.RowKit

/-- Six cells that read as some node. -/
def NdE (W : World) (cs : List Value) : Prop := ∃ t, Nd W t cs
/-- A value that reads as some list of m nodes. -/
def RdN (W : World) (v : Value) (m : Nat) : Prop := ∃ l A c, v = .slice A m c ∧ l.length = m ∧ m ≤ c ∧ c ≤ maxLen ∧ (0 < m → ∃ b off, A = some ⟨b, off, none⟩ ∧ b < W.heap.size ∧ NdL W b l off)
/-- A value that reads as some list of strings. -/
def RdK (W : World) (v : Value) : Prop := ∃ ks, RdS W v ks
theorem NdE.below {W W' : World} {cs : List Value} (h : NdE W cs) (hb : Below W.heap.size W W') : NdE W' cs := by
  obtain ⟨t, ht⟩ := h; exact ⟨t, ht.below hb⟩
theorem RdN.below {W W' : World} {v : Value} {m : Nat} (h : RdN W v m) (hb : Below W.heap.size W W') : RdN W' v m := by
  obtain ⟨l, A, c, e, h1, h2, h3, h4⟩ := h
  refine ⟨l, A, c, e, h1, h2, h3, fun hm => ?_⟩
  obtain ⟨b, off, e2, hlt, hl⟩ := h4 hm
  exact ⟨b, off, e2, Nat.lt_of_lt_of_le hlt hb.size, hl.below hb hlt⟩
theorem RdK.below {W W' : World} {v : Value} (h : RdK W v) (hb : Below W.heap.size W W') : RdK W' v := by
  obtain ⟨ks, hk⟩ := h; exact ⟨ks, hk.below hb⟩
theorem rdn_nil (W : World) : RdN W (.slice none 0 0) 0 := ⟨[], none, 0, rfl, rfl, Nat.le_refl _, Nat.zero_le _, fun h => absurd h (by omega)⟩
theorem rdk_nil (W : World) : RdK W (.slice none 0 0) := ⟨[], rds_nil W⟩
theorem nde_mk {W : World} {k n u : Int} {s : ByteArray} {kv lv : Value} {m : Nat} (hr : Rng k n u) (hs : s.size ≤ maxLen) (hk : RdK W kv) (hl : RdN W lv m) : NdE W [.int .i64 k, .int .i64 n, .int .u64 u, .string s, kv, lv] := by
  obtain ⟨ks, hks⟩ := hk
  obtain ⟨l, A, c, rfl, h1, h2, h3, h4⟩ := hl
  exact ⟨.mk k n u s ks l, hr, hs, kv, A, m, c, rfl, hks, h1, h2, h3, h4⟩
theorem nde_leaf (W : World) {k n u : Int} {s : ByteArray} (hr : Rng k n u) (hs : s.size ≤ maxLen) : NdE W [.int .i64 k, .int .i64 n, .int .u64 u, .string s, .slice none 0 0, .slice none 0 0] := nde_mk hr hs (rdk_nil W) (rdn_nil W)
theorem ndl_any {W : World} {g : Nat} : ∀ (L : List (List Value)) (off : Nat), (∀ i c, L.flatten[i]? = some c → W.cell? ⟨g, off + i, none⟩ = some c) → (∀ x ∈ L, NdE W x) → ∃ l, l.length = L.length ∧ NdL W g l off
  | [], _, _, _ => ⟨[], rfl, trivial⟩
  | x :: L, off, hc, hx => by
    obtain ⟨t, ht⟩ := hx x (by simp)
    have h6 : x.length = 6 := by
      rcases t with ⟨kk, nn, uu, s, ks, l'⟩
      obtain ⟨_, _, kv, A, m, c, rfl, _⟩ := ht
      rfl
    obtain ⟨l, h1, h2⟩ := ndl_any L (off + 6) (fun i c h => by
      have := hc (6 + i) c (by rw [List.flatten_cons, List.getElem?_append_right (by omega), h6, Nat.add_sub_cancel_left]; exact h)
      rw [show off + 6 + i = off + (6 + i) by omega]; exact this) (fun y hy => hx y (by simp [hy]))
    refine ⟨t :: l, by simp [h1], ⟨x, fun i hi => ?_, ht⟩, h2⟩
    obtain ⟨c, hxc⟩ : ∃ c, x[i]? = some c := ⟨_, List.getElem?_eq_getElem (by omega)⟩
    rw [hxc]
    exact hc i c (by rw [List.flatten_cons, List.getElem?_append_left (by omega)]; exact hxc)
/-- A row of nodes that was laid as a literal. -/
theorem rdn_lit {W : World} {g : Nat} {cs : Array Value} (L : List (List Value)) {m : Nat} (hB : Blk W g 26 cs) (hc : cs = L.flatten.toArray) (hm : L.length = m) (hx : ∀ x ∈ L, NdE W x) (hl : m ≤ maxLen) : RdN W (.slice (some ⟨g, 0, none⟩) m m) m := by
  obtain ⟨l, h1, h2⟩ := ndl_any (W := W) (g := g) L 0 (fun i c h => by rw [Nat.zero_add, Blk.cell hB, hc]; simpa using h) hx
  exact ⟨l, _, m, rfl, by rw [h1, hm], Nat.le_refl _, hl, fun _ => ⟨g, 0, rfl, hB.lt, h2⟩⟩
/-- A row of strings that was laid as a literal. -/
theorem rdk_lit {W : World} {g : Nat} {cs : Array Value} (ks : List ByteArray) {m : Nat} (hB : Blk W g 9 cs) (hc : cs = (ks.map Value.string).toArray) (hm : ks.length = m) (hs : ∀ s ∈ ks, s.size ≤ maxLen) (hl : m ≤ maxLen) : RdK W (.slice (some ⟨g, 0, none⟩) m m) :=
  ⟨ks, _, m, m, rfl, hm, Nat.le_refl _, hl, hs, fun _ => ⟨g, 0, rfl, hB.lt, fun j s h => by rw [Nat.zero_add, Blk.cell hB, hc]; simp [h]⟩⟩
/-- The six cells of one node of such a list. -/
theorem RdN.six {W : World} {v : Value} {m : Nat} (h : RdN W v m) {j : Nat} (hj : j < m) : ∃ b off c k n u s A1 m1 c1 A2 m2 c2, v = .slice (some ⟨b, off, none⟩) m c ∧ m ≤ c ∧ c ≤ maxLen ∧ b < W.heap.size ∧ W.cell? ⟨b, off + j * 6, none⟩ = some (.int .i64 k) ∧ W.cell? ⟨b, off + j * 6 + 1, none⟩ = some (.int .i64 n) ∧ W.cell? ⟨b, off + j * 6 + 2, none⟩ = some (.int .u64 u) ∧ W.cell? ⟨b, off + j * 6 + 3, none⟩ = some (.string s) ∧
    W.cell? ⟨b, off + j * 6 + 4, none⟩ = some (.slice A1 m1 c1) ∧ W.cell? ⟨b, off + j * 6 + 5, none⟩ = some (.slice A2 m2 c2) ∧ NdE W [.int .i64 k, .int .i64 n, .int .u64 u, .string s, .slice A1 m1 c1, .slice A2 m2 c2] := by
  obtain ⟨l, A, c, rfl, h1, h2, h3, h4⟩ := h
  obtain ⟨b, off, rfl, hlt, hl⟩ := h4 (by omega)
  obtain ⟨t, ht⟩ : ∃ t, l[j]? = some t := ⟨_, List.getElem?_eq_getElem (by omega)⟩
  obtain ⟨v0, v1, v2, v3, v4, v5, d0, d1, d2, d3, d4, d5, hn⟩ := hl.six (Below.refl _ _) hlt ht
  obtain ⟨k0, i0, n0, s0, A1, m1, c1, A2, m2, c2, rfl, rfl, rfl, rfl, rfl, rfl⟩ := hn.shape6
  exact ⟨b, off, c, k0, i0, n0, s0, A1, m1, c1, A2, m2, c2, rfl, h2, h3, hlt, d0, d1, d2, d3, d4, d5, t, hn⟩
/-- The same, where the list's place is known. -/
theorem RdN.six_at {W : World} {g m c : Nat} (h : RdN W (.slice (some ⟨g, 0, none⟩) m c) m) {j : Nat} (hj : j < m) : ∃ k n u s A1 m1 c1 A2 m2 c2, W.cell? ⟨g, j * 6, none⟩ = some (.int .i64 k) ∧ W.cell? ⟨g, j * 6 + 1, none⟩ = some (.int .i64 n) ∧ W.cell? ⟨g, j * 6 + 2, none⟩ = some (.int .u64 u) ∧ W.cell? ⟨g, j * 6 + 3, none⟩ = some (.string s) ∧
    W.cell? ⟨g, j * 6 + 4, none⟩ = some (.slice A1 m1 c1) ∧ W.cell? ⟨g, j * 6 + 5, none⟩ = some (.slice A2 m2 c2) ∧ NdE W [.int .i64 k, .int .i64 n, .int .u64 u, .string s, .slice A1 m1 c1, .slice A2 m2 c2] := by
  obtain ⟨b, off, c', k, n, u, s, A1, m1, c1, A2, m2, c2, e, _, _, _, d0, d1, d2, d3, d4, d5, hn⟩ := h.six hj
  injection e with e1 e2 e3
  injection e1 with e1
  injection e1 with e4 e5 _
  subst e4 e5
  rw [Nat.zero_add] at d0 d1 d2 d3 d4 d5
  exact ⟨k, n, u, s, A1, m1, c1, A2, m2, c2, d0, d1, d2, d3, d4, d5, hn⟩
/-- The block of a list whose place is known lies in memory. -/
theorem RdN.lt {W : World} {g m c : Nat} (h : RdN W (.slice (some ⟨g, 0, none⟩) m c) m) (hm : 0 < m) : g < W.heap.size := by
  obtain ⟨b, off, c', k, n, u, s, A1, m1, c1, A2, m2, c2, e, _, _, hl, _⟩ := h.six hm
  injection e with e1 e2 e3
  injection e1 with e1
  injection e1 with e4 e5 _
  subst e4
  exact hl
/-- What a law's read of such a list's node gives, in every later world. -/
theorem RdN.held {W : World} {g m c : Nat} (h : RdN W (.slice (some ⟨g, 0, none⟩) m c) m) {j : Nat} (hj : j < m) : ∃ k n u s A1 m1 c1 A2 m2 c2, ∀ X, Below W.heap.size W X → (X.cell? ⟨g, j * 6, none⟩ = some (.int .i64 k) ∧ X.cell? ⟨g, j * 6 + 1, none⟩ = some (.int .i64 n) ∧ X.cell? ⟨g, j * 6 + 2, none⟩ = some (.int .u64 u) ∧ X.cell? ⟨g, j * 6 + 3, none⟩ = some (.string s) ∧
    X.cell? ⟨g, j * 6 + 4, none⟩ = some (.slice A1 m1 c1) ∧ X.cell? ⟨g, j * 6 + 5, none⟩ = some (.slice A2 m2 c2) ∧ NdE X [.int .i64 k, .int .i64 n, .int .u64 u, .string s, .slice A1 m1 c1, .slice A2 m2 c2]) := by
  have hl := h.lt (by omega)
  obtain ⟨k, n, u, s, A1, m1, c1, A2, m2, c2, d0, d1, d2, d3, d4, d5, hn⟩ := h.six_at hj
  exact ⟨k, n, u, s, A1, m1, c1, A2, m2, c2, fun X hb => ⟨(hb.cell (p := ⟨g, _, none⟩) hl).trans d0, (hb.cell (p := ⟨g, _, none⟩) hl).trans d1, (hb.cell (p := ⟨g, _, none⟩) hl).trans d2, (hb.cell (p := ⟨g, _, none⟩) hl).trans d3, (hb.cell (p := ⟨g, _, none⟩) hl).trans d4, (hb.cell (p := ⟨g, _, none⟩) hl).trans d5, hn.below hb⟩⟩
theorem nde_zero (W : World) : NdE W [.int .i64 0, .int .i64 0, .int .u64 0, .string ⟨#[]⟩, .slice none 0 0, .slice none 0 0] := nde_leaf W ⟨by decide, by decide, by decide, by decide, by decide, by decide⟩ (by decide)
/-- A vector of two nodes that a call was handed. -/
theorem two_vec {x2 x3 : World} {a0 a1 a2 a3 a4 a5 b0 b1 b2 b3 b4 b5 : Value} (ha : NdE x2 [a0, a1, a2, a3, a4, a5]) (hb : NdE x2 [b0, b1, b2, b3, b4, b5]) (h : Below (x2.alloc (.cells #[a0, a1, a2, a3, a4, a5, b0, b1, b2, b3, b4, b5] 26)).heap.size (x2.alloc (.cells #[a0, a1, a2, a3, a4, a5, b0, b1, b2, b3, b4, b5] 26)) x3) :
    NdE x3 [.int .i64 10, .int .i64 0, .int .u64 0, .string ⟨#[]⟩, .slice none 0 0, .slice (some ⟨x2.heap.size, 0, none⟩) 2 2] ∧ Below x2.heap.size x2 x3 := by
  have ha0 : Below x2.heap.size x2 (x2.alloc (.cells #[a0, a1, a2, a3, a4, a5, b0, b1, b2, b3, b4, b5] 26)) := (Below.refl _ _).alloc (Nat.le_refl _) _
  refine ⟨nde_mk ⟨by decide, by decide, by decide, by decide, by decide, by decide⟩ (by decide) (rdk_nil _) ((rdn_lit (m := 2) [[a0, a1, a2, a3, a4, a5], [b0, b1, b2, b3, b4, b5]] (Blk.new x2 _ _) rfl rfl ?_ (by decide)).below h), ha0.trans (h.mono ha0.size)⟩
  intro x hx
  simp only [List.mem_cons, List.not_mem_nil, or_false] at hx
  rcases hx with rfl | rfl
  · exact ha.below ha0
  · exact hb.below ha0
/-- A row of the call's own, of nodes that are known one by one. -/
theorem rdn_own {W : World} {base n : Nat} {v : Value} {xs : List Value} (L : List (List Value)) (h : W.ownsRow base 26 6 v n xs) (hx : xs = L.flatten) (hl : L.length = n) (hL : ∀ x ∈ L, NdE W x) : RdN W v n := by
  obtain ⟨A, c, rfl, h1, h2, h3⟩ := (Ow.of h).cells
  rcases Nat.eq_zero_or_pos n with h0 | h0
  · subst h0
    exact ⟨[], A, c, rfl, rfl, h1, h2, fun h => absurd h (by omega)⟩
  · obtain ⟨g, rfl, hg, -, hc⟩ := h3 h0
    have h6 : ∀ L : List (List Value), (∀ x ∈ L, NdE W x) → L.flatten.length = L.length * 6 := by
      intro L
      induction L with
      | nil => intro _; rfl
      | cons x L ih =>
        intro hL
        obtain ⟨t, ht⟩ := hL x (by simp)
        have h6 : x.length = 6 := by
          rcases t with ⟨kk, nn, uu, s, ks, l'⟩
          obtain ⟨_, _, kv, A, m, c, rfl, _⟩ := ht
          rfl
        rw [List.flatten_cons, List.length_append, h6, ih fun y hy => hL y (by simp [hy])]
        simp
        omega
    have hlen := h6 L hL
    obtain ⟨l, h4, h5⟩ := ndl_any (W := W) (g := g) L 0 (fun i u hi => by
      have hi2 : i < L.flatten.length := (List.getElem?_eq_some_iff.1 hi).1
      rw [Nat.zero_add, hc i (by omega), hx]; exact hi) hL
    exact ⟨l, _, c, rfl, by omega, h1, h2, fun _ => ⟨g, 0, rfl, hg, h5⟩⟩
theorem own_keep {W W' : World} {B n size : Nat} {e : TypeId} {v : Value} {xs : List Value} (h : W.ownsRow B e size v n xs) (hb : Below W.heap.size W W') : W'.ownsRow B e size v n xs := by
  refine ⟨h.1, ?_⟩
  rcases h.2 with h0 | ⟨g, cap, cur, e1, h3, h4, h5⟩
  · exact .inl h0
  · exact .inr ⟨g, cap, cur, e1, h3, (hb.block g (Array.getElem?_eq_some_iff.1 h4).1).trans h4, h5⟩
theorem six_one (x0 x1 x2 : Int) (x3 : ByteArray) (y1 y4 : Option Addr) (y2 y3 y5 y6 : Nat) : ∀ u ∈ [Value.int .i64 x0, .int .i64 x1, .int .u64 x2, .string x3, .slice y1 y2 y3, .slice y4 y5 y6], u.oneCell' = true := by
  intro u hu
  simp only [List.mem_cons, List.not_mem_nil, or_false] at hu
  rcases hu with rfl | rfl | rfl | rfl | rfl | rfl <;> rfl
theorem rep_snoc {α : Type} (q : Nat) (c : List α) : (List.replicate q c).flatten ++ c = (List.replicate (q + 1) c).flatten := by
  rw [List.replicate_succ', List.flatten_append]; simp
/-- What an append to a row of the call's own leaves. -/
theorem app_bel {W W' : World} {B n : Nat} {e : TypeId} {size : Nat} {v : Value} {xs : List Value} {o : Obj} (h : W.ownsRow B e size v n xs) (hB : B ≤ W.heap.size) (hg : (W.alloc o).grownBy W' v.ownBlock) : Below B W W' :=
  ((Below.refl _ W).alloc hB _).grown hg (by simp; omega) (fun k e => (h.lt k e).1)
theorem infoL : (Tryd.prog.info? 26).map (fun i => (i.zero, i.size, i.bytes)) = some (some (.agg #[.int .i64 0, .int .i64 0, .int .u64 0, .string ⟨#[]⟩, .slice none 0 0, .slice none 0 0]), 6, 88) := by kernel_rfl
/-- append of one node that has just been laid down onto a row of the call's own. -/
theorem wpList_kid {ops : Array Oper} {rest : List Oper} {o : Oper} {a : Act} {Q : Exit → Act → World → Prop} {W : World} {base n g : Nat} {v : Value} {xs : List Value} {c0 c1 c2 c3 c4 c5 : Value}
    (hw : Region.wanted o (yielded ops a.tmps) = true) (s x : Operand) (ho : o.op = .call { callee := .builtin .append, args := #[s, x], argTypes := #[24, 24] })
    (hs : a.eval s = v) (hx : a.eval x = .slice (some ⟨g, 0, none⟩) 1 1) (hown : W.ownsRow base 26 6 v n xs) (hB : Blk W g 26 #[c0, c1, c2, c3, c4, c5]) (hone : ∀ u ∈ [c0, c1, c2, c3, c4, c5], u.oneCell' = true) (hb : n + 1 ≤ 65536) (hbase : base ≤ W.heap.size)
    (h : ∀ v' w', w'.ownsRow base 26 6 v' (n + 1) (xs ++ [c0, c1, c2, c3, c4, c5]) → W.grownBy w' v.ownBlock → wpList Tryd.prog ops Q rest (a.put o.dst v') w') : wpList Tryd.prog ops Q (o :: rest) a W := by
  obtain ⟨i, hi, hz0, hz1, hz2⟩ := info_parts infoL
  obtain ⟨v', w', hrun, h2, h3, _⟩ := run_append_own (P := Tryd.prog) (w := W) base 24 o.type 26 i _ 6 88 Tryd.underlying24 hi hz0 hz1 hz2 rfl (by decide) v n xs hown ⟨g, 0, none⟩ 1 1 [c0, c1, c2, c3, c4, c5] rfl
    (fun j u hj => by
      have e : (⟨g, 0, none⟩ : Addr).add j = ⟨g, j, none⟩ := by unfold Addr.add; by_cases h : j = 0 <;> simp [h]
      rw [e, Blk.cell hB]; simpa using hj) hone (by unfold maxLen; omega) (by omega) hbase
  refine wpList_step fun K hK => ?_
  rw [if_pos hw]
  unfold Oper.wp execOp
  simp only [ho, resolve, invoke, builtin, Sem.run_bind, Sem.run_pure, Result.andThen_ok, List.map_toArray, List.map_cons, List.map_nil, hs, hx, hrun]
  exact hK _ _ (h v' w' h2 h3)
end Go.Proofs.YtlleknofnlmecaaDoor
