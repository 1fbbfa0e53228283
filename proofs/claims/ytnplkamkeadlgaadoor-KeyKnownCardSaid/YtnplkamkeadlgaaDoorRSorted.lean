/-
  What is proved here: what a call keeps that gathers keys and children in rows of its own behind a world A, by appends, one by one; no condition but those that each fact states; and: what the contract of the reference's sorted says, and the facts of its boxes; no condition but those that each fact states; and: the reference's sorted of a node that is no map; conditions: a valid tree of at most 60000 nodes, strings and lists of at most 1000, the contract for smaller trees; and: the reference's sorted of a map; conditions: a valid tree of at most 60000 nodes, strings and lists of at most 1000, the contract for smaller trees; and: contract of the reference's sorted: the sorted tree in memory of the call's own; conditions: a valid tree of at most 60000 nodes, strings and lists of at most 1000; and: contract of the reference's Sorted; conditions: a tree of at most 60000 nodes, strings and lists of at most 1000.
-/
import Derived.Test.YtnplkamkeadlgaaDoorTK
import Derived.Deep.RegionLaw
import Derived.Test.YtnplkamkeadlgaaDoorPm
import Derived.Test.YtnplkamkeadlgaaDoorKRefO
import Derived.Test.YtnplkamkeadlgaaDoorNf
import Derived.Test.YtnplkamkeadlgaaDoorRefCk
import Derived.Test.YtnplkamkeadlgaaDoorCopyNode
namespace Go.Proofs.YtnplkamkeadlgaaDoor
open Go.RowKit

def UA (A : World) (kq lq : Value) (b : Nat) : Prop := A.heap.size ≤ b ∧ some b ≠ kq.ownBlock ∧ some b ≠ lq.ownBlock
structure TA (A : World) (kq lq : Value) (ks : List ByteArray) (d : List T) (ys : List Value) (wr : World) : Prop where
  bl : Below A.heap.size A wr
  keys : wr.ownsRow A.heap.size 9 1 kq ks.length (ks.map Value.string)
  row : wr.ownsRow A.heap.size 31 6 lq d.length ys
  kr : ∀ g, kq.ownBlock = some g → lq.ownBlock ≠ some g
  kids : NdOL (UA A kq lq) wr d ys
section
variable {A wr w2 w3 W : World} {kq lq v' : Value} {ks : List ByteArray} {d : List T} {ys cs : List Value} {t : T} {x : ByteArray} {n0 : Nat}
theorem TA.start (A : World) : TA A (.slice none 0 0) (.slice none 0 0) [] [] [] A := ⟨Below.refl _ _, World.ownsRow_nil _ _ _ _, own_nil _ _, by simp [Value.ownBlock], rfl⟩
theorem TA.below (h : TA A kq lq ks d ys wr) (hb : Below wr.heap.size wr w2) : TA A kq lq ks d ys w2 :=
  ⟨h.bl.trans (hb.mono h.bl.size), own_kept h.keys fun g hg => hb.block g (h.keys.lt g hg).2, own_kept h.row fun g hg => hb.block g (h.row.lt g hg).2, h.kr, NdOL.step (fun b hb2 hlt => ⟨hb.block b hlt, hb2⟩) _ _ h.kids⟩
theorem TA.key (h : TA A kq lq ks d ys wr) (hown : w3.ownsRow A.heap.size 9 1 v' (ks.length + 1) (ks.map Value.string ++ [.string x])) (hg : wr.grownBy w3 kq.ownBlock) (hp : v'.ownBlock = kq.ownBlock ∨ v'.ownBlock = some wr.heap.size) :
    TA A v' lq (ks ++ [x]) d ys w3 := by
  have hs := h.bl.size
  have hlow : ∀ g, kq.ownBlock = some g → A.heap.size ≤ g := fun g hg => (h.keys.lt g hg).1
  have hne : ∀ b, b < A.heap.size → some b ≠ kq.ownBlock := fun b hb e => by have := hlow b e.symm; omega
  have hnew : ∀ b, b < wr.heap.size → some b ≠ kq.ownBlock → some b ≠ v'.ownBlock := by
    intro b hb hn e
    rcases hp with e2 | e2
    · exact hn (by rw [e, e2])
    · rw [e2] at e
      have := Option.some.inj e
      omega
  refine ⟨⟨hg.os.trans h.bl.os, hg.tape.trans h.bl.tape, hg.output.trans h.bl.output, by have := hg.size; omega, fun i hi => (hg.block i (by omega) (hne i hi)).trans (h.bl.block i hi)⟩, by simpa using hown, ?_, ?_, ?_⟩
  · exact own_kept h.row fun g hgl => hg.block g (h.row.lt g hgl).2 fun e => h.kr g e.symm hgl
  · intro g hg2 hl
    exact hnew g (h.row.lt g hl).2 (fun e => h.kr g e.symm hl) hg2.symm
  · exact NdOL.step (fun b hb hlt => ⟨hg.block b hlt hb.2.1, hb.1, hnew b hlt hb.2.1, hb.2.2⟩) _ _ h.kids
theorem TA.kid (h : TA A kq lq ks d ys wr) (ht : NdO (fun b => n0 ≤ b) wr t cs) (hn : A.heap.size ≤ n0) (hlq : ∀ g, lq.ownBlock = some g → g < n0) (hkq : ∀ g, kq.ownBlock = some g → g < n0)
    (hown : w3.ownsRow A.heap.size 31 6 v' (d.length + 1) (ys ++ cs)) (hg : wr.grownBy w3 lq.ownBlock) (hp : v'.ownBlock = lq.ownBlock ∨ v'.ownBlock = some wr.heap.size) : TA A kq v' ks (d ++ [t]) (ys ++ cs) w3 := by
  have hs := h.bl.size
  have hlow : ∀ g, lq.ownBlock = some g → A.heap.size ≤ g := fun g hg => (h.row.lt g hg).1
  have hne : ∀ b, b < A.heap.size → some b ≠ lq.ownBlock := fun b hb e => by have := hlow b e.symm; omega
  have hnew : ∀ b, b < wr.heap.size → some b ≠ lq.ownBlock → some b ≠ v'.ownBlock := by
    intro b hb hn e
    rcases hp with e2 | e2
    · exact hn (by rw [e, e2])
    · rw [e2] at e
      have := Option.some.inj e
      omega
  refine ⟨⟨hg.os.trans h.bl.os, hg.tape.trans h.bl.tape, hg.output.trans h.bl.output, by have := hg.size; omega, fun i hi => (hg.block i (by omega) (hne i hi)).trans (h.bl.block i hi)⟩, ?_, by simpa using hown, ?_, ?_⟩
  · exact own_kept h.keys fun g hgl => hg.block g (h.keys.lt g hgl).2 fun e => h.kr g hgl e.symm
  · intro g hg2 hl
    exact hnew g (h.keys.lt g hg2).2 (fun e => h.kr g hg2 e.symm) hl.symm
  · refine NdOL.app (NdO.step (fun b hb hlt => ?_) _ _ ht) (NdOL.step (fun b hb hlt => ⟨hg.block b hlt hb.2.2, hb.1, hb.2.1, hnew b hlt hb.2.2⟩) _ _ h.kids)
    have h1 : some b ≠ lq.ownBlock := fun e => by have := hlq b e.symm; omega
    exact ⟨hg.block b hlt h1, by omega, fun e => by have := hkq b e.symm; omega, hnew b hlt h1⟩
theorem TA.fin (h : TA A kq lq ks d ys wr) {k n u : Int} {s : ByteArray} (hr : Rng k n u) (hs : s.size ≤ maxLen) (hks : ∀ x ∈ ks, x.size ≤ maxLen) (hW : ∀ b, A.heap.size ≤ b → W.heap[b]? = wr.heap[b]?) :
    NdO (fun b => A.heap.size ≤ b) W (.mk k n u s ks d) [.int .i64 k, .int .i64 n, .int .u64 u, .string s, kq, lq] :=
  ⟨hr, hs, hks, kq, lq, ys, rfl, (Ow.of h.keys).step fun b hb _ => ⟨hW b hb, hb⟩, (Ow.of h.row).step fun b hb _ => ⟨hW b hb, hb⟩, NdOL.step (fun b hb _ => ⟨hW b hb.1, hb.1⟩) _ _ h.kids⟩
/-- .. and a child at hand. -/
structure TAK (A : World) (kq lq : Value) (ks : List ByteArray) (d : List T) (ys : List Value) (t : T) (cs : List Value) (W : World) : Prop where
  ta : TA A kq lq ks d ys W
  kid : ∃ n0, NdO (fun b => n0 ≤ b) W t cs ∧ A.heap.size ≤ n0 ∧ (∀ g, lq.ownBlock = some g → g < n0) ∧ ∀ g, kq.ownBlock = some g → g < n0
theorem TAK.below (h : TAK A kq lq ks d ys t cs W) (hb : Below W.heap.size W w2) : TAK A kq lq ks d ys t cs w2 := by
  obtain ⟨n0, h1, h2⟩ := h.kid
  exact ⟨h.ta.below hb, n0, NdO.step (fun b hb2 hlt => ⟨hb.block b hlt, hb2⟩) _ _ h1, h2⟩
theorem TA.kidat (h : TA A kq lq ks d ys W) (hb : Below W.heap.size W w2) (hn : NdO (fun b => W.heap.size ≤ b) w2 t cs) : TAK A kq lq ks d ys t cs w2 :=
  ⟨h.below hb, W.heap.size, hn, h.bl.size, fun g hg => (h.row.lt g hg).2, fun g hg => (h.keys.lt g hg).2⟩
theorem TAK.app {c0 c1 c2 c3 c4 c5 : Value} (hT : TAK A kq lq ks d ys t [c0, c1, c2, c3, c4, c5] W) (hown : w3.ownsRow A.heap.size 31 6 v' (d.length + 1) (ys ++ [c0, c1, c2, c3, c4, c5])) (hg : W.grownBy w3 lq.ownBlock) (hp : v'.ownBlock = lq.ownBlock ∨ v'.ownBlock = some W.heap.size) :
    TA A kq v' ks (d ++ [t]) (ys ++ [c0, c1, c2, c3, c4, c5]) w3 := by
  obtain ⟨n0, k1, k2, k3, k4⟩ := hT.kid
  exact hT.ta.kid k1 k2 k3 k4 hown hg hp
section
variable {ops : Array Oper} {op : Oper} {a : Act} {K : Act → World → Prop} {Q : Exit → Act → World → Prop} {E : Prop} {g : Nat}
theorem step_kidA {c0 c1 c2 c3 c4 c5 : Value} (hgd : op.guard = none) (s x : Operand) (ho : op.op = .call { callee := .builtin .append, args := #[s, x], argTypes := #[29, 29] }) (hs : a.eval s = lq) (hx : a.eval x = .slice (some ⟨g, 0, none⟩) 1 1)
    (hT : TAK A kq lq ks d ys t [c0, c1, c2, c3, c4, c5] W) (hB : Bx W g c0 c1 c2 c3 c4 c5) (hb : d.length + 1 ≤ 65536)
    (h : ∀ XA Xn Xc w', Hid (TA A kq (.slice XA Xn Xc) ks (d ++ [t]) (ys ++ [c0, c1, c2, c3, c4, c5]) w') → K (a.put op.dst (.slice XA Xn Xc)) w') :
    if Region.wanted op (yielded ops a.tmps) = true then Oper.wp Tryd.prog op a W K Q else E := by
  have hw : Region.wanted op (yielded ops a.tmps) = true := by simp [Region.wanted, hgd]
  rw [if_pos hw]
  obtain ⟨n0, k1, _⟩ := hT.kid
  obtain ⟨v', w', hrun, h2, h3, h4⟩ := run_kid op.type hT.ta.row hB (NdO.one k1) hb hT.ta.bl.size
  unfold Oper.wp execOp
  simp only [ho, resolve, invoke, builtin, Sem.run_bind, Sem.run_pure, Result.andThen_ok, List.map_toArray, List.map_cons, List.map_nil, hs, hx, hrun]
  have := hT.app h2 h3 h4
  obtain ⟨XA, Xc, rfl⟩ := (Ow.of h2).shape
  exact h _ _ _ w' (Lib.hid this)
theorem step_keyA (hgd : op.guard = none) (s y : Operand) (ho : op.op = .call { callee := .builtin .append, args := #[s, y], argTypes := #[22, 22] }) (hs : a.eval s = kq) (hx : a.eval y = .slice (some ⟨g, 0, none⟩) 1 1)
    (hT : TA A kq lq ks d ys W) (hB : Blk W g 9 #[.string x]) (hxs : x.size ≤ maxLen) (hb : ks.length + 1 ≤ 65536)
    (h : ∀ XA Xn Xc w', Hid (TA A (.slice XA Xn Xc) lq (ks ++ [x]) d ys w') → K (a.put op.dst (.slice XA Xn Xc)) w') :
    if Region.wanted op (yielded ops a.tmps) = true then Oper.wp Tryd.prog op a W K Q else E := by
  have hw : Region.wanted op (yielded ops a.tmps) = true := by simp [Region.wanted, hgd]
  rw [if_pos hw]
  obtain ⟨v', w', hrun, h2, h3, h4⟩ := run_appS op.type hT.keys (rds_one hB hxs) (by omega) hT.bl.size
  unfold Oper.wp execOp
  simp only [ho, resolve, invoke, builtin, Sem.run_bind, Sem.run_pure, Result.andThen_ok, List.map_toArray, List.map_cons, List.map_nil, hs, hx, hrun]
  have := hT.key h2 h3 h4
  obtain ⟨XA, Xc, rfl⟩ := (Ow.of h2).shape
  exact h _ _ _ w' (Lib.hid this)
end
end
end Go.Proofs.YtnplkamkeadlgaaDoor
namespace Go.Proofs.YtnplkamkeadlgaaDoor
open Go.RowKit Go.Sort Go.Shelf

theorem refOrder_okR (l : List ByteArray) (v : Value) (q : List Nat) (w : World) (hl : RdS w v l) (hn : l.length ≤ 60000) (hq : SQ l q l.length) :
    Calls Tryd.prog 16 #[v] w fun e w' => ∃ (XA : Option Addr) (Xn Xc : Nat), e = .returned (.tuple #[.slice XA Xn Xc, .int .i64 0]) ∧ Hid (Xn = l.length ∧ Rds w' XA Xn Xc (q.map Int.ofNat)) ∧ Hid (Below w.heap.size w w') := by
  refine (refOrder_any l v w hl hn).mono ?_
  rintro e w' ⟨hb, ⟨_, hnd⟩ | ⟨v', q', rfl, hq', ho⟩⟩
  · exact absurd hq.nodup hnd
  · obtain rfl := hq.unique hq'
    obtain ⟨XA, Xn, Xc, rfl, hrd⟩ := Rd.of_own ho
    refine ⟨XA, Xn, Xc, rfl, Lib.hid ⟨?_, hrd⟩, Lib.hid hb⟩
    have := hrd.1
    rw [List.length_map, hq'.length] at this
    exact this.symm
theorem srtL_get : ∀ {l l' : List T}, SrtL l l' → ∀ (i : Nat) (x : T), l[i]? = some x → ∃ y, l'[i]? = some y ∧ Srt x y
  | [], _, _, i, x, h => by simp at h
  | t :: ts, _, hs, 0, x, h => by
    obtain ⟨t', ts', rfl, h1, _⟩ := hs
    obtain rfl : t = x := by simpa using h
    exact ⟨t', rfl, h1⟩
  | t :: ts, _, hs, i + 1, x, h => by
    obtain ⟨t', ts', rfl, _, h2⟩ := hs
    exact srtL_get h2 i x (by simpa using h)
/-- The three boxes. -/
structure T3 (w : World) (v0 v1 v2 v3 v4 v5 z0 z1 z2 z3 z4 z5 o0 o1 o2 o3 o4 o5 : Value) (W : World) : Prop where
  bl : Below w.heap.size w W
  b0 : Bx W w.heap.size v0 v1 v2 v3 v4 v5
  b1 : Bx W (w.heap.size + 1) z0 z1 z2 z3 z4 z5
  b2 : Bx W (w.heap.size + 1 + 1) o0 o1 o2 o3 o4 o5
  hs : w.heap.size + 3 ≤ W.heap.size
theorem T3.start (w : World) (v0 v1 v2 v3 v4 v5 z0 z1 z2 z3 z4 z5 o0 o1 o2 o3 o4 o5 : Value) : T3 w v0 v1 v2 v3 v4 v5 z0 z1 z2 z3 z4 z5 o0 o1 o2 o3 o4 o5 (((w.alloc (.cells #[v0, v1, v2, v3, v4, v5] 31)).alloc (.cells #[z0, z1, z2, z3, z4, z5] 31)).alloc (.cells #[o0, o1, o2, o3, o4, o5] 31)) := by
  have h := Two.start w v0 v1 v2 v3 v4 v5 z0 z1 z2 z3 z4 z5
  have hs : ((w.alloc (.cells #[v0, v1, v2, v3, v4, v5] 31)).alloc (.cells #[z0, z1, z2, z3, z4, z5] 31)).heap.size = w.heap.size + 1 + 1 := by simp
  have hn := Blk.new ((w.alloc (.cells #[v0, v1, v2, v3, v4, v5] 31)).alloc (.cells #[z0, z1, z2, z3, z4, z5] 31)) 31 #[o0, o1, o2, o3, o4, o5]
  rw [hs] at hn
  exact ⟨h.1.trans ((Below.refl _ _).alloc h.1.size _), h.2.2.1.alloc _, h.2.2.2.alloc _, hn, by simp⟩
theorem T3.below {w W W' : World} {v0 v1 v2 v3 v4 v5 z0 z1 z2 z3 z4 z5 o0 o1 o2 o3 o4 o5 : Value} (h : T3 w v0 v1 v2 v3 v4 v5 z0 z1 z2 z3 z4 z5 o0 o1 o2 o3 o4 o5 W) (hb : Below W.heap.size W W') : T3 w v0 v1 v2 v3 v4 v5 z0 z1 z2 z3 z4 z5 o0 o1 o2 o3 o4 o5 W' :=
  ⟨h.bl.trans (hb.mono h.bl.size), h.b0.below hb h.b0.lt, h.b1.below hb h.b1.lt, h.b2.below hb h.b2.lt, Nat.le_trans h.hs hb.size⟩
/-- The end: the node is written into the result's box. -/
theorem ta_fin {w A W wr : World} {v0 v1 v2 v3 v4 v5 z0 z1 z2 z3 z4 z5 o0 o1 o2 o3 o4 o5 kq lq : Value} {ks : List ByteArray} {d : List T} {ys : List Value} (h3 : T3 w v0 v1 v2 v3 v4 v5 z0 z1 z2 z3 z4 z5 o0 o1 o2 o3 o4 o5 A) (ht : TA A kq lq ks d ys wr) {k n u : Int} {s : ByteArray} (hr : Rng k n u) (hs : s.size ≤ maxLen) (hks : ∀ x ∈ ks, x.size ≤ maxLen)
    (hW : ∀ b, b ≠ w.heap.size + 1 + 1 → W.heap[b]? = wr.heap[b]?) (he : W.os = wr.os ∧ W.tape = wr.tape ∧ W.output = wr.output ∧ wr.heap.size ≤ W.heap.size) :
    Bx (put6 W (w.heap.size + 1) 0 (.int .i64 k) (.int .i64 n) (.int .u64 u) (.string s) kq lq) (w.heap.size + 1) (.int .i64 k) (.int .i64 n) (.int .u64 u) (.string s) kq lq ∧
    NdO (fun b => w.heap.size ≤ b) (put6 W (w.heap.size + 1) 0 (.int .i64 k) (.int .i64 n) (.int .u64 u) (.string s) kq lq) (.mk k n u s ks d) [.int .i64 k, .int .i64 n, .int .u64 u, .string s, kq, lq] ∧
    Below w.heap.size w (put6 W (w.heap.size + 1) 0 (.int .i64 k) (.int .i64 n) (.int .u64 u) (.string s) kq lq) := by
  have h3r := h3.below ht.bl
  have hsz := h3.hs
  have hbW : Below w.heap.size w W := ⟨he.1.trans h3r.bl.os, he.2.1.trans h3r.bl.tape, he.2.2.1.trans h3r.bl.output, Nat.le_trans h3r.bl.size he.2.2.2, fun i hi => (hW i (by omega)).trans (h3r.bl.block i hi)⟩
  have hb1 : Bx W (w.heap.size + 1) z0 z1 z2 z3 z4 z5 := (hW _ (by omega)).trans h3r.b1
  refine ⟨Bx.put6 hb1 _ _ _ _ _ _, ?_, put6_below hbW _ _ _ _ _ _ _ _ (by omega)⟩
  refine NdO.step (w := put6 W (w.heap.size + 1) 0 (.int .i64 k) (.int .i64 n) (.int .u64 u) (.string s) kq lq) (U := fun b => A.heap.size ≤ b) (fun b hb _ => ⟨rfl, by omega⟩) _ _ ?_
  exact ht.fin hr hs hks fun b hb => (put6_other _ _ _ _ _ _ _ _ _ _ (by omega)).trans (hW b (by omega))

def RSt (k : Nat) : Prop := ∀ (t t' : T) (cs : List Value) (w : World), dp t ≤ k → sz t ≤ 60000 → sm 1000 1000 t → okT t → Srt t t' → Nd w t cs →
    Calls Tryd.prog 46 #[.agg cs.toArray] w fun e w' => (∃ cs', e = .returned (.agg cs'.toArray) ∧ NdO (fun b => w.heap.size ≤ b) w' t' cs') ∧ Below w.heap.size w w'

theorem ky_size {ks : List ByteArray} (h : ∀ x ∈ ks, x.size ≤ maxLen) (i : Nat) : (ky ks i).size ≤ maxLen := by
  unfold ky
  rw [List.getD_eq_getElem?_getD]
  cases hx : ks[i]? with
  | none => simp [ByteArray.size]
  | some x => exact h x (List.mem_of_getElem? hx)
theorem ky_get {ks : List ByteArray} {a : Nat} {x : ByteArray} (h : ks[a]? = some x) : ky ks a = x := by
  unfold ky; rw [List.getD_eq_getElem?_getD, h]; rfl
theorem kid_get {l : List T} {a : Nat} {y : T} (h : l[a]? = some y) : l.getD a (.mk 0 0 0 ⟨#[]⟩ [] []) = y := by
  rw [List.getD_eq_getElem?_getD, h]; rfl
theorem take_map {α β : Type} (f : α → β) (l : List α) (j : Nat) (a : α) (h : l[j]? = some a) : (l.map f).take (j + 1) = (l.map f).take j ++ [f a] := by
  rw [List.take_add_one, List.getElem?_map, h]; rfl
abbrev mks (ks : List ByteArray) (q : List Nat) : List ByteArray := q.map (ky ks)
abbrev mls (l : List T) (q : List Nat) : List T := q.map fun i => l.getD i (.mk 0 0 0 ⟨#[]⟩ [] [])

end Go.Proofs.YtnplkamkeadlgaaDoor
namespace Go.Proofs.YtnplkamkeadlgaaDoor
open Go.RowKit Go.Sort Go.Shelf

set_option maxRecDepth 100000 in
set_option maxHeartbeats 8000000 in
theorem rsorted_flat {k : Nat} (ih : RSt k) {kk nn uu : Int} {s : ByteArray} {ks : List ByteArray} {L L' : List T} {cs : List Value} {w : World} (hk : dp (.mk kk nn uu s ks L) ≤ k + 1) (hsz : sz (.mk kk nn uu s ks L) ≤ 60000) (hsm : sm 1000 1000 (.mk kk nn uu s ks L)) (hok : okT (.mk kk nn uu s ks L)) (hSL : SrtL L L') (h17 : kk ≠ 17) (hn : Nd w (.mk kk nn uu s ks L) cs) :
    Calls Tryd.prog 46 #[.agg cs.toArray] w fun e w' => (∃ cs', e = .returned (.agg cs'.toArray) ∧ NdO (fun b => w.heap.size ≤ b) w' (.mk kk nn uu s ks L') cs') ∧ Below w.heap.size w w' := by
  obtain ⟨hr, hs, kv, A, m, c, rfl, hks, hl, hm, hmm, hL⟩ := hn
  simp only [dp] at hk
  simp only [sz] at hsz
  have hmx : m ≤ 60000 := by have := len_le_szL L; omega
  obtain ⟨KA, Kn, Kc, rfl, hkn, hkc, hkm, hksz, hK⟩ := hks.at
  have hkl := hsm.2.1
  have HT0 : Hid (T3 w (.int .i64 kk) (.int .i64 nn) (.int .u64 uu) (.string s) (.slice KA Kn Kc) (.slice A m c) (.int .i64 0) (.int .i64 0) (.int .u64 0) (.string ⟨#[]⟩) (.slice none 0 0) (.slice none 0 0) (.int .i64 kk) (.int .i64 nn) (.int .u64 uu) (.string s) (.slice none 0 0) (.slice none 0 0) (((w.alloc (.cells #[.int .i64 kk, .int .i64 nn, .int .u64 uu, .string s, .slice KA Kn Kc, .slice A m c] 31)).alloc (.cells #[.int .i64 0, .int .i64 0, .int .u64 0, .string ⟨#[]⟩, .slice none 0 0, .slice none 0 0] 31)).alloc (.cells #[.int .i64 kk, .int .i64 nn, .int .u64 uu, .string s, .slice none 0 0, .slice none 0 0] 31))) := Lib.hid (T3.start w _ _ _ _ _ _ _ _ _ _ _ _ _ _ _ _ _ _)
  have HSM := Lib.hid hsm
  have HKS := Lib.hid hks
  have HL := Lib.hid hL
  have HK := Lib.hid hK
  have HLL := Lib.hid hl
  have HOK := Lib.hid hok
  have HSL := Lib.hid hSL
  have HI := Lib.hid ih
  have HLL' : Hid (L'.length = m) := Lib.hid (by rw [hSL.length, hl])
  clear hsm hks hL hK hok hSL ih
  go_enter Tryd.func46, Tryd.ntmps46
  have hk17 : (kk != 17) = true := by simpa using h17
  have hksn : ks = [] := ok_keys HOK.out.1 h17
  subst hksn
  go_wp2_with fail
  obtain ⟨A0, hA0⟩ : ∃ A0, (((w.alloc (.cells #[.int .i64 kk, .int .i64 nn, .int .u64 uu, .string s, .slice KA Kn Kc, .slice A m c] 31)).alloc (.cells #[.int .i64 0, .int .i64 0, .int .u64 0, .string ⟨#[]⟩, .slice none 0 0, .slice none 0 0] 31)).alloc (.cells #[.int .i64 kk, .int .i64 nn, .int .u64 uu, .string s, .slice none 0 0, .slice none 0 0] 31)) = A0 := ⟨_, rfl⟩
  rw [hA0] at HT0
  simp only [hA0]
  clear hA0
  go_loopw [4, 5] (fun lv vi wr => ∃ (j : Nat) (ys : List Value), j ≤ m ∧ vi = .int .i64 (j : Int) ∧ Hid (TA A0 (.slice none 0 0) lv [] (L'.take j) ys wr)) (fun _ vi _ => m - (intOf vi).toNat)
  case atStart => exact ⟨0, [], Nat.zero_le _, rfl, Lib.hid (TA.start A0)⟩
  case round =>
    obtain ⟨j, ys, hj, rfl, HS⟩ := hrel
    obtain ⟨LA, Lc, hlv⟩ := (Ow.of HS.out.row).shape
    obtain ⟨Ln, hLn⟩ : ∃ Ln, (L'.take j).length = Ln := ⟨_, rfl⟩
    rw [hLn] at hlv
    subst hlv
    obtain ⟨_, _, _, _, _, b5⟩ := Bx.all (HT0.out.below HS.out.bl).b0
    by_cases hjm : j < m
    · obtain ⟨bb, off, rfl, hbb, hN⟩ := HL.out (by omega)
      obtain ⟨t0, ht0⟩ : ∃ t, L[j]? = some t := ⟨_, List.getElem?_eq_getElem (by rw [HLL.out]; omega)⟩
      obtain ⟨y, hy, hsy⟩ := srtL_get HSL.out j t0 ht0
      obtain ⟨v0, v1, v2, v3, v4, v5, hS, hn0⟩ := hN.six' (HT0.out.below HS.out.bl).bl hbb ht0
      obtain ⟨a0, a1, a2, a3, a4, a5⟩ := hS
      have hdl := dp_le_of ht0
      have hsl := sz_le_of ht0
      have ihj := Lib.hid (HI.out t0 y _ wr (by omega) (by omega) (smL_at HSM.out.2.2.2 ht0) (okL_mem.1 HOK.out.2 t0 (List.mem_of_getElem? ht0)) hsy hn0)
      have HTK : Hid (L'.take (j + 1) = L'.take j ++ [y]) := Lib.hid (by rw [List.take_add_one, hy]; rfl)
      have HLJ : Hid ((L'.take j).length = j) := Lib.hid (by rw [List.length_take, HLL'.out]; omega)
      obtain ⟨i0, hi, hz0, hz1, hz2⟩ := info_parts infoN
      have ji0 : (0 : Int) ≤ (j : Int) := by omega
      have ji1 : (j : Int) < (m : Int) := by omega
      clear hn0 ht0 hdl hsl hN hbb hy hsy
      go_wp2_with (first
        | (go_at_call 46; refine ihj.out.mono ?_; clear ihj; rintro e w5 ⟨⟨cs', rfl, hno⟩, hb5⟩; obtain ⟨k8, i8, u8, s8, C1', m1', d1', C2', m2', d2', rfl⟩ := hno.shape6; have HK5 := Lib.hid (HS.out.kidat hb5 hno); have HO5 := Lib.hid (NdO.one hno); clear hno hb5)
        | (at_builtin; refine wpList_append_own_at _ rfl _ _ 29 rfl A0.heap.size 31 i0 _ 6 88 Tryd.underlying29 hi hz0 hz1 hz2 rfl (by decide) _ (L'.take j).length ys rfl (HK5.out.ta.row.alloc _) ⟨w5.heap.size, 0, none⟩ 1 1 [.int .i64 k8, .int .i64 i8, .int .u64 u8, .string s8, .slice C1' m1' d1', .slice C2' m2' d2'] rfl rfl ?q1 ?q2 ?q3 ?q4 ?q5 ?_; rotate_left 5; intro v' w6 hown6 hgrow6 hnil6 hloc6))
      case roundEnd =>
        have HF := Lib.hid ((HK5.out.below (al0 _ _)).app hown6 hgrow6 hloc6)
        refine ⟨⟨j + 1, ys ++ _, by omega, by simp, by rw [HTK.out]; exact HF⟩, ?_⟩
        simp [intOf]
        omega
      case q1 => exact cells_new _ _ _
      case q2 => exact HO5.out
      case q3 => have := HLJ.out; unfold maxLen; omega
      case q4 => have := HLJ.out; omega
      case q5 => have := HK5.out.ta.bl.size; rw [World.size_alloc]; omega
    · obtain rfl : j = m := by omega
      have hT := HS.out
      rw [List.take_of_length_le (by rw [HLL'.out]; exact Nat.le_refl _)] at hT
      have H3 := Lib.hid (HT0.out.below HS.out.bl)
      obtain ⟨⟨o0, o1, o2, o3, o4, o5⟩, f0, f1, f2, f3, f4, f5⟩ := Bx.both H3.out.b2
      obtain ⟨⟨p0, p1, p2, p3, p4, p5⟩, e0, e1, e2, e3, e4, e5⟩ := Bx.both H3.out.b1
      have hne1 : ¬ w.heap.size + 1 + 1 = w.heap.size + 1 := by omega
      have hne2 : ¬ w.heap.size + 1 = w.heap.size + 1 + 1 := by omega
      have HF := Lib.hid (ta_fin (W := wr.setCell ⟨w.heap.size + 1 + 1, 5, none⟩ (.slice LA Ln Lc)) HT0.out hT hr hs (by simp) (fun b hb => heap_set_other _ _ _ _ _ hb) ⟨rfl, rfl, rfl, by simp⟩)
      clear hT
      go_wp2_with fail
      refine ret_six (p := 2) (g := w.heap.size + 1) rfl rfl HF.out.1 rfl ⟨⟨_, rfl, HF.out.2.1⟩, HF.out.2.2⟩
end Go.Proofs.YtnplkamkeadlgaaDoor
namespace Go.Proofs.YtnplkamkeadlgaaDoor
open Go.RowKit Go.Sort Go.Shelf

set_option maxRecDepth 100000 in
set_option maxHeartbeats 8000000 in
theorem rsorted_map {k : Nat} (ih : RSt k) {kk nn uu : Int} {s : ByteArray} {ks : List ByteArray} {L L' : List T} {cs : List Value} {w : World} (hk : dp (.mk kk nn uu s ks L) ≤ k + 1) (hsz : sz (.mk kk nn uu s ks L) ≤ 60000) (hsm : sm 1000 1000 (.mk kk nn uu s ks L)) (hok : okT (.mk kk nn uu s ks L)) (hSL : SrtL L L') (h17 : kk = 17) {q : List Nat} (hq : SQ ks q ks.length) (hn : Nd w (.mk kk nn uu s ks L) cs) :
    Calls Tryd.prog 46 #[.agg cs.toArray] w fun e w' => (∃ cs', e = .returned (.agg cs'.toArray) ∧ NdO (fun b => w.heap.size ≤ b) w' (.mk kk nn uu s (mks ks q) (mls L' q)) cs') ∧ Below w.heap.size w w' := by
  subst h17
  obtain ⟨hr, hs, kv, A, m, c, rfl, hks, hl, hm, hmm, hL⟩ := hn
  have hlen : ks.length = L.length := (such_facts (ownE_zero.1 hok.1).1).2.2.2.2.2.2.2 rfl
  simp only [dp] at hk
  simp only [sz] at hsz
  have hmx : m ≤ 60000 := by have := len_le_szL L; omega
  obtain ⟨KA, Kn, Kc, rfl, hkn, hkc, hkm, hksz, hK⟩ := hks.at
  have hkl := hsm.2.1
  have HT0 : Hid (T3 w (.int .i64 17) (.int .i64 nn) (.int .u64 uu) (.string s) (.slice KA Kn Kc) (.slice A m c) (.int .i64 0) (.int .i64 0) (.int .u64 0) (.string ⟨#[]⟩) (.slice none 0 0) (.slice none 0 0) (.int .i64 17) (.int .i64 nn) (.int .u64 uu) (.string s) (.slice none 0 0) (.slice none 0 0) (((w.alloc (.cells #[.int .i64 17, .int .i64 nn, .int .u64 uu, .string s, .slice KA Kn Kc, .slice A m c] 31)).alloc (.cells #[.int .i64 0, .int .i64 0, .int .u64 0, .string ⟨#[]⟩, .slice none 0 0, .slice none 0 0] 31)).alloc (.cells #[.int .i64 17, .int .i64 nn, .int .u64 uu, .string s, .slice none 0 0, .slice none 0 0] 31))) := Lib.hid (T3.start w _ _ _ _ _ _ _ _ _ _ _ _ _ _ _ _ _ _)
  have HSM := Lib.hid hsm
  have HKS := Lib.hid hks
  have HL := Lib.hid hL
  have HK := Lib.hid hK
  have HLL := Lib.hid hl
  have HOK := Lib.hid hok
  have HSL := Lib.hid hSL
  have HI := Lib.hid ih
  have HLL' : Hid (L'.length = m) := Lib.hid (by rw [hSL.length, hl])
  clear hsm hks hL hK hok hSL ih
  go_enter Tryd.func46, Tryd.ntmps46
  obtain rfl : Kn = m := by rw [← hkn, hlen, HLL.out]
  have HQ := Lib.hid hq
  have ihO := Lib.hid (refOrder_okR ks (.slice KA Kn Kc) q (((w.alloc (.cells #[.int .i64 17, .int .i64 nn, .int .u64 uu, .string s, .slice KA Kn Kc, .slice A Kn c] 31)).alloc (.cells #[.int .i64 0, .int .i64 0, .int .u64 0, .string ⟨#[]⟩, .slice none 0 0, .slice none 0 0] 31)).alloc (.cells #[.int .i64 17, .int .i64 nn, .int .u64 uu, .string s, .slice none 0 0, .slice none 0 0] 31)) (HKS.out.below HT0.out.bl) (by omega) hq)
  clear hq hlen
  go_wp2_with (first
    | (go_at_call 16; refine ihO.out.mono ?_; clear ihO; rintro e w5 ⟨XA, Xn, Xc, rfl, HX, HB⟩))
  have H3 := Lib.hid (HT0.out.below HB.out)
  obtain rfl : Xn = Kn := by rw [HX.out.1, hkn]
  have HXR := Lib.hid HX.out.2
  clear HT0 HB HX
  go_loopw [8, 9, 10] (fun kv lv vi wr => ∃ (j : Nat) (ys : List Value), j ≤ Xn ∧ vi = .int .i64 (j : Int) ∧ Hid (TA w5 kv lv ((mks ks q).take j) ((mls L' q).take j) ys wr)) (fun _ _ vi _ => Xn - (intOf vi).toNat)
  case atStart => exact ⟨0, [], Nat.zero_le _, rfl, Lib.hid (TA.start w5)⟩
  case round =>
    obtain ⟨j, ys, hj, rfl, HS⟩ := hrel
    obtain ⟨LA, Lc, hlv⟩ := (Ow.of HS.out.row).shape
    obtain ⟨QA, Qc, hkv⟩ := (Ow.of HS.out.keys).shape
    obtain ⟨Ln, hLn⟩ : ∃ Ln, ((mls L' q).take j).length = Ln := ⟨_, rfl⟩
    obtain ⟨Qn, hQn⟩ : ∃ Qn, ((mks ks q).take j).length = Qn := ⟨_, rfl⟩
    rw [hLn] at hlv
    rw [hQn] at hkv
    subst hlv hkv
    have HQL : Hid (q.length = Xn) := Lib.hid (by rw [HQ.out.length, hkn])
    by_cases hjm : j < Xn
    · obtain ⟨a, ha⟩ : ∃ a, q[j]? = some a := ⟨_, List.getElem?_eq_getElem (by rw [HQL.out]; exact hjm)⟩
      have ham : a < Xn := by have := HQ.out.lt ha; omega
      obtain ⟨x, hx⟩ : ∃ x, ks[a]? = some x := ⟨_, List.getElem?_eq_getElem (by omega)⟩
      obtain ⟨t0, ht0⟩ : ∃ t, L[a]? = some t := ⟨_, List.getElem?_eq_getElem (by rw [HLL.out]; omega)⟩
      obtain ⟨y, hy, hsy⟩ := srtL_get HSL.out a t0 ht0
      obtain ⟨xb, xo, rfl, hxb, hxc⟩ := HXR.out.2.2 (by omega)
      obtain ⟨kb, koff, rfl, hkb, hkc1⟩ := HK.out (by omega)
      obtain ⟨bb, off, rfl, hbb, hN⟩ := HL.out (by omega)
      have hxs : x.size ≤ maxLen := hksz x (List.mem_of_getElem? hx)
      have ji0 : (0 : Int) ≤ (j : Int) := by omega
      have ji1 : (j : Int) < (Xn : Int) := by omega
      have q0 : (0 : Int) ≤ (a : Int) := by omega
      have q1 : (a : Int) < (Xn : Int) := by omega
      have HF : Hid ((mks ks q).take (j + 1) = (mks ks q).take j ++ [x] ∧ (mls L' q).take (j + 1) = (mls L' q).take j ++ [y] ∧ Qn = j ∧ Ln = j) := Lib.hid (by
        refine ⟨?_, ?_, ?_, ?_⟩
        · rw [take_map (ky ks) q j a ha, ky_get hx]
        · rw [take_map (fun i => L'.getD i (.mk 0 0 0 ⟨#[]⟩ [] [])) q j a ha, kid_get hy]
        · rw [← hQn, List.length_take, List.length_map, HQL.out]; omega
        · rw [← hLn, List.length_take, List.length_map, HQL.out]; omega)
      have HXC : Hid (∀ W, Below w5.heap.size w5 W → W.cell? ⟨xb, xo + j, none⟩ = some (.int .i64 (a : Int)) ∧ W.cell? ⟨kb, koff + a, none⟩ = some (.string x)) := Lib.hid fun W hb =>
        ⟨(hb.cell (p := ⟨xb, xo + j, none⟩) hxb).trans (hxc j _ (by simp [ha])), hkc1 W (H3.out.below hb).bl a x hx⟩
      obtain ⟨z0, z1, z2, z3, z4, z5, hS0, hn0⟩ := hN.six' (Below.refl _ w) hbb ht0
      obtain ⟨k0, i0, n0, s0, B1, p1, d1, B2, p2, d2, hsh⟩ := hn0.shape
      simp only [List.cons.injEq, and_true] at hsh
      obtain ⟨rfl, rfl, rfl, rfl, rfl, rfl⟩ := hsh
      have HCALL : Hid (∀ (YA : Option Addr) (Yn Yc : Nat) (W : World), Hid (TA w5 (.slice YA Yn Yc) (.slice LA Ln Lc) ((mks ks q).take j ++ [x]) ((mls L' q).take j) ys W) → Calls Tryd.prog 46 #[.agg #[.int .i64 k0, .int .i64 i0, .int .u64 n0, .string s0, .slice B1 p1 d1, .slice B2 p2 d2]] W fun e w' => ∃ (k' n' u' : Int) (s' : ByteArray) (A1' : Option Addr) (m1' c1' : Nat) (A2' : Option Addr) (m2' c2' : Nat),
          e = .returned (.agg #[.int .i64 k', .int .i64 n', .int .u64 u', .string s', .slice A1' m1' c1', .slice A2' m2' c2']) ∧ Hid (TAK w5 (.slice YA Yn Yc) (.slice LA Ln Lc) ((mks ks q).take j ++ [x]) ((mls L' q).take j) ys y [.int .i64 k', .int .i64 n', .int .u64 u', .string s', .slice A1' m1' c1', .slice A2' m2' c2'] w')) := Lib.hid fun YA Yn Yc W H => by
        have hdl := dp_le_of ht0
        have hsl := sz_le_of ht0
        refine (HI.out t0 y _ W (by omega) (by omega) (smL_at HSM.out.2.2.2 ht0) (okL_mem.1 HOK.out.2 t0 (List.mem_of_getElem? ht0)) hsy (hn0.bel (H3.out.below H.out.bl).bl)).mono ?_
        rintro e w' ⟨⟨cs', rfl, h1⟩, h2⟩
        obtain ⟨k', n', u', s', A1', m1', c1', A2', m2', c2', rfl⟩ := h1.shape6
        exact ⟨k', n', u', s', A1', m1', c1', A2', m2', c2', rfl, Lib.hid (H.out.kidat h2 h1)⟩
      have HS0 := Lib.hid hS0
      have HD := Lib.hid (HS.out.below (Below.refl _ _).drew)
      obtain ⟨_, _, _, _, b4, _⟩ := Bx.all (H3.out.below HD.out.bl).b0
      obtain ⟨e1, e2⟩ := HXC.out wr.drew HD.out.bl
      have HNX : Hid (Qn + 1 ≤ 65536 ∧ Ln + 1 ≤ 65536) := Lib.hid (by have := HF.out.2.2; omega)
      clear hx ht0 hy hsy hxb hxc hkb hkc1 hN ha hn0 hS0 HD
      go_wp2_with fail
      go_region_law
        (first
          | (refine step_keyA (A := w5) (kq := .slice QA Qn Qc) (lq := .slice LA Ln Lc) (x := x) (ks := (mks ks q).take j) (d := (mls L' q).take j) (ys := ys) rfl _ _ rfl rfl rfl (by first | exact HS.out.below ((al0 wr _).drew) | exact (HS.out.below (Below.refl _ _).drew).below (al0 _ _)) (by first | exact Blk.new wr _ _ | exact Blk.new wr.drew _ _) hxs (by rw [hQn]; exact HNX.out.1) ?_; intro YA Yn Yc w6 HT6))
      all_goals
        clear e1 e2 b4
        have HD := Lib.hid (HT6.out.below (Below.refl _ _).drew)
        obtain ⟨_, _, _, _, _, b5⟩ := Bx.all (H3.out.below HD.out.bl).b0
        obtain ⟨e1, _⟩ := HXC.out w6.drew HD.out.bl
        obtain ⟨a0, a1, a2, a3, a4, a5⟩ := HS0.out.below (H3.out.below HD.out.bl).bl hbb
        go_wp2_with fail
        go_region_law (first
          | (refine step_kidA (A := w5) (kq := .slice YA Yn Yc) (lq := .slice LA Ln Lc) (ks := (mks ks q).take j ++ [x]) (d := (mls L' q).take j) (t := y) (ys := ys) rfl _ _ rfl rfl rfl (H8.out.below (al0 w8 _)) (Blk.new w8 _ _) (by rw [hLn]; exact HNX.out.2) ?_; intro ZA Zn Zc w9 HT9)
          | (go_simp; go_at_call 46; (with_reducible refine (HCALL.out _ _ _ _ HD).mono ?_); rintro e w8 ⟨k', n', u', s', A1', m1', c1', A2', m2', c2', rfl, H8⟩))
        all_goals
          go_wp2_with fail
          go_roundw
          case rel => exact ⟨j + 1, _, by omega, by simp, by rw [HF.out.1, HF.out.2.1]; exact HT9⟩
          case measure => simp [intOf]; omega
    · obtain rfl : j = Xn := by omega
      have hT := HS.out
      rw [List.take_of_length_le (by rw [List.length_map, HQL.out]; exact Nat.le_refl _), List.take_of_length_le (by rw [List.length_map, HQL.out]; exact Nat.le_refl _)] at hT
      have HB3 := Lib.hid (H3.out.below HS.out.bl)
      obtain ⟨⟨o0, o1, o2, o3, o4, o5⟩, f0, f1, f2, f3, f4, f5⟩ := Bx.both HB3.out.b2
      obtain ⟨⟨p0, p1, p2, p3, p4, p5⟩, e0, e1, e2, e3, e4, e5⟩ := Bx.both HB3.out.b1
      have hne1 : ¬ w.heap.size + 1 + 1 = w.heap.size + 1 := by omega
      have hne2 : ¬ w.heap.size + 1 = w.heap.size + 1 + 1 := by omega
      have HE := Lib.hid (ta_fin (W := (wr.setCell ⟨w.heap.size + 1 + 1, 4, none⟩ (.slice QA Qn Qc)).setCell ⟨w.heap.size + 1 + 1, 5, none⟩ (.slice LA Ln Lc)) H3.out hT hr hs (fun x hx => by
        obtain ⟨i, _, rfl⟩ := List.mem_map.1 hx
        exact ky_size hksz i) (fun b hb => (heap_set_other _ _ _ _ _ hb).trans (heap_set_other _ _ _ _ _ hb)) ⟨rfl, rfl, rfl, by simp⟩)
      clear hT
      go_wp2_with fail
      refine ret_six (p := 2) (g := w.heap.size + 1) rfl rfl HE.out.1 rfl ⟨⟨_, rfl, HE.out.2.1⟩, HE.out.2.2⟩
end Go.Proofs.YtnplkamkeadlgaaDoor
namespace Go.Proofs.YtnplkamkeadlgaaDoor
open Go.RowKit Go.Sort Go.Shelf

theorem rsorted_all : ∀ k, RSt k
  | 0 => fun t _ _ _ h => absurd h (by have := dp_pos t; omega)
  | k + 1 => by
    rintro ⟨kk, nn, uu, s, ks, L⟩ t' cs w hk hsz hsm hok ⟨L', hSL, ⟨h17, rfl⟩ | ⟨h17, q, hq, rfl⟩⟩ hn
    · exact rsorted_flat (rsorted_all k) hk hsz hsm hok hSL h17 hn
    · exact rsorted_map (rsorted_all k) hk hsz hsm hok hSL h17 hq hn
theorem rsorted_any (t t' : T) (cs : List Value) (w : World) (hsz : sz t ≤ 60000) (hsm : sm 1000 1000 t) (hok : okT t) (hs : Srt t t') (hn : Nd w t cs) :
    Calls Tryd.prog 46 #[.agg cs.toArray] w fun e w' => (∃ cs', e = .returned (.agg cs'.toArray) ∧ NdO (fun b => w.heap.size ≤ b) w' t' cs') ∧ Below w.heap.size w w' :=
  rsorted_all _ t t' cs w (Nat.le_refl _) hsz hsm hok hs hn
end Go.Proofs.YtnplkamkeadlgaaDoor
namespace Go.Proofs.YtnplkamkeadlgaaDoor
open Go.RowKit Go.Sort

set_option maxRecDepth 100000 in
set_option maxHeartbeats 4000000 in
theorem refSorted_err (t : T) (n : Nat) (cs : List Value) (w : World) (hsz : sz t ≤ 100000) (hc : chk t = n) (h0 : n ≠ 0) (hnd : Nd w t cs) :
    Calls Tryd.prog 30 #[.agg cs.toArray] w fun e w' => e = .returned (.tuple #[.agg #[.int .i64 0, .int .i64 0, .int .u64 0, .string ⟨#[]⟩, .slice none 0 0, .slice none 0 0], .int .i64 (n : Int)]) ∧ Hid (Below w.heap.size w w') := by
  obtain ⟨ka0, na0, ua0, sa0, EA0, qa0, fa0, GA0, ra0, ha0, rfl⟩ := hnd.shape
  have hT0 := Two.start w (.int .i64 ka0) (.int .i64 na0) (.int .u64 ua0) (.string sa0) (.slice EA0 qa0 fa0) (.slice GA0 ra0 ha0) (.int .i64 0) (.int .i64 0) (.int .u64 0) (.string ⟨#[]⟩) (.slice none 0 0) (.slice none 0 0)
  have HT0 := Lib.hid hT0
  have HCK := Lib.hid (refCheck_any t _ _ hsz (hnd.bel hT0.1))
  rw [hc] at HCK
  obtain ⟨c0, c1, c2, c3, c4, c5⟩ := hT0.2.2.1.all
  have H0 := Lib.hid h0
  clear hnd hT0 hc h0
  go_enter Tryd.func30, Tryd.ntmps30
  go_wp2_with fail
  refine HCK.out.mono ?_
  rintro e w2 ⟨rfl, hb2⟩
  have HT2 := Lib.hid (HT0.out.below hb2)
  clear c0 c1 c2 c3 c4 c5 hb2
  have hx0 : ((n : Int) != 0) = true := by have := H0.out; simp; omega
  obtain ⟨⟨z0, z1, z2, z3, z4, z5⟩, y0, y1, y2, y3, y4, y5⟩ := Bx.both HT2.out.2.2.2
  go_wp2_with fail
  refine ret_six2 (p := 2) (q := 3) (g := w.heap.size + 1) rfl rfl rfl (Bx.put6 HT2.out.2.2.2 _ _ _ _ _ _) rfl ?_
  exact ⟨rfl, Lib.hid (put6_below HT2.out.1 _ _ _ _ _ _ _ _ (by omega))⟩

set_option maxRecDepth 100000 in
set_option maxHeartbeats 4000000 in
theorem refSorted_ok (t t' : T) (cs : List Value) (w : World) (hsz : sz t ≤ 60000) (hsm : sm 1000 1000 t) (hc : chk t = 0) (hs : Srt t t') (hnd : Nd w t cs) :
    Calls Tryd.prog 30 #[.agg cs.toArray] w fun e w' => ∃ (ka9 na9 ua9 : Int) (sa9 : ByteArray) (EA9 : Option Addr) (qa9 fa9 : Nat) (GA9 : Option Addr) (ra9 ha9 : Nat), e = .returned (.tuple #[.agg #[.int .i64 ka9, .int .i64 na9, .int .u64 ua9, .string sa9, .slice EA9 qa9 fa9, .slice GA9 ra9 ha9], .int .i64 0]) ∧ Hid (Nd w' t' [.int .i64 ka9, .int .i64 na9, .int .u64 ua9, .string sa9, .slice EA9 qa9 fa9, .slice GA9 ra9 ha9]) ∧ Hid (Below w.heap.size w w') := by
  obtain ⟨ka0, na0, ua0, sa0, EA0, qa0, fa0, GA0, ra0, ha0, rfl⟩ := hnd.shape
  have hT0 := Two.start w (.int .i64 ka0) (.int .i64 na0) (.int .u64 ua0) (.string sa0) (.slice EA0 qa0 fa0) (.slice GA0 ra0 ha0) (.int .i64 0) (.int .i64 0) (.int .u64 0) (.string ⟨#[]⟩) (.slice none 0 0) (.slice none 0 0)
  have HT0 := Lib.hid hT0
  have HCK := Lib.hid (refCheck_any t _ _ (by omega) (hnd.bel hT0.1))
  rw [hc] at HCK
  have HN := Lib.hid hnd
  have HOK : Hid (okT t) := Lib.hid ((chk_zero t).1 hc).1
  have HS := Lib.hid hs
  obtain ⟨c0, c1, c2, c3, c4, c5⟩ := hT0.2.2.1.all
  clear hnd hT0 hc hs
  go_enter Tryd.func30, Tryd.ntmps30
  go_wp2_with fail
  refine HCK.out.mono ?_
  rintro e w2 ⟨rfl, hb2⟩
  have HT2 := Lib.hid (HT0.out.below hb2)
  clear c0 c1 c2 c3 c4 c5 hb2 HCK
  have HCP := Lib.hid (copyNode_any (dp t) t _ w2 (Nat.le_refl _) (by omega) hsm (HN.out.bel HT2.out.1))
  obtain ⟨c0, c1, c2, c3, c4, c5⟩ := HT2.out.2.2.1.all
  go_wp2_with fail
  refine HCP.out.mono ?_
  rintro e w3 ⟨⟨cs', rfl, h1⟩, hb3⟩
  obtain ⟨ka1, na1, ua1, sa1, EA1, qa1, fa1, GA1, ra1, ha1, rfl⟩ := h1.shape6
  have HRS := Lib.hid (rsorted_any t t' _ w3 hsz hsm HOK.out HS.out (NdO.nd _ _ h1))
  have HT3 := Lib.hid (HT2.out.below hb3)
  clear c0 c1 c2 c3 c4 c5 hb3 HCP h1
  go_wp2_with fail
  refine HRS.out.mono ?_
  rintro e w4 ⟨⟨cs'', rfl, h2⟩, hb4⟩
  obtain ⟨ka2, na2, ua2, sa2, EA2, qa2, fa2, GA2, ra2, ha2, rfl⟩ := h2.shape6
  have HT4 := Lib.hid (HT3.out.below hb4)
  have H2 := Lib.hid h2
  have HL : Hid (w.heap.size + 2 ≤ w3.heap.size) := Lib.hid HT3.out.2.1
  clear hb4 HRS h2
  obtain ⟨⟨z0, z1, z2, z3, z4, z5⟩, y0, y1, y2, y3, y4, y5⟩ := Bx.both HT4.out.2.2.2
  go_wp2_with fail
  refine ret_six2 (p := 2) (q := 3) (g := w.heap.size + 1) rfl rfl rfl (Bx.put6 HT4.out.2.2.2 _ _ _ _ _ _) rfl ?_
  refine ⟨ka2, na2, ua2, sa2, EA2, qa2, fa2, GA2, ra2, ha2, rfl, Lib.hid (NdO.nd _ _ (NdO.step (U' := fun _ => True) (fun b hb _ => ⟨put6_other _ _ _ _ _ _ _ _ _ _ ?_, trivial⟩) _ _ H2.out)), Lib.hid (put6_below HT4.out.1 _ _ _ _ _ _ _ _ (by omega))⟩
  have := HL.out
  omega
end Go.Proofs.YtnplkamkeadlgaaDoor
