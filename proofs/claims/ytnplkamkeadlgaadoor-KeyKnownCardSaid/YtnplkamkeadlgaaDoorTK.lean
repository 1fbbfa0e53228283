/-
  What is proved here: what a call keeps that builds a node out of the children of its argument, by appends, one by one; no condition but those that each fact states; and: appends of one key and of one child within a region that draws its order, for a node that is built; no condition but those that each fact states.
-/
import Derived.Test.YtnplkamkeadlgaaDoorCopyN
import Derived.Test.YtnplkamkeadlgaaDoorExB
namespace Go.Proofs.YtnplkamkeadlgaaDoor
open Go.RowKit

def UR (w : World) (o : Nat) (kq lq : Value) (b : Nat) : Prop := w.heap.size + 2 ≤ b ∧ b ≠ o ∧ some b ≠ kq.ownBlock ∧ some b ≠ lq.ownBlock
/-- The argument's box, the result's box, the box o of the node that is built; the row of its keys (kq), the row of its children (lq). -/
structure TB (w : World) (o : Nat) (v0 v1 v2 v3 v4 v5 o0 o1 o2 o3 o4 o5 kq lq : Value) (ks : List ByteArray) (d : List T) (ys : List Value) (wr : World) : Prop where
  bl : Below w.heap.size w wr
  ob : w.heap.size + 1 ≤ o
  bt : Bx wr w.heap.size v0 v1 v2 v3 v4 v5
  br : ∃ z0 z1 z2 z3 z4 z5, Bx wr (w.heap.size + 1) z0 z1 z2 z3 z4 z5
  bo : Bx wr o o0 o1 o2 o3 o4 o5
  keys : wr.ownsRow (w.heap.size + 2) 9 1 kq ks.length (ks.map Value.string)
  keyo : kq.ownBlock ≠ some o
  row : wr.ownsRow (w.heap.size + 2) 31 6 lq d.length ys
  rowo : lq.ownBlock ≠ some o
  kr : ∀ g, kq.ownBlock = some g → lq.ownBlock ≠ some g
  kids : NdOL (UR w o kq lq) wr d ys
theorem own_low {w : World} {B n size : Nat} {e : TypeId} {v : Value} {xs : List Value} (h : w.ownsRow B e size v n xs) {g : Nat} (hg : v.ownBlock = some g) : B ≤ g ∧ g < w.heap.size := h.lt g hg
theorem own_kept {w w' : World} {B n size : Nat} {e : TypeId} {v : Value} {xs : List Value} (h : w.ownsRow B e size v n xs) (hk : ∀ g, v.ownBlock = some g → w'.heap[g]? = w.heap[g]?) : w'.ownsRow B e size v n xs := by
  have hO : Ow (fun b => B ≤ b ∧ v.ownBlock = some b) w e size v n xs := ⟨(Ow.of h).1, fun g hg => ⟨(Ow.of h).2 g hg, hg⟩⟩
  have hO2 := hO.step (w' := w') (U' := fun b => B ≤ b) fun b hb _ => ⟨hk b hb.2, hb.1⟩
  refine ⟨h.1, ?_⟩
  rcases hO2.1.2 with h0 | ⟨g, cap, cur, e, _, h4⟩
  · exact .inl h0
  · exact .inr ⟨g, cap, cur, e, hO2.2 g (by rw [e]; rfl), h4⟩
section
variable {w wr w2 w3 : World} {o n0 : Nat} {v0 v1 v2 v3 v4 v5 o0 o1 o2 o3 o4 o5 kq lq v' : Value} {ks : List ByteArray} {d : List T} {ys cs : List Value} {t : T} {x : ByteArray}
theorem TB.below (h : TB w o v0 v1 v2 v3 v4 v5 o0 o1 o2 o3 o4 o5 kq lq ks d ys wr) (hb : Below wr.heap.size wr w2) : TB w o v0 v1 v2 v3 v4 v5 o0 o1 o2 o3 o4 o5 kq lq ks d ys w2 := by
  have hs := h.bl.size
  have hk : ∀ b, UR w o kq lq b → b < wr.heap.size → w2.heap[b]? = wr.heap[b]? ∧ UR w o kq lq b := fun b hb2 hlt => ⟨hb.block b hlt, hb2⟩
  obtain ⟨z0, z1, z2, z3, z4, z5, hz⟩ := h.br
  exact ⟨h.bl.trans (hb.mono hs), h.ob, Blk.below h.bt hb (Blk.lt h.bt), ⟨z0, z1, z2, z3, z4, z5, Blk.below hz hb (Blk.lt hz)⟩, Blk.below h.bo hb (Blk.lt h.bo), own_kept h.keys fun g hg => hb.block g (h.keys.lt g hg).2, h.keyo,
    own_kept h.row fun g hg => hb.block g (h.row.lt g hg).2, h.rowo, h.kr, NdOL.step hk _ _ h.kids⟩
/-- One key more. -/
theorem TB.key (h : TB w o v0 v1 v2 v3 v4 v5 o0 o1 o2 o3 o4 o5 kq lq ks d ys wr) (hown : w3.ownsRow (w.heap.size + 2) 9 1 v' (ks.length + 1) (ks.map Value.string ++ [.string x])) (hg : wr.grownBy w3 kq.ownBlock)
    (hp : v'.ownBlock = kq.ownBlock ∨ v'.ownBlock = some wr.heap.size) : TB w o v0 v1 v2 v3 v4 v5 o0 o1 o2 o3 o4 o5 v' lq (ks ++ [x]) d ys w3 := by
  have hs := h.bl.size
  have ho := h.ob
  have hol := Blk.lt h.bo
  have hgb : ∀ b, b < wr.heap.size → some b ≠ kq.ownBlock → w3.heap[b]? = wr.heap[b]? := fun b hb hne => hg.block b hb hne
  have hlow : ∀ g, kq.ownBlock = some g → w.heap.size + 2 ≤ g := fun g hg => (h.keys.lt g hg).1
  have hne : ∀ b, b < w.heap.size + 2 → some b ≠ kq.ownBlock := fun b hb e => by have := hlow b e.symm; omega
  have hnew : ∀ b, b < wr.heap.size → some b ≠ kq.ownBlock → some b ≠ v'.ownBlock := by
    intro b hb hn e
    rcases hp with e2 | e2
    · exact hn (by rw [e, e2])
    · rw [e2] at e
      have := Option.some.inj e
      omega
  obtain ⟨z0, z1, z2, z3, z4, z5, hz⟩ := h.br
  refine ⟨⟨hg.os.trans h.bl.os, hg.tape.trans h.bl.tape, hg.output.trans h.bl.output, by have := hg.size; omega, fun i hi => (hgb i (by omega) (hne i (by omega))).trans (h.bl.block i hi)⟩, ho,
    (hgb _ (Blk.lt h.bt) (hne _ (by omega))).trans h.bt, ⟨z0, z1, z2, z3, z4, z5, (hgb _ (Blk.lt hz) (hne _ (by omega))).trans hz⟩, (hgb _ hol (fun e => h.keyo e.symm)).trans h.bo, by simpa using hown, ?_, ?_, h.rowo, ?_, ?_⟩
  · exact fun e => hnew o hol (fun e => h.keyo e.symm) e.symm
  · exact own_kept h.row fun g hgl => hgb g (h.row.lt g hgl).2 fun e => h.kr g e.symm hgl
  · intro g hg2 hl
    exact hnew g (h.row.lt g hl).2 (fun e => h.kr g e.symm hl) hg2.symm
  · exact NdOL.step (fun b hb hlt => ⟨hgb b hlt hb.2.2.1, hb.1, hb.2.1, hnew b hlt hb.2.2.1, hb.2.2.2⟩) _ _ h.kids
/-- One child more. -/
theorem TB.kid (h : TB w o v0 v1 v2 v3 v4 v5 o0 o1 o2 o3 o4 o5 kq lq ks d ys wr) (ht : NdO (fun b => n0 ≤ b) wr t cs) (hno : o < n0) (hn2 : w.heap.size + 2 ≤ n0) (hlq : ∀ g, lq.ownBlock = some g → g < n0) (hkq : ∀ g, kq.ownBlock = some g → g < n0)
    (hown : w3.ownsRow (w.heap.size + 2) 31 6 v' (d.length + 1) (ys ++ cs)) (hg : wr.grownBy w3 lq.ownBlock) (hp : v'.ownBlock = lq.ownBlock ∨ v'.ownBlock = some wr.heap.size) :
    TB w o v0 v1 v2 v3 v4 v5 o0 o1 o2 o3 o4 o5 kq v' ks (d ++ [t]) (ys ++ cs) w3 := by
  have hs := h.bl.size
  have ho := h.ob
  have hol := Blk.lt h.bo
  have hgb : ∀ b, b < wr.heap.size → some b ≠ lq.ownBlock → w3.heap[b]? = wr.heap[b]? := fun b hb hne => hg.block b hb hne
  have hlow : ∀ g, lq.ownBlock = some g → w.heap.size + 2 ≤ g := fun g hg => (h.row.lt g hg).1
  have hne : ∀ b, b < w.heap.size + 2 → some b ≠ lq.ownBlock := fun b hb e => by have := hlow b e.symm; omega
  have hnew : ∀ b, b < wr.heap.size → some b ≠ lq.ownBlock → some b ≠ v'.ownBlock := by
    intro b hb hn e
    rcases hp with e2 | e2
    · exact hn (by rw [e, e2])
    · rw [e2] at e
      have := Option.some.inj e
      omega
  obtain ⟨z0, z1, z2, z3, z4, z5, hz⟩ := h.br
  refine ⟨⟨hg.os.trans h.bl.os, hg.tape.trans h.bl.tape, hg.output.trans h.bl.output, by have := hg.size; omega, fun i hi => (hgb i (by omega) (hne i (by omega))).trans (h.bl.block i hi)⟩, ho,
    (hgb _ (Blk.lt h.bt) (hne _ (by omega))).trans h.bt, ⟨z0, z1, z2, z3, z4, z5, (hgb _ (Blk.lt hz) (hne _ (by omega))).trans hz⟩, (hgb _ hol (fun e => h.rowo e.symm)).trans h.bo, ?_, h.keyo, by simpa using hown, ?_, ?_, ?_⟩
  · exact own_kept h.keys fun g hgl => hgb g (h.keys.lt g hgl).2 fun e => h.kr g hgl e.symm
  · exact fun e => hnew o hol (fun e => h.rowo e.symm) e.symm
  · intro g hg2 hl
    exact hnew g (h.keys.lt g hg2).2 (fun e => h.kr g hg2 e.symm) hl.symm
  · refine NdOL.app (NdO.step (fun b hb hlt => ?_) _ _ ht) (NdOL.step (fun b hb hlt => ⟨hgb b hlt hb.2.2.2, hb.1, hb.2.1, hb.2.2.1, hnew b hlt hb.2.2.2⟩) _ _ h.kids)
    have h1 : some b ≠ lq.ownBlock := fun e => by have := hlq b e.symm; omega
    exact ⟨hgb b hlt h1, by omega, by omega, fun e => by have := hkq b e.symm; omega, hnew b hlt h1⟩
/-- A store into the node's box. -/
theorem TB.set4 (h : TB w o v0 v1 v2 v3 v4 v5 o0 o1 o2 o3 o4 o5 kq lq ks d ys wr) (ho : w.heap.size + 2 ≤ o) (u : Value) : TB w o v0 v1 v2 v3 v4 v5 o0 o1 o2 o3 u o5 kq lq ks d ys (wr.setCell ⟨o, 4, none⟩ u) := by
  obtain ⟨z0, z1, z2, z3, z4, z5, hz⟩ := h.br
  have hk : ∀ b, b ≠ o → (wr.setCell ⟨o, 4, none⟩ u).heap[b]? = wr.heap[b]? := fun b hb => heap_set_other _ _ _ _ _ hb
  exact ⟨h.bl.setCell (p := ⟨o, 4, none⟩) (by show w.heap.size ≤ o; omega) u, h.ob, (hk _ (by omega)).trans h.bt, ⟨z0, z1, z2, z3, z4, z5, (hk _ (by omega)).trans hz⟩, Bx.set4 h.bo u, own_kept h.keys fun g hg => hk g fun e => h.keyo (by rw [hg, e]), h.keyo,
    own_kept h.row fun g hg => hk g fun e => h.rowo (by rw [hg, e]), h.rowo, h.kr, NdOL.step (fun b hb _ => ⟨hk b hb.2.1, hb⟩) _ _ h.kids⟩
theorem TB.set5 (h : TB w o v0 v1 v2 v3 v4 v5 o0 o1 o2 o3 o4 o5 kq lq ks d ys wr) (ho : w.heap.size + 2 ≤ o) (u : Value) : TB w o v0 v1 v2 v3 v4 v5 o0 o1 o2 o3 o4 u kq lq ks d ys (wr.setCell ⟨o, 5, none⟩ u) := by
  obtain ⟨z0, z1, z2, z3, z4, z5, hz⟩ := h.br
  have hk : ∀ b, b ≠ o → (wr.setCell ⟨o, 5, none⟩ u).heap[b]? = wr.heap[b]? := fun b hb => heap_set_other _ _ _ _ _ hb
  exact ⟨h.bl.setCell (p := ⟨o, 5, none⟩) (by show w.heap.size ≤ o; omega) u, h.ob, (hk _ (by omega)).trans h.bt, ⟨z0, z1, z2, z3, z4, z5, (hk _ (by omega)).trans hz⟩, Bx.set5 h.bo u, own_kept h.keys fun g hg => hk g fun e => h.keyo (by rw [hg, e]), h.keyo,
    own_kept h.row fun g hg => hk g fun e => h.rowo (by rw [hg, e]), h.rowo, h.kr, NdOL.step (fun b hb _ => ⟨hk b hb.2.1, hb⟩) _ _ h.kids⟩
theorem TB.set0 (h : TB w o v0 v1 v2 v3 v4 v5 o0 o1 o2 o3 o4 o5 kq lq ks d ys wr) (ho : w.heap.size + 2 ≤ o) (u : Value) : TB w o v0 v1 v2 v3 v4 v5 u o1 o2 o3 o4 o5 kq lq ks d ys (wr.setCell ⟨o, 0, none⟩ u) := by
  obtain ⟨z0, z1, z2, z3, z4, z5, hz⟩ := h.br
  have hk : ∀ b, b ≠ o → (wr.setCell ⟨o, 0, none⟩ u).heap[b]? = wr.heap[b]? := fun b hb => heap_set_other _ _ _ _ _ hb
  exact ⟨h.bl.setCell (p := ⟨o, 0, none⟩) (by show w.heap.size ≤ o; omega) u, h.ob, (hk _ (by omega)).trans h.bt, ⟨z0, z1, z2, z3, z4, z5, (hk _ (by omega)).trans hz⟩, Bx.set0 h.bo u, own_kept h.keys fun g hg => hk g fun e => h.keyo (by rw [hg, e]), h.keyo,
    own_kept h.row fun g hg => hk g fun e => h.rowo (by rw [hg, e]), h.rowo, h.kr, NdOL.step (fun b hb _ => ⟨hk b hb.2.1, hb⟩) _ _ h.kids⟩
/-- The result: written into its box, it is the node. -/
theorem TB.fin (h : TB w o v0 v1 v2 v3 v4 v5 o0 o1 o2 o3 o4 o5 kq lq ks d ys wr) {k n u : Int} {s : ByteArray} (hr : Rng k n u) (hs : s.size ≤ maxLen) (hks : ∀ x ∈ ks, x.size ≤ maxLen) :
    Bx (put6 wr (w.heap.size + 1) 0 (.int .i64 k) (.int .i64 n) (.int .u64 u) (.string s) kq lq) (w.heap.size + 1) (.int .i64 k) (.int .i64 n) (.int .u64 u) (.string s) kq lq ∧
    NdO (fun b => w.heap.size ≤ b) (put6 wr (w.heap.size + 1) 0 (.int .i64 k) (.int .i64 n) (.int .u64 u) (.string s) kq lq) (.mk k n u s ks d) [.int .i64 k, .int .i64 n, .int .u64 u, .string s, kq, lq] ∧
    Below w.heap.size w (put6 wr (w.heap.size + 1) 0 (.int .i64 k) (.int .i64 n) (.int .u64 u) (.string s) kq lq) := by
  obtain ⟨z0, z1, z2, z3, z4, z5, hz⟩ := h.br
  have hk : ∀ b, w.heap.size + 2 ≤ b → (put6 wr (w.heap.size + 1) 0 (.int .i64 k) (.int .i64 n) (.int .u64 u) (.string s) kq lq).heap[b]? = wr.heap[b]? := fun b h2 => put6_other _ _ _ _ _ _ _ _ _ _ (by omega)
  refine ⟨Bx.put6 hz _ _ _ _ _ _, ⟨hr, hs, hks, kq, lq, ys, rfl, ?_, ?_, ?_⟩, put6_below h.bl _ _ _ _ _ _ _ _ (by omega)⟩
  · exact (Ow.of h.keys).step fun b hb _ => ⟨hk b hb, by omega⟩
  · exact (Ow.of h.row).step fun b hb _ => ⟨hk b hb, by omega⟩
  · exact NdOL.step (fun b hb _ => ⟨hk b hb.1, by have := hb.1; omega⟩) _ _ h.kids
end
end Go.Proofs.YtnplkamkeadlgaaDoor
namespace Go.Proofs.YtnplkamkeadlgaaDoor
open Go.RowKit

theorem run_kid {w : World} {base n g : Nat} {v : Value} {xs : List Value} {c0 c1 c2 c3 c4 c5 : Value} (ty : TypeId) (hown : w.ownsRow base 31 6 v n xs) (hB : Bx w g c0 c1 c2 c3 c4 c5) (hone : ∀ u ∈ [c0, c1, c2, c3, c4, c5], u.oneCell' = true)
    (hb : n + 1 ≤ 65536) (hbase : base ≤ w.heap.size) :
    ∃ v' w', (Builtin.append_ #[29, 29] ty #[v, .slice (some ⟨g, 0, none⟩) 1 1]).run Tryd.prog w = .ok v' w' ∧ w'.ownsRow base 31 6 v' (n + 1) (xs ++ [c0, c1, c2, c3, c4, c5]) ∧ w.grownBy w' v.ownBlock ∧ (v'.ownBlock = v.ownBlock ∨ v'.ownBlock = some w.heap.size) := by
  obtain ⟨i, hi, hz0, hz1, hz2⟩ := info_parts infoN
  obtain ⟨v', w', hrun, q1, q2, _, q4⟩ := run_append_own_at (P := Tryd.prog) w base 29 ty 31 i _ 6 88 Tryd.underlying29 hi hz0 hz1 hz2 rfl (by decide) v n xs hown ⟨g, 0, none⟩ 1 1 [c0, c1, c2, c3, c4, c5]
    (by simp) (fun j u hj => by
      rw [show ((⟨g, 0, none⟩ : Addr).add j) = ⟨g, j, none⟩ by unfold Addr.add; by_cases h : j = 0 <;> simp [h], Blk.cell hB j]
      simpa using hj) hone (by simp only [maxLen]; omega) (by omega) hbase
  exact ⟨v', w', hrun, q1, q2, q4⟩
/-- What the argument's and the built node's boxes hold. -/
structure TC (w : World) (o : Nat) (v0 v1 v2 v3 v4 v5 o0 o1 o2 o3 o4 o5 : Value) (W : World) : Prop where
  bl : Below w.heap.size w W
  bt : Bx W w.heap.size v0 v1 v2 v3 v4 v5
  bo : Bx W o o0 o1 o2 o3 o4 o5
/-- .. and the built node's box lies there. -/
structure TF (w : World) (o : Nat) (v0 v1 v2 v3 v4 v5 : Value) (W : World) : Prop where
  bl : Below w.heap.size w W
  ho : w.heap.size + 2 ≤ o
  bt : Bx W w.heap.size v0 v1 v2 v3 v4 v5
  bo : ∃ x0 x1 x2 x3 x4 x5, Bx W o x0 x1 x2 x3 x4 x5
/-- .. and a child at hand. -/
structure TK (w : World) (o : Nat) (v0 v1 v2 v3 v4 v5 o0 o1 o2 o3 o4 o5 kq lq : Value) (ks : List ByteArray) (d : List T) (ys : List Value) (t : T) (cs : List Value) (W : World) : Prop where
  tb : TB w o v0 v1 v2 v3 v4 v5 o0 o1 o2 o3 o4 o5 kq lq ks d ys W
  kid : ∃ n0, NdO (fun b => n0 ≤ b) W t cs ∧ o < n0 ∧ w.heap.size + 2 ≤ n0 ∧ (∀ g, lq.ownBlock = some g → g < n0) ∧ ∀ g, kq.ownBlock = some g → g < n0
section
variable {w wr w2 W : World} {o : Nat} {v0 v1 v2 v3 v4 v5 o0 o1 o2 o3 o4 o5 kq lq v' : Value} {ks : List ByteArray} {d : List T} {ys cs : List Value} {t : T} {x : ByteArray}
theorem TB.tc (h : TB w o v0 v1 v2 v3 v4 v5 o0 o1 o2 o3 o4 o5 kq lq ks d ys W) : TC w o v0 v1 v2 v3 v4 v5 o0 o1 o2 o3 o4 o5 W := ⟨h.bl, h.bt, h.bo⟩
theorem TC.below (h : TC w o v0 v1 v2 v3 v4 v5 o0 o1 o2 o3 o4 o5 W) (hb : Below W.heap.size W w2) : TC w o v0 v1 v2 v3 v4 v5 o0 o1 o2 o3 o4 o5 w2 := ⟨h.bl.trans (hb.mono h.bl.size), h.bt.below hb h.bt.lt, h.bo.below hb h.bo.lt⟩
theorem TC.tf (h : TC w o v0 v1 v2 v3 v4 v5 o0 o1 o2 o3 o4 o5 W) (ho : w.heap.size + 2 ≤ o) : TF w o v0 v1 v2 v3 v4 v5 W := ⟨h.bl, ho, h.bt, _, _, _, _, _, _, h.bo⟩
theorem TF.below (h : TF w o v0 v1 v2 v3 v4 v5 W) (hb : Below W.heap.size W w2) : TF w o v0 v1 v2 v3 v4 v5 w2 := by
  obtain ⟨x0, x1, x2, x3, x4, x5, hx⟩ := h.bo
  exact ⟨h.bl.trans (hb.mono h.bl.size), h.ho, h.bt.below hb h.bt.lt, _, _, _, _, _, _, hx.below hb hx.lt⟩
theorem TF.set4 (h : TF w o v0 v1 v2 v3 v4 v5 W) (u : Value) : TF w o v0 v1 v2 v3 v4 v5 (W.setCell ⟨o, 4, none⟩ u) := by
  obtain ⟨x0, x1, x2, x3, x4, x5, hx⟩ := h.bo
  have ho := h.ho
  exact ⟨h.bl.setCell (p := ⟨o, 4, none⟩) (by show w.heap.size ≤ o; omega) u, ho, (heap_set_other _ _ _ _ _ (by omega)).trans h.bt, _, _, _, _, _, _, Bx.set4 hx u⟩
theorem TF.set5 (h : TF w o v0 v1 v2 v3 v4 v5 W) (u : Value) : TF w o v0 v1 v2 v3 v4 v5 (W.setCell ⟨o, 5, none⟩ u) := by
  obtain ⟨x0, x1, x2, x3, x4, x5, hx⟩ := h.bo
  have ho := h.ho
  exact ⟨h.bl.setCell (p := ⟨o, 5, none⟩) (by show w.heap.size ≤ o; omega) u, ho, (heap_set_other _ _ _ _ _ (by omega)).trans h.bt, _, _, _, _, _, _, Bx.set5 hx u⟩
theorem TF.frozen (h : TF w o v0 v1 v2 v3 v4 v5 W) (i : Nat) : W.frozen? ⟨o, i, none⟩ = false := by
  obtain ⟨x0, x1, x2, x3, x4, x5, hx⟩ := h.bo
  exact Blk.frozen hx i
theorem TK.below (h : TK w o v0 v1 v2 v3 v4 v5 o0 o1 o2 o3 o4 o5 kq lq ks d ys t cs W) (hb : Below W.heap.size W w2) : TK w o v0 v1 v2 v3 v4 v5 o0 o1 o2 o3 o4 o5 kq lq ks d ys t cs w2 := by
  obtain ⟨n0, h1, h2⟩ := h.kid
  exact ⟨h.tb.below hb, n0, NdO.step (fun b hb2 hlt => ⟨hb.block b hlt, hb2⟩) _ _ h1, h2⟩
theorem TB.kidat (h : TB w o v0 v1 v2 v3 v4 v5 o0 o1 o2 o3 o4 o5 kq lq ks d ys W) (hw : w.heap.size + 2 ≤ W.heap.size) (hb : Below W.heap.size W w2) (hn : NdO (fun b => W.heap.size ≤ b) w2 t cs) : TK w o v0 v1 v2 v3 v4 v5 o0 o1 o2 o3 o4 o5 kq lq ks d ys t cs w2 :=
  ⟨h.below hb, W.heap.size, hn, h.bo.lt, hw, fun g hg => (h.row.lt g hg).2, fun g hg => (h.keys.lt g hg).2⟩
section
variable {ops : Array Oper} {op : Oper} {a : Act} {K : Act → World → Prop} {Q : Exit → Act → World → Prop} {E : Prop} {g : Nat}
theorem step_kid {c0 c1 c2 c3 c4 c5 : Value} (hgd : op.guard = none) (s x : Operand) (ho : op.op = .call { callee := .builtin .append, args := #[s, x], argTypes := #[29, 29] }) (hs : a.eval s = lq) (hx : a.eval x = .slice (some ⟨g, 0, none⟩) 1 1)
    (hT : TK w o v0 v1 v2 v3 v4 v5 o0 o1 o2 o3 o4 o5 kq lq ks d ys t [c0, c1, c2, c3, c4, c5] W) (hB : Bx W g c0 c1 c2 c3 c4 c5) (hb : d.length + 1 ≤ 65536)
    (h : ∀ XA Xn Xc w', Hid (TB w o v0 v1 v2 v3 v4 v5 o0 o1 o2 o3 o4 o5 kq (.slice XA Xn Xc) ks (d ++ [t]) (ys ++ [c0, c1, c2, c3, c4, c5]) w') → Hid (TC w o v0 v1 v2 v3 v4 v5 o0 o1 o2 o3 o4 o5 w') → K (a.put op.dst (.slice XA Xn Xc)) w') :
    if Region.wanted op (yielded ops a.tmps) = true then Oper.wp Tryd.prog op a W K Q else E := by
  have hw : Region.wanted op (yielded ops a.tmps) = true := by simp [Region.wanted, hgd]
  rw [if_pos hw]
  obtain ⟨n0, k1, k2, k3, k4, k5⟩ := hT.kid
  have hbs : w.heap.size + 2 ≤ W.heap.size := by
    have h1 := hT.tb.br
    obtain ⟨_, _, _, _, _, _, h1⟩ := h1
    have := Blk.lt h1
    omega
  obtain ⟨v', w', hrun, h2, h3, h4⟩ := run_kid op.type hT.tb.row hB (NdO.one k1) hb hbs
  unfold Oper.wp execOp
  simp only [ho, resolve, invoke, builtin, Sem.run_bind, Sem.run_pure, Result.andThen_ok, List.map_toArray, List.map_cons, List.map_nil, hs, hx, hrun]
  have := hT.tb.kid k1 k2 k3 k4 k5 h2 h3 h4
  obtain ⟨XA, Xc, rfl⟩ := (Ow.of h2).shape
  exact h _ _ _ w' (Lib.hid this) (Lib.hid this.tc)
theorem step_key (hgd : op.guard = none) (s y : Operand) (ho : op.op = .call { callee := .builtin .append, args := #[s, y], argTypes := #[22, 22] }) (hs : a.eval s = kq) (hx : a.eval y = .slice (some ⟨g, 0, none⟩) 1 1)
    (hT : TB w o v0 v1 v2 v3 v4 v5 o0 o1 o2 o3 o4 o5 kq lq ks d ys W) (hB : Blk W g 9 #[.string x]) (hxs : x.size ≤ maxLen) (hb : ks.length + 1 ≤ 65536)
    (h : ∀ XA Xn Xc w', Hid (TB w o v0 v1 v2 v3 v4 v5 o0 o1 o2 o3 o4 o5 (.slice XA Xn Xc) lq (ks ++ [x]) d ys w') → Hid (TC w o v0 v1 v2 v3 v4 v5 o0 o1 o2 o3 o4 o5 w') → K (a.put op.dst (.slice XA Xn Xc)) w') :
    if Region.wanted op (yielded ops a.tmps) = true then Oper.wp Tryd.prog op a W K Q else E := by
  have hw : Region.wanted op (yielded ops a.tmps) = true := by simp [Region.wanted, hgd]
  rw [if_pos hw]
  have hbs : w.heap.size + 2 ≤ W.heap.size := by
    have h1 := hT.br
    obtain ⟨_, _, _, _, _, _, h1⟩ := h1
    have := Blk.lt h1
    omega
  obtain ⟨v', w', hrun, h2, h3, h4⟩ := run_appS op.type hT.keys (rds_one hB hxs) (by omega) hbs
  unfold Oper.wp execOp
  simp only [ho, resolve, invoke, builtin, Sem.run_bind, Sem.run_pure, Result.andThen_ok, List.map_toArray, List.map_cons, List.map_nil, hs, hx, hrun]
  have := hT.key h2 h3 h4
  obtain ⟨XA, Xc, rfl⟩ := (Ow.of h2).shape
  exact h _ _ _ w' (Lib.hid this) (Lib.hid this.tc)
end
end
end Go.Proofs.YtnplkamkeadlgaaDoor
