/-
  What is proved here: a contract of CopyNode: an equal tree in memory of the call's own; conditions: at most 100000 nodes, 1000 keys a node.
-/
import Derived.Test.YtnplkamkeadlgaaDoorCopyN
namespace Go.Proofs.YtnplkamkeadlgaaDoor
open Go.RowKit

theorem own_bel2 {w w' : World} {B : Nat} {e : TypeId} {size n : Nat} {v : Value} {xs : List Value} (h : w.ownsRow B e size v n xs) (hb : Below w.heap.size w w') : w'.ownsRow B e size v n xs := own_bel h hb
/-- Between two rounds. -/
structure CN (w : World) (o : Nat) (kk nn uu : Int) (s : ByteArray) (kv v5 kv' : Value) (ks : List ByteArray) (d : List T) (ys : List Value) (lv : Value) (wr : World) : Prop where
  bl : Below w.heap.size w wr
  ob : w.heap.size + 2 ≤ o
  bt : Bx wr w.heap.size (.int .i64 kk) (.int .i64 nn) (.int .u64 uu) (.string s) kv v5
  br : Bx wr (w.heap.size + 1) (.int .i64 0) (.int .i64 0) (.int .u64 0) (.string ⟨#[]⟩) (.slice none 0 0) (.slice none 0 0)
  bo : Bx wr o (.int .i64 kk) (.int .i64 nn) (.int .u64 uu) (.string s) kv' (.slice none 0 0)
  keys : Ow (UQ w o lv) wr 9 1 kv' ks.length (ks.map Value.string)
  row : wr.ownsRow (w.heap.size + 2) 31 6 lv d.length ys
  rowo : lv.ownBlock ≠ some o
  kids : NdOL (UQ w o lv) wr d ys
theorem CN.below {w : World} {o : Nat} {kk nn uu : Int} {s : ByteArray} {kv v5 kv' : Value} {ks : List ByteArray} {d : List T} {ys : List Value} {lv : Value} {wr w2 : World} (h : CN w o kk nn uu s kv v5 kv' ks d ys lv wr) (hb : Below wr.heap.size wr w2) : CN w o kk nn uu s kv v5 kv' ks d ys lv w2 := by
  have hs := h.bl.size
  have hk : ∀ b, UQ w o lv b → b < wr.heap.size → w2.heap[b]? = wr.heap[b]? ∧ UQ w o lv b := fun b hb2 hlt => ⟨hb.block b hlt, hb2⟩
  exact ⟨h.bl.trans (hb.mono hs), h.ob, Blk.below h.bt hb (Blk.lt h.bt), Blk.below h.br hb (Blk.lt h.br), Blk.below h.bo hb (Blk.lt h.bo), h.keys.step hk, own_bel2 h.row hb, h.rowo, NdOL.step hk _ _ h.kids⟩
/-- One child more. -/
theorem CN.app {w : World} {o : Nat} {kk nn uu : Int} {s : ByteArray} {kv v5 kv' : Value} {ks : List ByteArray} {d : List T} {ys : List Value} {lv : Value} {w2 w3 : World} {v' : Value} {t : T} {cs : List Value} {ob : Obj} {n0 : Nat} (h : CN w o kk nn uu s kv v5 kv' ks d ys lv w2)
    (ht : NdO (fun b => n0 ≤ b) w2 t cs) (hno : o < n0) (hlv : ∀ g, lv.ownBlock = some g → g < n0) (hown : w3.ownsRow (w.heap.size + 2) 31 6 v' (d.length + 1) (ys ++ cs)) (hg : (w2.alloc ob).grownBy w3 lv.ownBlock)
    (hp : v'.ownBlock = lv.ownBlock ∨ v'.ownBlock = some (w2.alloc ob).heap.size) : CN w o kk nn uu s kv v5 kv' ks (d ++ [t]) (ys ++ cs) v' w3 := by
  have ho := h.ob
  have hs := h.bl.size
  have hol := Blk.lt h.bo
  have hgb : ∀ b, b < w2.heap.size → some b ≠ lv.ownBlock → w3.heap[b]? = w2.heap[b]? := fun b hb hne => (hg.block b (by rw [World.size_alloc]; omega) hne).trans (Below.heap_alloc w2 ob b hb)
  have hlow : ∀ g, lv.ownBlock = some g → w.heap.size + 2 ≤ g := fun g hg => (h.row.lt g hg).1
  have hne : ∀ b, b < w.heap.size + 2 → some b ≠ lv.ownBlock := fun b hb e => by have := hlow b e.symm; omega
  have hk : ∀ b, UQ w o lv b → b < w2.heap.size → w3.heap[b]? = w2.heap[b]? ∧ UQ w o v' b := fun b hb hlt => ⟨hgb b hlt hb.2.2, hb.1, hb.2.1, fun e => by
    rcases hp with e2 | e2
    · exact hb.2.2 (by rw [← e2, ← e])
    · rw [e2] at e
      have e3 := Option.some.inj e
      rw [World.size_alloc] at e3
      omega⟩
  have hk2 : ∀ b, n0 ≤ b → b < w2.heap.size → w3.heap[b]? = w2.heap[b]? ∧ UQ w o v' b := fun b hb hlt => by
    have h1 : some b ≠ lv.ownBlock := fun e => by have := hlv b e.symm; omega
    refine ⟨hgb b hlt h1, by omega, by omega, fun e => ?_⟩
    rcases hp with e2 | e2
    · exact h1 (by rw [← e2, ← e])
    · rw [e2] at e
      have e3 := Option.some.inj e
      rw [World.size_alloc] at e3
      omega
  have hb2 : ∀ g t cs, Blk w2 g t cs → some g ≠ lv.ownBlock → Blk w3 g t cs := fun g t cs hb hn => (hgb g hb.lt hn).trans hb
  refine ⟨⟨hg.os.trans h.bl.os, hg.tape.trans h.bl.tape, hg.output.trans h.bl.output, by have := hg.size; rw [World.size_alloc] at this; omega, fun i hi => (hgb i (by omega) (hne i (by omega))).trans (h.bl.block i hi)⟩, ho,
    hb2 _ _ _ h.bt (hne _ (by omega)), hb2 _ _ _ h.br (hne _ (by omega)), hb2 _ _ _ h.bo (fun e => h.rowo e.symm), h.keys.step hk, by simpa using hown, ?_, NdOL.app (NdO.step hk2 _ _ ht) (NdOL.step hk _ _ h.kids)⟩
  rcases hp with e2 | e2
  · rw [e2]; exact h.rowo
  · rw [e2]
    intro e
    have e3 := Option.some.inj e
    rw [World.size_alloc] at e3
    omega
theorem CN.fin {w wr : World} {o : Nat} {kk nn uu : Int} {s : ByteArray} {kv v5 kv' : Value} {ks : List ByteArray} {L : List T} {ys : List Value} {lv : Value} (h : CN w o kk nn uu s kv v5 kv' ks L ys lv wr) (hr : Rng kk nn uu) (hs : s.size ≤ maxLen) (hks : ∀ x ∈ ks, x.size ≤ maxLen) :
    Bx (put6 (wr.setCell ⟨o, 5, none⟩ lv) (w.heap.size + 1) 0 (.int .i64 kk) (.int .i64 nn) (.int .u64 uu) (.string s) kv' lv) (w.heap.size + 1) (.int .i64 kk) (.int .i64 nn) (.int .u64 uu) (.string s) kv' lv ∧
    (∃ cs' : List Value, Ending.returned (.agg #[.int .i64 kk, .int .i64 nn, .int .u64 uu, .string s, kv', lv]) = Ending.returned (.agg cs'.toArray) ∧ NdO (fun b => w.heap.size ≤ b) (put6 (wr.setCell ⟨o, 5, none⟩ lv) (w.heap.size + 1) 0 (.int .i64 kk) (.int .i64 nn) (.int .u64 uu) (.string s) kv' lv) (.mk kk nn uu s ks L) cs') ∧
    Below w.heap.size w (put6 (wr.setCell ⟨o, 5, none⟩ lv) (w.heap.size + 1) 0 (.int .i64 kk) (.int .i64 nn) (.int .u64 uu) (.string s) kv' lv) := by
  have ho := h.ob
  have hbr : Bx (wr.setCell ⟨o, 5, none⟩ lv) (w.heap.size + 1) (.int .i64 0) (.int .i64 0) (.int .u64 0) (.string ⟨#[]⟩) (.slice none 0 0) (.slice none 0 0) := (heap_set_other wr o 5 _ lv (by omega)).trans h.br
  have hk : ∀ b, b ≠ o → b ≠ w.heap.size + 1 → (put6 (wr.setCell ⟨o, 5, none⟩ lv) (w.heap.size + 1) 0 (.int .i64 kk) (.int .i64 nn) (.int .u64 uu) (.string s) kv' lv).heap[b]? = wr.heap[b]? := fun b h1 h2 => by rw [put6_other _ _ _ _ _ _ _ _ _ _ h2, heap_set_other _ _ _ _ _ h1]
  refine ⟨hbr.put6 _ _ _ _ _ _, ?_, put6_below (h.bl.setCell (p := ⟨o, 5, none⟩) (by show w.heap.size ≤ o; omega) lv) _ _ _ _ _ _ _ _ (by omega)⟩
  have hUQ : ∀ b, UQ w o lv b → b < wr.heap.size → (put6 (wr.setCell ⟨o, 5, none⟩ lv) (w.heap.size + 1) 0 (.int .i64 kk) (.int .i64 nn) (.int .u64 uu) (.string s) kv' lv).heap[b]? = wr.heap[b]? ∧ w.heap.size ≤ b := fun b hb _ => ⟨hk b hb.2.1 (by have := hb.1; omega), by have := hb.1; omega⟩
  have hO : Ow (fun b => w.heap.size + 2 ≤ b ∧ b ≠ o) wr 31 6 lv L.length ys := ⟨(Ow.of h.row).1, fun g hg => ⟨(Ow.of h.row).2 g hg, fun e => h.rowo (by rw [hg, e])⟩⟩
  exact ⟨[.int .i64 kk, .int .i64 nn, .int .u64 uu, .string s, kv', lv], rfl, hr, hs, hks, kv', lv, ys, rfl, h.keys.step hUQ, hO.step fun b hb _ => ⟨hk b hb.2 (by have := hb.1; omega), by have := hb.1; omega⟩, NdOL.step hUQ _ _ h.kids⟩
theorem CN.start2 {w w4 : World} {o n0 : Nat} {kk nn uu : Int} {s : ByteArray} {kv v5 kv' : Value} {ks : List ByteArray} {z0 z1 z2 z3 z4 z5 : Value} (h : Two w (.int .i64 kk) (.int .i64 nn) (.int .u64 uu) (.string s) kv v5 (.int .i64 0) (.int .i64 0) (.int .u64 0) (.string ⟨#[]⟩) (.slice none 0 0) (.slice none 0 0) w4) (hx : Bx w4 o z0 z1 z2 z3 z4 z5) (ho : w.heap.size + 2 ≤ o)
    (hk : Ow (fun b => n0 ≤ b) w4 9 1 kv' ks.length (ks.map Value.string)) (hn : o < n0) : CN w o kk nn uu s kv v5 kv' ks [] [] (.slice none 0 0) (put6 w4 o 0 (.int .i64 kk) (.int .i64 nn) (.int .u64 uu) (.string s) kv' (.slice none 0 0)) := by
  refine ⟨put6_below h.1 o 0 _ _ _ _ _ _ (by omega), ho, put6_blk h.2.2.1 (by omega) _ _ _ _ _ _, put6_blk h.2.2.2 (by omega) _ _ _ _ _ _, Bx.put6 hx _ _ _ _ _ _,
    hk.step fun b hb _ => ⟨put6_other _ _ _ _ _ _ _ _ _ _ (by omega), by omega, by omega, by simp [Value.ownBlock]⟩, own_nil _ _, by simp [Value.ownBlock], rfl⟩
theorem CN.start1 {w w4 : World} {n0 : Nat} {kk nn uu : Int} {s : ByteArray} {kv v5 kv' : Value} {ks : List ByteArray} (h : Two w (.int .i64 kk) (.int .i64 nn) (.int .u64 uu) (.string s) kv v5 (.int .i64 0) (.int .i64 0) (.int .u64 0) (.string ⟨#[]⟩) (.slice none 0 0) (.slice none 0 0) w4)
    (hk : Ow (fun b => n0 ≤ b) w4 9 1 kv' ks.length (ks.map Value.string)) (hn : w.heap.size + 2 ≤ n0) : CN w w4.heap.size kk nn uu s kv v5 kv' ks [] [] (.slice none 0 0) (w4.alloc (.cells #[.int .i64 kk, .int .i64 nn, .int .u64 uu, .string s, kv', .slice none 0 0] 31)) := by
  have h2 := h.2.1
  exact ⟨h.1.trans ((Below.refl _ _).alloc h.1.size _), h2, h.2.2.1.alloc _, h.2.2.2.alloc _, Blk.new _ _ _,
    hk.step fun b hb hlt => ⟨Below.heap_alloc _ _ _ hlt, by omega, by omega, by simp [Value.ownBlock]⟩, own_nil _ _, by simp [Value.ownBlock], rfl⟩

set_option maxRecDepth 100000 in
set_option maxHeartbeats 4000000 in
theorem copyNode_any (k : Nat) : ∀ (t : T) (cs : List Value) (w : World), dp t ≤ k → sz t ≤ 100000 → sm 1000 1000 t → Nd w t cs →
    Calls Tryd.prog 47 #[.agg cs.toArray] w fun e w' => (∃ cs', e = .returned (.agg cs'.toArray) ∧ NdO (fun b => w.heap.size ≤ b) w' t cs') ∧ Below w.heap.size w w' := by
  induction k with
  | zero => intro t cs w h; exact absurd h (by have := dp_pos t; omega)
  | succ k ih =>
    rintro ⟨kk, nn, uu, s, ks, L⟩ cs w hk hsz hsm ⟨hr, hs, kv, A, m, c, rfl, hks, hl, hm, hmm, hL⟩
    simp only [dp] at hk
    simp only [sz] at hsz
    have hmx : m ≤ 100000 := by have := len_le_szL L; omega
    obtain ⟨KA, Kn, Kc, rfl, hkv⟩ : ∃ KA Kn Kc, kv = .slice KA Kn Kc ∧ RdS w (.slice KA Kn Kc) ks := by
      obtain ⟨KA, Kn, Kc, rfl, h⟩ := hks
      exact ⟨KA, Kn, Kc, rfl, KA, Kn, Kc, rfl, h⟩
    have hksz := hkv.len
    have hkl := hsm.2.1
    have HT0 : Hid (Two w (.int .i64 kk) (.int .i64 nn) (.int .u64 uu) (.string s) (.slice KA Kn Kc) (.slice A m c) (.int .i64 0) (.int .i64 0) (.int .u64 0) (.string ⟨#[]⟩) (.slice none 0 0) (.slice none 0 0) ((w.alloc (.cells #[.int .i64 kk, .int .i64 nn, .int .u64 uu, .string s, .slice KA Kn Kc, .slice A m c] 31)).alloc (.cells #[.int .i64 0, .int .i64 0, .int .u64 0, .string ⟨#[]⟩, .slice none 0 0, .slice none 0 0] 31))) := Lib.hid (Two.start w _ _ _ _ _ _ _ _ _ _ _ _)
    have HCT : Hid (∀ W, Hid (Two w (.int .i64 kk) (.int .i64 nn) (.int .u64 uu) (.string s) (.slice KA Kn Kc) (.slice A m c) (.int .i64 0) (.int .i64 0) (.int .u64 0) (.string ⟨#[]⟩) (.slice none 0 0) (.slice none 0 0) W) → Calls Tryd.prog 62 #[.slice KA Kn Kc] W fun e w' => (∃ XA Xn Xc, e = .returned (.slice XA Xn Xc) ∧ Hid (Ow (fun b => W.heap.size ≤ b) w' 9 1 (.slice XA Xn Xc) ks.length (ks.map Value.string))) ∧ Hid (Two w (.int .i64 kk) (.int .i64 nn) (.int .u64 uu) (.string s) (.slice KA Kn Kc) (.slice A m c) (.int .i64 0) (.int .i64 0) (.int .u64 0) (.string ⟨#[]⟩) (.slice none 0 0) (.slice none 0 0) w') ∧ Hid (Below W.heap.size W w')) :=
      Lib.hid fun W H => (copyTexts_any ks _ W (hkv.below H.out.1) (by omega)).mono fun e w' h => by
        obtain ⟨⟨v', rfl, ho⟩, hb⟩ := h
        obtain ⟨XA, Xc, rfl⟩ := ho.shape
        exact ⟨⟨XA, _, Xc, rfl, Lib.hid ho⟩, Lib.hid (H.out.below hb), Lib.hid hb⟩
    have hcells : ∀ W, Hid (Two w (.int .i64 kk) (.int .i64 nn) (.int .u64 uu) (.string s) (.slice KA Kn Kc) (.slice A m c) (.int .i64 0) (.int .i64 0) (.int .u64 0) (.string ⟨#[]⟩) (.slice none 0 0) (.slice none 0 0) W) → Hid (Two w (.int .i64 kk) (.int .i64 nn) (.int .u64 uu) (.string s) (.slice KA Kn Kc) (.slice A m c) (.int .i64 0) (.int .i64 0) (.int .u64 0) (.string ⟨#[]⟩) (.slice none 0 0) (.slice none 0 0) W) ∧ W.cell? ⟨w.heap.size, 0, none⟩ = some (.int .i64 kk) ∧ W.cell? ⟨w.heap.size, 1, none⟩ = some (.int .i64 nn) ∧ W.cell? ⟨w.heap.size, 2, none⟩ = some (.int .u64 uu) ∧ W.cell? ⟨w.heap.size, 3, none⟩ = some (.string s) ∧ W.cell? ⟨w.heap.size, 4, none⟩ = some (.slice KA Kn Kc) ∧ W.cell? ⟨w.heap.size, 5, none⟩ = some (.slice A m c) := by
      intro W H
      obtain ⟨c0, c1, c2, c3, c4, c5⟩ := H.out.2.2.1.all
      exact ⟨H, c0, c1, c2, c3, c4, c5⟩
    obtain ⟨_, x0, x1, x2, x3, x4, x5⟩ := hcells _ HT0
    have HT0d := Lib.hid (HT0.out.below (Below.refl _ _).drew)
    have HT0ad := Lib.hid ((HT0.out.below ((Below.refl _ _).alloc (Nat.le_refl _) (.cells #[.int .i64 0, .int .i64 0, .int .u64 0, .string ⟨#[]⟩, .slice none 0 0, .slice none 0 0] 31))).below (Below.refl _ _).drew)
    have HSZ0 : Hid (((w.alloc (.cells #[.int .i64 kk, .int .i64 nn, .int .u64 uu, .string s, .slice KA Kn Kc, .slice A m c] 31)).alloc (.cells #[.int .i64 0, .int .i64 0, .int .u64 0, .string ⟨#[]⟩, .slice none 0 0, .slice none 0 0] 31)).heap.size = w.heap.size + 1 + 1) := Lib.hid (by simp)
    have hset : ∀ (W : World) (o : Nat) (a0 a1 a2 a3 a4 a5 : Value), Hid (Two w (.int .i64 kk) (.int .i64 nn) (.int .u64 uu) (.string s) (.slice KA Kn Kc) (.slice A m c) (.int .i64 0) (.int .i64 0) (.int .u64 0) (.string ⟨#[]⟩) (.slice none 0 0) (.slice none 0 0) W) → Hid (w.heap.size + 2 ≤ o) → Hid (Two w (.int .i64 kk) (.int .i64 nn) (.int .u64 uu) (.string s) (.slice KA Kn Kc) (.slice A m c) (.int .i64 0) (.int .i64 0) (.int .u64 0) (.string ⟨#[]⟩) (.slice none 0 0) (.slice none 0 0) ((((((W.setCell ⟨o, 0, none⟩ a0).setCell ⟨o, 1, none⟩ a1).setCell ⟨o, 2, none⟩ a2).setCell ⟨o, 3, none⟩ a3).setCell ⟨o, 4, none⟩ a4).setCell ⟨o, 5, none⟩ a5)) := fun W o a0 a1 a2 a3 a4 a5 H ho =>
      Lib.hid (put6_two H.out 0 ho.out _ _ _ _ _ _)
    have HL0 : Hid (w.heap.size + 2 ≤ ((w.alloc (.cells #[.int .i64 kk, .int .i64 nn, .int .u64 uu, .string s, .slice KA Kn Kc, .slice A m c] 31)).alloc (.cells #[.int .i64 0, .int .i64 0, .int .u64 0, .string ⟨#[]⟩, .slice none 0 0, .slice none 0 0] 31)).heap.size) := Lib.hid HT0.out.2.1
    have HL1 : Hid (w.heap.size + 2 ≤ w.heap.size + 1 + 1) := Lib.hid (Nat.le_refl _)
    go_enter Tryd.func47, Tryd.ntmps47
    go_wp2_with fail
    go_region_held3 (fun W => Hid (Two w (.int .i64 kk) (.int .i64 nn) (.int .u64 uu) (.string s) (.slice KA Kn Kc) (.slice A m c) (.int .i64 0) (.int .i64 0) (.int .u64 0) (.string ⟨#[]⟩) (.slice none 0 0) (.slice none 0 0) W) ∧ W.cell? ⟨w.heap.size, 0, none⟩ = some (.int .i64 kk) ∧ W.cell? ⟨w.heap.size, 1, none⟩ = some (.int .i64 nn) ∧ W.cell? ⟨w.heap.size, 2, none⟩ = some (.int .u64 uu) ∧ W.cell? ⟨w.heap.size, 3, none⟩ = some (.string s) ∧ W.cell? ⟨w.heap.size, 4, none⟩ = some (.slice KA Kn Kc) ∧ W.cell? ⟨w.heap.size, 5, none⟩ = some (.slice A m c)) (first | (with_reducible exact hcells _ (by assumption)) | (with_reducible exact hcells _ HT0d) | (with_reducible exact hcells _ (hset _ _ _ _ _ _ _ _ (by assumption) (by first | exact HL1 | exact HL0))) | (with_reducible exact hcells _ (Lib.hid (Two.below (Hid.out (by assumption)) ((Below.refl _ _).alloc (Nat.le_refl _) _)))) | (with_reducible exact hcells _ HT0ad))
      (first
        | (go_at_call 62; (with_reducible refine (HCT.out _ (by first | assumption | exact HT0d | exact HT0ad)).mono ?_); rintro e w4 ⟨⟨XA, Xn, Xc, rfl, HO4⟩, HT4, HB4⟩; first | (have HO5 := Lib.hid (born_eq HSZ0.out HB4.out); obtain ⟨⟨z0, z1, z2, z3, z4, z5⟩, p0, p1, p2, p3, p4, p5⟩ := Bx.both HO5.out) | skip))
    · have HC : Hid (CN w w4.heap.size kk nn uu s (.slice KA Kn Kc) (.slice A m c) (.slice XA Xn Xc) ks [] [] (.slice none 0 0) (w4.alloc (.cells #[.int .i64 kk, .int .i64 nn, .int .u64 uu, .string s, .slice XA Xn Xc, .slice none 0 0] 31))) := Lib.hid (CN.start1 HT4.out HO4.out HL0.out)
      obtain ⟨o, ho⟩ : ∃ o, w4.heap.size = o := ⟨_, rfl⟩
      rw [ho] at HC
      simp only [ho]
      clear ho HO4 HB4 HT4
      obtain ⟨W9, hW9⟩ : ∃ W9, w4.alloc (.cells #[.int .i64 kk, .int .i64 nn, .int .u64 uu, .string s, .slice XA Xn Xc, .slice none 0 0] 31) = W9 := ⟨_, rfl⟩
      rw [hW9]
      rw [hW9] at HC
      clear hW9
      clear hcells hset HT0 HT0d HT0ad HSZ0 HL0 HL1 HCT x0 x1 x2 x3 x4 x5
      go_wp2_with fail
      go_loopw [4, 5] (fun lv i wr => ∃ (j : Nat) (ys : List Value), j ≤ m ∧ i = .int .i64 (j : Int) ∧ Hid (CN w o kk nn uu s (.slice KA Kn Kc) (.slice A m c) (.slice XA Xn Xc) ks (L.take j) ys lv wr)) (fun lv i wr => m - (intOf i).toNat)
      case atStart => exact ⟨0, [], Nat.zero_le _, rfl, HC⟩
      case round =>
        obtain ⟨j, ys, hj, rfl, HS⟩ := hrel
        obtain ⟨_, _, _, _, _, b5⟩ := HS.out.bt.all
        by_cases hjm : j < m
        · obtain ⟨bb, off, rfl, hbb, hN⟩ := hL (by omega)
          obtain ⟨t0, ht0⟩ : ∃ t, L[j]? = some t := ⟨_, List.getElem?_eq_getElem (by omega)⟩
          obtain ⟨v0, v1, v2, v3, v4, v5, hS, hn0⟩ := hN.six' HS.out.bl hbb ht0
          obtain ⟨a0, a1, a2, a3, a4, a5⟩ := hS
          have hdl := dp_le_of ht0
          have hsl := sz_le_of ht0
          have ihj := Lib.hid (ih t0 _ wr (by omega) (by omega) (smL_at hsm.2.2.2 ht0) hn0)
          have HTK : Hid (L.take (j + 1) = L.take j ++ [t0]) := Lib.hid (by rw [List.take_add_one, ht0]; rfl)
          have HLJ : Hid ((L.take j).length = j) := Lib.hid (by rw [List.length_take]; omega)
          obtain ⟨i0, hi, hz0, hz1, hz2⟩ := info_parts infoN
          have hjs : j ≤ 100000 := by omega
          clear hn0 ht0 hdl hsl hL hN hbb
          go_wp2_with (first
            | (go_at_call 47; refine ihj.out.mono ?_; clear ihj; rintro e w5 ⟨⟨cs', rfl, hno⟩, hb5⟩; have HN5 := Lib.hid hno; have HB5 := Lib.hid hb5; have HS5 := Lib.hid (HS.out.below hb5); obtain ⟨k8, i8, u8, s8, C1', m1', d1', C2', m2', d2', rfl⟩ := hno.shape6; clear hno hb5)
            | (at_builtin; refine wpList_append_own_at _ rfl _ _ 29 rfl (w.heap.size + 2) 31 i0 _ 6 88 Tryd.underlying29 hi hz0 hz1 hz2 rfl (by decide) _ (L.take j).length ys rfl (HS5.out.row.alloc _) ⟨w5.heap.size, 0, none⟩ 1 1 [.int .i64 k8, .int .i64 i8, .int .u64 u8, .string s8, .slice C1' m1' d1', .slice C2' m2' d2'] rfl rfl ?q1 ?q2 ?q3 ?q4 ?q5 ?_; rotate_left 5; intro v' w6 hown6 hgrow6 hnil6 hloc6))
          case roundEnd =>
            have hn0 : o < wr.heap.size := Blk.lt HS.out.bo
            have hlv0 : ∀ g, u4.ownBlock = some g → g < wr.heap.size := fun g hg => (HS.out.row.lt g hg).2
            have HF := Lib.hid (CN.app HS5.out HN5.out hn0 hlv0 hown6 hgrow6 hloc6)
            refine ⟨⟨j + 1, ys ++ _, by omega, by simp, by rw [HTK.out]; exact HF⟩, ?_⟩
            simp [intOf]
            omega
          case q1 => exact cells_new _ _ _
          case q2 => exact NdO.one HN5.out
          case q3 => have := HLJ.out; unfold maxLen; omega
          case q4 => have := HLJ.out; omega
          case q5 => have := HS5.out.bl.size; have := HS.out.ob; have := Blk.lt HS5.out.bo; rw [World.size_alloc]; omega
        · obtain rfl : j = m := by omega
          rw [List.take_of_length_le (by omega)] at HS
          obtain ⟨GA, Gc, hlv⟩ := (Ow.of HS.out.row).shape
          subst hlv
          obtain ⟨⟨o0, o1, o2, o3, o4, o5⟩, f0, f1, f2, f3, f4, f5⟩ := Bx.both HS.out.bo
          obtain ⟨⟨p0, p1, p2, p3, p4, p5⟩, e0, e1, e2, e3, e4, e5⟩ := Bx.both HS.out.br
          have hob := HS.out.ob
          have hne1 : ¬ o = w.heap.size + 1 := by omega
          have hne2 : ¬ w.heap.size + 1 = o := by omega
          go_wp2_with fail
          have HF := CN.fin HS.out hr hs hksz
          subst hl
          refine ret_six (p := 2) (g := w.heap.size + 1) rfl rfl HF.1 rfl HF.2
    · have HC : Hid (CN w (w.heap.size + 1 + 1) kk nn uu s (.slice KA Kn Kc) (.slice A m c) (.slice XA Xn Xc) ks [] [] (.slice none 0 0) ((((((w4.setCell ⟨w.heap.size + 1 + 1, 0, none⟩ (.int .i64 kk)).setCell ⟨w.heap.size + 1 + 1, 1, none⟩ (.int .i64 nn)).setCell ⟨w.heap.size + 1 + 1, 2, none⟩ (.int .u64 uu)).setCell ⟨w.heap.size + 1 + 1, 3, none⟩ (.string s)).setCell ⟨w.heap.size + 1 + 1, 4, none⟩ (.slice XA Xn Xc)).setCell ⟨w.heap.size + 1 + 1, 5, none⟩ (.slice none 0 0))) := Lib.hid (CN.start2 HT4.out HO5.out HL1.out HO4.out (by simp))
      obtain ⟨o, ho⟩ : ∃ o, w.heap.size + 1 + 1 = o := ⟨_, rfl⟩
      rw [ho] at HC
      simp only [ho]
      clear ho HO4 HB4 HT4 HO5 p0 p1 p2 p3 p4 p5 z0 z1 z2 z3 z4 z5
      obtain ⟨W9, hW9⟩ : ∃ W9, ((((((w4.setCell ⟨o, 0, none⟩ (.int .i64 kk)).setCell ⟨o, 1, none⟩ (.int .i64 nn)).setCell ⟨o, 2, none⟩ (.int .u64 uu)).setCell ⟨o, 3, none⟩ (.string s)).setCell ⟨o, 4, none⟩ (.slice XA Xn Xc)).setCell ⟨o, 5, none⟩ (.slice none 0 0)) = W9 := ⟨_, rfl⟩
      rw [hW9]
      rw [hW9] at HC
      clear hW9
      clear hcells hset HT0 HT0d HT0ad HSZ0 HL0 HL1 HCT x0 x1 x2 x3 x4 x5
      go_wp2_with fail
      go_loopw [4, 5] (fun lv i wr => ∃ (j : Nat) (ys : List Value), j ≤ m ∧ i = .int .i64 (j : Int) ∧ Hid (CN w o kk nn uu s (.slice KA Kn Kc) (.slice A m c) (.slice XA Xn Xc) ks (L.take j) ys lv wr)) (fun lv i wr => m - (intOf i).toNat)
      case atStart => exact ⟨0, [], Nat.zero_le _, rfl, HC⟩
      case round =>
        obtain ⟨j, ys, hj, rfl, HS⟩ := hrel
        obtain ⟨_, _, _, _, _, b5⟩ := HS.out.bt.all
        by_cases hjm : j < m
        · obtain ⟨bb, off, rfl, hbb, hN⟩ := hL (by omega)
          obtain ⟨t0, ht0⟩ : ∃ t, L[j]? = some t := ⟨_, List.getElem?_eq_getElem (by omega)⟩
          obtain ⟨v0, v1, v2, v3, v4, v5, hS, hn0⟩ := hN.six' HS.out.bl hbb ht0
          obtain ⟨a0, a1, a2, a3, a4, a5⟩ := hS
          have hdl := dp_le_of ht0
          have hsl := sz_le_of ht0
          have ihj := Lib.hid (ih t0 _ wr (by omega) (by omega) (smL_at hsm.2.2.2 ht0) hn0)
          have HTK : Hid (L.take (j + 1) = L.take j ++ [t0]) := Lib.hid (by rw [List.take_add_one, ht0]; rfl)
          have HLJ : Hid ((L.take j).length = j) := Lib.hid (by rw [List.length_take]; omega)
          obtain ⟨i0, hi, hz0, hz1, hz2⟩ := info_parts infoN
          have hjs : j ≤ 100000 := by omega
          clear hn0 ht0 hdl hsl hL hN hbb
          go_wp2_with (first
            | (go_at_call 47; refine ihj.out.mono ?_; clear ihj; rintro e w5 ⟨⟨cs', rfl, hno⟩, hb5⟩; have HN5 := Lib.hid hno; have HB5 := Lib.hid hb5; have HS5 := Lib.hid (HS.out.below hb5); obtain ⟨k8, i8, u8, s8, C1', m1', d1', C2', m2', d2', rfl⟩ := hno.shape6; clear hno hb5)
            | (at_builtin; refine wpList_append_own_at _ rfl _ _ 29 rfl (w.heap.size + 2) 31 i0 _ 6 88 Tryd.underlying29 hi hz0 hz1 hz2 rfl (by decide) _ (L.take j).length ys rfl (HS5.out.row.alloc _) ⟨w5.heap.size, 0, none⟩ 1 1 [.int .i64 k8, .int .i64 i8, .int .u64 u8, .string s8, .slice C1' m1' d1', .slice C2' m2' d2'] rfl rfl ?q1 ?q2 ?q3 ?q4 ?q5 ?_; rotate_left 5; intro v' w6 hown6 hgrow6 hnil6 hloc6))
          case roundEnd =>
            have hn0 : o < wr.heap.size := Blk.lt HS.out.bo
            have hlv0 : ∀ g, u4.ownBlock = some g → g < wr.heap.size := fun g hg => (HS.out.row.lt g hg).2
            have HF := Lib.hid (CN.app HS5.out HN5.out hn0 hlv0 hown6 hgrow6 hloc6)
            refine ⟨⟨j + 1, ys ++ _, by omega, by simp, by rw [HTK.out]; exact HF⟩, ?_⟩
            simp [intOf]
            omega
          case q1 => exact cells_new _ _ _
          case q2 => exact NdO.one HN5.out
          case q3 => have := HLJ.out; unfold maxLen; omega
          case q4 => have := HLJ.out; omega
          case q5 => have := HS5.out.bl.size; have := HS.out.ob; have := Blk.lt HS5.out.bo; rw [World.size_alloc]; omega
        · obtain rfl : j = m := by omega
          rw [List.take_of_length_le (by omega)] at HS
          obtain ⟨GA, Gc, hlv⟩ := (Ow.of HS.out.row).shape
          subst hlv
          obtain ⟨⟨o0, o1, o2, o3, o4, o5⟩, f0, f1, f2, f3, f4, f5⟩ := Bx.both HS.out.bo
          obtain ⟨⟨p0, p1, p2, p3, p4, p5⟩, e0, e1, e2, e3, e4, e5⟩ := Bx.both HS.out.br
          have hob := HS.out.ob
          have hne1 : ¬ o = w.heap.size + 1 := by omega
          have hne2 : ¬ w.heap.size + 1 = o := by omega
          go_wp2_with fail
          have HF := CN.fin HS.out hr hs hksz
          subst hl
          refine ret_six (p := 2) (g := w.heap.size + 1) rfl rfl HF.1 rfl HF.2
end Go.Proofs.YtnplkamkeadlgaaDoor
