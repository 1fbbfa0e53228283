/-
  What is proved here: what spoiling a tree's own rows leaves of memory, and that what read as a tree of own rows still reads as one; no condition but those that each fact states; and: a contract of SpoilNode on a tree of rows of the call's own: nothing turns but those rows; no other condition; and: accordionlaw07.KeySorts returns true for all trees and leaves all memory that was there as it was; condition: the table of package tree holds what is laid; and: a contract of Bring; condition: the second number is from 1 to 100000; and: contract of the law's own turned: the tree whose maps are rotated, in memory of the call's own; conditions: at most 60000 nodes, strings and lists of at most 1000, a rotation of at most 1000; and: the law KeySame returns true; condition: the table of package tree holds what is laid.
-/
import Derived.Test.YtnplkamkeadlgaaDoorCopy
import Derived.Test.YtnplkamkeadlgaaDoorLaw
import Derived.Test.YtnplkamkeadlgaaDoorRSorted
import Derived.Test.YtnplkamkeadlgaaDoorKWorks
import Derived.Deep.RegionHeld3
import Derived.Test.YtnplkamkeadlgaaDoorRow
import Derived.Test.YtnplkamkeadlgaaDoorExB
import Derived.Test.YtnplkamkeadlgaaDoorTK
import Derived.Test.YtnplkamkeadlgaaDoorPm
import Derived.Deep.RegionLaw
import Derived.Deep.DeepCutAuto
namespace Go.Proofs.YtnplkamkeadlgaaDoor
open Go.RowKit

def spoilt : List Value := [.int .i64 (-9), .int .i64 0, .int .u64 0, .string ⟨#[115, 112, 111, 105, 108, 116]⟩, .slice none 0 0, .slice none 0 0]
/-- All that lay lies as it lay, but rows of strings and of nodes in blocks of which U holds, in which strings or whole nodes may have been spoilt. -/
structure Sp (U : Nat → Prop) (w w' : World) : Prop where
  os : w'.os = w.os
  tape : w'.tape = w.tape
  output : w'.output = w.output
  size : w.heap.size ≤ w'.heap.size
  keep : ∀ b, b < w.heap.size → ¬ U b → w'.heap[b]? = w.heap[b]?
  strs : ∀ b cur, U b → w.heap[b]? = some (.cells cur 9 (0, 0)) → ∃ cur', w'.heap[b]? = some (.cells cur' 9 (0, 0)) ∧ cur'.size = cur.size
  nods : ∀ b cur, U b → w.heap[b]? = some (.cells cur 31 (0, 0)) → ∃ cur', w'.heap[b]? = some (.cells cur' 31 (0, 0)) ∧ cur'.size = cur.size ∧
    ∀ j, j * 6 + 6 ≤ cur.size → (cur'.toList.drop (j * 6)).take 6 = (cur.toList.drop (j * 6)).take 6 ∨ (cur'.toList.drop (j * 6)).take 6 = spoilt
theorem Sp.refl (U : Nat → Prop) (w : World) : Sp U w w := ⟨rfl, rfl, rfl, Nat.le_refl _, fun _ _ _ => rfl, fun _ cur _ h => ⟨cur, h, rfl⟩, fun _ cur _ h => ⟨cur, h, rfl, fun _ _ => .inl rfl⟩⟩
theorem Sp.trans {U : Nat → Prop} {a b c : World} (h : Sp U a b) (k : Sp U b c) : Sp U a c :=
  ⟨k.os.trans h.os, k.tape.trans h.tape, k.output.trans h.output, Nat.le_trans h.size k.size, fun i hi hU => (k.keep i (Nat.lt_of_lt_of_le hi h.size) hU).trans (h.keep i hi hU),
    fun i cur hU hc => by
      obtain ⟨c1, h1, h2⟩ := h.strs i cur hU hc
      obtain ⟨c2, h3, h4⟩ := k.strs i c1 hU h1
      exact ⟨c2, h3, h4.trans h2⟩,
    fun i cur hU hc => by
      obtain ⟨c1, h1, h2, h5⟩ := h.nods i cur hU hc
      obtain ⟨c2, h3, h4, h6⟩ := k.nods i c1 hU h1
      refine ⟨c2, h3, h4.trans h2, fun j hj => ?_⟩
      rcases h6 j (by rw [h2]; exact hj) with e | e
      · rw [e]; exact h5 j hj
      · exact .inr e⟩
theorem Sp.of_below {U : Nat → Prop} {w w' : World} (h : Below w.heap.size w w') : Sp U w w' :=
  ⟨h.os, h.tape, h.output, h.size, fun b hb _ => h.block b hb, fun b cur _ hc => ⟨cur, (h.block b (Array.getElem?_eq_some_iff.1 hc).1).trans hc, rfl⟩,
    fun b cur _ hc => ⟨cur, (h.block b (Array.getElem?_eq_some_iff.1 hc).1).trans hc, rfl, fun _ _ => .inl rfl⟩⟩
/-- More blocks may be spoilt. -/
theorem Sp.wider {U U' : Nat → Prop} {w w' : World} (h : Sp U w w') (hU : ∀ b, b < w.heap.size → (U b ↔ U' b)) : Sp U' w w' :=
  ⟨h.os, h.tape, h.output, h.size, fun b hb hn => h.keep b hb (fun e => hn ((hU b hb).1 e)), fun b cur hb hc => h.strs b cur ((hU b (Array.getElem?_eq_some_iff.1 hc).1).2 hb) hc,
    fun b cur hb hc => h.nods b cur ((hU b (Array.getElem?_eq_some_iff.1 hc).1).2 hb) hc⟩
theorem Sp.bel {U : Nat → Prop} {n : Nat} {w w' : World} (h : Sp U w w') (hn : n ≤ w.heap.size) (hU : ∀ b, U b → n ≤ b) : Below n w w' :=
  ⟨h.os, h.tape, h.output, h.size, fun b hb => h.keep b (by omega) (fun e => by have := hU b e; omega)⟩
theorem Sp.blk {U : Nat → Prop} {w w' : World} {g : Nat} {t : TypeId} {cs : Array Value} (h : Sp U w w') (hb : Blk w g t cs) (hg : ¬ U g) : Blk w' g t cs := (h.keep g hb.lt hg).trans hb
/-- One string spoilt. -/
theorem Sp.setStr {U : Nat → Prop} {w : World} {g i : Nat} {cur : Array Value} (hU : U g) (hg : w.heap[g]? = some (.cells cur 9 (0, 0))) (u : Value) : Sp U w (w.setCell ⟨g, i, none⟩ u) := by
  refine ⟨rfl, rfl, rfl, by simp, fun b _ hb => heap_set_other w g i b u (fun e => hb (by rw [e]; exact hU)), fun b c _ hc => ?_, fun b c _ hc => ?_⟩
  · by_cases hbg : b = g
    · subst hbg
      rw [hc] at hg
      have hg' := Option.some.inj hg
      injection hg' with hg'
      subst hg'
      exact ⟨c.setIfInBounds i u, Blk.put (t := 9) hc i u, by simp⟩
    · exact ⟨c, (heap_set_other w g i b u hbg).trans hc, rfl⟩
  · have hbg : b ≠ g := fun e => by
      subst e
      rw [hc] at hg
      have hg' := Option.some.inj hg
      injection hg' with _ hg'
      exact absurd hg' (by decide)
    exact ⟨c, (heap_set_other w g i b u hbg).trans hc, rfl, fun _ _ => .inl rfl⟩
theorem put6_arr {w : World} {g : Nat} {cur : Array Value} {t : TypeId} (hg : Blk w g t cur) (o : Nat) (a0 a1 a2 a3 a4 a5 : Value) :
    Blk (put6 w g o a0 a1 a2 a3 a4 a5) g t ((((((cur.setIfInBounds o a0).setIfInBounds (o + 1) a1).setIfInBounds (o + 2) a2).setIfInBounds (o + 3) a3).setIfInBounds (o + 4) a4).setIfInBounds (o + 5) a5) :=
  (((((hg.put o a0).put (o + 1) a1).put (o + 2) a2).put (o + 3) a3).put (o + 4) a4).put (o + 5) a5
theorem six_at {cur : List Value} {o : Nat} (h : o + 6 ≤ cur.length) (a0 a1 a2 a3 a4 a5 : Value) : ((((((((cur.set o a0).set (o + 1) a1).set (o + 2) a2).set (o + 3) a3).set (o + 4) a4).set (o + 5) a5).drop o).take 6) = [a0, a1, a2, a3, a4, a5] := by
  apply List.ext_getElem?
  intro i
  rw [List.getElem?_take]
  by_cases h6 : i < 6
  · rw [if_pos h6, List.getElem?_drop]
    have hi : i = 0 ∨ i = 1 ∨ i = 2 ∨ i = 3 ∨ i = 4 ∨ i = 5 := by omega
    rcases hi with rfl | rfl | rfl | rfl | rfl | rfl <;> simp [List.getElem?_set] <;> omega
  · rw [if_neg h6, List.getElem?_eq_none (by simp; omega)]
theorem six_off {cur : List Value} {o p : Nat} (h : p + 6 ≤ o ∨ o + 6 ≤ p) (a0 a1 a2 a3 a4 a5 : Value) : ((((((((cur.set o a0).set (o + 1) a1).set (o + 2) a2).set (o + 3) a3).set (o + 4) a4).set (o + 5) a5).drop p).take 6) = (cur.drop p).take 6 := by
  apply List.ext_getElem?
  intro i
  rw [List.getElem?_take, List.getElem?_take]
  by_cases h6 : i < 6
  · rw [if_pos h6, if_pos h6, List.getElem?_drop, List.getElem?_drop]
    rw [List.getElem?_set_ne (by omega), List.getElem?_set_ne (by omega), List.getElem?_set_ne (by omega), List.getElem?_set_ne (by omega), List.getElem?_set_ne (by omega), List.getElem?_set_ne (by omega)]
  · rw [if_neg h6, if_neg h6]
/-- One node spoilt. -/
theorem Sp.put6 {U : Nat → Prop} {w : World} {g j : Nat} {cur : Array Value} (hU : U g) (hg : w.heap[g]? = some (.cells cur 31 (0, 0))) (hj : j * 6 + 6 ≤ cur.size) :
    Sp U w (put6 w g (j * 6) (.int .i64 (-9)) (.int .i64 0) (.int .u64 0) (.string ⟨#[115, 112, 111, 105, 108, 116]⟩) (.slice none 0 0) (.slice none 0 0)) := by
  have hB := put6_below (Below.refl 0 w) g (j * 6) (.int .i64 (-9)) (.int .i64 0) (.int .u64 0) (.string ⟨#[115, 112, 111, 105, 108, 116]⟩) (.slice none 0 0) (.slice none 0 0) (Nat.zero_le _)
  refine ⟨hB.os, hB.tape, hB.output, by rw [put6_size]; exact Nat.le_refl _, fun b _ hb => put6_other w g _ b _ _ _ _ _ _ (fun e => hb (by rw [e]; exact hU)), fun b c _ hc => ?_, fun b c _ hc => ?_⟩
  · have hbg : b ≠ g := fun e => by
      subst e
      rw [hc] at hg
      have hg' := Option.some.inj hg
      injection hg' with _ hg'
      exact absurd hg' (by decide)
    exact ⟨c, (put6_other w g _ b _ _ _ _ _ _ hbg).trans hc, rfl⟩
  · by_cases hbg : b = g
    · subst hbg
      rw [hc] at hg
      have hg' := Option.some.inj hg
      injection hg' with hg'
      subst hg'
      refine ⟨_, put6_arr (t := 31) hc _ _ _ _ _ _ _, by simp, fun i hi => ?_⟩
      simp only [Array.toList_setIfInBounds]
      by_cases hij : i = j
      · subst hij
        exact .inr (six_at (by simpa using hi) _ _ _ _ _ _)
      · exact .inl (six_off (by omega) _ _ _ _ _ _)
    · exact ⟨c, (put6_other w g _ b _ _ _ _ _ _ hbg).trans hc, rfl, fun _ _ => .inl rfl⟩

/-- Six cells that head a tree of rows of the call's own, of a depth of at most d below it. -/
def SX (U : Nat → Prop) (w : World) : Nat → List Value → Prop
  | 0, cs => ∃ (k n u : Int) (s : ByteArray) (kv : Value) (nk : Nat) (xk : List Value) (lv : Value) (xs : List Value), cs = [.int .i64 k, .int .i64 n, .int .u64 u, .string s, kv, lv] ∧ Ow U w 9 1 kv nk xk ∧ Ow U w 31 6 lv 0 xs
  | d + 1, cs => ∃ (k n u : Int) (s : ByteArray) (kv : Value) (nk : Nat) (xk : List Value) (lv : Value) (nl : Nat) (xs : List Value), cs = [.int .i64 k, .int .i64 n, .int .u64 u, .string s, kv, lv] ∧ Ow U w 9 1 kv nk xk ∧ Ow U w 31 6 lv nl xs ∧
      ∀ j, j < nl → SX U w d ((xs.drop (j * 6)).take 6)
theorem ow_nil (U : Nat → Prop) (w : World) (e : TypeId) (size : Nat) : Ow U w e size (.slice none 0 0) 0 [] := ⟨⟨by simp, .inl ⟨rfl, rfl⟩⟩, fun g hg => by cases hg⟩
theorem SX.spoilt (U : Nat → Prop) (w : World) : ∀ d, SX U w d spoilt
  | 0 => ⟨_, _, _, _, _, 0, [], _, [], rfl, ow_nil _ _ _ _, ow_nil _ _ _ _⟩
  | d + 1 => ⟨_, _, _, _, _, 0, [], _, 0, [], rfl, ow_nil _ _ _ _, ow_nil _ _ _ _, fun j hj => by omega⟩
theorem Ow.sp_str {U : Nat → Prop} {w w' : World} (hs : Sp U w w') {v : Value} {n : Nat} {xs : List Value} (h : Ow U w 9 1 v n xs) : ∃ xs', Ow U w' 9 1 v n xs' := by
  obtain ⟨⟨h1, h2⟩, hU⟩ := h
  rcases h2 with ⟨rfl, rfl⟩ | ⟨g, cap, cur, rfl, h3, h4, h5, h6, h7, h8⟩
  · exact ⟨[], ow_nil _ _ _ _⟩
  · obtain ⟨cur', e1, e2⟩ := hs.strs g cur (hU g rfl) h4
    refine ⟨cur'.toList.take (n * 1), ⟨by rw [List.length_take]; simp only [Array.length_toList]; omega, .inr ⟨g, cap, cur', rfl, h3, e1, h5, h6, by omega, rfl⟩⟩, hU⟩
theorem take_six {l : List Value} {n j : Nat} (h : j < n) : ((l.take (n * 6)).drop (j * 6)).take 6 = (l.drop (j * 6)).take 6 := by
  rw [List.drop_take, List.take_take, Nat.min_eq_left (by omega)]
theorem Ow.sp_nod {U : Nat → Prop} {w w' : World} (hs : Sp U w w') {v : Value} {n : Nat} {xs : List Value} (h : Ow U w 31 6 v n xs) :
    ∃ xs', Ow U w' 31 6 v n xs' ∧ ∀ j, j < n → (xs'.drop (j * 6)).take 6 = (xs.drop (j * 6)).take 6 ∨ (xs'.drop (j * 6)).take 6 = Go.Proofs.YtnplkamkeadlgaaDoor.spoilt := by
  obtain ⟨⟨h1, h2⟩, hU⟩ := h
  rcases h2 with ⟨rfl, rfl⟩ | ⟨g, cap, cur, rfl, h3, h4, h5, h6, h7, h8⟩
  · exact ⟨[], ow_nil _ _ _ _, fun j hj => by omega⟩
  · obtain ⟨cur', e1, e2, e3⟩ := hs.nods g cur (hU g rfl) h4
    refine ⟨cur'.toList.take (n * 6), ⟨⟨by rw [List.length_take]; simp only [Array.length_toList]; omega, .inr ⟨g, cap, cur', rfl, h3, e1, h5, h6, by omega, rfl⟩⟩, hU⟩, fun j hj => ?_⟩
    rw [← h8, take_six hj, take_six hj]
    exact e3 j (by omega)
theorem SX.sp {U : Nat → Prop} {w w' : World} (hs : Sp U w w') : ∀ (d : Nat) (cs : List Value), SX U w d cs → SX U w' d cs
  | 0, cs, h => by
    obtain ⟨k, n, u, s, kv, nk, xk, lv, xs, rfl, h1, h2⟩ := h
    obtain ⟨xk', h1'⟩ := h1.sp_str hs
    obtain ⟨xs', h2', _⟩ := h2.sp_nod hs
    exact ⟨k, n, u, s, kv, nk, xk', lv, xs', rfl, h1', h2'⟩
  | d + 1, cs, h => by
    obtain ⟨k, n, u, s, kv, nk, xk, lv, nl, xs, rfl, h1, h2, h3⟩ := h
    obtain ⟨xk', h1'⟩ := h1.sp_str hs
    obtain ⟨xs', h2', h4⟩ := h2.sp_nod hs
    refine ⟨k, n, u, s, kv, nk, xk', lv, nl, xs', rfl, h1', h2', fun j hj => ?_⟩
    rcases h4 j hj with e | e
    · rw [e]; exact SX.sp hs d _ (h3 j hj)
    · rw [e]; exact SX.spoilt _ _ _
theorem SX.stepU {U U' : Nat → Prop} {w : World} (hk : ∀ b, U b → b < w.heap.size → U' b) : ∀ (d : Nat) (cs : List Value), SX U w d cs → SX U' w d cs
  | 0, cs, h => by
    obtain ⟨k, n, u, s, kv, nk, xk, lv, xs, rfl, h1, h2⟩ := h
    exact ⟨k, n, u, s, kv, nk, xk, lv, xs, rfl, h1.step fun b hb hl => ⟨rfl, hk b hb hl⟩, h2.step fun b hb hl => ⟨rfl, hk b hb hl⟩⟩
  | d + 1, cs, h => by
    obtain ⟨k, n, u, s, kv, nk, xk, lv, nl, xs, rfl, h1, h2, h3⟩ := h
    exact ⟨k, n, u, s, kv, nk, xk, lv, nl, xs, rfl, h1.step fun b hb hl => ⟨rfl, hk b hb hl⟩, h2.step fun b hb hl => ⟨rfl, hk b hb hl⟩, fun j hj => SX.stepU hk d _ (h3 j hj)⟩
theorem NdOL.nth {U : Nat → Prop} {w : World} : ∀ (l : List T) (xs : List Value), NdOL U w l xs → ∀ (j : Nat) (t : T), l[j]? = some t → NdO U w t ((xs.drop (j * 6)).take 6)
  | [], _, _, j, t, hj => by simp at hj
  | t0 :: ts, xs, h, 0, t, hj => by
    obtain ⟨cs, ys, rfl, h1, h2⟩ := h
    obtain rfl : t0 = t := by simpa using hj
    have hl := h1.len
    simp only [Nat.zero_mul, List.drop_zero]
    rw [← hl, List.take_left]
    exact h1
  | t0 :: ts, xs, h, j + 1, t, hj => by
    obtain ⟨cs, ys, rfl, h1, h2⟩ := h
    have hl := h1.len
    rw [show (j + 1) * 6 = cs.length + j * 6 by omega, List.drop_append, List.drop_eq_nil_of_le (by omega), List.nil_append, Nat.add_sub_cancel_left]
    exact NdOL.nth ts ys h2 j t (by simpa using hj)
theorem SX.of_ndo {U : Nat → Prop} {w : World} : ∀ (d : Nat) (t : T) (cs : List Value), dp t ≤ d + 1 → NdO U w t cs → SX U w d cs
  | 0, .mk k n u s ks l, cs, hd, h => by
    obtain ⟨_, _, _, kv, lv, xs, rfl, h1, h2, h3⟩ := h
    have hl : l = [] := by
      cases l with
      | nil => rfl
      | cons t ts => have := dp_pos t; simp only [dp, dpL] at hd; omega
    subst hl
    exact ⟨k, n, u, s, kv, _, _, lv, xs, rfl, h1, h2⟩
  | d + 1, .mk k n u s ks l, cs, hd, h => by
    obtain ⟨_, _, _, kv, lv, xs, rfl, h1, h2, h3⟩ := h
    refine ⟨k, n, u, s, kv, _, _, lv, l.length, xs, rfl, h1, h2, fun j hj => ?_⟩
    have ht : l[j]? = some l[j] := List.getElem?_eq_getElem hj
    have hdl := dp_le_of ht
    simp only [dp] at hd
    exact SX.of_ndo d l[j] _ (by omega) (NdOL.nth l xs h3 j _ ht)
end Go.Proofs.YtnplkamkeadlgaaDoor
namespace Go.Proofs.YtnplkamkeadlgaaDoor
open Go.RowKit

theorem SX.open {U : Nat → Prop} {w : World} {d : Nat} {cs : List Value} (h : SX U w d cs) : ∃ (k n u : Int) (s : ByteArray) (kv : Value) (nk : Nat) (xk : List Value) (lv : Value) (nl : Nat) (xs : List Value), cs = [.int .i64 k, .int .i64 n, .int .u64 u, .string s, kv, lv] ∧ Ow U w 9 1 kv nk xk ∧ Ow U w 31 6 lv nl xs ∧
      ∀ j, j < nl → ∃ d', d = d' + 1 ∧ SX U w d' ((xs.drop (j * 6)).take 6) := by
  cases d with
  | zero =>
    obtain ⟨k, n, u, s, kv, nk, xk, lv, xs, h0, h1, h2⟩ := h
    exact ⟨k, n, u, s, kv, nk, xk, lv, 0, xs, h0, h1, h2, fun j hj => by omega⟩
  | succ d =>
    obtain ⟨k, n, u, s, kv, nk, xk, lv, nl, xs, h0, h1, h2, h3⟩ := h
    exact ⟨k, n, u, s, kv, nk, xk, lv, nl, xs, h0, h1, h2, fun j hj => ⟨d, rfl, h3 j hj⟩⟩
/-- Between two rounds: the box of the node, and what has been spoilt. -/
structure SR (U : Nat → Prop) (w : World) (k n u : Int) (s : ByteArray) (kv lv : Value) (wr : World) : Prop where
  sp : Sp U w wr
  ul : ∀ b, U b → b < w.heap.size
  bx : Bx wr w.heap.size (.int .i64 k) (.int .i64 n) (.int .u64 u) (.string s) kv lv
theorem SR.go {U : Nat → Prop} {w : World} {k n u : Int} {s : ByteArray} {kv lv : Value} {wr w2 : World} (h : SR U w k n u s kv lv wr) (hs : Sp U wr w2) : SR U w k n u s kv lv w2 :=
  ⟨h.sp.trans hs, h.ul, hs.blk h.bx (fun e => by have := h.ul _ e; omega)⟩
theorem SR.key {U : Nat → Prop} {w : World} {k n u : Int} {s : ByteArray} {kv lv : Value} {wr : World} (h : SR U w k n u s kv lv wr) {nk : Nat} {xk : List Value} (hk : Ow U w 9 1 kv nk xk) {j : Nat} (hj : j < nk) :
    ∃ g c old, kv = .slice (some ⟨g, 0, none⟩) nk c ∧ wr.cell? ⟨g, j, none⟩ = some old ∧ wr.frozen? ⟨g, j, none⟩ = false ∧ ∀ x, SR U w k n u s kv lv (wr.setCell ⟨g, j, none⟩ x) := by
  obtain ⟨xk', hk'⟩ := hk.sp_str h.sp
  rcases hk'.1.2 with ⟨rfl, h0⟩ | ⟨g, cap, cur, rfl, h3, h4, h5, h6, h7, h8⟩
  · omega
  · obtain ⟨old, ho⟩ : ∃ old, cur[j]? = some old := ⟨_, Array.getElem?_eq_getElem (by omega)⟩
    refine ⟨g, cap, old, rfl, (Blk.cell (t := 9) h4 j).trans ho, Blk.frozen (t := 9) h4 j, fun x => h.go (Sp.setStr (hk'.2 g rfl) h4 x)⟩
theorem SR.nod {U : Nat → Prop} {w : World} {k n u : Int} {s : ByteArray} {kv lv : Value} {wr : World} (h : SR U w k n u s kv lv wr) {nl : Nat} {xs : List Value} (hk : Ow U w 31 6 lv nl xs) {j : Nat} (hj : j < nl) :
    ∃ (g c : Nat) (old : Nat → Value), lv = .slice (some ⟨g, 0, none⟩) nl c ∧ (∀ i, i < 6 → wr.cell? ⟨g, j * 6 + i, none⟩ = some (old i)) ∧ (∀ i, wr.frozen? ⟨g, i, none⟩ = false) ∧
      SR U w k n u s kv lv (put6 wr g (j * 6) (.int .i64 (-9)) (.int .i64 0) (.int .u64 0) (.string ⟨#[115, 112, 111, 105, 108, 116]⟩) (.slice none 0 0) (.slice none 0 0)) ∧
      ([old 0, old 1, old 2, old 3, old 4, old 5] = (xs.drop (j * 6)).take 6 ∨ [old 0, old 1, old 2, old 3, old 4, old 5] = Go.Proofs.YtnplkamkeadlgaaDoor.spoilt) := by
  obtain ⟨xs', hk', hx⟩ := hk.sp_nod h.sp
  have hx := hx j hj
  rcases hk'.1.2 with ⟨rfl, h0⟩ | ⟨g, cap, cur, rfl, h3, h4, h5, h6, h7, h8⟩
  · omega
  · have hc : ∀ i, i < 6 → wr.cell? ⟨g, j * 6 + i, none⟩ = some (cur.toList.getD (j * 6 + i) undef) := fun i hi => by
      rw [Blk.cell (t := 31) h4, List.getD_eq_getElem?_getD, Array.getElem?_toList, Array.getElem?_eq_getElem (by omega)]
      rfl
    refine ⟨g, cap, fun i => cur.toList.getD (j * 6 + i) undef, rfl, hc, fun i => Blk.frozen (t := 31) h4 i, h.go (Sp.put6 (hk'.2 g rfl) h4 (by omega)), ?_⟩
    have e : [cur.toList.getD (j * 6 + 0) undef, cur.toList.getD (j * 6 + 1) undef, cur.toList.getD (j * 6 + 2) undef, cur.toList.getD (j * 6 + 3) undef, cur.toList.getD (j * 6 + 4) undef, cur.toList.getD (j * 6 + 5) undef] = (xs'.drop (j * 6)).take 6 := by
      rw [← h8, take_six hj]
      apply List.ext_getElem?
      intro i
      rw [List.getElem?_take]
      by_cases h6 : i < 6
      · rw [if_pos h6, List.getElem?_drop]
        have hi : i = 0 ∨ i = 1 ∨ i = 2 ∨ i = 3 ∨ i = 4 ∨ i = 5 := by omega
        have hl : cur.toList.length = cap * 6 := by simpa using h7
        rcases hi with rfl | rfl | rfl | rfl | rfl | rfl <;> simp [List.getD_eq_getElem?_getD] <;> rw [Array.getElem?_eq_getElem (by omega)] <;> rfl
      · rw [if_neg h6, List.getElem?_eq_none (by simp; omega)]
    rw [e]
    exact hx

set_option maxRecDepth 100000 in
set_option maxHeartbeats 1000000 in
theorem spoil_any : ∀ (d : Nat) (U : Nat → Prop) (cs : List Value) (w : World), SX U w d cs → Calls Tryd.prog 31 #[.agg cs.toArray] w fun e w' => e = .returned (.tuple #[]) ∧ Sp U w w' := by
  intro d
  induction d using Nat.strongRecOn with
  | _ d ih =>
    intro U cs w hx
    obtain ⟨k, n, u, s, kv, nk, xk, lv, nl, xs, rfl, hk, hl, hch⟩ := (SX.stepU (U' := fun b => U b ∧ b < w.heap.size) (fun b hb hlt => ⟨hb, hlt⟩) d cs hx).open
    have HR0 : Hid (SR (fun b => U b ∧ b < w.heap.size) w k n u s kv lv (w.alloc (.cells #[.int .i64 k, .int .i64 n, .int .u64 u, .string s, kv, lv] 31))) := Lib.hid ⟨Sp.of_below ((Below.refl _ w).alloc (Nat.le_refl _) _), fun b h => h.2, Blk.new _ _ _⟩
    obtain ⟨KA, Kc, rfl⟩ := hk.shape
    obtain ⟨LA, Lc, rfl⟩ := hl.shape
    go_enter Tryd.func31, Tryd.ntmps31
    go_wp2_with fail
    go_loopw [2] (fun i wr => ∃ j : Nat, j ≤ nk ∧ i = .int .i64 (j : Int) ∧ Hid (SR (fun b => U b ∧ b < w.heap.size) w k n u s (.slice KA nk Kc) (.slice LA nl Lc) wr)) (fun i wr => nk - (intOf i).toNat)
    case atStart => exact ⟨0, Nat.zero_le _, rfl, HR0⟩
    case round =>
      obtain ⟨j, hj, rfl, HR⟩ := hrel
      obtain ⟨_, _, _, _, c4, c5⟩ := HR.out.bx.all
      by_cases hjn : j < nk
      · obtain ⟨g, c, old, e, h1, h2, h3⟩ := HR.out.key hk hjn
        injection e with e1 e2 e3
        subst e1 e3
        clear e2
        have HN := Lib.hid (h3 (.string ⟨#[115, 112, 111, 105, 108, 116]⟩))
        clear h3
        have hjm : (j : Int) ≤ 9223372036854775806 := by have := hk.cells; obtain ⟨_, _, e, h1, h2, _⟩ := this; injection e with _ e2 e3; unfold maxLen at h2; omega
        go_wp2_with fail
        go_roundw
        case rel => exact ⟨j + 1, by omega, by simp, HN⟩
        case measure => simp [intOf]; omega
      · go_wp2_with fail
        have HR1 := HR
        clear HR0 HR c4 c5 hjn hj
        go_loopw [3] (fun i wr => ∃ j : Nat, j ≤ nl ∧ i = .int .i64 (j : Int) ∧ Hid (SR (fun b => U b ∧ b < w.heap.size) w k n u s (.slice KA nk Kc) (.slice LA nl Lc) wr)) (fun i wr => nl - (intOf i).toNat)
        case atStart => exact ⟨0, Nat.zero_le _, rfl, HR1⟩
        case round =>
          obtain ⟨j, hj, rfl, HR⟩ := hrel
          obtain ⟨_, _, _, _, c4, c5⟩ := HR.out.bx.all
          by_cases hjn : j < nl
          · obtain ⟨g, c, old, e, h1, h2, -, h4⟩ := HR.out.nod hl hjn
            injection e with e1 e2 e3
            subst e1 e3
            clear e2
            obtain ⟨d', hd', hx'⟩ := hch j hjn
            have hjm : (j : Int) ≤ 9223372036854775806 := by have := hl.cells; obtain ⟨_, _, e, h1, h2, _⟩ := this; injection e with _ e2 e3; unfold maxLen at h2; omega
            have HCH : Hid (∀ W, Hid (SR (fun b => U b ∧ b < w.heap.size) w k n u s (.slice KA nk Kc) (.slice (some ⟨g, 0, none⟩) nl Lc) W) → (∀ i, i < 6 → W.cell? ⟨g, j * 6 + i, none⟩ = some (old i)) → Calls Tryd.prog 31 #[.agg #[old 0, old 1, old 2, old 3, old 4, old 5]] W fun e w' => e = .returned (.tuple #[]) ∧ Hid (SR (fun b => U b ∧ b < w.heap.size) w k n u s (.slice KA nk Kc) (.slice (some ⟨g, 0, none⟩) nl Lc) w')) := Lib.hid fun W H _ => by
              have hX : SX (fun b => U b ∧ b < w.heap.size) W d' [old 0, old 1, old 2, old 3, old 4, old 5] := by
                rcases h4 with e | e
                · rw [e]; exact SX.sp H.out.sp _ _ hx'
                · rw [e]; exact SX.spoilt _ _ _
              refine (ih d' (by omega) _ _ W hX).mono ?_
              rintro e w' ⟨rfl, h⟩
              exact ⟨rfl, Lib.hid (H.out.go h)⟩
            have HND : Hid (∀ W, Hid (SR (fun b => U b ∧ b < w.heap.size) w k n u s (.slice KA nk Kc) (.slice (some ⟨g, 0, none⟩) nl Lc) W) → ∃ old : Nat → Value, (∀ i, i < 6 → W.cell? ⟨g, j * 6 + i, none⟩ = some (old i)) ∧ (∀ i, W.frozen? ⟨g, i, none⟩ = false) ∧ W.cell? ⟨w.heap.size, 5, none⟩ = some (.slice (some ⟨g, 0, none⟩) nl Lc) ∧ Hid (SR (fun b => U b ∧ b < w.heap.size) w k n u s (.slice KA nk Kc) (.slice (some ⟨g, 0, none⟩) nl Lc) (put6 W g (j * 6) (.int .i64 (-9)) (.int .i64 0) (.int .u64 0) (.string ⟨#[115, 112, 111, 105, 108, 116]⟩) (.slice none 0 0) (.slice none 0 0)))) := Lib.hid fun W H => by
              obtain ⟨g', c', old', e, h1, h2, h3, _⟩ := H.out.nod hl hjn
              injection e with e1 e2 e3
              injection e1 with e1
              injection e1 with e1
              subst e1 e3
              exact ⟨old', h1, h2, H.out.bx.all.2.2.2.2.2, Lib.hid h3⟩
            have a0 : wr.cell? ⟨g, j * 6, none⟩ = some (old 0) := h1 0 (by omega)
            have a1 := h1 1 (by omega)
            have a2 := h1 2 (by omega)
            have a3 := h1 3 (by omega)
            have a4 := h1 4 (by omega)
            have a5 := h1 5 (by omega)
            have HH1 := Lib.hid h1
            clear h1 h2 h4 hx' hch ih
            go_wp2_with (go_at_call 31; refine (HCH.out _ HR HH1.out).mono ?_; rintro e w2 ⟨rfl, HR2⟩; obtain ⟨old2, h1, h2, x5, HR3⟩ := HND.out _ HR2; have b0 : w2.cell? ⟨g, j * 6, none⟩ = some (old2 0) := h1 0 (by omega); have b1 := h1 1 (by omega); have b2 := h1 2 (by omega); have b3 := h1 3 (by omega); have b4 := h1 4 (by omega); have b5 := h1 5 (by omega); have f0 := h2 (j * 6); have f1 := h2 (j * 6 + 1); have f2 := h2 (j * 6 + 2); have f3 := h2 (j * 6 + 3); have f4 := h2 (j * 6 + 4); have f5 := h2 (j * 6 + 5); clear h1 h2; clear a0 a1 a2 a3 a4 a5 c4 c5)
            go_roundw
            case rel => exact ⟨j + 1, by omega, by simp, HR3⟩
            case measure => simp [intOf]; omega
          · go_wp2_with fail
            go_end0
            refine ⟨rfl, HR.out.sp.wider fun b hb => ⟨fun h => h.1, fun h => ⟨h, hb⟩⟩⟩
end Go.Proofs.YtnplkamkeadlgaaDoor
namespace Go.Proofs.YtnplkamkeadlgaaDoor
open Go.RowKit Go.Sort

theorem t0_qq7 : QQ T0 := ⟨by decide, by decide, by decide, by simp, trivial⟩
theorem nd_t07 (w : World) : Nd w T0 [.int .i64 0, .int .i64 0, .int .u64 0, .string ⟨#[]⟩, .slice none 0 0, .slice none 0 0] := NdO.nd _ _ (ndo_zero (fun _ => True) w)
/-- A tree of the call's own is spoilt. -/
theorem spoil_own (t : T) (cs : List Value) (A W : World) (hA : Below A.heap.size A W) (h : NdO (fun b => A.heap.size ≤ b) W t cs) : Calls Tryd.prog 31 #[.agg cs.toArray] W fun e w' => e = .returned (.tuple #[]) ∧ Hid (Below A.heap.size A w') := by
  refine (spoil_any (dp t) (fun b => A.heap.size ≤ b) _ W (SX.of_ndo (dp t) t _ (by omega) h)).mono ?_
  rintro e w' ⟨rfl, hs⟩
  exact ⟨rfl, Lib.hid (hA.trans (hs.bel hA.size (fun b hb => hb)))⟩

set_option maxRecDepth 100000 in
set_option maxHeartbeats 4000000 in
theorem keySorts_walk (t : T) (cs : List Value) (w : World) (hT : Tab w) (hnd : Nd w t cs) : Calls Tryd.prog 9 #[.agg cs.toArray] w fun e w' => e = .returned (.bool true) ∧ Below w.heap.size w w' := by
  have HT := Lib.hid hT
  obtain ⟨ka0, na0, ua0, sa0, EA0, qa0, fa0, GA0, ra0, ha0, rfl⟩ := hnd.shape
  have HN := Lib.hid hnd
  obtain ⟨t1, ht1⟩ : ∃ t1, fewT t = t1 := ⟨_, rfl⟩
  have HQ : Hid (QQ t1 ∧ sz t1 ≤ 60000) := Lib.hid (by rw [← ht1]; exact ⟨fewT_qq t, by have := fewT_sz t; omega⟩)
  have HC : Hid (∀ W, Below w.heap.size w W → Calls Tryd.prog 29 #[.agg #[.int .i64 ka0, .int .i64 na0, .int .u64 ua0, .string sa0, .slice EA0 qa0 fa0, .slice GA0 ra0 ha0], .int .i64 120, .int .i64 60] W fun e w' => ∃ (ka1 na1 ua1 : Int) (sa1 : ByteArray) (EA1 : Option Addr) (qa1 fa1 : Nat) (GA1 : Option Addr) (ra1 ha1 : Nat), e = .returned (.agg #[.int .i64 ka1, .int .i64 na1, .int .u64 ua1, .string sa1, .slice EA1 qa1 fa1, .slice GA1 ra1 ha1]) ∧ Hid (Nd w' t1 [.int .i64 ka1, .int .i64 na1, .int .u64 ua1, .string sa1, .slice EA1 qa1 fa1, .slice GA1 ra1 ha1]) ∧ Hid (Below W.heap.size W w')) := Lib.hid fun W hb => by
    refine (cutS_any t _ W (HN.out.bel hb)).mono ?_
    rintro e w' ⟨ka1, na1, ua1, sa1, EA1, qa1, fa1, GA1, ra1, ha1, rfl, h1, h2⟩
    rw [ht1] at h1
    exact ⟨ka1, na1, ua1, sa1, EA1, qa1, fa1, GA1, ra1, ha1, rfl, Lib.hid (NdO.nd _ _ h1.out), h2⟩
  clear hT hnd ht1
  go_enter Tryd.func9, Tryd.ntmps9
  go_wp2_with fail
  with_reducible refine (HC.out _ (al0 w _)).mono ?_
  rintro e w1 ⟨ka1, na1, ua1, sa1, EA1, qa1, fa1, GA1, ra1, ha1, rfl, HN1, hb1⟩
  obtain ⟨wI, hwI⟩ : ∃ wI, w1.alloc (.cells #[.int .i64 ka1, .int .i64 na1, .int .u64 ua1, .string sa1, .slice EA1 qa1 fa1, .slice GA1 ra1 ha1] 31) = wI := ⟨_, rfl⟩
  obtain ⟨bi, hbi⟩ : ∃ bi, w1.heap.size = bi := ⟨_, rfl⟩
  have HWI : Hid (Below w.heap.size w wI) := Lib.hid (by rw [← hwI]; exact tr (al hb1.out) (al0 w1 _))
  have HBI : Hid (Bd wI bi t1 (.int .i64 ka1) (.int .i64 na1) (.int .u64 ua1) (.string sa1) (.slice EA1 qa1 fa1) (.slice GA1 ra1 ha1)) := Lib.hid (by rw [← hwI, ← hbi]; exact Bd.new HN1.out)
  have HB0 : Hid (Bx wI w.heap.size (.int .i64 ka0) (.int .i64 na0) (.int .u64 ua0) (.string sa0) (.slice EA0 qa0 fa0) (.slice GA0 ra0 ha0)) := Lib.hid (by rw [← hwI]; exact Blk.below (Blk.new w 31 #[.int .i64 ka0, .int .i64 na0, .int .u64 ua0, .string sa0, .slice EA0 qa0 fa0, .slice GA0 ra0 ha0]) (tr hb1.out (al0 w1 _)) (Blk.lt (Blk.new w 31 #[.int .i64 ka0, .int .i64 na0, .int .u64 ua0, .string sa0, .slice EA0 qa0 fa0, .slice GA0 ra0 ha0])))
  have HC6 : Hid (∀ W, Hid (Below wI.heap.size wI W) → Calls Tryd.prog 29 #[.agg #[.int .i64 ka0, .int .i64 na0, .int .u64 ua0, .string sa0, .slice EA0 qa0 fa0, .slice GA0 ra0 ha0], .int .i64 120, .int .i64 60] W fun e w' => ∃ (ka1 na1 ua1 : Int) (sa1 : ByteArray) (EA1 : Option Addr) (qa1 fa1 : Nat) (GA1 : Option Addr) (ra1 ha1 : Nat), e = .returned (.agg #[.int .i64 ka1, .int .i64 na1, .int .u64 ua1, .string sa1, .slice EA1 qa1 fa1, .slice GA1 ra1 ha1]) ∧ Hid (Nd w' t1 [.int .i64 ka1, .int .i64 na1, .int .u64 ua1, .string sa1, .slice EA1 qa1 fa1, .slice GA1 ra1 ha1]) ∧ Hid (Below wI.heap.size wI w')) := Lib.hid fun W H => (HC.out W (tr HWI.out H.out)).mono (by
    rintro e w' ⟨ka2, na2, ua2, sa2, EA2, qa2, fa2, GA2, ra2, ha2, rfl, h1, h2⟩
    exact ⟨ka2, na2, ua2, sa2, EA2, qa2, fa2, GA2, ra2, ha2, rfl, h1, Lib.hid (tr H.out h2.out)⟩)
  have HE6 : Hid (∀ (W : World) (ka6 na6 ua6 : Int) (sa6 : ByteArray) (EA6 : Option Addr) (qa6 fa6 : Nat) (GA6 : Option Addr) (ra6 ha6 : Nat), Hid (Below wI.heap.size wI W) → Hid (Nd W t1 [.int .i64 ka6, .int .i64 na6, .int .u64 ua6, .string sa6, .slice EA6 qa6 fa6, .slice GA6 ra6 ha6]) → Calls Tryd.prog 28 #[.agg #[.int .i64 ka1, .int .i64 na1, .int .u64 ua1, .string sa1, .slice EA1 qa1 fa1, .slice GA1 ra1 ha1], .agg #[.int .i64 ka6, .int .i64 na6, .int .u64 ua6, .string sa6, .slice EA6 qa6 fa6, .slice GA6 ra6 ha6]] W fun e w' => e = .returned (.bool true) ∧ Hid (Below wI.heap.size wI w')) := Lib.hid fun W ka6 na6 ua6 sa6 EA6 qa6 fa6 GA6 ra6 ha6 H H2 =>
    (eq_eq t1 _ _ W HQ.out.1 (HBI.out.below H.out).2 H2.out).mono fun e w' h => ⟨h.1, Lib.hid (tr H.out h.2.out)⟩
  have HWK : Hid (∀ W, Hid (Below wI.heap.size wI W) → Calls Tryd.prog 8 #[] W fun e w' => e = .returned (.bool true) ∧ Hid (Below wI.heap.size wI w')) := Lib.hid fun W H => (works_true W (HT.out.keep (tr HWI.out H.out))).mono fun e w' h => ⟨h.1, Lib.hid (tr H.out h.2)⟩
  have hall : ∀ W, Hid (Below wI.heap.size wI W) → Hid (Below wI.heap.size wI W) ∧ W.cell? ⟨w.heap.size, 0, none⟩ = some (.int .i64 ka0) ∧ W.cell? ⟨w.heap.size, 1, none⟩ = some (.int .i64 na0) ∧ W.cell? ⟨w.heap.size, 2, none⟩ = some (.int .u64 ua0) ∧ W.cell? ⟨w.heap.size, 3, none⟩ = some (.string sa0) ∧ W.cell? ⟨w.heap.size, 4, none⟩ = some (.slice EA0 qa0 fa0) ∧ W.cell? ⟨w.heap.size, 5, none⟩ = some (.slice GA0 ra0 ha0) ∧ W.cell? ⟨bi, 0, none⟩ = some (.int .i64 ka1) ∧ W.cell? ⟨bi, 1, none⟩ = some (.int .i64 na1) ∧ W.cell? ⟨bi, 2, none⟩ = some (.int .u64 ua1) ∧ W.cell? ⟨bi, 3, none⟩ = some (.string sa1) ∧ W.cell? ⟨bi, 4, none⟩ = some (.slice EA1 qa1 fa1) ∧ W.cell? ⟨bi, 5, none⟩ = some (.slice GA1 ra1 ha1) := fun W H => by
    have h1 := Bx.all (HB0.out.below H.out HB0.out.lt)
    have h2 := (HBI.out.below H.out).1.all
    exact ⟨H, h1.1, h1.2.1, h1.2.2.1, h1.2.2.2.1, h1.2.2.2.2.1, h1.2.2.2.2.2, h2⟩
  clear HC HN HN1 hb1
  obtain ⟨x0, x1, x2, x3, x4, x5⟩ := HBI.out.1.all
  go_wp2_with fail
  (try rw [hwI])
  (try simp only [hbi])
  clear hwI hbi x0 x1 x2 x3 x4 x5
  by_cases hc : chk t1 = 0
  · have HCZ := Lib.hid hc
    have HOK : Hid (okT t1) := Lib.hid ((chk_zero t1).1 hc).1
    have HS := Lib.hid (sorted_okO t1 _ wI (HT.out.keep HWI.out) HQ.out.1 hc HBI.out.2)
    clear hc
    with_reducible refine HS.out.mono ?_
    rintro e w2 ⟨t2, ka2, na2, ua2, sa2, EA2, qa2, fa2, GA2, ra2, ha2, rfl, HSR, HO2, hb2⟩
    have HQ2 : Hid (QQ t2) := Lib.hid ((Srt.pm (okT_mpT HOK.out) HSR.out).qq HQ.out.1)
    have HN2 : Hid (Nd w2 t2 [.int .i64 ka2, .int .i64 na2, .int .u64 ua2, .string sa2, .slice EA2 qa2 fa2, .slice GA2 ra2 ha2]) := Lib.hid (NdO.nd _ _ HO2.out)
    clear HS
    obtain ⟨wA, hwA⟩ : ∃ wA, w2.alloc (.cells #[.int .i64 ka2, .int .i64 na2, .int .u64 ua2, .string sa2, .slice EA2 qa2 fa2, .slice GA2 ra2 ha2] 31) = wA := ⟨_, rfl⟩
    obtain ⟨ba, hba⟩ : ∃ ba, w2.heap.size = ba := ⟨_, rfl⟩
    have HIA : Hid (Below wI.heap.size wI wA) := Lib.hid (by rw [← hwA]; exact tr hb2.out (al0 w2 _))
    have HBA : Hid (Bd wA ba t2 (.int .i64 ka2) (.int .i64 na2) (.int .u64 ua2) (.string sa2) (.slice EA2 qa2 fa2) (.slice GA2 ra2 ha2)) := Lib.hid (by rw [← hwA, ← hba]; exact Bd.new HN2.out)
    have HOA : Hid (NdO (fun b => wI.heap.size ≤ b) wA t2 [.int .i64 ka2, .int .i64 na2, .int .u64 ua2, .string sa2, .slice EA2 qa2 fa2, .slice GA2 ra2 ha2]) := Lib.hid (by rw [← hwA]; exact NdO.step (fun b hb hl => ⟨(al0 w2 _).block b hl, hb⟩) _ _ HO2.out)
    have HIa := Lib.hid (HBI.out.below HIA.out)
    obtain ⟨x0, x1, x2, x3, x4, x5⟩ := HIa.out.1.all
    have HR := Lib.hid (refSorted_ok t1 t2 _ wA HQ.out.2 HQ.out.1.2 HCZ.out HSR.out HIa.out.2)
    go_wp2_with fail
    (try rw [hwA])
    (try simp only [hba])
    clear x0 x1 x2 x3 x4 x5 hwA hba hb2 HO2 HN2
    with_reducible refine HR.out.mono ?_
    rintro e w3 ⟨ka3, na3, ua3, sa3, EA3, qa3, fa3, GA3, ra3, ha3, rfl, HN3, hb3⟩
    obtain ⟨wB, hwB⟩ : ∃ wB, w3.alloc (.cells #[.int .i64 ka3, .int .i64 na3, .int .u64 ua3, .string sa3, .slice EA3 qa3 fa3, .slice GA3 ra3 ha3] 31) = wB := ⟨_, rfl⟩
    obtain ⟨bb, hbb⟩ : ∃ bb, w3.heap.size = bb := ⟨_, rfl⟩
    have HAB : Hid (Below wA.heap.size wA wB) := Lib.hid (by rw [← hwB]; exact tr hb3.out (al0 w3 _))
    have HBB : Hid (Bd wB bb t2 (.int .i64 ka3) (.int .i64 na3) (.int .u64 ua3) (.string sa3) (.slice EA3 qa3 fa3) (.slice GA3 ra3 ha3)) := Lib.hid (by rw [← hwB, ← hbb]; exact Bd.new HN3.out)
    have HBa := Lib.hid (HBA.out.below HAB.out)
    obtain ⟨x0, x1, x2, x3, x4, x5⟩ := HBa.out.1.all
    obtain ⟨y0, y1, y2, y3, y4, y5⟩ := HBB.out.1.all
    have HE := Lib.hid (eq_eq t2 _ _ wB HQ2.out HBa.out.2 HBB.out.2)
    go_wp2_with fail
    (try rw [hwB])
    (try simp only [hbb])
    clear x0 x1 x2 x3 x4 x5 y0 y1 y2 y3 y4 y5 hwB hbb hb3 HN3
    with_reducible refine HE.out.mono ?_
    rintro e w4 ⟨rfl, hb4⟩
    have HBa4 := Lib.hid (HBa.out.below hb4.out)
    obtain ⟨x0, x1, x2, x3, x4, x5⟩ := HBa4.out.1.all
    have HSP := Lib.hid (spoil_own t2 _ wI w4 (tr HIA.out (tr HAB.out hb4.out)) (NdO.step (fun b hb hl => ⟨(tr HAB.out hb4.out).block b hl, hb⟩) _ _ HOA.out))
    clear hb4 HE
    go_wp2_with (first | (go_at_call 31; (with_reducible refine HSP.out.mono ?_); rintro e w5 ⟨rfl, H5⟩))
    clear x0 x1 x2 x3 x4 x5
    have H5d : Hid (Below wI.heap.size wI w5.drew) := Lib.hid (Below.drew H5.out)
    go_region_held3 (fun W => Hid (Below wI.heap.size wI W) ∧ W.cell? ⟨w.heap.size, 0, none⟩ = some (.int .i64 ka0) ∧ W.cell? ⟨w.heap.size, 1, none⟩ = some (.int .i64 na0) ∧ W.cell? ⟨w.heap.size, 2, none⟩ = some (.int .u64 ua0) ∧ W.cell? ⟨w.heap.size, 3, none⟩ = some (.string sa0) ∧ W.cell? ⟨w.heap.size, 4, none⟩ = some (.slice EA0 qa0 fa0) ∧ W.cell? ⟨w.heap.size, 5, none⟩ = some (.slice GA0 ra0 ha0) ∧ W.cell? ⟨bi, 0, none⟩ = some (.int .i64 ka1) ∧ W.cell? ⟨bi, 1, none⟩ = some (.int .i64 na1) ∧ W.cell? ⟨bi, 2, none⟩ = some (.int .u64 ua1) ∧ W.cell? ⟨bi, 3, none⟩ = some (.string sa1) ∧ W.cell? ⟨bi, 4, none⟩ = some (.slice EA1 qa1 fa1) ∧ W.cell? ⟨bi, 5, none⟩ = some (.slice GA1 ra1 ha1)) (first | (with_reducible exact hall _ (by assumption)) | (with_reducible exact hall _ H5d))
      (first
        | (go_at_call 29; (with_reducible refine (HC6.out _ (by first | assumption | exact H5d)).mono ?_); rintro e w6 ⟨ka6, na6, ua6, sa6, EA6, qa6, fa6, GA6, ra6, ha6, rfl, HN6, HW6⟩)
        | (go_at_call 28; (with_reducible refine (HE6.out _ _ _ _ _ _ _ _ _ _ _ HW6 HN6).mono ?_); rintro e w7 ⟨rfl, HW7⟩)
        | (go_at_call 8; (with_reducible refine (HWK.out _ HW7).mono ?_); rintro e w8 ⟨rfl, HW8⟩))
    go_wp2_with fail
    go_ret
    exact ⟨rfl, tr HWI.out HW8.out⟩
  · obtain ⟨e0, he0⟩ : ∃ e0, chk t1 = e0 := ⟨_, rfl⟩
    have h0 : e0 ≠ 0 := by rw [← he0]; exact hc
    have HS := Lib.hid (sorted_errL t1 e0 _ wI (HT.out.keep HWI.out) HQ.out.1 he0 h0 HBI.out.2)
    have HE0 := Lib.hid (And.intro he0 h0)
    clear hc he0 h0
    with_reducible refine HS.out.mono ?_
    rintro e w2 ⟨rfl, hb2⟩
    have HN2 : Hid (Nd w2 T0 [.int .i64 0, .int .i64 0, .int .u64 0, .string ⟨#[]⟩, .slice none 0 0, .slice none 0 0]) := Lib.hid (nd_t07 w2)
    have HO2 : Hid (NdO (fun b => wI.heap.size ≤ b) w2 T0 [.int .i64 0, .int .i64 0, .int .u64 0, .string ⟨#[]⟩, .slice none 0 0, .slice none 0 0]) := Lib.hid (ndo_zero _ w2)
    clear HS
    have HIAx : Hid (Below wI.heap.size wI (w2.alloc (.cells #[.int .i64 0, .int .i64 0, .int .u64 0, .string ⟨#[]⟩, .slice none 0 0, .slice none 0 0] 31))) := Lib.hid (tr hb2.out (al0 w2 _))
    obtain ⟨x0, x1, x2, x3, x4, x5⟩ := (HBI.out.below HIAx.out).1.all
    go_wp2_with fail
    clear x0 x1 x2 x3 x4 x5
    obtain ⟨wA, hwA⟩ : ∃ wA, w2.alloc (.cells #[.int .i64 0, .int .i64 0, .int .u64 0, .string ⟨#[]⟩, .slice none 0 0, .slice none 0 0] 31) = wA := ⟨_, rfl⟩
    obtain ⟨ba, hba⟩ : ∃ ba, w2.heap.size = ba := ⟨_, rfl⟩
    have HIA : Hid (Below wI.heap.size wI wA) := Lib.hid (by rw [← hwA]; exact tr hb2.out (al0 w2 _))
    have HBA : Hid (Bd wA ba T0 (.int .i64 0) (.int .i64 0) (.int .u64 0) (.string ⟨#[]⟩) (.slice none 0 0) (.slice none 0 0)) := Lib.hid (by rw [← hwA, ← hba]; exact Bd.new HN2.out)
    have HOA : Hid (NdO (fun b => wI.heap.size ≤ b) wA T0 [.int .i64 0, .int .i64 0, .int .u64 0, .string ⟨#[]⟩, .slice none 0 0, .slice none 0 0]) := Lib.hid (by rw [← hwA]; exact NdO.step (fun b hb hl => ⟨(al0 w2 _).block b hl, hb⟩) _ _ HO2.out)
    have HIa := Lib.hid (HBI.out.below HIA.out)
    have HR := Lib.hid (refSorted_err t1 e0 _ wA HQ.out.1.1 HE0.out.1 HE0.out.2 HIa.out.2)
    (try rw [hwA])
    (try simp only [hba])
    clear hwA hba hb2 HO2 HN2
    with_reducible refine HR.out.mono ?_
    rintro e w3 ⟨rfl, hb3⟩
    have HN3 : Hid (Nd w3 T0 [.int .i64 0, .int .i64 0, .int .u64 0, .string ⟨#[]⟩, .slice none 0 0, .slice none 0 0]) := Lib.hid (nd_t07 w3)
    have HABx : Hid (Below wA.heap.size wA (w3.alloc (.cells #[.int .i64 0, .int .i64 0, .int .u64 0, .string ⟨#[]⟩, .slice none 0 0, .slice none 0 0] 31))) := Lib.hid (tr hb3.out (al0 w3 _))
    obtain ⟨x0, x1, x2, x3, x4, x5⟩ := (HBA.out.below HABx.out).1.all
    go_wp2_with fail
    clear x0 x1 x2 x3 x4 x5
    obtain ⟨wB, hwB⟩ : ∃ wB, w3.alloc (.cells #[.int .i64 0, .int .i64 0, .int .u64 0, .string ⟨#[]⟩, .slice none 0 0, .slice none 0 0] 31) = wB := ⟨_, rfl⟩
    obtain ⟨bb, hbb⟩ : ∃ bb, w3.heap.size = bb := ⟨_, rfl⟩
    have HAB : Hid (Below wA.heap.size wA wB) := Lib.hid (by rw [← hwB]; exact tr hb3.out (al0 w3 _))
    have HBB : Hid (Bd wB bb T0 (.int .i64 0) (.int .i64 0) (.int .u64 0) (.string ⟨#[]⟩) (.slice none 0 0) (.slice none 0 0)) := Lib.hid (by rw [← hwB, ← hbb]; exact Bd.new HN3.out)
    have HBa := Lib.hid (HBA.out.below HAB.out)
    have HE := Lib.hid (eq_eq T0 _ _ wB t0_qq7 HBa.out.2 HBB.out.2)
    (try rw [hwB])
    (try simp only [hbb])
    clear hwB hbb hb3 HN3
    with_reducible refine HE.out.mono ?_
    rintro e w4 ⟨rfl, hb4⟩
    have HBa4 := Lib.hid (HBa.out.below hb4.out)
    obtain ⟨x0, x1, x2, x3, x4, x5⟩ := HBa4.out.1.all
    have HSP := Lib.hid (spoil_own T0 _ wI w4 (tr HIA.out (tr HAB.out hb4.out)) (NdO.step (fun b hb hl => ⟨(tr HAB.out hb4.out).block b hl, hb⟩) _ _ HOA.out))
    clear hb4 HE
    go_wp2_with (first | (go_at_call 31; (with_reducible refine HSP.out.mono ?_); rintro e w5 ⟨rfl, H5⟩))
    clear x0 x1 x2 x3 x4 x5
    have H5d : Hid (Below wI.heap.size wI w5.drew) := Lib.hid (Below.drew H5.out)
    go_region_held3 (fun W => Hid (Below wI.heap.size wI W) ∧ W.cell? ⟨w.heap.size, 0, none⟩ = some (.int .i64 ka0) ∧ W.cell? ⟨w.heap.size, 1, none⟩ = some (.int .i64 na0) ∧ W.cell? ⟨w.heap.size, 2, none⟩ = some (.int .u64 ua0) ∧ W.cell? ⟨w.heap.size, 3, none⟩ = some (.string sa0) ∧ W.cell? ⟨w.heap.size, 4, none⟩ = some (.slice EA0 qa0 fa0) ∧ W.cell? ⟨w.heap.size, 5, none⟩ = some (.slice GA0 ra0 ha0) ∧ W.cell? ⟨bi, 0, none⟩ = some (.int .i64 ka1) ∧ W.cell? ⟨bi, 1, none⟩ = some (.int .i64 na1) ∧ W.cell? ⟨bi, 2, none⟩ = some (.int .u64 ua1) ∧ W.cell? ⟨bi, 3, none⟩ = some (.string sa1) ∧ W.cell? ⟨bi, 4, none⟩ = some (.slice EA1 qa1 fa1) ∧ W.cell? ⟨bi, 5, none⟩ = some (.slice GA1 ra1 ha1)) (first | (with_reducible exact hall _ (by assumption)) | (with_reducible exact hall _ H5d))
      (first
        | (go_at_call 29; (with_reducible refine (HC6.out _ (by first | assumption | exact H5d)).mono ?_); rintro e w6 ⟨ka6, na6, ua6, sa6, EA6, qa6, fa6, GA6, ra6, ha6, rfl, HN6, HW6⟩)
        | (go_at_call 28; (with_reducible refine (HE6.out _ _ _ _ _ _ _ _ _ _ _ HW6 HN6).mono ?_); rintro e w7 ⟨rfl, HW7⟩)
        | (go_at_call 8; (with_reducible refine (HWK.out _ HW7).mono ?_); rintro e w8 ⟨rfl, HW8⟩))
    go_wp2_with fail
    go_ret
    exact ⟨rfl, tr HWI.out HW8.out⟩
end Go.Proofs.YtnplkamkeadlgaaDoor
namespace Go.Proofs.YtnplkamkeadlgaaDoor
open Go.ChangeShapes Go.WideShapes Go.ChangeAt Go.WideMaps Go.WideElems Go.RowKit Go.ChangeMaps
end Go.Proofs.YtnplkamkeadlgaaDoor
namespace Go.Proofs.YtnplkamkeadlgaaDoor
open Go.RowKit

theorem bring_small (t n : Int) (w : World) (hn : 1 ≤ n) (hn2 : n ≤ 100000) :
    Calls Tryd.prog 35 #[.int .i64 t, .int .i64 n] w fun e w' => e = .returned (.int .i64 (t % n)) ∧ w = w' := by
  have d0 : (n == 0) = false := by simp; omega
  by_cases h : t < 0
  · obtain ⟨r, hr⟩ : ∃ r, t.tmod n = r := ⟨_, rfl⟩
    obtain ⟨k, rfl⟩ : ∃ k : Int, t = -k := ⟨-t, by omega⟩
    have e1 : r = -(k % n) := by rw [← hr, Int.neg_tmod, Int.tmod_eq_emod_of_nonneg (by omega)]
    have b0 := Int.emod_nonneg k (show n ≠ 0 by omega)
    have b1 := Int.emod_lt_of_pos k (show 0 < n by omega)
    by_cases hz : r = 0
    · have hz' : k % n = 0 := by omega
      have e2 : -k % n = 0 := Int.emod_eq_zero_of_dvd (Int.dvd_neg.2 (Int.dvd_of_emod_eq_zero hz'))
      rw [e2]
      rw [hz] at hr
      clear e1 b0 b1 hz hz' e2
      go_enter Tryd.func35, Tryd.ntmps35
      go_wp2
      go_ret
      exact ⟨rfl, rfl⟩
    · have hneg : r < 0 := by omega
      have e2 : -k % n = r + n := by
        have e3 : -k = (r + n) + n * (-(k / n) - 1) := by
          have := Int.mul_ediv_add_emod k n
          rw [e1, Int.mul_sub, Int.mul_neg]
          omega
        rw [e3, Int.add_mul_emod_self_left, Int.emod_eq_of_lt (by omega) (by omega)]
      rw [e2]
      have g0 : -100000 ≤ r := by omega
      clear e1 b0 b1 hz e2 h
      go_enter Tryd.func35, Tryd.ntmps35
      go_wp2
      go_ret
      exact ⟨rfl, rfl⟩
  · have h' : 0 ≤ t := by omega
    have b0 := Int.emod_nonneg t (show n ≠ 0 by omega)
    have d1 : decide (t % n < 0) = false := by simp; omega
    have e1 : t.tmod n = t % n := Int.tmod_eq_emod_of_nonneg h'
    clear h
    go_enter Tryd.func35, Tryd.ntmps35
    go_wp2
    go_ret
    exact ⟨rfl, rfl⟩
end Go.Proofs.YtnplkamkeadlgaaDoor
namespace Go.Proofs.YtnplkamkeadlgaaDoor
open Go.RowKit Go.Sort

theorem TB.start (w : World) (v0 v1 v2 v3 v4 v5 z0 z1 z2 z3 z4 z5 o0 o1 o2 o3 o4 o5 : Value) : TB w (w.heap.size + 1 + 1) v0 v1 v2 v3 v4 v5 o0 o1 o2 o3 o4 o5 (.slice none 0 0) (.slice none 0 0) [] [] []
    (((w.alloc (.cells #[v0, v1, v2, v3, v4, v5] 31)).alloc (.cells #[z0, z1, z2, z3, z4, z5] 31)).alloc (.cells #[o0, o1, o2, o3, o4, o5] 31)) := by
  have h := Two.start w v0 v1 v2 v3 v4 v5 z0 z1 z2 z3 z4 z5
  have hs : ((w.alloc (.cells #[v0, v1, v2, v3, v4, v5] 31)).alloc (.cells #[z0, z1, z2, z3, z4, z5] 31)).heap.size = w.heap.size + 1 + 1 := by simp
  have hn := Blk.new ((w.alloc (.cells #[v0, v1, v2, v3, v4, v5] 31)).alloc (.cells #[z0, z1, z2, z3, z4, z5] 31)) 31 #[o0, o1, o2, o3, o4, o5]
  rw [hs] at hn
  exact ⟨h.1.trans ((Below.refl _ _).alloc h.1.size _), by omega, h.2.2.1.alloc _, ⟨_, _, _, _, _, _, h.2.2.2.alloc _⟩, hn, World.ownsRow_nil _ _ _ _, by simp [Value.ownBlock], own_nil _ _, by simp [Value.ownBlock], by simp [Value.ownBlock], rfl⟩
/-- The children and keys of the rotated tree. -/
def turnKs (k : Int) (b : Nat) (ks : List ByteArray) (l : List T) : List ByteArray := if k = 17 ∧ ks.length = l.length then rot b ⟨#[]⟩ ks else []
def turnLs (k : Int) (b : Nat) (ks : List ByteArray) (l : List T) : List T := if k = 17 ∧ ks.length = l.length then rot b Tz (turnL b l) else turnL b l
theorem turnT_eq (b : Nat) (k n u : Int) (s : ByteArray) (ks : List ByteArray) (l : List T) : turnT b (.mk k n u s ks l) = .mk k n u s (turnKs k b ks l) (turnLs k b ks l) := by
  unfold turnT turnKs turnLs
  by_cases h : k = 17 ∧ ks.length = l.length
  · rw [if_pos h, if_pos h, if_pos h]
  · rw [if_neg h, if_neg h, if_neg h]
theorem turnL_get (b : Nat) : ∀ (l : List T) (j : Nat) (t : T), l[j]? = some t → (turnL b l)[j]? = some (turnT b t)
  | [], j, t, h => by simp at h
  | t0 :: ts, 0, t, h => by
    obtain rfl : t0 = t := by simpa using h
    unfold turnL; simp
  | t0 :: ts, j + 1, t, h => by
    unfold turnL
    rw [List.getElem?_cons_succ]
    exact turnL_get b ts j t (by simpa using h)
theorem rot_at {α : Type} {b : Nat} {d x : α} {l : List α} {j : Nat} (hj : j < l.length) (h : l[rotN b l.length j]? = some x) : (rot b d l)[j]? = some x := by
  unfold rot
  rw [List.getElem?_map, List.getElem?_range hj]
  show some (l.getD _ d) = some x
  rw [List.getD_eq_getElem?_getD, h]
  rfl
theorem turnLs_len (k : Int) (b : Nat) (ks : List ByteArray) (l : List T) : (turnLs k b ks l).length = l.length := by
  unfold turnLs
  split
  · rw [rot_len, turnL_len]
  · rw [turnL_len]

theorem turnKs_len (k : Int) (b : Nat) (ks : List ByteArray) (l : List T) : (turnKs k b ks l).length ≤ l.length := by
  unfold turnKs
  split
  · rename_i h
    rw [rot_len, h.2]
    exact Nat.le_refl _
  · exact Nat.zero_le _

set_option maxRecDepth 100000 in
set_option maxHeartbeats 4000000 in
theorem turned_any (b : Nat) (hb : b ≤ 1000) (k : Nat) : ∀ (t : T) (cs : List Value) (w : World), dp t ≤ k → sz t ≤ 60000 → sm 1000 1000 t → mpT t → Nd w t cs →
    Calls Tryd.prog 34 #[.agg cs.toArray, .int .i64 (b : Int)] w fun e w' => (∃ cs', e = .returned (.agg cs'.toArray) ∧ NdO (fun b => w.heap.size ≤ b) w' (turnT b t) cs') ∧ Below w.heap.size w w' := by
  induction k with
  | zero => intro t cs w h; exact absurd h (by have := dp_pos t; omega)
  | succ k ih =>
    rintro ⟨kk, nn, uu, s, ks, L⟩ cs w hk hsz hsm hmp ⟨hr, hs, kv, A, m, c, rfl, hks, hl, hm, hmm, hL⟩
    simp only [dp] at hk
    simp only [sz] at hsz
    have hmx : m ≤ 60000 := by have := len_le_szL L; omega
    obtain ⟨KA, Kn, Kc, rfl, hkn, hkc, hkm, hksz, hK⟩ := hks.at
    have hkl := hsm.2.1
    have HTB : Hid (TB w (w.heap.size + 1 + 1) (.int .i64 kk) (.int .i64 nn) (.int .u64 uu) (.string s) (.slice KA Kn Kc) (.slice A m c) (.int .i64 kk) (.int .i64 nn) (.int .u64 uu) (.string s) (.slice none 0 0) (.slice none 0 0) (.slice none 0 0) (.slice none 0 0) [] [] []
        (((w.alloc (.cells #[.int .i64 kk, .int .i64 nn, .int .u64 uu, .string s, .slice KA Kn Kc, .slice A m c] 31)).alloc (.cells #[.int .i64 0, .int .i64 0, .int .u64 0, .string ⟨#[]⟩, .slice none 0 0, .slice none 0 0] 31)).alloc (.cells #[.int .i64 kk, .int .i64 nn, .int .u64 uu, .string s, .slice none 0 0, .slice none 0 0] 31))) := Lib.hid (TB.start w _ _ _ _ _ _ _ _ _ _ _ _ _ _ _ _ _ _)
    have HSM := Lib.hid hsm
    have HKS := Lib.hid hks
    have HL := Lib.hid hL
    have HK := Lib.hid hK
    have HLL := Lib.hid hl
    clear hsm hks hL hK
    go_enter Tryd.func34, Tryd.ntmps34
    go_wp2_with fail
    obtain ⟨o, ho⟩ : ∃ o, w.heap.size + 1 + 1 = o := ⟨_, rfl⟩
    obtain ⟨W9, hW9⟩ : ∃ W9, (((w.alloc (.cells #[.int .i64 kk, .int .i64 nn, .int .u64 uu, .string s, .slice KA Kn Kc, .slice A m c] 31)).alloc (.cells #[.int .i64 0, .int .i64 0, .int .u64 0, .string ⟨#[]⟩, .slice none 0 0, .slice none 0 0] 31)).alloc (.cells #[.int .i64 kk, .int .i64 nn, .int .u64 uu, .string s, .slice none 0 0, .slice none 0 0] 31)) = W9 := ⟨_, rfl⟩
    have HO2 : Hid (w.heap.size + 2 ≤ o) := Lib.hid (by omega)
    rw [ho, hW9] at HTB
    simp only [ho, hW9]
    clear ho hW9
    go_loopw [6] (fun vi wr => ∃ (j : Nat) (kq lq : Value) (ys : List Value), j ≤ m ∧ vi = .int .i64 (j : Int) ∧ Hid (TB w o (.int .i64 kk) (.int .i64 nn) (.int .u64 uu) (.string s) (.slice KA Kn Kc) (.slice A m c) (.int .i64 kk) (.int .i64 nn) (.int .u64 uu) (.string s) kq lq kq lq ((turnKs kk b ks L).take j) ((turnLs kk b ks L).take j) ys wr)) (fun vi _ => m - (intOf vi).toNat)
    case atStart => exact ⟨0, _, _, _, Nat.zero_le _, rfl, HTB⟩
    case round =>
      obtain ⟨j, kq, lq, ys, hj, rfl, HT⟩ := hrel
      obtain ⟨LA, Lc, hlv⟩ := (Ow.of HT.out.row).shape
      obtain ⟨QA, Qc, hkv⟩ := (Ow.of HT.out.keys).shape
      obtain ⟨Ln, hLn⟩ : ∃ Ln, ((turnLs kk b ks L).take j).length = Ln := ⟨_, rfl⟩
      obtain ⟨Qn, hQn⟩ : ∃ Qn, ((turnKs kk b ks L).take j).length = Qn := ⟨_, rfl⟩
      rw [hLn] at hlv
      rw [hQn] at hkv
      subst hlv hkv
      obtain ⟨b0, b1, b2, b3, b4, b5⟩ := HT.out.bt.all
      by_cases hjm : j < m
      · obtain ⟨bb, off, rfl, hbb, hN⟩ := HL.out (by omega)
        have HTC : Hid (TC w o (.int .i64 kk) (.int .i64 nn) (.int .u64 uu) (.string s) (.slice KA Kn Kc) (.slice (some ⟨bb, off, none⟩) m c) (.int .i64 kk) (.int .i64 nn) (.int .u64 uu) (.string s) (.slice QA Qn Qc) (.slice LA Ln Lc) wr) := Lib.hid HT.out.tc
        have HLN : Hid (Ln = j) := Lib.hid (by rw [← hLn, List.length_take, turnLs_len, HLL.out]; omega)
        have ji0 : (0 : Int) ≤ (j : Int) := by omega
        have ji1 : (j : Int) < (m : Int) := by omega
        have hm0 : ((m : Int) == 0) = false := by simp; omega
        by_cases hmap : kk = 17
        · obtain rfl : Kn = m := by rw [← hkn, ← HLL.out]; exact (hmp.1 hmap).1
          subst hmap
          obtain ⟨q, hq⟩ : ∃ q, rotN b Kn j = q := ⟨_, rfl⟩
          have hqm : q < Kn := by rw [← hq]; exact rotN_lt (by omega)
          have r1 : IntKind.i64.wrap ((j : Int) + (b : Int)) = (j : Int) + (b : Int) := by
            simp [IntKind.wrap, IntKind.bits, IntKind.signed]; omega
          have r2 : ((j : Int) + (b : Int)) % (Kn : Int) = (q : Int) := by
            rw [← hq]; rfl
          have q0 : (0 : Int) ≤ (q : Int) := by omega
          have q1 : (q : Int) < (Kn : Int) := by omega
          obtain ⟨x, hx⟩ : ∃ x, ks[q]? = some x := ⟨_, List.getElem?_eq_getElem (by omega)⟩
          obtain ⟨t0, ht0⟩ : ∃ t, L[q]? = some t := ⟨_, List.getElem?_eq_getElem (by omega)⟩
          obtain ⟨kb, koff, rfl, hkb, hkc1⟩ := HK.out (by omega)
          have hxs : x.size ≤ maxLen := hksz x (List.mem_of_getElem? hx)
          have hall : ∀ W, Hid (TF w o (.int .i64 17) (.int .i64 nn) (.int .u64 uu) (.string s) (.slice (some ⟨kb, koff, none⟩) Kn Kc) (.slice (some ⟨bb, off, none⟩) Kn c) W) → Hid (TF w o (.int .i64 17) (.int .i64 nn) (.int .u64 uu) (.string s) (.slice (some ⟨kb, koff, none⟩) Kn Kc) (.slice (some ⟨bb, off, none⟩) Kn c) W) ∧ W.cell? ⟨w.heap.size, 4, none⟩ = some (.slice (some ⟨kb, koff, none⟩) Kn Kc) ∧ W.cell? ⟨kb, koff + q, none⟩ = some (.string x) ∧ W.frozen? ⟨o, 4, none⟩ = false := by
            intro W H
            obtain ⟨_, _, _, _, c4, _⟩ := H.out.bt.all
            exact ⟨H, c4, hkc1 W H.out.bl q x hx, H.out.frozen 4⟩
          have HTF := Lib.hid (HTC.out.tf HO2.out)
          have HTd := Lib.hid (HTF.out.below (Below.refl _ _).drew)
          have hset : ∀ (W : World) (u : Value), Hid (TF w o (.int .i64 17) (.int .i64 nn) (.int .u64 uu) (.string s) (.slice (some ⟨kb, koff, none⟩) Kn Kc) (.slice (some ⟨bb, off, none⟩) Kn c) W) → Hid (TF w o (.int .i64 17) (.int .i64 nn) (.int .u64 uu) (.string s) (.slice (some ⟨kb, koff, none⟩) Kn Kc) (.slice (some ⟨bb, off, none⟩) Kn c) (W.setCell ⟨o, 4, none⟩ u)) := fun W u H => Lib.hid (H.out.set4 u)
          obtain ⟨_, _, _, _, d4, _⟩ := HT.out.bo.all
          have d4a : wr.drew.cell? ⟨o, 4, none⟩ = some (.slice QA Qn Qc) := d4
          have d4b : (wr.alloc (.cells #[.string x] 9)).drew.cell? ⟨o, 4, none⟩ = some (.slice QA Qn Qc) := by
            obtain ⟨_, _, _, _, h, _⟩ := ((HTC.out.below (al0 wr (.cells #[.string x] 9))).below (Below.refl _ _).drew).bo.all
            exact h
          have HKQ : Hid (Qn + 1 ≤ 65536) := Lib.hid (by rw [← hQn, List.length_take]; omega)
          have HQ : Hid (L[q]? = some t0 ∧ (turnLs 17 b ks L).take (j + 1) = (turnLs 17 b ks L).take j ++ [turnT b t0] ∧ (turnKs 17 b ks L).take (j + 1) = (turnKs 17 b ks L).take j ++ [x]) := Lib.hid (by
            have hmp : (17 : Int) = 17 ∧ ks.length = L.length := ⟨rfl, by rw [hkn, HLL.out]⟩
            refine ⟨ht0, ?_, ?_⟩
            · rw [List.take_add_one]
              unfold turnLs
              rw [if_pos hmp, rot_at (x := turnT b t0) (by rw [turnL_len, HLL.out]; exact hjm) (by rw [turnL_len, HLL.out, hq]; exact turnL_get b L q t0 ht0)]
              rfl
            · rw [List.take_add_one]
              unfold turnKs
              rw [if_pos hmp, rot_at (x := x) (by rw [hkn]; exact hjm) (by rw [hkn, hq]; exact hx)]
              rfl)
          have HI := Lib.hid ih
          clear hkb hkn hkc hkm hq ih ht0 hx hkc1
          go_wp2_with fail
          go_region_law
            (first
              | (refine step_key (kq := .slice QA Qn Qc) (x := x) rfl _ _ rfl rfl rfl (by first | exact HT.out.below ((al0 wr _).drew) | exact (HT.out.below (Below.refl _ _).drew).below (al0 _ _)) (by first | exact Blk.new wr _ _ | exact Blk.new wr.drew _ _) hxs (by rw [hQn]; exact HKQ.out) ?_; intro XA Xn Xc w6 HT6 HTC6; obtain ⟨⟨y0, y1, y2, y3, y4, y5⟩, f0, f1, f2, f3, f4, f5⟩ := Bx.both HTC6.out.bo))
          all_goals
            obtain ⟨W7, hW7⟩ : ∃ W7, w6.setCell ⟨o, 4, none⟩ (.slice XA Xn Xc) = W7 := ⟨_, rfl⟩
            have HT7 := Lib.hid (HT6.out.set4 HO2.out (.slice XA Xn Xc))
            rw [hW7] at HT7 ⊢
            obtain ⟨RA, Rn, Rc, hR⟩ : ∃ RA Rn Rc, (RA, Rn, Rc) = (XA, Xn, Xc) := ⟨_, _, _, rfl⟩
            simp only [Prod.mk.injEq] at hR
            obtain ⟨rfl, rfl, rfl⟩ := hR
            clear hW7 HT6 HTC6 y0 y1 y2 y3 y4 y5 f0 f1 f2 f3 f4 f5 d4 d4a d4b
            obtain ⟨z0, z1, z2, z3, z4, z5, hS0, hn0⟩ := hN.six' (Below.refl _ w) hbb HQ.out.1
            obtain ⟨k0, i0, n0, s0, B1, p1, d1, B2, p2, d2, hsh⟩ := hn0.shape
            simp only [List.cons.injEq, and_true] at hsh
            obtain ⟨rfl, rfl, rfl, rfl, rfl, rfl⟩ := hsh
            have HCALL : Hid (∀ W, Hid (TB w o (.int .i64 17) (.int .i64 nn) (.int .u64 uu) (.string s) (.slice (some ⟨kb, koff, none⟩) Kn Kc) (.slice (some ⟨bb, off, none⟩) Kn c) (.int .i64 17) (.int .i64 nn) (.int .u64 uu) (.string s) (.slice RA Rn Rc) (.slice LA Ln Lc) (.slice RA Rn Rc) (.slice LA Ln Lc) ((turnKs 17 b ks L).take j ++ [x]) ((turnLs 17 b ks L).take j) ys W) → Calls Tryd.prog 34 #[.agg #[.int .i64 k0, .int .i64 i0, .int .u64 n0, .string s0, .slice B1 p1 d1, .slice B2 p2 d2], .int .i64 (b : Int)] W fun e w' => ∃ (k' n' u' : Int) (s' : ByteArray) (A1' : Option Addr) (m1' c1' : Nat) (A2' : Option Addr) (m2' c2' : Nat),
                e = .returned (.agg #[.int .i64 k', .int .i64 n', .int .u64 u', .string s', .slice A1' m1' c1', .slice A2' m2' c2']) ∧ Hid (TK w o (.int .i64 17) (.int .i64 nn) (.int .u64 uu) (.string s) (.slice (some ⟨kb, koff, none⟩) Kn Kc) (.slice (some ⟨bb, off, none⟩) Kn c) (.int .i64 17) (.int .i64 nn) (.int .u64 uu) (.string s) (.slice RA Rn Rc) (.slice LA Ln Lc) (.slice RA Rn Rc) (.slice LA Ln Lc) ((turnKs 17 b ks L).take j ++ [x]) ((turnLs 17 b ks L).take j) ys (turnT b t0) [.int .i64 k', .int .i64 n', .int .u64 u', .string s', .slice A1' m1' c1', .slice A2' m2' c2'] w') ∧ Hid (TC w o (.int .i64 17) (.int .i64 nn) (.int .u64 uu) (.string s) (.slice (some ⟨kb, koff, none⟩) Kn Kc) (.slice (some ⟨bb, off, none⟩) Kn c) (.int .i64 17) (.int .i64 nn) (.int .u64 uu) (.string s) (.slice RA Rn Rc) (.slice LA Ln Lc) w')) := Lib.hid fun W H => by
              have hdl := dp_le_of HQ.out.1
              have hsl := sz_le_of HQ.out.1
              have hw2 : w.heap.size + 2 ≤ W.heap.size := by
                obtain ⟨_, _, _, _, _, _, h1⟩ := H.out.br
                have := Blk.lt h1
                omega
              refine (HI.out t0 _ W (by omega) (by omega) (smL_at HSM.out.2.2.2 HQ.out.1) (mpL_at hmp.2 HQ.out.1) (hn0.bel H.out.bl)).mono ?_
              rintro e w' ⟨⟨cs', rfl, h1⟩, h2⟩
              obtain ⟨k', n', u', s', A1', m1', c1', A2', m2', c2', rfl⟩ := h1.shape6
              exact ⟨k', n', u', s', A1', m1', c1', A2', m2', c2', rfl, Lib.hid (H.out.kidat hw2 h2 h1), Lib.hid (H.out.kidat hw2 h2 h1).tb.tc⟩
            obtain ⟨a0, a1, a2, a3, a4, a5⟩ := hS0.below (HT7.out.bl.trans ((Below.refl _ _).drew.mono HT7.out.bl.size) : Below w.heap.size w W7.drew) hbb
            have HT7d : Hid (TB w o (.int .i64 17) (.int .i64 nn) (.int .u64 uu) (.string s) (.slice (some ⟨kb, koff, none⟩) Kn Kc) (.slice (some ⟨bb, off, none⟩) Kn c) (.int .i64 17) (.int .i64 nn) (.int .u64 uu) (.string s) (.slice RA Rn Rc) (.slice LA Ln Lc) (.slice RA Rn Rc) (.slice LA Ln Lc) ((turnKs 17 b ks L).take j ++ [x]) ((turnLs 17 b ks L).take j) ys W7.drew) := Lib.hid (HT7.out.below (Below.refl _ _).drew)
            obtain ⟨_, _, _, _, g4, g5⟩ := HT7d.out.bt.all
            obtain ⟨_, _, _, _, l4, l5⟩ := HT7d.out.bo.all
            clear hS0 hn0
            go_wp2_with fail
            go_region_law (first
              | (refine step_kid (kq := .slice RA Rn Rc) (lq := .slice LA Ln Lc) (t := turnT b t0) rfl _ _ rfl rfl rfl (H8.out.below (al0 w8 _)) (Blk.new w8 _ _) (by rw [List.length_take]; omega) ?_; intro YA Yn Yc w9 HT9 HTC9; obtain ⟨⟨y0, y1, y2, y3, y4, y5⟩, f0, f1, f2, f3, f4, f5⟩ := Bx.both HTC9.out.bo)
              | (go_simp; go_at_call 34; (with_reducible refine (HCALL.out _ HT7d).mono ?_); rintro e w8 ⟨k', n', u', s', A1', m1', c1', A2', m2', c2', rfl, H8, HC8⟩; obtain ⟨_, _, _, _, o4, o5⟩ := HC8.out.bo.all; have o5b : (w8.alloc (.cells #[.int .i64 k', .int .i64 n', .int .u64 u', .string s', .slice A1' m1' c1', .slice A2' m2' c2'] 31)).cell? ⟨o, 5, none⟩ = some (.slice LA Ln Lc) := by (obtain ⟨_, _, _, _, _, h⟩ := (HC8.out.below (al0 w8 (.cells #[.int .i64 k', .int .i64 n', .int .u64 u', .string s', .slice A1' m1' c1', .slice A2' m2' c2'] 31))).bo.all; exact h)))
            all_goals
              have HT10 := Lib.hid (HT9.out.set5 HO2.out (.slice YA Yn Yc))
              clear HT9 HTC9 y0 y1 y2 y3 y4 y5 f0 f1 f2 f3 f4 f5
              go_wp2_with fail
              go_roundw
              case rel => exact ⟨j + 1, _, _, _, by omega, by simp, by rw [HQ.out.2.1, HQ.out.2.2]; exact HT10⟩
              case measure => simp [intOf]; omega
        · obtain ⟨t0, ht0⟩ : ∃ t, L[j]? = some t := ⟨_, List.getElem?_eq_getElem (by rw [HLL.out]; exact hjm)⟩
          have hk17 : (kk == 17) = false := by simpa using hmap
          have HQ : Hid (L[j]? = some t0 ∧ (turnLs kk b ks L).take (j + 1) = (turnLs kk b ks L).take j ++ [turnT b t0] ∧ (turnKs kk b ks L).take (j + 1) = (turnKs kk b ks L).take j) := Lib.hid (by
            refine ⟨ht0, ?_, ?_⟩
            · rw [List.take_add_one]
              unfold turnLs
              rw [if_neg (fun h => hmap h.1), turnL_get b L j t0 ht0]
              rfl
            · unfold turnKs
              rw [if_neg (fun h => hmap h.1)]
              simp)
          obtain ⟨W7, rfl⟩ : ∃ W7, W7 = wr := ⟨_, rfl⟩
          obtain ⟨RA, Rn, Rc, hR⟩ : ∃ RA Rn Rc, (RA, Rn, Rc) = (QA, Qn, Qc) := ⟨_, _, _, rfl⟩
          simp only [Prod.mk.injEq] at hR
          obtain ⟨rfl, rfl, rfl⟩ := hR
          have HT7 := HT
          have HI := Lib.hid ih
          clear ih ht0 hmap
          obtain ⟨z0, z1, z2, z3, z4, z5, hS0, hn0⟩ := hN.six' (Below.refl _ w) hbb HQ.out.1
          obtain ⟨k0, i0, n0, s0, B1, p1, d1, B2, p2, d2, hsh⟩ := hn0.shape
          simp only [List.cons.injEq, and_true] at hsh
          obtain ⟨rfl, rfl, rfl, rfl, rfl, rfl⟩ := hsh
          have HCALL : Hid (∀ W, Hid (TB w o (.int .i64 kk) (.int .i64 nn) (.int .u64 uu) (.string s) (.slice KA Kn Kc) (.slice (some ⟨bb, off, none⟩) m c) (.int .i64 kk) (.int .i64 nn) (.int .u64 uu) (.string s) (.slice RA Rn Rc) (.slice LA Ln Lc) (.slice RA Rn Rc) (.slice LA Ln Lc) ((turnKs kk b ks L).take j) ((turnLs kk b ks L).take j) ys W) → Calls Tryd.prog 34 #[.agg #[.int .i64 k0, .int .i64 i0, .int .u64 n0, .string s0, .slice B1 p1 d1, .slice B2 p2 d2], .int .i64 (b : Int)] W fun e w' => ∃ (k' n' u' : Int) (s' : ByteArray) (A1' : Option Addr) (m1' c1' : Nat) (A2' : Option Addr) (m2' c2' : Nat),
              e = .returned (.agg #[.int .i64 k', .int .i64 n', .int .u64 u', .string s', .slice A1' m1' c1', .slice A2' m2' c2']) ∧ Hid (TK w o (.int .i64 kk) (.int .i64 nn) (.int .u64 uu) (.string s) (.slice KA Kn Kc) (.slice (some ⟨bb, off, none⟩) m c) (.int .i64 kk) (.int .i64 nn) (.int .u64 uu) (.string s) (.slice RA Rn Rc) (.slice LA Ln Lc) (.slice RA Rn Rc) (.slice LA Ln Lc) ((turnKs kk b ks L).take j) ((turnLs kk b ks L).take j) ys (turnT b t0) [.int .i64 k', .int .i64 n', .int .u64 u', .string s', .slice A1' m1' c1', .slice A2' m2' c2'] w') ∧ Hid (TC w o (.int .i64 kk) (.int .i64 nn) (.int .u64 uu) (.string s) (.slice KA Kn Kc) (.slice (some ⟨bb, off, none⟩) m c) (.int .i64 kk) (.int .i64 nn) (.int .u64 uu) (.string s) (.slice RA Rn Rc) (.slice LA Ln Lc) w')) := Lib.hid fun W H => by
            have hdl := dp_le_of HQ.out.1
            have hsl := sz_le_of HQ.out.1
            have hw2 : w.heap.size + 2 ≤ W.heap.size := by
              obtain ⟨_, _, _, _, _, _, h1⟩ := H.out.br
              have := Blk.lt h1
              omega
            refine (HI.out t0 _ W (by omega) (by omega) (smL_at HSM.out.2.2.2 HQ.out.1) (mpL_at hmp.2 HQ.out.1) (hn0.bel H.out.bl)).mono ?_
            rintro e w' ⟨⟨cs', rfl, h1⟩, h2⟩
            obtain ⟨k', n', u', s', A1', m1', c1', A2', m2', c2', rfl⟩ := h1.shape6
            exact ⟨k', n', u', s', A1', m1', c1', A2', m2', c2', rfl, Lib.hid (H.out.kidat hw2 h2 h1), Lib.hid (H.out.kidat hw2 h2 h1).tb.tc⟩
          obtain ⟨a0, a1, a2, a3, a4, a5⟩ := hS0.below (HT7.out.bl.trans ((Below.refl _ _).drew.mono HT7.out.bl.size) : Below w.heap.size w W7.drew) hbb
          have HT7d : Hid (TB w o (.int .i64 kk) (.int .i64 nn) (.int .u64 uu) (.string s) (.slice KA Kn Kc) (.slice (some ⟨bb, off, none⟩) m c) (.int .i64 kk) (.int .i64 nn) (.int .u64 uu) (.string s) (.slice RA Rn Rc) (.slice LA Ln Lc) (.slice RA Rn Rc) (.slice LA Ln Lc) ((turnKs kk b ks L).take j) ((turnLs kk b ks L).take j) ys W7.drew) := Lib.hid (HT7.out.below (Below.refl _ _).drew)
          obtain ⟨_, _, _, _, g4, g5⟩ := HT7d.out.bt.all
          obtain ⟨_, _, _, _, l4, l5⟩ := HT7d.out.bo.all
          clear hS0 hn0
          go_wp2_with fail
          go_region_law (first
            | (refine step_kid (kq := .slice RA Rn Rc) (lq := .slice LA Ln Lc) (t := turnT b t0) rfl _ _ rfl rfl rfl (H8.out.below (al0 w8 _)) (Blk.new w8 _ _) (by rw [List.length_take]; omega) ?_; intro YA Yn Yc w9 HT9 HTC9; obtain ⟨⟨y0, y1, y2, y3, y4, y5⟩, f0, f1, f2, f3, f4, f5⟩ := Bx.both HTC9.out.bo)
            | (go_simp; go_at_call 34; (with_reducible refine (HCALL.out _ HT7d).mono ?_); rintro e w8 ⟨k', n', u', s', A1', m1', c1', A2', m2', c2', rfl, H8, HC8⟩; obtain ⟨_, _, _, _, o4, o5⟩ := HC8.out.bo.all; have o5b : (w8.alloc (.cells #[.int .i64 k', .int .i64 n', .int .u64 u', .string s', .slice A1' m1' c1', .slice A2' m2' c2'] 31)).cell? ⟨o, 5, none⟩ = some (.slice LA Ln Lc) := by (obtain ⟨_, _, _, _, _, h⟩ := (HC8.out.below (al0 w8 (.cells #[.int .i64 k', .int .i64 n', .int .u64 u', .string s', .slice A1' m1' c1', .slice A2' m2' c2'] 31))).bo.all; exact h)))
          all_goals
            have HT10 := Lib.hid (HT9.out.set5 HO2.out (.slice YA Yn Yc))
            clear HT9 HTC9 y0 y1 y2 y3 y4 y5 f0 f1 f2 f3 f4 f5
            go_wp2_with fail
            go_roundw
            case rel => exact ⟨j + 1, _, _, _, by omega, by simp, by rw [HQ.out.2.1, HQ.out.2.2]; exact HT10⟩
            case measure => simp [intOf]; omega
      · obtain rfl : j = m := by omega
        have hT := HT.out
        rw [List.take_of_length_le (l := turnLs kk b ks L) (by rw [turnLs_len, HLL.out]; exact Nat.le_refl _), List.take_of_length_le (l := turnKs kk b ks L) (by rw [← HLL.out]; exact turnKs_len _ _ _ _)] at hT
        have HF := Lib.hid (hT.fin hr hs (by
          intro x hx
          unfold turnKs at hx
          split at hx
          · exact hksz x ((rot_list b _ ks).mem_iff.1 hx)
          · cases hx))
        obtain ⟨⟨o0, o1, o2, o3, o4, o5⟩, f0, f1, f2, f3, f4, f5⟩ := Bx.both HT.out.bo
        obtain ⟨z0, z1, z2, z3, z4, z5, hz⟩ := HT.out.br
        obtain ⟨⟨p0, p1, p2, p3, p4, p5⟩, e0, e1, e2, e3, e4, e5⟩ := Bx.both hz
        clear hT hz
        go_wp2_with fail
        refine ret_six (p := 4) (g := w.heap.size + 1) rfl rfl HF.out.1 rfl ⟨⟨_, rfl, ?_⟩, HF.out.2.2⟩
        rw [turnT_eq]
        exact HF.out.2.1
end Go.Proofs.YtnplkamkeadlgaaDoor
namespace Go.Proofs.YtnplkamkeadlgaaDoor
open Go.RowKit Go.Sort

theorem t0_qq : QQ T0 := ⟨by decide, by decide, by decide, by simp, trivial⟩
theorem nd_t0 (w : World) : Nd w T0 [.int .i64 0, .int .i64 0, .int .u64 0, .string ⟨#[]⟩, .slice none 0 0, .slice none 0 0] := NdO.nd _ _ (ndo_zero (fun _ => True) w)
theorem bring_all (n : Int) : ∃ b : Nat, b ≤ 1000 ∧ ∀ w, Calls Tryd.prog 35 #[.int .i64 n, .int .i64 120] w fun e w' => e = .returned (.int .i64 (b : Int)) ∧ w = w' := by
  refine ⟨(n % 120).toNat, by omega, fun w => ?_⟩
  rw [Int.toNat_of_nonneg (by omega)]
  exact bring_small n 120 w (by omega) (by omega)
/-- Behind the statement that makes the second tree. -/
def ZS (A : World) (B : T) (s8 s9 : Value) (W : World) : Prop := s9 = .int .i64 0 ∧ Below A.heap.size A W ∧ ∃ (p : Nat) (kaz naz uaz : Int) (saz : ByteArray) (EAz : Option Addr) (qaz faz : Nat) (GAz : Option Addr) (raz haz : Nat), s8 = .pointer (some ⟨p, 0, none⟩) ∧ Bd W p B (.int .i64 kaz) (.int .i64 naz) (.int .u64 uaz) (.string saz) (.slice EAz qaz faz) (.slice GAz raz haz)
theorem zs_new {A w4 : World} {B : T} {lo : Nat} {kaz naz uaz : Int} {saz : ByteArray} {EAz : Option Addr} {qaz faz : Nat} {GAz : Option Addr} {raz haz : Nat} (h : Below A.heap.size A w4) (ho : NdO (fun b => lo ≤ b) w4 B [.int .i64 kaz, .int .i64 naz, .int .u64 uaz, .string saz, .slice EAz qaz faz, .slice GAz raz haz]) :
    ZS A B (.pointer (some ⟨w4.heap.size, 0, none⟩)) (.int .i64 0) (w4.alloc (.cells #[.int .i64 kaz, .int .i64 naz, .int .u64 uaz, .string saz, .slice EAz qaz faz, .slice GAz raz haz] 31)) := ⟨rfl, tr h (al0 _ _), _, kaz, naz, uaz, saz, EAz, qaz, faz, GAz, raz, haz, rfl, Bd.new (NdO.nd _ _ ho)⟩
theorem zs_put {A w4 : World} {B : T} {lo p : Nat} {z0 z1 z2 z3 z4 z5 : Value} {kaz naz uaz : Int} {saz : ByteArray} {EAz : Option Addr} {qaz faz : Nat} {GAz : Option Addr} {raz haz : Nat} (h : Below A.heap.size A w4) (ho : NdO (fun b => lo ≤ b) w4 B [.int .i64 kaz, .int .i64 naz, .int .u64 uaz, .string saz, .slice EAz qaz faz, .slice GAz raz haz]) (hB : Bx w4 p z0 z1 z2 z3 z4 z5) (h1 : A.heap.size ≤ p) (h2 : p < lo) :
    ZS A B (.pointer (some ⟨p, 0, none⟩)) (.int .i64 0) ((((((w4.setCell ⟨p, 0, none⟩ (.int .i64 kaz)).setCell ⟨p, 1, none⟩ (.int .i64 naz)).setCell ⟨p, 2, none⟩ (.int .u64 uaz)).setCell ⟨p, 3, none⟩ (.string saz)).setCell ⟨p, 4, none⟩ (.slice EAz qaz faz)).setCell ⟨p, 5, none⟩ (.slice GAz raz haz)) := ⟨rfl, below_put h h1 _ _ _ _ _ _, p, kaz, naz, uaz, saz, EAz, qaz, faz, GAz, raz, haz, rfl, Bd.put hB ho h2⟩
theorem lt_alloc (w : World) (o : Obj) : w.heap.size < (w.alloc o).heap.size := by simp

set_option maxRecDepth 100000 in
set_option maxHeartbeats 4000000 in
theorem keySame_walk (t : T) (cs : List Value) (N : Int) (w : World) (hT : Tab w) (hnd : Nd w t cs) : Calls Tryd.prog 11 #[.agg cs.toArray, .int .i64 N] w fun e w' => e = .returned (.bool true) ∧ Below w.heap.size w w' := by
  have HT := Lib.hid hT
  obtain ⟨ka0, na0, ua0, sa0, EA0, qa0, fa0, GA0, ra0, ha0, rfl⟩ := hnd.shape
  have HN := Lib.hid hnd
  obtain ⟨t1, ht1⟩ : ∃ t1, fewT t = t1 := ⟨_, rfl⟩
  have HQ : Hid (QQ t1 ∧ sz t1 ≤ 60000) := Lib.hid (by rw [← ht1]; exact ⟨fewT_qq t, by have := fewT_sz t; omega⟩)
  have HC : Hid (∀ W, Below w.heap.size w W → Calls Tryd.prog 29 #[.agg #[.int .i64 ka0, .int .i64 na0, .int .u64 ua0, .string sa0, .slice EA0 qa0 fa0, .slice GA0 ra0 ha0], .int .i64 120, .int .i64 60] W fun e w' => ∃ (ka1 na1 ua1 : Int) (sa1 : ByteArray) (EA1 : Option Addr) (qa1 fa1 : Nat) (GA1 : Option Addr) (ra1 ha1 : Nat), e = .returned (.agg #[.int .i64 ka1, .int .i64 na1, .int .u64 ua1, .string sa1, .slice EA1 qa1 fa1, .slice GA1 ra1 ha1]) ∧ Hid (Nd w' t1 [.int .i64 ka1, .int .i64 na1, .int .u64 ua1, .string sa1, .slice EA1 qa1 fa1, .slice GA1 ra1 ha1]) ∧ Hid (Below W.heap.size W w')) := Lib.hid fun W hb => by
    refine (cutS_any t _ W (HN.out.bel hb)).mono ?_
    rintro e w' ⟨ka1, na1, ua1, sa1, EA1, qa1, fa1, GA1, ra1, ha1, rfl, h1, h2⟩
    rw [ht1] at h1
    exact ⟨ka1, na1, ua1, sa1, EA1, qa1, fa1, GA1, ra1, ha1, rfl, Lib.hid (NdO.nd _ _ h1.out), h2⟩
  clear hT hnd ht1
  go_enter Tryd.func11, Tryd.ntmps11
  go_wp2_with fail
  with_reducible refine (HC.out _ (al0 w _)).mono ?_
  rintro e w1 ⟨ka1, na1, ua1, sa1, EA1, qa1, fa1, GA1, ra1, ha1, rfl, HN1, hb1⟩
  have HB1 := Lib.hid (tr (al hb1.out) (al0 w1 (.cells #[.int .i64 ka1, .int .i64 na1, .int .u64 ua1, .string sa1, .slice EA1 qa1 fa1, .slice GA1 ra1 ha1] 31)))
  have HD1 := Lib.hid (Bd.new HN1.out)
  clear hb1 HC HN HN1
  by_cases hc : chk t1 = 0
  · have HOK : Hid (okT t1) := Lib.hid ((chk_zero t1).1 hc).1
    have HS := Lib.hid (sorted_okO t1 _ _ (HT.out.keep HB1.out) HQ.out.1 hc HD1.out.2)
    have HCZ := Lib.hid hc
    clear hc
    go_wp2_with fail
    with_reducible refine HS.out.mono ?_
    rintro e w2 ⟨t2, ka2, na2, ua2, sa2, EA2, qa2, fa2, GA2, ra2, ha2, rfl, HSR, HO2, hb2⟩
    have HBB := Lib.hid (tr HB1.out (tr hb2.out (al0 w2 (.cells #[.int .i64 ka2, .int .i64 na2, .int .u64 ua2, .string sa2, .slice EA2 qa2 fa2, .slice GA2 ra2 ha2] 31))))
    have HDi := Lib.hid (HD1.out.below (tr hb2.out (al0 w2 (.cells #[.int .i64 ka2, .int .i64 na2, .int .u64 ua2, .string sa2, .slice EA2 qa2 fa2, .slice GA2 ra2 ha2] 31))))
    have HDa := Lib.hid (Bd.new (NdO.nd _ _ HO2.out))
    clear hb2 HO2 HS HB1 HD1
    go_upto_region 5 with fail
    obtain ⟨wB, hwB⟩ : ∃ wB, w2.alloc (.cells #[.int .i64 ka2, .int .i64 na2, .int .u64 ua2, .string sa2, .slice EA2 qa2 fa2, .slice GA2 ra2 ha2] 31) = wB := ⟨_, rfl⟩
    obtain ⟨ba, hba⟩ : ∃ ba, w2.heap.size = ba := ⟨_, rfl⟩
    obtain ⟨bi, hbi⟩ : ∃ bi, w1.heap.size = bi := ⟨_, rfl⟩
    rw [hwB] at HBB HDi HDa
    rw [hba] at HDa
    rw [hbi] at HDi
    simp only [hwB, hba, hbi]
    clear hwB hba hbi
    have HM : Hid (mpT t1) := Lib.hid (okT_mpT HOK.out)
    have HPM : Hid (Pm t1 t2) := Lib.hid (Srt.pm HM.out HSR.out)
    obtain ⟨b, hb1000, hbr⟩ := bring_all N
    have HBR := Lib.hid hbr
    obtain ⟨t3, ht3⟩ : ∃ t3, turnT b t1 = t3 := ⟨_, rfl⟩
    have HT3 : Hid (chk t3 = 0 ∧ QQ t3 ∧ Srt t3 t2) := Lib.hid (by
      rw [← ht3]
      exact ⟨(turn_pm b HOK.out).chk HCZ.out, (turn_pm b HOK.out).qq HQ.out.1, Srt.turn b HOK.out HSR.out⟩)
    have HTU : Hid (∀ W, Hid (Below wB.heap.size wB W) → Calls Tryd.prog 34 #[.agg #[.int .i64 ka1, .int .i64 na1, .int .u64 ua1, .string sa1, .slice EA1 qa1 fa1, .slice GA1 ra1 ha1], .int .i64 (b : Int)] W fun e w' => ∃ (ka3 na3 ua3 : Int) (sa3 : ByteArray) (EA3 : Option Addr) (qa3 fa3 : Nat) (GA3 : Option Addr) (ra3 ha3 : Nat), e = .returned (.agg #[.int .i64 ka3, .int .i64 na3, .int .u64 ua3, .string sa3, .slice EA3 qa3 fa3, .slice GA3 ra3 ha3]) ∧ Hid (Nd w' t3 [.int .i64 ka3, .int .i64 na3, .int .u64 ua3, .string sa3, .slice EA3 qa3 fa3, .slice GA3 ra3 ha3]) ∧ Hid (Below W.heap.size W w')) := Lib.hid fun W H => by
      refine (turned_any b hb1000 (dp t1) t1 _ W (Nat.le_refl _) HQ.out.2 HQ.out.1.2 HM.out (HDi.out.below H.out).2).mono ?_
      rintro e w' ⟨⟨cs', rfl, h1⟩, h2⟩
      obtain ⟨ka3, na3, ua3, sa3, EA3, qa3, fa3, GA3, ra3, ha3, rfl⟩ := h1.shape6
      rw [ht3] at h1
      exact ⟨ka3, na3, ua3, sa3, EA3, qa3, fa3, GA3, ra3, ha3, rfl, Lib.hid (NdO.nd _ _ h1), Lib.hid h2⟩
    have HST : Hid (∀ (W : World) (ka3 na3 ua3 : Int) (sa3 : ByteArray) (EA3 : Option Addr) (qa3 fa3 : Nat) (GA3 : Option Addr) (ra3 ha3 : Nat), Hid (Below wB.heap.size wB W) → Hid (Nd W t3 [.int .i64 ka3, .int .i64 na3, .int .u64 ua3, .string sa3, .slice EA3 qa3 fa3, .slice GA3 ra3 ha3]) → Calls Tryd.prog 27 #[.agg #[.int .i64 ka3, .int .i64 na3, .int .u64 ua3, .string sa3, .slice EA3 qa3 fa3, .slice GA3 ra3 ha3]] W fun e w' => ∃ (ka4 na4 ua4 : Int) (sa4 : ByteArray) (EA4 : Option Addr) (qa4 fa4 : Nat) (GA4 : Option Addr) (ra4 ha4 : Nat), e = .returned (.tuple #[.agg #[.int .i64 ka4, .int .i64 na4, .int .u64 ua4, .string sa4, .slice EA4 qa4 fa4, .slice GA4 ra4 ha4], .int .i64 0]) ∧ Hid (NdO (fun b => W.heap.size ≤ b) w' t2 [.int .i64 ka4, .int .i64 na4, .int .u64 ua4, .string sa4, .slice EA4 qa4 fa4, .slice GA4 ra4 ha4]) ∧ Hid (Below W.heap.size W w')) := Lib.hid fun W ka3 na3 ua3 sa3 EA3 qa3 fa3 GA3 ra3 ha3 H H2 =>
      sorted_is t3 t2 _ W (HT.out.keep (tr HBB.out H.out)) HT3.out.2.1 HT3.out.1 HT3.out.2.2 H2.out
    clear hbr ht3
    have hall : ∀ W, Hid (Below wB.heap.size wB W) → Hid (Below wB.heap.size wB W) ∧ W.cell? ⟨bi, 0, none⟩ = some (.int .i64 ka1) ∧ W.cell? ⟨bi, 1, none⟩ = some (.int .i64 na1) ∧ W.cell? ⟨bi, 2, none⟩ = some (.int .u64 ua1) ∧ W.cell? ⟨bi, 3, none⟩ = some (.string sa1) ∧ W.cell? ⟨bi, 4, none⟩ = some (.slice EA1 qa1 fa1) ∧ W.cell? ⟨bi, 5, none⟩ = some (.slice GA1 ra1 ha1) := fun W H => ⟨H, Bx.all (HDi.out.below H.out).1⟩
    have hset : ∀ (W : World) (p : Nat) (a0 a1 a2 a3 a4 a5 : Value), Hid (Below wB.heap.size wB W) → Hid (wB.heap.size ≤ p) → Hid (Below wB.heap.size wB ((((((W.setCell ⟨p, 0, none⟩ a0).setCell ⟨p, 1, none⟩ a1).setCell ⟨p, 2, none⟩ a2).setCell ⟨p, 3, none⟩ a3).setCell ⟨p, 4, none⟩ a4).setCell ⟨p, 5, none⟩ a5)) := fun W p a0 a1 a2 a3 a4 a5 H hp => Lib.hid (below_put H.out hp.out a0 a1 a2 a3 a4 a5)
    have hc5 : ∀ (W : World) (ob : Obj), Hid (Below wB.heap.size wB W) → Hid (Below wB.heap.size wB (W.alloc ob)) ∧ (W.alloc ob).cell? ⟨bi, 0, none⟩ = some (.int .i64 ka1) ∧ (W.alloc ob).cell? ⟨bi, 1, none⟩ = some (.int .i64 na1) ∧ (W.alloc ob).cell? ⟨bi, 2, none⟩ = some (.int .u64 ua1) ∧ (W.alloc ob).cell? ⟨bi, 3, none⟩ = some (.string sa1) ∧ (W.alloc ob).cell? ⟨bi, 4, none⟩ = some (.slice EA1 qa1 fa1) ∧ (W.alloc ob).cell? ⟨bi, 5, none⟩ = some (.slice GA1 ra1 ha1) := fun W ob H => hall _ (Lib.hid (tr H.out (al0 W ob)))
    have hc2 : ∀ (W : World) (p : Nat) (a0 a1 a2 a3 a4 a5 : Value), Hid (Below wB.heap.size wB W) → Hid (wB.heap.size ≤ p) → Hid (Below wB.heap.size wB ((((((W.setCell ⟨p, 0, none⟩ a0).setCell ⟨p, 1, none⟩ a1).setCell ⟨p, 2, none⟩ a2).setCell ⟨p, 3, none⟩ a3).setCell ⟨p, 4, none⟩ a4).setCell ⟨p, 5, none⟩ a5)) ∧ ((((((W.setCell ⟨p, 0, none⟩ a0).setCell ⟨p, 1, none⟩ a1).setCell ⟨p, 2, none⟩ a2).setCell ⟨p, 3, none⟩ a3).setCell ⟨p, 4, none⟩ a4).setCell ⟨p, 5, none⟩ a5).cell? ⟨bi, 0, none⟩ = some (.int .i64 ka1) ∧ ((((((W.setCell ⟨p, 0, none⟩ a0).setCell ⟨p, 1, none⟩ a1).setCell ⟨p, 2, none⟩ a2).setCell ⟨p, 3, none⟩ a3).setCell ⟨p, 4, none⟩ a4).setCell ⟨p, 5, none⟩ a5).cell? ⟨bi, 1, none⟩ = some (.int .i64 na1) ∧ ((((((W.setCell ⟨p, 0, none⟩ a0).setCell ⟨p, 1, none⟩ a1).setCell ⟨p, 2, none⟩ a2).setCell ⟨p, 3, none⟩ a3).setCell ⟨p, 4, none⟩ a4).setCell ⟨p, 5, none⟩ a5).cell? ⟨bi, 2, none⟩ = some (.int .u64 ua1) ∧ ((((((W.setCell ⟨p, 0, none⟩ a0).setCell ⟨p, 1, none⟩ a1).setCell ⟨p, 2, none⟩ a2).setCell ⟨p, 3, none⟩ a3).setCell ⟨p, 4, none⟩ a4).setCell ⟨p, 5, none⟩ a5).cell? ⟨bi, 3, none⟩ = some (.string sa1) ∧ ((((((W.setCell ⟨p, 0, none⟩ a0).setCell ⟨p, 1, none⟩ a1).setCell ⟨p, 2, none⟩ a2).setCell ⟨p, 3, none⟩ a3).setCell ⟨p, 4, none⟩ a4).setCell ⟨p, 5, none⟩ a5).cell? ⟨bi, 4, none⟩ = some (.slice EA1 qa1 fa1) ∧ ((((((W.setCell ⟨p, 0, none⟩ a0).setCell ⟨p, 1, none⟩ a1).setCell ⟨p, 2, none⟩ a2).setCell ⟨p, 3, none⟩ a3).setCell ⟨p, 4, none⟩ a4).setCell ⟨p, 5, none⟩ a5).cell? ⟨bi, 5, none⟩ = some (.slice GA1 ra1 ha1) := fun W p a0 a1 a2 a3 a4 a5 H hp => hall _ (hset W p a0 a1 a2 a3 a4 a5 H hp)
    have HBd : Hid (Below wB.heap.size wB wB.drew) := Lib.hid (Below.refl _ wB).drew
    have HBad : Hid (Below wB.heap.size wB (wB.alloc (.cells #[.int .i64 0, .int .i64 0, .int .u64 0, .string ⟨#[]⟩, .slice none 0 0, .slice none 0 0] 31)).drew) := Lib.hid (al0 wB _).drew
    have HLB : Hid (wB.heap.size ≤ wB.heap.size) := Lib.hid (Nat.le_refl _)
    go_cut [8, 9] (fun s8 s9 wx => Hid (ZS wB t2 s8 s9 wx))
    case first =>
      go_region_held3 (fun W => Hid (Below wB.heap.size wB W) ∧ W.cell? ⟨bi, 0, none⟩ = some (.int .i64 ka1) ∧ W.cell? ⟨bi, 1, none⟩ = some (.int .i64 na1) ∧ W.cell? ⟨bi, 2, none⟩ = some (.int .u64 ua1) ∧ W.cell? ⟨bi, 3, none⟩ = some (.string sa1) ∧ W.cell? ⟨bi, 4, none⟩ = some (.slice EA1 qa1 fa1) ∧ W.cell? ⟨bi, 5, none⟩ = some (.slice GA1 ra1 ha1)) (first | (with_reducible exact hall _ (by assumption)) | (with_reducible exact hall _ HBd) | (with_reducible exact hall _ HBad) | (with_reducible exact hc5 _ _ (by assumption)) | (with_reducible exact hc2 _ _ _ _ _ _ _ _ (by assumption) (by assumption)))
        (first
          | (go_at_call 35; (with_reducible refine (HBR.out _).mono ?_); rintro e w' ⟨rfl, rfl⟩)
          | (go_at_call 34; (with_reducible refine (HTU.out _ (by first | with_reducible exact HBd | with_reducible exact HBad)).mono ?_); rintro e w3 ⟨ka3, na3, ua3, sa3, EA3, qa3, fa3, GA3, ra3, ha3, rfl, HN3, HB3⟩; have HBB3 : Hid (Below wB.heap.size wB w3) := (by first | exact Lib.hid (tr HBd.out HB3.out) | exact Lib.hid (tr HBad.out HB3.out)); have HLB3 : Hid (wB.heap.size ≤ w3.heap.size) := Lib.hid HBB3.out.size; have HBB3a := Lib.hid (tr HBB3.out (al0 w3 (.cells #[.int .i64 0, .int .i64 0, .int .u64 0, .string ⟨#[]⟩, .slice none 0 0, .slice none 0 0] 31))); first | (with_reducible have HP3 := Lib.hid (born_drew HB3.out)) | skip)
          | (go_at_call 27; (with_reducible refine (HST.out _ _ _ _ _ _ _ _ _ _ _ (by first | with_reducible exact HBB3 | with_reducible exact HBB3a) (by first | with_reducible exact HN3 | exact Lib.hid (HN3.out.bel (al0 _ _)))).mono ?_); rintro e w4 ⟨ka4, na4, ua4, sa4, EA4, qa4, fa4, GA4, ra4, ha4, rfl, HO4, HB4⟩; have HBB4 : Hid (Below wB.heap.size wB w4) := (by first | exact Lib.hid (tr HBB3.out HB4.out) | exact Lib.hid (tr HBB3a.out HB4.out)); (try (have HP4 := Lib.hid (Blk.below HP3.out HB4.out HP3.out.lt); obtain ⟨⟨z0, z1, z2, z3, z4, z5⟩, y0, y1, y2, y3, y4, y5⟩ := Bx.both HP4.out)); (try ((with_reducible have HP5 := Lib.hid (born HB4.out)); obtain ⟨⟨z0, z1, z2, z3, z4, z5⟩, y0, y1, y2, y3, y4, y5⟩ := Bx.both HP5.out))))
      all_goals
        go_wp2_with fail
        go_meet
      all_goals
        refine Lib.hid ?_
        first
        | (with_reducible exact zs_new HBB4.out HO4.out)
        | (with_reducible refine zs_put HBB4.out HO4.out HP4.out (Nat.le_refl _) HP3.out.lt)
        | (with_reducible refine zs_put HBB4.out HO4.out HP5.out HLB3.out (lt_alloc _ _))
    case rest =>
      obtain ⟨wx, hwx⟩ : ∃ wx, wx = wc := ⟨_, rfl⟩
      subst hwx
      obtain ⟨rfl, hbx, p, ka4, na4, ua4, sa4, EA4, qa4, fa4, GA4, ra4, ha4, rfl, hd4⟩ := hcut.out
      have HD4 := Lib.hid hd4
      have HBX := Lib.hid hbx
      have HDi2 := Lib.hid (HDi.out.below hbx)
      have HDa2 := Lib.hid (HDa.out.below hbx)
      have HSI := Lib.hid (sorted_is t2 t2 _ wx (HT.out.keep (tr HBB.out hbx)) (HPM.out.qq HQ.out.1) (HPM.out.chk HCZ.out) (Srt.idem HM.out HSR.out) HDa2.out.2)
      obtain ⟨x0, x1, x2, x3, x4, x5⟩ := Bx.all HDa2.out.1
      clear hcut hd4 hbx HTU HST hall hset HBd HBad HLB HBR HT3 HDi HDa
      go_wp2_with fail
      with_reducible refine HSI.out.mono ?_
      rintro e w5 ⟨ka5, na5, ua5, sa5, EA5, qa5, fa5, GA5, ra5, ha5, rfl, HO5, hb5⟩
      clear x0 x1 x2 x3 x4 x5 HSI
      obtain ⟨wE, hwE⟩ : ∃ wE, w5.alloc (.cells #[.int .i64 ka5, .int .i64 na5, .int .u64 ua5, .string sa5, .slice EA5 qa5 fa5, .slice GA5 ra5 ha5] 31) = wE := ⟨_, rfl⟩
      obtain ⟨bc, hbc⟩ : ∃ bc, w5.heap.size = bc := ⟨_, rfl⟩
      have HBE : Hid (Below wx.heap.size wx wE) := Lib.hid (by rw [← hwE]; exact tr hb5.out (al0 _ _))
      have HD5 : Hid (Bd wE bc t2 (.int .i64 ka5) (.int .i64 na5) (.int .u64 ua5) (.string sa5) (.slice EA5 qa5 fa5) (.slice GA5 ra5 ha5)) := Lib.hid (by rw [← hwE, ← hbc]; exact Bd.new (NdO.nd _ _ HO5.out))
      have HE1 := Lib.hid (HDi2.out.below HBE.out)
      have HE2 := Lib.hid (HDa2.out.below HBE.out)
      have HE4 := Lib.hid (HD4.out.below HBE.out)
      have HWE : Hid (Below w.heap.size w wE) := Lib.hid (tr (tr HBB.out HBX.out) HBE.out)
      clear HD4 HDi2 HDa2 HBE HBX hb5 HO5 HBB
      have hall : ∀ W, Hid (Below wE.heap.size wE W) → Hid (Below wE.heap.size wE W) ∧ W.cell? ⟨bi, 0, none⟩ = some (.int .i64 ka1) ∧ W.cell? ⟨bi, 1, none⟩ = some (.int .i64 na1) ∧ W.cell? ⟨bi, 2, none⟩ = some (.int .u64 ua1) ∧ W.cell? ⟨bi, 3, none⟩ = some (.string sa1) ∧ W.cell? ⟨bi, 4, none⟩ = some (.slice EA1 qa1 fa1) ∧ W.cell? ⟨bi, 5, none⟩ = some (.slice GA1 ra1 ha1) ∧ W.cell? ⟨ba, 0, none⟩ = some (.int .i64 ka2) ∧ W.cell? ⟨ba, 1, none⟩ = some (.int .i64 na2) ∧ W.cell? ⟨ba, 2, none⟩ = some (.int .u64 ua2) ∧ W.cell? ⟨ba, 3, none⟩ = some (.string sa2) ∧ W.cell? ⟨ba, 4, none⟩ = some (.slice EA2 qa2 fa2) ∧ W.cell? ⟨ba, 5, none⟩ = some (.slice GA2 ra2 ha2) ∧ W.cell? ⟨p, 0, none⟩ = some (.int .i64 ka4) ∧ W.cell? ⟨p, 1, none⟩ = some (.int .i64 na4) ∧ W.cell? ⟨p, 2, none⟩ = some (.int .u64 ua4) ∧ W.cell? ⟨p, 3, none⟩ = some (.string sa4) ∧ W.cell? ⟨p, 4, none⟩ = some (.slice EA4 qa4 fa4) ∧ W.cell? ⟨p, 5, none⟩ = some (.slice GA4 ra4 ha4) ∧ W.cell? ⟨bc, 0, none⟩ = some (.int .i64 ka5) ∧ W.cell? ⟨bc, 1, none⟩ = some (.int .i64 na5) ∧ W.cell? ⟨bc, 2, none⟩ = some (.int .u64 ua5) ∧ W.cell? ⟨bc, 3, none⟩ = some (.string sa5) ∧ W.cell? ⟨bc, 4, none⟩ = some (.slice EA5 qa5 fa5) ∧ W.cell? ⟨bc, 5, none⟩ = some (.slice GA5 ra5 ha5) := fun W H => by
        have h1 := (HE1.out.below H.out).1.all
        have h2 := (HE2.out.below H.out).1.all
        have h4 := (HE4.out.below H.out).1.all
        have h5 := (HD5.out.below H.out).1.all
        refine ⟨H, h1.1, h1.2.1, h1.2.2.1, h1.2.2.2.1, h1.2.2.2.2.1, h1.2.2.2.2.2, h2.1, h2.2.1, h2.2.2.1, h2.2.2.2.1, h2.2.2.2.2.1, h2.2.2.2.2.2, h4.1, h4.2.1, h4.2.2.1, h4.2.2.2.1, h4.2.2.2.2.1, h4.2.2.2.2.2, h5⟩
      have HQ2 : Hid (QQ t2) := Lib.hid (HPM.out.qq HQ.out.1)
      have H24 : Hid (∀ W, Hid (Below wE.heap.size wE W) → Calls Tryd.prog 33 #[.agg #[.int .i64 ka2, .int .i64 na2, .int .u64 ua2, .string sa2, .slice EA2 qa2 fa2, .slice GA2 ra2 ha2], .agg #[.int .i64 ka4, .int .i64 na4, .int .u64 ua4, .string sa4, .slice EA4 qa4 fa4, .slice GA4 ra4 ha4]] W fun e w' => e = .returned (.bool true) ∧ Hid (Below wE.heap.size wE w')) := Lib.hid fun W H => (same_eq t2 _ _ W HQ2.out (HE2.out.below H.out).2 (HE4.out.below H.out).2).mono fun e w' h => ⟨h.1, Lib.hid (tr H.out h.2.out)⟩
      have H25 : Hid (∀ W, Hid (Below wE.heap.size wE W) → Calls Tryd.prog 33 #[.agg #[.int .i64 ka2, .int .i64 na2, .int .u64 ua2, .string sa2, .slice EA2 qa2 fa2, .slice GA2 ra2 ha2], .agg #[.int .i64 ka5, .int .i64 na5, .int .u64 ua5, .string sa5, .slice EA5 qa5 fa5, .slice GA5 ra5 ha5]] W fun e w' => e = .returned (.bool true) ∧ Hid (Below wE.heap.size wE w')) := Lib.hid fun W H => (same_eq t2 _ _ W HQ2.out (HE2.out.below H.out).2 (HD5.out.below H.out).2).mono fun e w' h => ⟨h.1, Lib.hid (tr H.out h.2.out)⟩
      obtain ⟨N1, hN1⟩ : ∃ N1, sz t1 = N1 := ⟨_, rfl⟩
      obtain ⟨D1, hD1⟩ : ∃ D1, dp t1 = D1 := ⟨_, rfl⟩
      have HZ2 : Hid (∀ W, Hid (Below wE.heap.size wE W) → Calls Tryd.prog 36 #[.agg #[.int .i64 ka2, .int .i64 na2, .int .u64 ua2, .string sa2, .slice EA2 qa2 fa2, .slice GA2 ra2 ha2]] W fun e w' => e = .returned (.int .i64 (N1 : Int)) ∧ Hid (Below wE.heap.size wE w')) := Lib.hid fun W H => (size_any t2 _ W HQ2.out.1 (HE2.out.below H.out).2).mono fun e w' h => ⟨by rw [h.1, HPM.out.sz, hN1], Lib.hid (tr H.out h.2)⟩
      have HZ1 : Hid (∀ W, Hid (Below wE.heap.size wE W) → Calls Tryd.prog 36 #[.agg #[.int .i64 ka1, .int .i64 na1, .int .u64 ua1, .string sa1, .slice EA1 qa1 fa1, .slice GA1 ra1 ha1]] W fun e w' => e = .returned (.int .i64 (N1 : Int)) ∧ Hid (Below wE.heap.size wE w')) := Lib.hid fun W H => (size_any t1 _ W HQ.out.1.1 (HE1.out.below H.out).2).mono fun e w' h => ⟨by rw [h.1, hN1], Lib.hid (tr H.out h.2)⟩
      have HP2 : Hid (∀ W, Hid (Below wE.heap.size wE W) → Calls Tryd.prog 37 #[.agg #[.int .i64 ka2, .int .i64 na2, .int .u64 ua2, .string sa2, .slice EA2 qa2 fa2, .slice GA2 ra2 ha2]] W fun e w' => e = .returned (.int .i64 (D1 : Int)) ∧ Hid (Below wE.heap.size wE w')) := Lib.hid fun W H => (deep_any t2 _ W HQ2.out.1 (HE2.out.below H.out).2).mono fun e w' h => ⟨by rw [h.1, HPM.out.dp, hD1], Lib.hid (tr H.out h.2)⟩
      have HP1 : Hid (∀ W, Hid (Below wE.heap.size wE W) → Calls Tryd.prog 37 #[.agg #[.int .i64 ka1, .int .i64 na1, .int .u64 ua1, .string sa1, .slice EA1 qa1 fa1, .slice GA1 ra1 ha1]] W fun e w' => e = .returned (.int .i64 (D1 : Int)) ∧ Hid (Below wE.heap.size wE w')) := Lib.hid fun W H => (deep_any t1 _ W HQ.out.1.1 (HE1.out.below H.out).2).mono fun e w' h => ⟨by rw [h.1, hD1], Lib.hid (tr H.out h.2)⟩
      have HWK : Hid (∀ W, Hid (Below wE.heap.size wE W) → Calls Tryd.prog 8 #[] W fun e w' => e = .returned (.bool true) ∧ Hid (Below wE.heap.size wE w')) := Lib.hid fun W H => (works_true W (HT.out.keep (tr HWE.out H.out))).mono fun e w' h => ⟨h.1, Lib.hid (tr H.out h.2)⟩
      clear hN1 hD1
      go_wp2_with fail
      (try rw [hwE])
      (try rw [hbc])
      (try simp only [hbc])
      clear hwE hbc
      have HEd : Hid (Below wE.heap.size wE wE.drew) := Lib.hid (Below.refl _ wE).drew
      go_region_held3 (fun W => Hid (Below wE.heap.size wE W) ∧ W.cell? ⟨bi, 0, none⟩ = some (.int .i64 ka1) ∧ W.cell? ⟨bi, 1, none⟩ = some (.int .i64 na1) ∧ W.cell? ⟨bi, 2, none⟩ = some (.int .u64 ua1) ∧ W.cell? ⟨bi, 3, none⟩ = some (.string sa1) ∧ W.cell? ⟨bi, 4, none⟩ = some (.slice EA1 qa1 fa1) ∧ W.cell? ⟨bi, 5, none⟩ = some (.slice GA1 ra1 ha1) ∧ W.cell? ⟨ba, 0, none⟩ = some (.int .i64 ka2) ∧ W.cell? ⟨ba, 1, none⟩ = some (.int .i64 na2) ∧ W.cell? ⟨ba, 2, none⟩ = some (.int .u64 ua2) ∧ W.cell? ⟨ba, 3, none⟩ = some (.string sa2) ∧ W.cell? ⟨ba, 4, none⟩ = some (.slice EA2 qa2 fa2) ∧ W.cell? ⟨ba, 5, none⟩ = some (.slice GA2 ra2 ha2) ∧ W.cell? ⟨p, 0, none⟩ = some (.int .i64 ka4) ∧ W.cell? ⟨p, 1, none⟩ = some (.int .i64 na4) ∧ W.cell? ⟨p, 2, none⟩ = some (.int .u64 ua4) ∧ W.cell? ⟨p, 3, none⟩ = some (.string sa4) ∧ W.cell? ⟨p, 4, none⟩ = some (.slice EA4 qa4 fa4) ∧ W.cell? ⟨p, 5, none⟩ = some (.slice GA4 ra4 ha4) ∧ W.cell? ⟨bc, 0, none⟩ = some (.int .i64 ka5) ∧ W.cell? ⟨bc, 1, none⟩ = some (.int .i64 na5) ∧ W.cell? ⟨bc, 2, none⟩ = some (.int .u64 ua5) ∧ W.cell? ⟨bc, 3, none⟩ = some (.string sa5) ∧ W.cell? ⟨bc, 4, none⟩ = some (.slice EA5 qa5 fa5) ∧ W.cell? ⟨bc, 5, none⟩ = some (.slice GA5 ra5 ha5)) (first | (with_reducible exact hall _ (by assumption)) | (with_reducible exact hall _ HEd))
        (first
          | (go_at_call 33; (first | (with_reducible refine (H24.out _ (by first | assumption | exact HEd)).mono ?_) | (with_reducible refine (H25.out _ (by first | assumption | exact HEd)).mono ?_)); rintro e w6 ⟨rfl, HW6⟩)
          | (go_at_call 36; (first | (with_reducible refine (HZ2.out _ (by assumption)).mono ?_) | (with_reducible refine (HZ1.out _ (by assumption)).mono ?_)); rintro e w7 ⟨rfl, HW7⟩)
          | (go_at_call 37; (first | (with_reducible refine (HP2.out _ (by assumption)).mono ?_) | (with_reducible refine (HP1.out _ (by assumption)).mono ?_)); rintro e w8 ⟨rfl, HW8⟩)
          | (go_at_call 8; (with_reducible refine (HWK.out _ (by assumption)).mono ?_); rintro e w9 ⟨rfl, HW9⟩))
      go_wp2_with fail
      go_ret
      exact ⟨rfl, tr HWE.out HW9.out⟩
  · obtain ⟨e0, he0⟩ : ∃ e0, chk t1 = e0 := ⟨_, rfl⟩
    have h0 : e0 ≠ 0 := by rw [← he0]; exact hc
    have HS := Lib.hid (sorted_errL t1 e0 _ _ (HT.out.keep HB1.out) HQ.out.1 he0 h0 HD1.out.2)
    have hb0 : ((e0 : Int) != 0) = true := by simp; omega
    have HCK : Hid (∀ W, Below w.heap.size w W → Nd W t1 [.int .i64 ka1, .int .i64 na1, .int .u64 ua1, .string sa1, .slice EA1 qa1 fa1, .slice GA1 ra1 ha1] → Calls Tryd.prog 32 #[.agg #[.int .i64 ka1, .int .i64 na1, .int .u64 ua1, .string sa1, .slice EA1 qa1 fa1, .slice GA1 ra1 ha1]] W fun e w' => e = .returned (.int .i64 (e0 : Int)) ∧ Hid (Below W.heap.size W w')) := Lib.hid fun W hb hn => (check_any t1 _ W (HT.out.keep hb) HQ.out.1.1 HQ.out.1.2 hn).mono fun e w' h => ⟨by rw [h.1, he0], Lib.hid h.2⟩
    clear hc he0 h0
    go_wp2_with fail
    with_reducible refine HS.out.mono ?_
    rintro e w2 ⟨rfl, hb2⟩
    have HB2 := Lib.hid (tr HB1.out (tr hb2.out (al0 w2 (.cells #[.int .i64 0, .int .i64 0, .int .u64 0, .string ⟨#[]⟩, .slice none 0 0, .slice none 0 0] 31))))
    have HD2 := Lib.hid (HD1.out.below (tr hb2.out (al0 w2 (.cells #[.int .i64 0, .int .i64 0, .int .u64 0, .string ⟨#[]⟩, .slice none 0 0, .slice none 0 0] 31))))
    have HX2 := Lib.hid (Blk.new w2 31 #[.int .i64 0, .int .i64 0, .int .u64 0, .string ⟨#[]⟩, .slice none 0 0, .slice none 0 0])
    clear hb2 HS HB1 HD1
    obtain ⟨x0, x1, x2, x3, x4, x5⟩ := Bx.all HD2.out.1
    go_wp2_with fail
    have hn2 := HD2.out.2
    with_reducible refine (HCK.out _ HB2.out hn2).mono ?_
    clear hn2
    rintro e w3 ⟨rfl, hb3⟩
    have HB3 := Lib.hid (tr HB2.out hb3.out)
    obtain ⟨y0, y1, y2, y3, y4, y5⟩ := Bx.all (show Bx w3 w2.heap.size _ _ _ _ _ _ from Blk.below HX2.out hb3.out HX2.out.lt)
    clear x0 x1 x2 x3 x4 x5
    go_wp2_with (first
      | (go_at_call 33; refine (same_eq T0 _ _ _ t0_qq (nd_t0 _) (nd_t0 _)).mono ?_; rintro e w4 ⟨rfl, hb4⟩; have HB4 := Lib.hid (tr HB3.out hb4.out))
      | (go_at_call 8; refine (works_true _ (HT.out.keep HB4.out)).mono ?_; rintro e w5 ⟨rfl, hb5⟩))
    go_ret
    exact ⟨rfl, tr HB4.out hb5⟩
end Go.Proofs.YtnplkamkeadlgaaDoor
