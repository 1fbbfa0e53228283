/-
  What is proved here: what spoiling a tree's own rows leaves of memory, and that what read as a tree of own rows still reads as one; no condition but those that each fact states; and: a contract of SpoilNode on a tree of rows of the call's own: nothing turns but those rows; no other condition; and: accordionlaw09.NormalForms returns true for all trees and leaves all memory that was there as it was; condition: the table of package tree holds what is laid; and: contract of the reference's Alike; conditions: trees of at most 60000 nodes, strings and lists of at most 1000; and: accordionlaw09.NormalAlike returns true for all trees and leaves all memory that was there as it was; condition: the table of package tree holds what is laid; and: accordionlaw09.NormalKnown returns true; condition: the package-level table of package tree holds when the call begins what its initialiser lays (tied to the program's text by the card).
-/
import Derived.Test.YtemkfpofmblblaaDoorCopy
import Derived.Test.YtemkfpofmblblaaDoorLaw9
import Derived.Test.YtemkfpofmblblaaDoorNAlike
import Derived.Test.YtemkfpofmblblaaDoorRofs
import Derived.Deep.RegionHeld3
import Derived.Test.YtemkfpofmblblaaDoorRow
import Derived.Deep.DeepCutAuto
import Derived.Test.YtemkfpofmblblaaDoorNKc
namespace Go.Proofs.YtemkfpofmblblaaDoor
open Go.RowKit

def spoilt : List Value := [.int .i64 (-9), .int .i64 0, .int .u64 0, .string ⟨#[115, 112, 111, 105, 108, 116]⟩, .slice none 0 0, .slice none 0 0]
/-- All that lay lies as it lay, but rows of strings and of nodes in blocks of which U holds, in which strings or whole nodes may have been spoilt. -/
structure Sp (U : Nat → Prop) (w w' : World) : Prop where
  os : w'.os = w.os
  tape : w'.tape = w.tape
  output : w'.output = w.output
  size : w.heap.size ≤ w'.heap.size
  keep : ∀ b, b < w.heap.size → ¬ U b → w'.heap[b]? = w.heap[b]?
  strs : ∀ b cur, U b → w.heap[b]? = some (.cells cur 9 (0, 0)) → ∃ cur', w'.heap[b]? = some (.cells cur' 9 (0, 0)) ∧ cur'.size = cur.size
  nods : ∀ b cur, U b → w.heap[b]? = some (.cells cur 27 (0, 0)) → ∃ cur', w'.heap[b]? = some (.cells cur' 27 (0, 0)) ∧ cur'.size = cur.size ∧
    ∀ j, j * 6 + 6 ≤ cur.size → (cur'.toList.drop (j * 6)).take 6 = (cur.toList.drop (j * 6)).take 6 ∨ (cur'.toList.drop (j * 6)).take 6 = spoilt
theorem Sp.refl (U : Nat → Prop) (w : World) : Sp U w w := ⟨rfl, rfl, rfl, Nat.le_refl _, fun _ _ _ => rfl, fun _ cur _ h => ⟨cur, h, rfl⟩, fun _ cur _ h => ⟨cur, h, rfl, fun _ _ => .inl rfl⟩⟩
theorem Sp.trans {U : Nat → Prop} {a b c : World} (h : Sp U a b) (k : Sp U b c) : Sp U a c :=
  ⟨k.os.trans h.os, k.tape.trans h.tape, k.output.trans h.output, Nat.le_trans h.size k.size, fun i hi hU => (k.keep i (Nat.lt_of_lt_of_le hi h.size) hU).trans (h.keep i hi hU),
    fun i cur hU hc => by
      obtain ⟨c1, h1, h2⟩ := h.strs i cur hU hc
      obtain ⟨c2, h3, h4⟩ := k.strs i c1 hU h1
      exact ⟨c2, h3, h4.trans h2⟩,
    fun i cur hU hc => by
      obtain ⟨c1, h1, h2, h5⟩ := h.nods i cur hU hc
      obtain ⟨c2, h3, h4, h6⟩ := k.nods i c1 hU h1
      refine ⟨c2, h3, h4.trans h2, fun j hj => ?_⟩
      rcases h6 j (by rw [h2]; exact hj) with e | e
      · rw [e]; exact h5 j hj
      · exact .inr e⟩
theorem Sp.of_below {U : Nat → Prop} {w w' : World} (h : Below w.heap.size w w') : Sp U w w' :=
  ⟨h.os, h.tape, h.output, h.size, fun b hb _ => h.block b hb, fun b cur _ hc => ⟨cur, (h.block b (Array.getElem?_eq_some_iff.1 hc).1).trans hc, rfl⟩,
    fun b cur _ hc => ⟨cur, (h.block b (Array.getElem?_eq_some_iff.1 hc).1).trans hc, rfl, fun _ _ => .inl rfl⟩⟩
/-- More blocks may be spoilt. -/
theorem Sp.wider {U U' : Nat → Prop} {w w' : World} (h : Sp U w w') (hU : ∀ b, b < w.heap.size → (U b ↔ U' b)) : Sp U' w w' :=
  ⟨h.os, h.tape, h.output, h.size, fun b hb hn => h.keep b hb (fun e => hn ((hU b hb).1 e)), fun b cur hb hc => h.strs b cur ((hU b (Array.getElem?_eq_some_iff.1 hc).1).2 hb) hc,
    fun b cur hb hc => h.nods b cur ((hU b (Array.getElem?_eq_some_iff.1 hc).1).2 hb) hc⟩
theorem Sp.bel {U : Nat → Prop} {n : Nat} {w w' : World} (h : Sp U w w') (hn : n ≤ w.heap.size) (hU : ∀ b, U b → n ≤ b) : Below n w w' :=
  ⟨h.os, h.tape, h.output, h.size, fun b hb => h.keep b (by omega) (fun e => by have := hU b e; omega)⟩
theorem Sp.blk {U : Nat → Prop} {w w' : World} {g : Nat} {t : TypeId} {cs : Array Value} (h : Sp U w w') (hb : Blk w g t cs) (hg : ¬ U g) : Blk w' g t cs := (h.keep g hb.lt hg).trans hb
/-- One string spoilt. -/
theorem Sp.setStr {U : Nat → Prop} {w : World} {g i : Nat} {cur : Array Value} (hU : U g) (hg : w.heap[g]? = some (.cells cur 9 (0, 0))) (u : Value) : Sp U w (w.setCell ⟨g, i, none⟩ u) := by
  refine ⟨rfl, rfl, rfl, by simp, fun b _ hb => heap_set_other w g i b u (fun e => hb (by rw [e]; exact hU)), fun b c _ hc => ?_, fun b c _ hc => ?_⟩
  · by_cases hbg : b = g
    · subst hbg
      rw [hc] at hg
      have hg' := Option.some.inj hg
      injection hg' with hg'
      subst hg'
      exact ⟨c.setIfInBounds i u, Blk.put (t := 9) hc i u, by simp⟩
    · exact ⟨c, (heap_set_other w g i b u hbg).trans hc, rfl⟩
  · have hbg : b ≠ g := fun e => by
      subst e
      rw [hc] at hg
      have hg' := Option.some.inj hg
      injection hg' with _ hg'
      exact absurd hg' (by decide)
    exact ⟨c, (heap_set_other w g i b u hbg).trans hc, rfl, fun _ _ => .inl rfl⟩
theorem put6_arr {w : World} {g : Nat} {cur : Array Value} {t : TypeId} (hg : Blk w g t cur) (o : Nat) (a0 a1 a2 a3 a4 a5 : Value) :
    Blk (put6 w g o a0 a1 a2 a3 a4 a5) g t ((((((cur.setIfInBounds o a0).setIfInBounds (o + 1) a1).setIfInBounds (o + 2) a2).setIfInBounds (o + 3) a3).setIfInBounds (o + 4) a4).setIfInBounds (o + 5) a5) :=
  (((((hg.put o a0).put (o + 1) a1).put (o + 2) a2).put (o + 3) a3).put (o + 4) a4).put (o + 5) a5
theorem six_at {cur : List Value} {o : Nat} (h : o + 6 ≤ cur.length) (a0 a1 a2 a3 a4 a5 : Value) : ((((((((cur.set o a0).set (o + 1) a1).set (o + 2) a2).set (o + 3) a3).set (o + 4) a4).set (o + 5) a5).drop o).take 6) = [a0, a1, a2, a3, a4, a5] := by
  apply List.ext_getElem?
  intro i
  rw [List.getElem?_take]
  by_cases h6 : i < 6
  · rw [if_pos h6, List.getElem?_drop]
    have hi : i = 0 ∨ i = 1 ∨ i = 2 ∨ i = 3 ∨ i = 4 ∨ i = 5 := by omega
    rcases hi with rfl | rfl | rfl | rfl | rfl | rfl <;> simp [List.getElem?_set] <;> omega
  · rw [if_neg h6, List.getElem?_eq_none (by simp; omega)]
theorem six_off {cur : List Value} {o p : Nat} (h : p + 6 ≤ o ∨ o + 6 ≤ p) (a0 a1 a2 a3 a4 a5 : Value) : ((((((((cur.set o a0).set (o + 1) a1).set (o + 2) a2).set (o + 3) a3).set (o + 4) a4).set (o + 5) a5).drop p).take 6) = (cur.drop p).take 6 := by
  apply List.ext_getElem?
  intro i
  rw [List.getElem?_take, List.getElem?_take]
  by_cases h6 : i < 6
  · rw [if_pos h6, if_pos h6, List.getElem?_drop, List.getElem?_drop]
    rw [List.getElem?_set_ne (by omega), List.getElem?_set_ne (by omega), List.getElem?_set_ne (by omega), List.getElem?_set_ne (by omega), List.getElem?_set_ne (by omega), List.getElem?_set_ne (by omega)]
  · rw [if_neg h6, if_neg h6]
/-- One node spoilt. -/
theorem Sp.put6 {U : Nat → Prop} {w : World} {g j : Nat} {cur : Array Value} (hU : U g) (hg : w.heap[g]? = some (.cells cur 27 (0, 0))) (hj : j * 6 + 6 ≤ cur.size) :
    Sp U w (put6 w g (j * 6) (.int .i64 (-9)) (.int .i64 0) (.int .u64 0) (.string ⟨#[115, 112, 111, 105, 108, 116]⟩) (.slice none 0 0) (.slice none 0 0)) := by
  have hB := put6_below (Below.refl 0 w) g (j * 6) (.int .i64 (-9)) (.int .i64 0) (.int .u64 0) (.string ⟨#[115, 112, 111, 105, 108, 116]⟩) (.slice none 0 0) (.slice none 0 0) (Nat.zero_le _)
  refine ⟨hB.os, hB.tape, hB.output, by rw [put6_size]; exact Nat.le_refl _, fun b _ hb => put6_other w g _ b _ _ _ _ _ _ (fun e => hb (by rw [e]; exact hU)), fun b c _ hc => ?_, fun b c _ hc => ?_⟩
  · have hbg : b ≠ g := fun e => by
      subst e
      rw [hc] at hg
      have hg' := Option.some.inj hg
      injection hg' with _ hg'
      exact absurd hg' (by decide)
    exact ⟨c, (put6_other w g _ b _ _ _ _ _ _ hbg).trans hc, rfl⟩
  · by_cases hbg : b = g
    · subst hbg
      rw [hc] at hg
      have hg' := Option.some.inj hg
      injection hg' with hg'
      subst hg'
      refine ⟨_, put6_arr (t := 27) hc _ _ _ _ _ _ _, by simp, fun i hi => ?_⟩
      simp only [Array.toList_setIfInBounds]
      by_cases hij : i = j
      · subst hij
        exact .inr (six_at (by simpa using hi) _ _ _ _ _ _)
      · exact .inl (six_off (by omega) _ _ _ _ _ _)
    · exact ⟨c, (put6_other w g _ b _ _ _ _ _ _ hbg).trans hc, rfl, fun _ _ => .inl rfl⟩

/-- Six cells that head a tree of rows of the call's own, of a depth of at most d below it. -/
def SX (U : Nat → Prop) (w : World) : Nat → List Value → Prop
  | 0, cs => ∃ (k n u : Int) (s : ByteArray) (kv : Value) (nk : Nat) (xk : List Value) (lv : Value) (xs : List Value), cs = [.int .i64 k, .int .i64 n, .int .u64 u, .string s, kv, lv] ∧ Ow U w 9 1 kv nk xk ∧ Ow U w 27 6 lv 0 xs
  | d + 1, cs => ∃ (k n u : Int) (s : ByteArray) (kv : Value) (nk : Nat) (xk : List Value) (lv : Value) (nl : Nat) (xs : List Value), cs = [.int .i64 k, .int .i64 n, .int .u64 u, .string s, kv, lv] ∧ Ow U w 9 1 kv nk xk ∧ Ow U w 27 6 lv nl xs ∧
      ∀ j, j < nl → SX U w d ((xs.drop (j * 6)).take 6)
theorem ow_nil (U : Nat → Prop) (w : World) (e : TypeId) (size : Nat) : Ow U w e size (.slice none 0 0) 0 [] := ⟨⟨by simp, .inl ⟨rfl, rfl⟩⟩, fun g hg => by cases hg⟩
theorem SX.spoilt (U : Nat → Prop) (w : World) : ∀ d, SX U w d spoilt
  | 0 => ⟨_, _, _, _, _, 0, [], _, [], rfl, ow_nil _ _ _ _, ow_nil _ _ _ _⟩
  | d + 1 => ⟨_, _, _, _, _, 0, [], _, 0, [], rfl, ow_nil _ _ _ _, ow_nil _ _ _ _, fun j hj => by omega⟩
theorem Ow.sp_str {U : Nat → Prop} {w w' : World} (hs : Sp U w w') {v : Value} {n : Nat} {xs : List Value} (h : Ow U w 9 1 v n xs) : ∃ xs', Ow U w' 9 1 v n xs' := by
  obtain ⟨⟨h1, h2⟩, hU⟩ := h
  rcases h2 with ⟨rfl, rfl⟩ | ⟨g, cap, cur, rfl, h3, h4, h5, h6, h7, h8⟩
  · exact ⟨[], ow_nil _ _ _ _⟩
  · obtain ⟨cur', e1, e2⟩ := hs.strs g cur (hU g rfl) h4
    refine ⟨cur'.toList.take (n * 1), ⟨by rw [List.length_take]; simp only [Array.length_toList]; omega, .inr ⟨g, cap, cur', rfl, h3, e1, h5, h6, by omega, rfl⟩⟩, hU⟩
theorem take_six {l : List Value} {n j : Nat} (h : j < n) : ((l.take (n * 6)).drop (j * 6)).take 6 = (l.drop (j * 6)).take 6 := by
  rw [List.drop_take, List.take_take, Nat.min_eq_left (by omega)]
theorem Ow.sp_nod {U : Nat → Prop} {w w' : World} (hs : Sp U w w') {v : Value} {n : Nat} {xs : List Value} (h : Ow U w 27 6 v n xs) :
    ∃ xs', Ow U w' 27 6 v n xs' ∧ ∀ j, j < n → (xs'.drop (j * 6)).take 6 = (xs.drop (j * 6)).take 6 ∨ (xs'.drop (j * 6)).take 6 = Go.Proofs.YtemkfpofmblblaaDoor.spoilt := by
  obtain ⟨⟨h1, h2⟩, hU⟩ := h
  rcases h2 with ⟨rfl, rfl⟩ | ⟨g, cap, cur, rfl, h3, h4, h5, h6, h7, h8⟩
  · exact ⟨[], ow_nil _ _ _ _, fun j hj => by omega⟩
  · obtain ⟨cur', e1, e2, e3⟩ := hs.nods g cur (hU g rfl) h4
    refine ⟨cur'.toList.take (n * 6), ⟨⟨by rw [List.length_take]; simp only [Array.length_toList]; omega, .inr ⟨g, cap, cur', rfl, h3, e1, h5, h6, by omega, rfl⟩⟩, hU⟩, fun j hj => ?_⟩
    rw [← h8, take_six hj, take_six hj]
    exact e3 j (by omega)
theorem SX.sp {U : Nat → Prop} {w w' : World} (hs : Sp U w w') : ∀ (d : Nat) (cs : List Value), SX U w d cs → SX U w' d cs
  | 0, cs, h => by
    obtain ⟨k, n, u, s, kv, nk, xk, lv, xs, rfl, h1, h2⟩ := h
    obtain ⟨xk', h1'⟩ := h1.sp_str hs
    obtain ⟨xs', h2', _⟩ := h2.sp_nod hs
    exact ⟨k, n, u, s, kv, nk, xk', lv, xs', rfl, h1', h2'⟩
  | d + 1, cs, h => by
    obtain ⟨k, n, u, s, kv, nk, xk, lv, nl, xs, rfl, h1, h2, h3⟩ := h
    obtain ⟨xk', h1'⟩ := h1.sp_str hs
    obtain ⟨xs', h2', h4⟩ := h2.sp_nod hs
    refine ⟨k, n, u, s, kv, nk, xk', lv, nl, xs', rfl, h1', h2', fun j hj => ?_⟩
    rcases h4 j hj with e | e
    · rw [e]; exact SX.sp hs d _ (h3 j hj)
    · rw [e]; exact SX.spoilt _ _ _
theorem SX.stepU {U U' : Nat → Prop} {w : World} (hk : ∀ b, U b → b < w.heap.size → U' b) : ∀ (d : Nat) (cs : List Value), SX U w d cs → SX U' w d cs
  | 0, cs, h => by
    obtain ⟨k, n, u, s, kv, nk, xk, lv, xs, rfl, h1, h2⟩ := h
    exact ⟨k, n, u, s, kv, nk, xk, lv, xs, rfl, h1.step fun b hb hl => ⟨rfl, hk b hb hl⟩, h2.step fun b hb hl => ⟨rfl, hk b hb hl⟩⟩
  | d + 1, cs, h => by
    obtain ⟨k, n, u, s, kv, nk, xk, lv, nl, xs, rfl, h1, h2, h3⟩ := h
    exact ⟨k, n, u, s, kv, nk, xk, lv, nl, xs, rfl, h1.step fun b hb hl => ⟨rfl, hk b hb hl⟩, h2.step fun b hb hl => ⟨rfl, hk b hb hl⟩, fun j hj => SX.stepU hk d _ (h3 j hj)⟩
theorem NdOL.nth {U : Nat → Prop} {w : World} : ∀ (l : List T) (xs : List Value), NdOL U w l xs → ∀ (j : Nat) (t : T), l[j]? = some t → NdO U w t ((xs.drop (j * 6)).take 6)
  | [], _, _, j, t, hj => by simp at hj
  | t0 :: ts, xs, h, 0, t, hj => by
    obtain ⟨cs, ys, rfl, h1, h2⟩ := h
    obtain rfl : t0 = t := by simpa using hj
    have hl := h1.len
    simp only [Nat.zero_mul, List.drop_zero]
    rw [← hl, List.take_left]
    exact h1
  | t0 :: ts, xs, h, j + 1, t, hj => by
    obtain ⟨cs, ys, rfl, h1, h2⟩ := h
    have hl := h1.len
    rw [show (j + 1) * 6 = cs.length + j * 6 by omega, List.drop_append, List.drop_eq_nil_of_le (by omega), List.nil_append, Nat.add_sub_cancel_left]
    exact NdOL.nth ts ys h2 j t (by simpa using hj)
theorem SX.of_ndo {U : Nat → Prop} {w : World} : ∀ (d : Nat) (t : T) (cs : List Value), dp t ≤ d + 1 → NdO U w t cs → SX U w d cs
  | 0, .mk k n u s ks l, cs, hd, h => by
    obtain ⟨_, _, _, kv, lv, xs, rfl, h1, h2, h3⟩ := h
    have hl : l = [] := by
      cases l with
      | nil => rfl
      | cons t ts => have := dp_pos t; simp only [dp, dpL] at hd; omega
    subst hl
    exact ⟨k, n, u, s, kv, _, _, lv, xs, rfl, h1, h2⟩
  | d + 1, .mk k n u s ks l, cs, hd, h => by
    obtain ⟨_, _, _, kv, lv, xs, rfl, h1, h2, h3⟩ := h
    refine ⟨k, n, u, s, kv, _, _, lv, l.length, xs, rfl, h1, h2, fun j hj => ?_⟩
    have ht : l[j]? = some l[j] := List.getElem?_eq_getElem hj
    have hdl := dp_le_of ht
    simp only [dp] at hd
    exact SX.of_ndo d l[j] _ (by omega) (NdOL.nth l xs h3 j _ ht)
end Go.Proofs.YtemkfpofmblblaaDoor
namespace Go.Proofs.YtemkfpofmblblaaDoor
open Go.RowKit

theorem SX.open {U : Nat → Prop} {w : World} {d : Nat} {cs : List Value} (h : SX U w d cs) : ∃ (k n u : Int) (s : ByteArray) (kv : Value) (nk : Nat) (xk : List Value) (lv : Value) (nl : Nat) (xs : List Value), cs = [.int .i64 k, .int .i64 n, .int .u64 u, .string s, kv, lv] ∧ Ow U w 9 1 kv nk xk ∧ Ow U w 27 6 lv nl xs ∧
      ∀ j, j < nl → ∃ d', d = d' + 1 ∧ SX U w d' ((xs.drop (j * 6)).take 6) := by
  cases d with
  | zero =>
    obtain ⟨k, n, u, s, kv, nk, xk, lv, xs, h0, h1, h2⟩ := h
    exact ⟨k, n, u, s, kv, nk, xk, lv, 0, xs, h0, h1, h2, fun j hj => by omega⟩
  | succ d =>
    obtain ⟨k, n, u, s, kv, nk, xk, lv, nl, xs, h0, h1, h2, h3⟩ := h
    exact ⟨k, n, u, s, kv, nk, xk, lv, nl, xs, h0, h1, h2, fun j hj => ⟨d, rfl, h3 j hj⟩⟩
/-- Between two rounds: the box of the node, and what has been spoilt. -/
structure SR (U : Nat → Prop) (w : World) (k n u : Int) (s : ByteArray) (kv lv : Value) (wr : World) : Prop where
  sp : Sp U w wr
  ul : ∀ b, U b → b < w.heap.size
  bx : Bx wr w.heap.size (.int .i64 k) (.int .i64 n) (.int .u64 u) (.string s) kv lv
theorem SR.go {U : Nat → Prop} {w : World} {k n u : Int} {s : ByteArray} {kv lv : Value} {wr w2 : World} (h : SR U w k n u s kv lv wr) (hs : Sp U wr w2) : SR U w k n u s kv lv w2 :=
  ⟨h.sp.trans hs, h.ul, hs.blk h.bx (fun e => by have := h.ul _ e; omega)⟩
theorem SR.key {U : Nat → Prop} {w : World} {k n u : Int} {s : ByteArray} {kv lv : Value} {wr : World} (h : SR U w k n u s kv lv wr) {nk : Nat} {xk : List Value} (hk : Ow U w 9 1 kv nk xk) {j : Nat} (hj : j < nk) :
    ∃ g c old, kv = .slice (some ⟨g, 0, none⟩) nk c ∧ wr.cell? ⟨g, j, none⟩ = some old ∧ wr.frozen? ⟨g, j, none⟩ = false ∧ ∀ x, SR U w k n u s kv lv (wr.setCell ⟨g, j, none⟩ x) := by
  obtain ⟨xk', hk'⟩ := hk.sp_str h.sp
  rcases hk'.1.2 with ⟨rfl, h0⟩ | ⟨g, cap, cur, rfl, h3, h4, h5, h6, h7, h8⟩
  · omega
  · obtain ⟨old, ho⟩ : ∃ old, cur[j]? = some old := ⟨_, Array.getElem?_eq_getElem (by omega)⟩
    refine ⟨g, cap, old, rfl, (Blk.cell (t := 9) h4 j).trans ho, Blk.frozen (t := 9) h4 j, fun x => h.go (Sp.setStr (hk'.2 g rfl) h4 x)⟩
theorem SR.nod {U : Nat → Prop} {w : World} {k n u : Int} {s : ByteArray} {kv lv : Value} {wr : World} (h : SR U w k n u s kv lv wr) {nl : Nat} {xs : List Value} (hk : Ow U w 27 6 lv nl xs) {j : Nat} (hj : j < nl) :
    ∃ (g c : Nat) (old : Nat → Value), lv = .slice (some ⟨g, 0, none⟩) nl c ∧ (∀ i, i < 6 → wr.cell? ⟨g, j * 6 + i, none⟩ = some (old i)) ∧ (∀ i, wr.frozen? ⟨g, i, none⟩ = false) ∧
      SR U w k n u s kv lv (put6 wr g (j * 6) (.int .i64 (-9)) (.int .i64 0) (.int .u64 0) (.string ⟨#[115, 112, 111, 105, 108, 116]⟩) (.slice none 0 0) (.slice none 0 0)) ∧
      ([old 0, old 1, old 2, old 3, old 4, old 5] = (xs.drop (j * 6)).take 6 ∨ [old 0, old 1, old 2, old 3, old 4, old 5] = Go.Proofs.YtemkfpofmblblaaDoor.spoilt) := by
  obtain ⟨xs', hk', hx⟩ := hk.sp_nod h.sp
  have hx := hx j hj
  rcases hk'.1.2 with ⟨rfl, h0⟩ | ⟨g, cap, cur, rfl, h3, h4, h5, h6, h7, h8⟩
  · omega
  · have hc : ∀ i, i < 6 → wr.cell? ⟨g, j * 6 + i, none⟩ = some (cur.toList.getD (j * 6 + i) undef) := fun i hi => by
      rw [Blk.cell (t := 27) h4, List.getD_eq_getElem?_getD, Array.getElem?_toList, Array.getElem?_eq_getElem (by omega)]
      rfl
    refine ⟨g, cap, fun i => cur.toList.getD (j * 6 + i) undef, rfl, hc, fun i => Blk.frozen (t := 27) h4 i, h.go (Sp.put6 (hk'.2 g rfl) h4 (by omega)), ?_⟩
    have e : [cur.toList.getD (j * 6 + 0) undef, cur.toList.getD (j * 6 + 1) undef, cur.toList.getD (j * 6 + 2) undef, cur.toList.getD (j * 6 + 3) undef, cur.toList.getD (j * 6 + 4) undef, cur.toList.getD (j * 6 + 5) undef] = (xs'.drop (j * 6)).take 6 := by
      rw [← h8, take_six hj]
      apply List.ext_getElem?
      intro i
      rw [List.getElem?_take]
      by_cases h6 : i < 6
      · rw [if_pos h6, List.getElem?_drop]
        have hi : i = 0 ∨ i = 1 ∨ i = 2 ∨ i = 3 ∨ i = 4 ∨ i = 5 := by omega
        have hl : cur.toList.length = cap * 6 := by simpa using h7
        rcases hi with rfl | rfl | rfl | rfl | rfl | rfl <;> simp [List.getD_eq_getElem?_getD] <;> rw [Array.getElem?_eq_getElem (by omega)] <;> rfl
      · rw [if_neg h6, List.getElem?_eq_none (by simp; omega)]
    rw [e]
    exact hx

set_option maxRecDepth 100000 in
set_option maxHeartbeats 1000000 in
theorem spoil_any : ∀ (d : Nat) (U : Nat → Prop) (cs : List Value) (w : World), SX U w d cs → Calls Tryd.prog 17 #[.agg cs.toArray] w fun e w' => e = .returned (.tuple #[]) ∧ Sp U w w' := by
  intro d
  induction d using Nat.strongRecOn with
  | _ d ih =>
    intro U cs w hx
    obtain ⟨k, n, u, s, kv, nk, xk, lv, nl, xs, rfl, hk, hl, hch⟩ := (SX.stepU (U' := fun b => U b ∧ b < w.heap.size) (fun b hb hlt => ⟨hb, hlt⟩) d cs hx).open
    have HR0 : Hid (SR (fun b => U b ∧ b < w.heap.size) w k n u s kv lv (w.alloc (.cells #[.int .i64 k, .int .i64 n, .int .u64 u, .string s, kv, lv] 27))) := Lib.hid ⟨Sp.of_below ((Below.refl _ w).alloc (Nat.le_refl _) _), fun b h => h.2, Blk.new _ _ _⟩
    obtain ⟨KA, Kc, rfl⟩ := hk.shape
    obtain ⟨LA, Lc, rfl⟩ := hl.shape
    go_enter Tryd.func17, Tryd.ntmps17
    go_wp2_with fail
    go_loopw [2] (fun i wr => ∃ j : Nat, j ≤ nk ∧ i = .int .i64 (j : Int) ∧ Hid (SR (fun b => U b ∧ b < w.heap.size) w k n u s (.slice KA nk Kc) (.slice LA nl Lc) wr)) (fun i wr => nk - (intOf i).toNat)
    case atStart => exact ⟨0, Nat.zero_le _, rfl, HR0⟩
    case round =>
      obtain ⟨j, hj, rfl, HR⟩ := hrel
      obtain ⟨_, _, _, _, c4, c5⟩ := HR.out.bx.all
      by_cases hjn : j < nk
      · obtain ⟨g, c, old, e, h1, h2, h3⟩ := HR.out.key hk hjn
        injection e with e1 e2 e3
        subst e1 e3
        clear e2
        have HN := Lib.hid (h3 (.string ⟨#[115, 112, 111, 105, 108, 116]⟩))
        clear h3
        have hjm : (j : Int) ≤ 9223372036854775806 := by have := hk.cells; obtain ⟨_, _, e, h1, h2, _⟩ := this; injection e with _ e2 e3; unfold maxLen at h2; omega
        go_wp2_with fail
        go_roundw
        case rel => exact ⟨j + 1, by omega, by simp, HN⟩
        case measure => simp [intOf]; omega
      · go_wp2_with fail
        have HR1 := HR
        clear HR0 HR c4 c5 hjn hj
        go_loopw [3] (fun i wr => ∃ j : Nat, j ≤ nl ∧ i = .int .i64 (j : Int) ∧ Hid (SR (fun b => U b ∧ b < w.heap.size) w k n u s (.slice KA nk Kc) (.slice LA nl Lc) wr)) (fun i wr => nl - (intOf i).toNat)
        case atStart => exact ⟨0, Nat.zero_le _, rfl, HR1⟩
        case round =>
          obtain ⟨j, hj, rfl, HR⟩ := hrel
          obtain ⟨_, _, _, _, c4, c5⟩ := HR.out.bx.all
          by_cases hjn : j < nl
          · obtain ⟨g, c, old, e, h1, h2, -, h4⟩ := HR.out.nod hl hjn
            injection e with e1 e2 e3
            subst e1 e3
            clear e2
            obtain ⟨d', hd', hx'⟩ := hch j hjn
            have hjm : (j : Int) ≤ 9223372036854775806 := by have := hl.cells; obtain ⟨_, _, e, h1, h2, _⟩ := this; injection e with _ e2 e3; unfold maxLen at h2; omega
            have HCH : Hid (∀ W, Hid (SR (fun b => U b ∧ b < w.heap.size) w k n u s (.slice KA nk Kc) (.slice (some ⟨g, 0, none⟩) nl Lc) W) → (∀ i, i < 6 → W.cell? ⟨g, j * 6 + i, none⟩ = some (old i)) → Calls Tryd.prog 17 #[.agg #[old 0, old 1, old 2, old 3, old 4, old 5]] W fun e w' => e = .returned (.tuple #[]) ∧ Hid (SR (fun b => U b ∧ b < w.heap.size) w k n u s (.slice KA nk Kc) (.slice (some ⟨g, 0, none⟩) nl Lc) w')) := Lib.hid fun W H _ => by
              have hX : SX (fun b => U b ∧ b < w.heap.size) W d' [old 0, old 1, old 2, old 3, old 4, old 5] := by
                rcases h4 with e | e
                · rw [e]; exact SX.sp H.out.sp _ _ hx'
                · rw [e]; exact SX.spoilt _ _ _
              refine (ih d' (by omega) _ _ W hX).mono ?_
              rintro e w' ⟨rfl, h⟩
              exact ⟨rfl, Lib.hid (H.out.go h)⟩
            have HND : Hid (∀ W, Hid (SR (fun b => U b ∧ b < w.heap.size) w k n u s (.slice KA nk Kc) (.slice (some ⟨g, 0, none⟩) nl Lc) W) → ∃ old : Nat → Value, (∀ i, i < 6 → W.cell? ⟨g, j * 6 + i, none⟩ = some (old i)) ∧ (∀ i, W.frozen? ⟨g, i, none⟩ = false) ∧ W.cell? ⟨w.heap.size, 5, none⟩ = some (.slice (some ⟨g, 0, none⟩) nl Lc) ∧ Hid (SR (fun b => U b ∧ b < w.heap.size) w k n u s (.slice KA nk Kc) (.slice (some ⟨g, 0, none⟩) nl Lc) (put6 W g (j * 6) (.int .i64 (-9)) (.int .i64 0) (.int .u64 0) (.string ⟨#[115, 112, 111, 105, 108, 116]⟩) (.slice none 0 0) (.slice none 0 0)))) := Lib.hid fun W H => by
              obtain ⟨g', c', old', e, h1, h2, h3, _⟩ := H.out.nod hl hjn
              injection e with e1 e2 e3
              injection e1 with e1
              injection e1 with e1
              subst e1 e3
              exact ⟨old', h1, h2, H.out.bx.all.2.2.2.2.2, Lib.hid h3⟩
            have a0 : wr.cell? ⟨g, j * 6, none⟩ = some (old 0) := h1 0 (by omega)
            have a1 := h1 1 (by omega)
            have a2 := h1 2 (by omega)
            have a3 := h1 3 (by omega)
            have a4 := h1 4 (by omega)
            have a5 := h1 5 (by omega)
            have HH1 := Lib.hid h1
            clear h1 h2 h4 hx' hch ih
            go_wp2_with (go_at_call 17; refine (HCH.out _ HR HH1.out).mono ?_; rintro e w2 ⟨rfl, HR2⟩; obtain ⟨old2, h1, h2, x5, HR3⟩ := HND.out _ HR2; have b0 : w2.cell? ⟨g, j * 6, none⟩ = some (old2 0) := h1 0 (by omega); have b1 := h1 1 (by omega); have b2 := h1 2 (by omega); have b3 := h1 3 (by omega); have b4 := h1 4 (by omega); have b5 := h1 5 (by omega); have f0 := h2 (j * 6); have f1 := h2 (j * 6 + 1); have f2 := h2 (j * 6 + 2); have f3 := h2 (j * 6 + 3); have f4 := h2 (j * 6 + 4); have f5 := h2 (j * 6 + 5); clear h1 h2; clear a0 a1 a2 a3 a4 a5 c4 c5)
            go_roundw
            case rel => exact ⟨j + 1, by omega, by simp, HR3⟩
            case measure => simp [intOf]; omega
          · go_wp2_with fail
            go_end0
            refine ⟨rfl, HR.out.sp.wider fun b hb => ⟨fun h => h.1, fun h => ⟨h, hb⟩⟩⟩
end Go.Proofs.YtemkfpofmblblaaDoor
namespace Go.Proofs.YtemkfpofmblblaaDoor
open Go.RowKit Go.Sort

theorem of_okN (t : T) (cs : List Value) (w : World) (hT : Tab w) (hq : QQ t) (hc : chk t = 0) (hnd : Nd w t cs) :
    Calls Tryd.prog 14 #[.agg cs.toArray] w fun e w' => ∃ (t' : T) (ka9 na9 ua9 : Int) (sa9 : ByteArray) (EA9 : Option Addr) (qa9 fa9 : Nat) (GA9 : Option Addr) (ra9 ha9 : Nat), e = .returned (.tuple #[.agg #[.int .i64 ka9, .int .i64 na9, .int .u64 ua9, .string sa9, .slice EA9 qa9 fa9, .slice GA9 ra9 ha9], .int .i64 0]) ∧ Hid (Srt t t') ∧ Hid (NdO (fun b => w.heap.size ≤ b) w' (nfT t') [.int .i64 ka9, .int .i64 na9, .int .u64 ua9, .string sa9, .slice EA9 qa9 fa9, .slice GA9 ra9 ha9]) ∧ Hid (Below w.heap.size w w') := by
  refine (of_any t cs w hT hq hnd).mono ?_
  rintro e w' ⟨hb, ⟨h, _⟩ | ⟨_, cs', t2, rfl, h2, h3⟩⟩
  · exact absurd hc h
  · obtain ⟨ka9, na9, ua9, sa9, EA9, qa9, fa9, GA9, ra9, ha9, rfl⟩ := h3.shape6
    exact ⟨t2, ka9, na9, ua9, sa9, EA9, qa9, fa9, GA9, ra9, ha9, rfl, Lib.hid h2, Lib.hid h3, Lib.hid hb⟩
theorem of_errN (t : T) (n : Nat) (cs : List Value) (w : World) (hT : Tab w) (hq : QQ t) (hc : chk t = n) (h0 : n ≠ 0) (hnd : Nd w t cs) :
    Calls Tryd.prog 14 #[.agg cs.toArray] w fun e w' => e = .returned (.tuple #[.agg #[.int .i64 0, .int .i64 0, .int .u64 0, .string ⟨#[]⟩, .slice none 0 0, .slice none 0 0], .int .i64 (n : Int)]) ∧ Hid (Below w.heap.size w w') := by
  refine (of_any t cs w hT hq hnd).mono ?_
  rintro e w' ⟨hb, ⟨_, h⟩ | ⟨h, _⟩⟩
  · exact ⟨by rw [h, hc], Lib.hid hb⟩
  · exact absurd (hc.symm.trans h) h0
theorem t0_qq9 : QQ T0 := ⟨by decide, by decide, by decide, by simp, trivial⟩
theorem nd_t09 (w : World) : Nd w T0 [.int .i64 0, .int .i64 0, .int .u64 0, .string ⟨#[]⟩, .slice none 0 0, .slice none 0 0] := NdO.nd _ _ (ndo_zero (fun _ => True) w)
/-- A tree of the call's own is spoilt. -/
theorem spoil_own9 (t : T) (cs : List Value) (A W : World) (hA : Below A.heap.size A W) (h : NdO (fun b => A.heap.size ≤ b) W t cs) : Calls Tryd.prog 17 #[.agg cs.toArray] W fun e w' => e = .returned (.tuple #[]) ∧ Hid (Below A.heap.size A w') := by
  refine (spoil_any (dp t) (fun b => A.heap.size ≤ b) _ W (SX.of_ndo (dp t) t _ (by omega) h)).mono ?_
  rintro e w' ⟨rfl, hs⟩
  exact ⟨rfl, Lib.hid (hA.trans (hs.bel hA.size (fun b hb => hb)))⟩

set_option maxRecDepth 100000 in
set_option maxHeartbeats 4000000 in
theorem normalForms_walk (t : T) (cs : List Value) (w : World) (hT : Tab w) (hnd : Nd w t cs) : Calls Tryd.prog 8 #[.agg cs.toArray] w fun e w' => e = .returned (.bool true) ∧ Below w.heap.size w w' := by
  have HT := Lib.hid hT
  obtain ⟨ka0, na0, ua0, sa0, EA0, qa0, fa0, GA0, ra0, ha0, rfl⟩ := hnd.shape
  have HN := Lib.hid hnd
  obtain ⟨t1, ht1⟩ : ∃ t1, fewT t = t1 := ⟨_, rfl⟩
  have HQ : Hid (QQ t1 ∧ sz t1 ≤ 60000) := Lib.hid (by rw [← ht1]; exact ⟨fewT_qq t, by have := fewT_sz t; omega⟩)
  have HC : Hid (∀ W, Below w.heap.size w W → Calls Tryd.prog 11 #[.agg #[.int .i64 ka0, .int .i64 na0, .int .u64 ua0, .string sa0, .slice EA0 qa0 fa0, .slice GA0 ra0 ha0]] W fun e w' => ∃ (ka1 na1 ua1 : Int) (sa1 : ByteArray) (EA1 : Option Addr) (qa1 fa1 : Nat) (GA1 : Option Addr) (ra1 ha1 : Nat), e = .returned (.agg #[.int .i64 ka1, .int .i64 na1, .int .u64 ua1, .string sa1, .slice EA1 qa1 fa1, .slice GA1 ra1 ha1]) ∧ Hid (Nd w' t1 [.int .i64 ka1, .int .i64 na1, .int .u64 ua1, .string sa1, .slice EA1 qa1 fa1, .slice GA1 ra1 ha1]) ∧ Hid (Below W.heap.size W w')) := Lib.hid fun W hb => by
    rw [← ht1]
    exact few9_nd t _ W (HN.out.bel hb)
  clear hT hnd ht1
  go_enter Tryd.func8, Tryd.ntmps8
  go_wp2_with fail
  with_reducible refine (HC.out _ (al0 w _)).mono ?_
  rintro e w1 ⟨ka1, na1, ua1, sa1, EA1, qa1, fa1, GA1, ra1, ha1, rfl, HN1, hb1⟩
  obtain ⟨wI, hwI⟩ : ∃ wI, w1.alloc (.cells #[.int .i64 ka1, .int .i64 na1, .int .u64 ua1, .string sa1, .slice EA1 qa1 fa1, .slice GA1 ra1 ha1] 27) = wI := ⟨_, rfl⟩
  obtain ⟨bi, hbi⟩ : ∃ bi, w1.heap.size = bi := ⟨_, rfl⟩
  have HWI : Hid (Below w.heap.size w wI) := Lib.hid (by rw [← hwI]; exact tr (al hb1.out) (al0 w1 _))
  have HBI : Hid (Bd wI bi t1 (.int .i64 ka1) (.int .i64 na1) (.int .u64 ua1) (.string sa1) (.slice EA1 qa1 fa1) (.slice GA1 ra1 ha1)) := Lib.hid (by rw [← hwI, ← hbi]; exact Bd.new HN1.out)
  have HB0 : Hid (Bx wI w.heap.size (.int .i64 ka0) (.int .i64 na0) (.int .u64 ua0) (.string sa0) (.slice EA0 qa0 fa0) (.slice GA0 ra0 ha0)) := Lib.hid (by rw [← hwI]; exact Blk.below (Blk.new w 27 #[.int .i64 ka0, .int .i64 na0, .int .u64 ua0, .string sa0, .slice EA0 qa0 fa0, .slice GA0 ra0 ha0]) (tr hb1.out (al0 w1 _)) (Blk.lt (Blk.new w 27 #[.int .i64 ka0, .int .i64 na0, .int .u64 ua0, .string sa0, .slice EA0 qa0 fa0, .slice GA0 ra0 ha0])))
  have HC6 : Hid (∀ W, Hid (Below wI.heap.size wI W) → Calls Tryd.prog 11 #[.agg #[.int .i64 ka0, .int .i64 na0, .int .u64 ua0, .string sa0, .slice EA0 qa0 fa0, .slice GA0 ra0 ha0]] W fun e w' => ∃ (ka1 na1 ua1 : Int) (sa1 : ByteArray) (EA1 : Option Addr) (qa1 fa1 : Nat) (GA1 : Option Addr) (ra1 ha1 : Nat), e = .returned (.agg #[.int .i64 ka1, .int .i64 na1, .int .u64 ua1, .string sa1, .slice EA1 qa1 fa1, .slice GA1 ra1 ha1]) ∧ Hid (Nd w' t1 [.int .i64 ka1, .int .i64 na1, .int .u64 ua1, .string sa1, .slice EA1 qa1 fa1, .slice GA1 ra1 ha1]) ∧ Hid (Below wI.heap.size wI w')) := Lib.hid fun W H => (HC.out W (tr HWI.out H.out)).mono (by
    rintro e w' ⟨ka2, na2, ua2, sa2, EA2, qa2, fa2, GA2, ra2, ha2, rfl, h1, h2⟩
    exact ⟨ka2, na2, ua2, sa2, EA2, qa2, fa2, GA2, ra2, ha2, rfl, h1, Lib.hid (tr H.out h2.out)⟩)
  have HE6 : Hid (∀ (W : World) (ka6 na6 ua6 : Int) (sa6 : ByteArray) (EA6 : Option Addr) (qa6 fa6 : Nat) (GA6 : Option Addr) (ra6 ha6 : Nat), Hid (Below wI.heap.size wI W) → Hid (Nd W t1 [.int .i64 ka6, .int .i64 na6, .int .u64 ua6, .string sa6, .slice EA6 qa6 fa6, .slice GA6 ra6 ha6]) → Calls Tryd.prog 13 #[.agg #[.int .i64 ka1, .int .i64 na1, .int .u64 ua1, .string sa1, .slice EA1 qa1 fa1, .slice GA1 ra1 ha1], .agg #[.int .i64 ka6, .int .i64 na6, .int .u64 ua6, .string sa6, .slice EA6 qa6 fa6, .slice GA6 ra6 ha6]] W fun e w' => e = .returned (.bool true) ∧ Hid (Below wI.heap.size wI w')) := Lib.hid fun W ka6 na6 ua6 sa6 EA6 qa6 fa6 GA6 ra6 ha6 H H2 =>
    (eq_eq t1 _ _ W HQ.out.1 (HBI.out.below H.out).2 H2.out).mono fun e w' h => ⟨h.1, Lib.hid (tr H.out h.2.out)⟩
  have HWK : Hid (∀ W, Hid (Below wI.heap.size wI W) → Calls Tryd.prog 10 #[] W fun e w' => e = .returned (.bool true) ∧ Hid (Below wI.heap.size wI w')) := Lib.hid fun W H => (works9_true W (HT.out.keep (tr HWI.out H.out))).mono fun e w' h => ⟨h.1, Lib.hid (tr H.out h.2)⟩
  have hall : ∀ W, Hid (Below wI.heap.size wI W) → Hid (Below wI.heap.size wI W) ∧ W.cell? ⟨w.heap.size, 0, none⟩ = some (.int .i64 ka0) ∧ W.cell? ⟨w.heap.size, 1, none⟩ = some (.int .i64 na0) ∧ W.cell? ⟨w.heap.size, 2, none⟩ = some (.int .u64 ua0) ∧ W.cell? ⟨w.heap.size, 3, none⟩ = some (.string sa0) ∧ W.cell? ⟨w.heap.size, 4, none⟩ = some (.slice EA0 qa0 fa0) ∧ W.cell? ⟨w.heap.size, 5, none⟩ = some (.slice GA0 ra0 ha0) ∧ W.cell? ⟨bi, 0, none⟩ = some (.int .i64 ka1) ∧ W.cell? ⟨bi, 1, none⟩ = some (.int .i64 na1) ∧ W.cell? ⟨bi, 2, none⟩ = some (.int .u64 ua1) ∧ W.cell? ⟨bi, 3, none⟩ = some (.string sa1) ∧ W.cell? ⟨bi, 4, none⟩ = some (.slice EA1 qa1 fa1) ∧ W.cell? ⟨bi, 5, none⟩ = some (.slice GA1 ra1 ha1) := fun W H => by
    have h1 := Bx.all (HB0.out.below H.out HB0.out.lt)
    have h2 := (HBI.out.below H.out).1.all
    exact ⟨H, h1.1, h1.2.1, h1.2.2.1, h1.2.2.2.1, h1.2.2.2.2.1, h1.2.2.2.2.2, h2⟩
  clear HC HN HN1 hb1
  obtain ⟨x0, x1, x2, x3, x4, x5⟩ := HBI.out.1.all
  go_wp2_with fail
  (try rw [hwI])
  (try simp only [hbi])
  clear hwI hbi x0 x1 x2 x3 x4 x5
  by_cases hc : chk t1 = 0
  · have HCZ := Lib.hid hc
    have HOK : Hid (okT t1) := Lib.hid ((chk_zero t1).1 hc).1
    have HS := Lib.hid (of_okN t1 _ wI (HT.out.keep HWI.out) HQ.out.1 hc HBI.out.2)
    clear hc
    with_reducible refine HS.out.mono ?_
    rintro e w2 ⟨tS, ka2, na2, ua2, sa2, EA2, qa2, fa2, GA2, ra2, ha2, rfl, HSR, HO2, hb2⟩
    have HQ2 : Hid (QQ (nfT tS)) := Lib.hid (nf_qqs HQ.out.1 HCZ.out HSR.out)
    obtain ⟨t2, ht2⟩ : ∃ t2, nfT tS = t2 := ⟨_, rfl⟩
    rw [ht2] at HQ2 HO2
    have HN2 : Hid (Nd w2 t2 [.int .i64 ka2, .int .i64 na2, .int .u64 ua2, .string sa2, .slice EA2 qa2 fa2, .slice GA2 ra2 ha2]) := Lib.hid (NdO.nd _ _ HO2.out)
    clear HS
    obtain ⟨wA, hwA⟩ : ∃ wA, w2.alloc (.cells #[.int .i64 ka2, .int .i64 na2, .int .u64 ua2, .string sa2, .slice EA2 qa2 fa2, .slice GA2 ra2 ha2] 27) = wA := ⟨_, rfl⟩
    obtain ⟨ba, hba⟩ : ∃ ba, w2.heap.size = ba := ⟨_, rfl⟩
    have HIA : Hid (Below wI.heap.size wI wA) := Lib.hid (by rw [← hwA]; exact tr hb2.out (al0 w2 _))
    have HBA : Hid (Bd wA ba t2 (.int .i64 ka2) (.int .i64 na2) (.int .u64 ua2) (.string sa2) (.slice EA2 qa2 fa2) (.slice GA2 ra2 ha2)) := Lib.hid (by rw [← hwA, ← hba]; exact Bd.new HN2.out)
    have HOA : Hid (NdO (fun b => wI.heap.size ≤ b) wA t2 [.int .i64 ka2, .int .i64 na2, .int .u64 ua2, .string sa2, .slice EA2 qa2 fa2, .slice GA2 ra2 ha2]) := Lib.hid (by rw [← hwA]; exact NdO.step (fun b hb hl => ⟨(al0 w2 _).block b hl, hb⟩) _ _ HO2.out)
    have HIa := Lib.hid (HBI.out.below HIA.out)
    obtain ⟨x0, x1, x2, x3, x4, x5⟩ := HIa.out.1.all
    have HR := Lib.hid (refOf_ok t1 tS _ wA HQ.out.2 HQ.out.1.2 HCZ.out HSR.out HIa.out.2)
    rw [ht2] at HR
    go_wp2_with fail
    (try rw [hwA])
    (try simp only [hba])
    clear x0 x1 x2 x3 x4 x5 hwA hba hb2 HO2 HN2
    with_reducible refine HR.out.mono ?_
    rintro e w3 ⟨ka3, na3, ua3, sa3, EA3, qa3, fa3, GA3, ra3, ha3, rfl, HN3, hb3⟩
    obtain ⟨wB, hwB⟩ : ∃ wB, w3.alloc (.cells #[.int .i64 ka3, .int .i64 na3, .int .u64 ua3, .string sa3, .slice EA3 qa3 fa3, .slice GA3 ra3 ha3] 27) = wB := ⟨_, rfl⟩
    obtain ⟨bb, hbb⟩ : ∃ bb, w3.heap.size = bb := ⟨_, rfl⟩
    have HAB : Hid (Below wA.heap.size wA wB) := Lib.hid (by rw [← hwB]; exact tr hb3.out (al0 w3 _))
    have HBB : Hid (Bd wB bb t2 (.int .i64 ka3) (.int .i64 na3) (.int .u64 ua3) (.string sa3) (.slice EA3 qa3 fa3) (.slice GA3 ra3 ha3)) := Lib.hid (by rw [← hwB, ← hbb]; exact Bd.new HN3.out)
    have HBa := Lib.hid (HBA.out.below HAB.out)
    obtain ⟨x0, x1, x2, x3, x4, x5⟩ := HBa.out.1.all
    obtain ⟨y0, y1, y2, y3, y4, y5⟩ := HBB.out.1.all
    have HE := Lib.hid (eq_eq t2 _ _ wB HQ2.out HBa.out.2 HBB.out.2)
    go_wp2_with fail
    (try rw [hwB])
    (try simp only [hbb])
    clear x0 x1 x2 x3 x4 x5 y0 y1 y2 y3 y4 y5 hwB hbb hb3 HN3
    with_reducible refine HE.out.mono ?_
    rintro e w4 ⟨rfl, hb4⟩
    have HBa4 := Lib.hid (HBa.out.below hb4.out)
    obtain ⟨x0, x1, x2, x3, x4, x5⟩ := HBa4.out.1.all
    have HSP := Lib.hid (spoil_own9 t2 _ wI w4 (tr HIA.out (tr HAB.out hb4.out)) (NdO.step (fun b hb hl => ⟨(tr HAB.out hb4.out).block b hl, hb⟩) _ _ HOA.out))
    clear hb4 HE
    go_wp2_with (first | (go_at_call 17; (with_reducible refine HSP.out.mono ?_); rintro e w5 ⟨rfl, H5⟩))
    clear x0 x1 x2 x3 x4 x5
    have H5d : Hid (Below wI.heap.size wI w5.drew) := Lib.hid (Below.drew H5.out)
    go_region_held3 (fun W => Hid (Below wI.heap.size wI W) ∧ W.cell? ⟨w.heap.size, 0, none⟩ = some (.int .i64 ka0) ∧ W.cell? ⟨w.heap.size, 1, none⟩ = some (.int .i64 na0) ∧ W.cell? ⟨w.heap.size, 2, none⟩ = some (.int .u64 ua0) ∧ W.cell? ⟨w.heap.size, 3, none⟩ = some (.string sa0) ∧ W.cell? ⟨w.heap.size, 4, none⟩ = some (.slice EA0 qa0 fa0) ∧ W.cell? ⟨w.heap.size, 5, none⟩ = some (.slice GA0 ra0 ha0) ∧ W.cell? ⟨bi, 0, none⟩ = some (.int .i64 ka1) ∧ W.cell? ⟨bi, 1, none⟩ = some (.int .i64 na1) ∧ W.cell? ⟨bi, 2, none⟩ = some (.int .u64 ua1) ∧ W.cell? ⟨bi, 3, none⟩ = some (.string sa1) ∧ W.cell? ⟨bi, 4, none⟩ = some (.slice EA1 qa1 fa1) ∧ W.cell? ⟨bi, 5, none⟩ = some (.slice GA1 ra1 ha1)) (first | (with_reducible exact hall _ (by assumption)) | (with_reducible exact hall _ H5d))
      (first
        | (go_at_call 11; (with_reducible refine (HC6.out _ (by first | assumption | exact H5d)).mono ?_); rintro e w6 ⟨ka6, na6, ua6, sa6, EA6, qa6, fa6, GA6, ra6, ha6, rfl, HN6, HW6⟩)
        | (go_at_call 13; (with_reducible refine (HE6.out _ _ _ _ _ _ _ _ _ _ _ HW6 HN6).mono ?_); rintro e w7 ⟨rfl, HW7⟩)
        | (go_at_call 10; (with_reducible refine (HWK.out _ HW7).mono ?_); rintro e w8 ⟨rfl, HW8⟩))
    go_wp2_with fail
    go_ret
    exact ⟨rfl, tr HWI.out HW8.out⟩
  · obtain ⟨e0, he0⟩ : ∃ e0, chk t1 = e0 := ⟨_, rfl⟩
    have h0 : e0 ≠ 0 := by rw [← he0]; exact hc
    have HS := Lib.hid (of_errN t1 e0 _ wI (HT.out.keep HWI.out) HQ.out.1 he0 h0 HBI.out.2)
    have HE0 := Lib.hid (And.intro he0 h0)
    clear hc he0 h0
    with_reducible refine HS.out.mono ?_
    rintro e w2 ⟨rfl, hb2⟩
    have HN2 : Hid (Nd w2 T0 [.int .i64 0, .int .i64 0, .int .u64 0, .string ⟨#[]⟩, .slice none 0 0, .slice none 0 0]) := Lib.hid (nd_t09 w2)
    have HO2 : Hid (NdO (fun b => wI.heap.size ≤ b) w2 T0 [.int .i64 0, .int .i64 0, .int .u64 0, .string ⟨#[]⟩, .slice none 0 0, .slice none 0 0]) := Lib.hid (ndo_zero _ w2)
    clear HS
    have HIAx : Hid (Below wI.heap.size wI (w2.alloc (.cells #[.int .i64 0, .int .i64 0, .int .u64 0, .string ⟨#[]⟩, .slice none 0 0, .slice none 0 0] 27))) := Lib.hid (tr hb2.out (al0 w2 _))
    obtain ⟨x0, x1, x2, x3, x4, x5⟩ := (HBI.out.below HIAx.out).1.all
    go_wp2_with fail
    clear x0 x1 x2 x3 x4 x5
    obtain ⟨wA, hwA⟩ : ∃ wA, w2.alloc (.cells #[.int .i64 0, .int .i64 0, .int .u64 0, .string ⟨#[]⟩, .slice none 0 0, .slice none 0 0] 27) = wA := ⟨_, rfl⟩
    obtain ⟨ba, hba⟩ : ∃ ba, w2.heap.size = ba := ⟨_, rfl⟩
    have HIA : Hid (Below wI.heap.size wI wA) := Lib.hid (by rw [← hwA]; exact tr hb2.out (al0 w2 _))
    have HBA : Hid (Bd wA ba T0 (.int .i64 0) (.int .i64 0) (.int .u64 0) (.string ⟨#[]⟩) (.slice none 0 0) (.slice none 0 0)) := Lib.hid (by rw [← hwA, ← hba]; exact Bd.new HN2.out)
    have HOA : Hid (NdO (fun b => wI.heap.size ≤ b) wA T0 [.int .i64 0, .int .i64 0, .int .u64 0, .string ⟨#[]⟩, .slice none 0 0, .slice none 0 0]) := Lib.hid (by rw [← hwA]; exact NdO.step (fun b hb hl => ⟨(al0 w2 _).block b hl, hb⟩) _ _ HO2.out)
    have HIa := Lib.hid (HBI.out.below HIA.out)
    have HR := Lib.hid (refOf_err t1 e0 _ wA HQ.out.1.1 HE0.out.1 HE0.out.2 HIa.out.2)
    (try rw [hwA])
    (try simp only [hba])
    clear hwA hba hb2 HO2 HN2
    with_reducible refine HR.out.mono ?_
    rintro e w3 ⟨rfl, hb3⟩
    have HN3 : Hid (Nd w3 T0 [.int .i64 0, .int .i64 0, .int .u64 0, .string ⟨#[]⟩, .slice none 0 0, .slice none 0 0]) := Lib.hid (nd_t09 w3)
    have HABx : Hid (Below wA.heap.size wA (w3.alloc (.cells #[.int .i64 0, .int .i64 0, .int .u64 0, .string ⟨#[]⟩, .slice none 0 0, .slice none 0 0] 27))) := Lib.hid (tr hb3.out (al0 w3 _))
    obtain ⟨x0, x1, x2, x3, x4, x5⟩ := (HBA.out.below HABx.out).1.all
    go_wp2_with fail
    clear x0 x1 x2 x3 x4 x5
    obtain ⟨wB, hwB⟩ : ∃ wB, w3.alloc (.cells #[.int .i64 0, .int .i64 0, .int .u64 0, .string ⟨#[]⟩, .slice none 0 0, .slice none 0 0] 27) = wB := ⟨_, rfl⟩
    obtain ⟨bb, hbb⟩ : ∃ bb, w3.heap.size = bb := ⟨_, rfl⟩
    have HAB : Hid (Below wA.heap.size wA wB) := Lib.hid (by rw [← hwB]; exact tr hb3.out (al0 w3 _))
    have HBB : Hid (Bd wB bb T0 (.int .i64 0) (.int .i64 0) (.int .u64 0) (.string ⟨#[]⟩) (.slice none 0 0) (.slice none 0 0)) := Lib.hid (by rw [← hwB, ← hbb]; exact Bd.new HN3.out)
    have HBa := Lib.hid (HBA.out.below HAB.out)
    have HE := Lib.hid (eq_eq T0 _ _ wB t0_qq9 HBa.out.2 HBB.out.2)
    (try rw [hwB])
    (try simp only [hbb])
    clear hwB hbb hb3 HN3
    with_reducible refine HE.out.mono ?_
    rintro e w4 ⟨rfl, hb4⟩
    have HBa4 := Lib.hid (HBa.out.below hb4.out)
    obtain ⟨x0, x1, x2, x3, x4, x5⟩ := HBa4.out.1.all
    have HSP := Lib.hid (spoil_own9 T0 _ wI w4 (tr HIA.out (tr HAB.out hb4.out)) (NdO.step (fun b hb hl => ⟨(tr HAB.out hb4.out).block b hl, hb⟩) _ _ HOA.out))
    clear hb4 HE
    go_wp2_with (first | (go_at_call 17; (with_reducible refine HSP.out.mono ?_); rintro e w5 ⟨rfl, H5⟩))
    clear x0 x1 x2 x3 x4 x5
    have H5d : Hid (Below wI.heap.size wI w5.drew) := Lib.hid (Below.drew H5.out)
    go_region_held3 (fun W => Hid (Below wI.heap.size wI W) ∧ W.cell? ⟨w.heap.size, 0, none⟩ = some (.int .i64 ka0) ∧ W.cell? ⟨w.heap.size, 1, none⟩ = some (.int .i64 na0) ∧ W.cell? ⟨w.heap.size, 2, none⟩ = some (.int .u64 ua0) ∧ W.cell? ⟨w.heap.size, 3, none⟩ = some (.string sa0) ∧ W.cell? ⟨w.heap.size, 4, none⟩ = some (.slice EA0 qa0 fa0) ∧ W.cell? ⟨w.heap.size, 5, none⟩ = some (.slice GA0 ra0 ha0) ∧ W.cell? ⟨bi, 0, none⟩ = some (.int .i64 ka1) ∧ W.cell? ⟨bi, 1, none⟩ = some (.int .i64 na1) ∧ W.cell? ⟨bi, 2, none⟩ = some (.int .u64 ua1) ∧ W.cell? ⟨bi, 3, none⟩ = some (.string sa1) ∧ W.cell? ⟨bi, 4, none⟩ = some (.slice EA1 qa1 fa1) ∧ W.cell? ⟨bi, 5, none⟩ = some (.slice GA1 ra1 ha1)) (first | (with_reducible exact hall _ (by assumption)) | (with_reducible exact hall _ H5d))
      (first
        | (go_at_call 11; (with_reducible refine (HC6.out _ (by first | assumption | exact H5d)).mono ?_); rintro e w6 ⟨ka6, na6, ua6, sa6, EA6, qa6, fa6, GA6, ra6, ha6, rfl, HN6, HW6⟩)
        | (go_at_call 13; (with_reducible refine (HE6.out _ _ _ _ _ _ _ _ _ _ _ HW6 HN6).mono ?_); rintro e w7 ⟨rfl, HW7⟩)
        | (go_at_call 10; (with_reducible refine (HWK.out _ HW7).mono ?_); rintro e w8 ⟨rfl, HW8⟩))
    go_wp2_with fail
    go_ret
    exact ⟨rfl, tr HWI.out HW8.out⟩
end Go.Proofs.YtemkfpofmblblaaDoor
namespace Go.Proofs.YtemkfpofmblblaaDoor
open Go.ChangeShapes Go.WideShapes Go.ChangeAt Go.WideMaps Go.WideElems Go.RowKit Go.ChangeMaps
end Go.Proofs.YtemkfpofmblblaaDoor
namespace Go.Proofs.YtemkfpofmblblaaDoor
open Go.RowKit Go.Sort

mutual
theorem srt_ex : ∀ {t : T}, okT t → ∃ t', Srt t t'
  | .mk k n u s ks l, ho => by
    obtain ⟨l', h⟩ := srtL_ex ho.2
    by_cases hk : k = 17
    · obtain ⟨q, hq⟩ := sq_exists (l := ks) ((keysE_zero ks []).1 (ownE_zero.1 ho.1).2.2).1 ks.length (Nat.le_refl _)
      exact ⟨_, l', h, .inr ⟨hk, q, hq, rfl⟩⟩
    · exact ⟨_, l', h, .inl ⟨hk, rfl⟩⟩
theorem srtL_ex : ∀ {l : List T}, okL l → ∃ l', SrtL l l'
  | [], _ => ⟨[], rfl⟩
  | t :: ts, ho => by
    obtain ⟨t', h1⟩ := srt_ex ho.1
    obtain ⟨ts', h2⟩ := srtL_ex ho.2
    exact ⟨t' :: ts', t', ts', rfl, h1, h2⟩
end
theorem refOf_any (t : T) (cs : List Value) (w : World) (hsz : sz t ≤ 60000) (hsm : sm 1000 1000 t) (hnd : Nd w t cs) :
    Calls Tryd.prog 16 #[.agg cs.toArray] w fun e w' => Below w.heap.size w w' ∧ ((chk t ≠ 0 ∧ e = .returned (.tuple #[.agg #[.int .i64 0, .int .i64 0, .int .u64 0, .string ⟨#[]⟩, .slice none 0 0, .slice none 0 0], .int .i64 ((chk t : Nat) : Int)])) ∨
      (chk t = 0 ∧ ∃ cs' t', e = .returned (.tuple #[.agg cs'.toArray, .int .i64 0]) ∧ Srt t t' ∧ Nd w' (nfT t') cs')) := by
  by_cases hc : chk t = 0
  · obtain ⟨t', hs⟩ := srt_ex ((chk_zero t).1 hc).1
    refine (refOf_ok t t' cs w hsz hsm hc hs hnd).mono ?_
    rintro e w' ⟨ka9, na9, ua9, sa9, EA9, qa9, fa9, GA9, ra9, ha9, rfl, h1, h2⟩
    exact ⟨h2.out, .inr ⟨hc, [.int .i64 ka9, .int .i64 na9, .int .u64 ua9, .string sa9, .slice EA9 qa9 fa9, .slice GA9 ra9 ha9], t', rfl, hs, h1.out⟩⟩
  · refine (refOf_err t (chk t) cs w (by omega) rfl hc hnd).mono ?_
    rintro e w' ⟨rfl, h2⟩
    exact ⟨h2.out, .inl ⟨hc, rfl⟩⟩

set_option maxRecDepth 100000 in
set_option maxHeartbeats 4000000 in
theorem refAlike_any (a b : T) (ca cb : List Value) (w : World) (hqa : QQ a ∧ sz a ≤ 60000) (hqb : QQ b ∧ sz b ≤ 60000) (ha : Nd w a ca) (hb : Nd w b cb) :
    Calls Tryd.prog 12 #[.agg ca.toArray, .agg cb.toArray] w fun e w' => (∃ β, e = .returned (.bool β) ∧ (β = true ↔ alk a b)) ∧ Below w.heap.size w w' := by
  obtain ⟨ka0, na0, ua0, sa0, EA0, qa0, fa0, GA0, ra0, ha0, rfl⟩ := ha.shape
  obtain ⟨ka1, na1, ua1, sa1, EA1, qa1, fa1, GA1, ra1, ha1, rfl⟩ := hb.shape
  have HA := Lib.hid ha
  have HB := Lib.hid hb
  have HQA := Lib.hid hqa
  have HQB := Lib.hid hqb
  have HT0 := Lib.hid (Two.start w (.int .i64 ka0) (.int .i64 na0) (.int .u64 ua0) (.string sa0) (.slice EA0 qa0 fa0) (.slice GA0 ra0 ha0) (.int .i64 ka1) (.int .i64 na1) (.int .u64 ua1) (.string sa1) (.slice EA1 qa1 fa1) (.slice GA1 ra1 ha1))
  obtain ⟨c0, c1, c2, c3, c4, c5⟩ := HT0.out.2.2.1.all
  have HOA := Lib.hid (refOf_any a _ _ hqa.2 hqa.1.2 (ha.bel HT0.out.1))
  clear ha hb hqa hqb
  go_enter Tryd.func12, Tryd.ntmps12
  go_wp2_with fail
  refine HOA.out.mono ?_
  rintro e w2 ⟨hb2, hor⟩
  have hD : ∃ (x : Nat) (ka2 na2 ua2 : Int) (sa2 : ByteArray) (EA2 : Option Addr) (qa2 fa2 : Nat) (GA2 : Option Addr) (ra2 ha2 : Nat), e = .returned (.tuple #[.agg #[.int .i64 ka2, .int .i64 na2, .int .u64 ua2, .string sa2, .slice EA2 qa2 fa2, .slice GA2 ra2 ha2], .int .i64 (x : Int)]) ∧ ((x ≠ 0 ∧ chk a = x) ∨ (x = 0 ∧ chk a = 0 ∧ ∃ t', Srt a t' ∧ Nd w2 (nfT t') [.int .i64 ka2, .int .i64 na2, .int .u64 ua2, .string sa2, .slice EA2 qa2 fa2, .slice GA2 ra2 ha2])) := by
    rcases hor with ⟨h0, rfl⟩ | ⟨h0, cs', t', rfl, hs, hn⟩
    · exact ⟨chk a, 0, 0, 0, ⟨#[]⟩, none, 0, 0, none, 0, 0, rfl, .inl ⟨h0, rfl⟩⟩
    · obtain ⟨ka2, na2, ua2, sa2, EA2, qa2, fa2, GA2, ra2, ha2, rfl⟩ := hn.shape
      exact ⟨0, ka2, na2, ua2, sa2, EA2, qa2, fa2, GA2, ra2, ha2, rfl, .inr ⟨rfl, h0, t', hs, hn⟩⟩
  obtain ⟨x, ka2, na2, ua2, sa2, EA2, qa2, fa2, GA2, ra2, ha2, rfl, hx⟩ := hD
  have HX := Lib.hid hx
  have HB2 := Lib.hid hb2
  clear hor hx hb2 c0 c1 c2 c3 c4 c5 HOA
  obtain ⟨wB, hwB⟩ : ∃ wB, w2.alloc (.cells #[.int .i64 ka2, .int .i64 na2, .int .u64 ua2, .string sa2, .slice EA2 qa2 fa2, .slice GA2 ra2 ha2] 27) = wB := ⟨_, rfl⟩
  obtain ⟨bx, hbx⟩ : ∃ bx, w2.heap.size = bx := ⟨_, rfl⟩
  have H2B : Hid (Below w2.heap.size w2 wB) := Lib.hid (by rw [← hwB]; exact al0 _ _)
  have HBX : Hid (Bx wB bx (.int .i64 ka2) (.int .i64 na2) (.int .u64 ua2) (.string sa2) (.slice EA2 qa2 fa2) (.slice GA2 ra2 ha2)) := Lib.hid (by rw [← hwB, ← hbx]; exact Blk.new _ _ _)
  have HWB : Hid (Below w.heap.size w wB) := Lib.hid (tr HT0.out.1 (tr HB2.out H2B.out))
  have HOB := Lib.hid (refOf_any b _ _ HQB.out.2 HQB.out.1.2 (HB.out.bel HWB.out))
  obtain ⟨c0, c1, c2, c3, c4, c5⟩ := Bx.all (HT0.out.2.2.2.below (tr HB2.out H2B.out) HT0.out.2.2.2.lt)
  go_wp2_with fail
  (try rw [hwB])
  (try simp only [hbx])
  refine HOB.out.mono ?_
  clear hwB hbx c0 c1 c2 c3 c4 c5
  rintro e w3 ⟨hb3, hor⟩
  have hD : ∃ (y : Nat) (ka3 na3 ua3 : Int) (sa3 : ByteArray) (EA3 : Option Addr) (qa3 fa3 : Nat) (GA3 : Option Addr) (ra3 ha3 : Nat), e = .returned (.tuple #[.agg #[.int .i64 ka3, .int .i64 na3, .int .u64 ua3, .string sa3, .slice EA3 qa3 fa3, .slice GA3 ra3 ha3], .int .i64 (y : Int)]) ∧ ((y ≠ 0 ∧ chk b = y) ∨ (y = 0 ∧ chk b = 0 ∧ ∃ t', Srt b t' ∧ Nd w3 (nfT t') [.int .i64 ka3, .int .i64 na3, .int .u64 ua3, .string sa3, .slice EA3 qa3 fa3, .slice GA3 ra3 ha3])) := by
    rcases hor with ⟨h0, rfl⟩ | ⟨h0, cs', t', rfl, hs, hn⟩
    · exact ⟨chk b, 0, 0, 0, ⟨#[]⟩, none, 0, 0, none, 0, 0, rfl, .inl ⟨h0, rfl⟩⟩
    · obtain ⟨ka3, na3, ua3, sa3, EA3, qa3, fa3, GA3, ra3, ha3, rfl⟩ := hn.shape
      exact ⟨0, ka3, na3, ua3, sa3, EA3, qa3, fa3, GA3, ra3, ha3, rfl, .inr ⟨rfl, h0, t', hs, hn⟩⟩
  obtain ⟨y, ka3, na3, ua3, sa3, EA3, qa3, fa3, GA3, ra3, ha3, rfl, hy⟩ := hD
  have HY := Lib.hid hy
  have HB3 := Lib.hid (tr hb3 (al0 w3 (.cells #[.int .i64 ka3, .int .i64 na3, .int .u64 ua3, .string sa3, .slice EA3 qa3 fa3, .slice GA3 ra3 ha3] 27)))
  have HWE := Lib.hid (tr HWB.out HB3.out)
  have HB3' := Lib.hid hb3
  clear hor hy hb3 HOB
  by_cases hx0 : x = 0
  · by_cases hy0 : y = 0
    · subst hx0 hy0
      obtain ⟨h1, t1, hs1, hn1⟩ : chk a = 0 ∧ ∃ t', Srt a t' ∧ Nd w2 (nfT t') [.int .i64 ka2, .int .i64 na2, .int .u64 ua2, .string sa2, .slice EA2 qa2 fa2, .slice GA2 ra2 ha2] := by
        rcases HX.out with ⟨h, _⟩ | ⟨_, h⟩
        · exact absurd rfl h
        · exact h
      obtain ⟨h2, t2, hs2, hn2⟩ : chk b = 0 ∧ ∃ t', Srt b t' ∧ Nd w3 (nfT t') [.int .i64 ka3, .int .i64 na3, .int .u64 ua3, .string sa3, .slice EA3 qa3 fa3, .slice GA3 ra3 ha3] := by
        rcases HY.out with ⟨h, _⟩ | ⟨_, h⟩
        · exact absurd rfl h
        · exact h
      have HI := Lib.hid (alk_iff h1 h2 hs1 hs2)
      have HSM := Lib.hid (eqNode_any (dp (nfT t1)) (nfT t1) (nfT t2) _ _ (w3.alloc (.cells #[.int .i64 ka3, .int .i64 na3, .int .u64 ua3, .string sa3, .slice EA3 qa3 fa3, .slice GA3 ra3 ha3] 27)) (Nat.le_refl _) (nf_qqs HQA.out.1 h1 hs1).1 (nf_qqs HQA.out.1 h1 hs1).2 ((hn1.bel H2B.out).bel HB3.out) (hn2.bel (al0 _ _)))
      obtain ⟨x0, x1, x2, x3, x4, x5⟩ := Bx.all (HBX.out.below HB3.out HBX.out.lt)
      clear h1 h2 hs1 hs2 hn1 hn2
      go_wp2_with (go_at_call 13; refine HSM.out.mono ?_; rintro e w4 ⟨⟨β, rfl, hβ⟩, hb4⟩; have HBT := Lib.hid hβ; have HB4 := Lib.hid hb4; clear hβ hb4)
      go_ret
      exact ⟨⟨β, rfl, HBT.out.trans HI.out⟩, tr HWE.out HB4.out⟩
    · have hd : ((y : Int) == 0) = false := by simp; omega
      subst hx0
      have hn : ¬ alk a b := fun h => by
        rcases HY.out with ⟨h1, h2⟩ | ⟨h1, _⟩
        · exact h1 (h2.symm.trans h.2.1)
        · exact hy0 h1
      have HN := Lib.hid hn
      clear hn hy0
      go_wp2_with fail
      go_ret
      exact ⟨⟨false, rfl, by simp [HN.out]⟩, HWE.out⟩
  · have hd : ((x : Int) == 0) = false := by simp; omega
    have hn : ¬ alk a b := fun h => by
      rcases HX.out with ⟨h1, h2⟩ | ⟨h1, _⟩
      · exact h1 (h2.symm.trans h.1)
      · exact hx0 h1
    have HN := Lib.hid hn
    clear hn hx0
    go_wp2_with fail
    go_ret
    exact ⟨⟨false, rfl, by simp [HN.out]⟩, HWE.out⟩
end Go.Proofs.YtemkfpofmblblaaDoor
namespace Go.Proofs.YtemkfpofmblblaaDoor
open Go.RowKit Go.Sort

def C0 (A W : World) : Prop := Below A.heap.size A W
theorem C0.al {A W : World} (h : C0 A W) {o : Obj} : C0 A (W.alloc o) := Below.alloc h (Below.size h) o
theorem C0.dr {A W : World} (h : C0 A W) : C0 A W.drew := Below.drew h
theorem C0.go {A W W' : World} (h : C0 A W) (k : Below W.heap.size W W') : C0 A W' := tr h k
theorem eq_C {A W : World} {t : T} {cs ds : List Value} (h : C0 A W) (hq : QQ t) (hN : Nd W t cs) (hM : Nd W t ds) : Calls Tryd.prog 13 #[.agg cs.toArray, .agg ds.toArray] W fun e w' => e = .returned (.bool true) ∧ C0 A w' := by
  refine (eqNode_any (dp t) t t cs ds W (Nat.le_refl _) hq.1 hq.2 hN hM).mono ?_
  rintro e w' ⟨⟨β, rfl, hβ⟩, hb⟩
  rw [hβ.2 rfl]
  exact ⟨rfl, h.go hb⟩
theorem bool_same {a b : Bool} (h : a = true ↔ b = true) : a = b := by cases a <;> cases b <;> simp_all
/-- Two trees in two boxes, beside the boxes of the arguments. -/
def XY (w : World) (v0 v1 v2 v3 v4 v5 u0 u1 u2 u3 u4 u5 : Value) (X Y : T) (s5 s6 : Value) (W : World) : Prop :=
  Two w v0 v1 v2 v3 v4 v5 u0 u1 u2 u3 u4 u5 W ∧ ∃ p q x0 x1 x2 x3 x4 x5 y0 y1 y2 y3 y4 y5, s5 = .pointer (some ⟨p, 0, none⟩) ∧ s6 = .pointer (some ⟨q, 0, none⟩) ∧ Bx W p x0 x1 x2 x3 x4 x5 ∧ Bx W q y0 y1 y2 y3 y4 y5 ∧ Nd W X [x0, x1, x2, x3, x4, x5] ∧ Nd W Y [y0, y1, y2, y3, y4, y5]
theorem xy_fin {w w1 w2 V : World} {v0 v1 v2 v3 v4 v5 u0 u1 u2 u3 u4 u5 : Value} {X Y : T} {lo1 lo2 p q : Nat} {x0 x1 x2 x3 x4 x5 y0 y1 y2 y3 y4 y5 : Value} (hT : Two w v0 v1 v2 v3 v4 v5 u0 u1 u2 u3 u4 u5 w2) (h1 : NdO (fun b => lo1 ≤ b) w1 X [x0, x1, x2, x3, x4, x5]) (hb : Below w1.heap.size w1 w2) (h2 : NdO (fun b => lo2 ≤ b) w2 Y [y0, y1, y2, y3, y4, y5])
    (hk : ∀ b, b < w2.heap.size → b ≠ p → b ≠ q → V.heap[b]? = w2.heap[b]?) (he : V.os = w2.os ∧ V.tape = w2.tape ∧ V.output = w2.output) (hs : w2.heap.size ≤ V.heap.size) (hp : Bx V p x0 x1 x2 x3 x4 x5) (hq : Bx V q y0 y1 y2 y3 y4 y5)
    (p0 : w.heap.size + 2 ≤ p) (q0 : w.heap.size + 2 ≤ q) (p1 : p < lo1 ∨ w1.heap.size ≤ p) (p2 : p < lo2 ∨ w2.heap.size ≤ p) (q1 : q < lo1 ∨ w1.heap.size ≤ q) (q2 : q < lo2 ∨ w2.heap.size ≤ q) :
    XY w v0 v1 v2 v3 v4 v5 u0 u1 u2 u3 u4 u5 X Y (.pointer (some ⟨p, 0, none⟩)) (.pointer (some ⟨q, 0, none⟩)) V := by
  have hs2 := hT.2.1
  have hs1 := hb.size
  refine ⟨⟨⟨he.1.trans hT.1.os, he.2.1.trans hT.1.tape, he.2.2.trans hT.1.output, Nat.le_trans hT.1.size hs, fun b hb => (hk b (by omega) (by omega) (by omega)).trans (hT.1.block b hb)⟩, by omega, (hk _ (by omega) (by omega) (by omega)).trans hT.2.2.1, (hk _ (by omega) (by omega) (by omega)).trans hT.2.2.2⟩,
    p, q, _, _, _, _, _, _, _, _, _, _, _, _, rfl, rfl, hp, hq, NdO.nd _ _ (NdO.step (U' := fun _ => True) (fun b hb1 hl => ⟨(hk b (by omega) (by omega) (by omega)).trans (hb.block b hl), trivial⟩) _ _ h1), NdO.nd _ _ (NdO.step (U' := fun _ => True) (fun b hb1 hl => ⟨hk b hl (by omega) (by omega), trivial⟩) _ _ h2)⟩
section
variable {w w1 w2 : World} {v0 v1 v2 v3 v4 v5 u0 u1 u2 u3 u4 u5 : Value} {X Y : T} {lo1 lo2 p q : Nat} {x0 x1 x2 x3 x4 x5 y0 y1 y2 y3 y4 y5 z0 z1 z2 z3 z4 z5 r0 r1 r2 r3 r4 r5 : Value} (hT : Two w v0 v1 v2 v3 v4 v5 u0 u1 u2 u3 u4 u5 w2) (h1 : NdO (fun b => lo1 ≤ b) w1 X [x0, x1, x2, x3, x4, x5]) (hb : Below w1.heap.size w1 w2) (h2 : NdO (fun b => lo2 ≤ b) w2 Y [y0, y1, y2, y3, y4, y5])
include hT h1 hb h2
theorem xy_a (hp : Bx w2 p z0 z1 z2 z3 z4 z5) (hq : Bx w2 q r0 r1 r2 r3 r4 r5) (p0 : w.heap.size + 2 ≤ p) (q0 : w.heap.size + 2 ≤ q) (p1 : p < lo1 ∨ w1.heap.size ≤ p) (p2 : p < lo2 ∨ w2.heap.size ≤ p) (q1 : q < lo1 ∨ w1.heap.size ≤ q) (q2 : q < lo2 ∨ w2.heap.size ≤ q) (hn : p ≠ q) :
    XY w v0 v1 v2 v3 v4 v5 u0 u1 u2 u3 u4 u5 X Y (.pointer (some ⟨p, 0, none⟩)) (.pointer (some ⟨q, 0, none⟩)) (put6 (put6 w2 p 0 x0 x1 x2 x3 x4 x5) q 0 y0 y1 y2 y3 y4 y5) := by
  have hB := put6_below (put6_below (Below.refl 0 w2) p 0 x0 x1 x2 x3 x4 x5 (Nat.zero_le _)) q 0 y0 y1 y2 y3 y4 y5 (Nat.zero_le _)
  exact xy_fin hT h1 hb h2 (fun b _ e1 e2 => by rw [put6_other _ _ _ _ _ _ _ _ _ _ e2, put6_other _ _ _ _ _ _ _ _ _ _ e1]) ⟨hB.os, hB.tape, hB.output⟩ (by rw [put6_size, put6_size]; exact Nat.le_refl _) (put6_blk (Bx.put6 hp _ _ _ _ _ _) hn _ _ _ _ _ _) (Bx.put6 (put6_blk hq (Ne.symm hn) _ _ _ _ _ _) _ _ _ _ _ _) p0 q0 p1 p2 q1 q2
theorem xy_b (hp : Bx w2 p z0 z1 z2 z3 z4 z5) (p0 : w.heap.size + 2 ≤ p) (p1 : p < lo1 ∨ w1.heap.size ≤ p) (p2 : p < lo2 ∨ w2.heap.size ≤ p) :
    XY w v0 v1 v2 v3 v4 v5 u0 u1 u2 u3 u4 u5 X Y (.pointer (some ⟨p, 0, none⟩)) (.pointer (some ⟨w2.heap.size, 0, none⟩)) ((put6 w2 p 0 x0 x1 x2 x3 x4 x5).alloc (.cells #[y0, y1, y2, y3, y4, y5] 27)) := by
  have hB := (put6_below (Below.refl 0 w2) p 0 x0 x1 x2 x3 x4 x5 (Nat.zero_le _)).alloc (Nat.zero_le _) (.cells #[y0, y1, y2, y3, y4, y5] 27)
  have hl := Blk.lt hp
  have hs2 := hT.2.1
  have hs1 := hb.size
  refine xy_fin hT h1 hb h2 (fun b hl e1 _ => (Below.heap_alloc _ _ b (by rw [put6_size]; exact hl)).trans (put6_other _ _ _ _ _ _ _ _ _ _ e1)) ⟨hB.os, hB.tape, hB.output⟩ (by rw [World.size_alloc, put6_size]; omega) ((Bx.put6 hp _ _ _ _ _ _).alloc _) ?_ p0 hs2 p1 p2 (.inr hs1) (.inr (Nat.le_refl _))
  have := Blk.new (put6 w2 p 0 x0 x1 x2 x3 x4 x5) 27 #[y0, y1, y2, y3, y4, y5]
  rwa [put6_size] at this
theorem xy_c (hq : Bx w2 q r0 r1 r2 r3 r4 r5) (q0 : w.heap.size + 2 ≤ q) (q1 : q < lo1 ∨ w1.heap.size ≤ q) (q2 : q < lo2 ∨ w2.heap.size ≤ q) :
    XY w v0 v1 v2 v3 v4 v5 u0 u1 u2 u3 u4 u5 X Y (.pointer (some ⟨w2.heap.size, 0, none⟩)) (.pointer (some ⟨q, 0, none⟩)) ((put6 w2 q 0 y0 y1 y2 y3 y4 y5).alloc (.cells #[x0, x1, x2, x3, x4, x5] 27)) := by
  have hB := (put6_below (Below.refl 0 w2) q 0 y0 y1 y2 y3 y4 y5 (Nat.zero_le _)).alloc (Nat.zero_le _) (.cells #[x0, x1, x2, x3, x4, x5] 27)
  have hl := Blk.lt hq
  have hs2 := hT.2.1
  have hs1 := hb.size
  refine xy_fin hT h1 hb h2 (fun b hl _ e1 => (Below.heap_alloc _ _ b (by rw [put6_size]; exact hl)).trans (put6_other _ _ _ _ _ _ _ _ _ _ e1)) ⟨hB.os, hB.tape, hB.output⟩ (by rw [World.size_alloc, put6_size]; omega) ?_ ((Bx.put6 hq _ _ _ _ _ _).alloc _) hs2 q0 (.inr hs1) (.inr (Nat.le_refl _)) q1 q2
  have := Blk.new (put6 w2 q 0 y0 y1 y2 y3 y4 y5) 27 #[x0, x1, x2, x3, x4, x5]
  rwa [put6_size] at this
theorem xy_d : XY w v0 v1 v2 v3 v4 v5 u0 u1 u2 u3 u4 u5 X Y (.pointer (some ⟨w2.heap.size, 0, none⟩)) (.pointer (some ⟨w2.heap.size + 1, 0, none⟩)) ((w2.alloc (.cells #[x0, x1, x2, x3, x4, x5] 27)).alloc (.cells #[y0, y1, y2, y3, y4, y5] 27)) := by
  have hB := ((Below.refl 0 w2).alloc (Nat.zero_le _) (.cells #[x0, x1, x2, x3, x4, x5] 27)).alloc (Nat.zero_le _) (.cells #[y0, y1, y2, y3, y4, y5] 27)
  have hs2 := hT.2.1
  have hs1 := hb.size
  refine xy_fin hT h1 hb h2 (fun b hl _ _ => (Below.heap_alloc _ _ b (by rw [World.size_alloc]; omega)).trans (Below.heap_alloc _ _ b hl)) ⟨hB.os, hB.tape, hB.output⟩ (by simp only [World.size_alloc]; omega) ((Blk.new _ _ _).alloc _) ?_ hs2 (by omega) (.inr hs1) (.inr (Nat.le_refl _)) (.inr (by omega)) (.inr (by omega))
  have := Blk.new (w2.alloc (.cells #[x0, x1, x2, x3, x4, x5] 27)) 27 #[y0, y1, y2, y3, y4, y5]
  rwa [World.size_alloc] at this
theorem xy_e : XY w v0 v1 v2 v3 v4 v5 u0 u1 u2 u3 u4 u5 X Y (.pointer (some ⟨w2.heap.size + 1, 0, none⟩)) (.pointer (some ⟨w2.heap.size, 0, none⟩)) ((w2.alloc (.cells #[y0, y1, y2, y3, y4, y5] 27)).alloc (.cells #[x0, x1, x2, x3, x4, x5] 27)) := by
  have hB := ((Below.refl 0 w2).alloc (Nat.zero_le _) (.cells #[y0, y1, y2, y3, y4, y5] 27)).alloc (Nat.zero_le _) (.cells #[x0, x1, x2, x3, x4, x5] 27)
  have hs2 := hT.2.1
  have hs1 := hb.size
  refine xy_fin hT h1 hb h2 (fun b hl _ _ => (Below.heap_alloc _ _ b (by rw [World.size_alloc]; omega)).trans (Below.heap_alloc _ _ b hl)) ⟨hB.os, hB.tape, hB.output⟩ (by simp only [World.size_alloc]; omega) ?_ ((Blk.new _ _ _).alloc _) (by omega) hs2 (.inr (by omega)) (.inr (by omega)) (.inr hs1) (.inr (Nat.le_refl _))
  have := Blk.new (w2.alloc (.cells #[y0, y1, y2, y3, y4, y5] 27)) 27 #[x0, x1, x2, x3, x4, x5]
  rwa [World.size_alloc] at this
theorem xy_a2 (hp : Bx w2 p z0 z1 z2 z3 z4 z5) (hq : Bx w2 q r0 r1 r2 r3 r4 r5) (p0 : w.heap.size + 2 ≤ p) (q0 : w.heap.size + 2 ≤ q) (p1 : p < lo1 ∨ w1.heap.size ≤ p) (p2 : p < lo2 ∨ w2.heap.size ≤ p) (q1 : q < lo1 ∨ w1.heap.size ≤ q) (q2 : q < lo2 ∨ w2.heap.size ≤ q) (hn : p ≠ q) :
    XY w v0 v1 v2 v3 v4 v5 u0 u1 u2 u3 u4 u5 X Y (.pointer (some ⟨p, 0, none⟩)) (.pointer (some ⟨q, 0, none⟩)) (((((((((((((w2).setCell ⟨p, 0, none⟩ x0).setCell ⟨p, 1, none⟩ x1).setCell ⟨p, 2, none⟩ x2).setCell ⟨p, 3, none⟩ x3).setCell ⟨p, 4, none⟩ x4).setCell ⟨p, 5, none⟩ x5).setCell ⟨q, 0, none⟩ y0).setCell ⟨q, 1, none⟩ y1).setCell ⟨q, 2, none⟩ y2).setCell ⟨q, 3, none⟩ y3).setCell ⟨q, 4, none⟩ y4).setCell ⟨q, 5, none⟩ y5) := xy_a hT h1 hb h2 hp hq p0 q0 p1 p2 q1 q2 hn
theorem xy_b2 (hp : Bx w2 p z0 z1 z2 z3 z4 z5) (p0 : w.heap.size + 2 ≤ p) (p1 : p < lo1 ∨ w1.heap.size ≤ p) (p2 : p < lo2 ∨ w2.heap.size ≤ p) :
    XY w v0 v1 v2 v3 v4 v5 u0 u1 u2 u3 u4 u5 X Y (.pointer (some ⟨p, 0, none⟩)) (.pointer (some ⟨w2.heap.size, 0, none⟩)) ((((((((w2).setCell ⟨p, 0, none⟩ x0).setCell ⟨p, 1, none⟩ x1).setCell ⟨p, 2, none⟩ x2).setCell ⟨p, 3, none⟩ x3).setCell ⟨p, 4, none⟩ x4).setCell ⟨p, 5, none⟩ x5).alloc (.cells #[y0, y1, y2, y3, y4, y5] 27)) := xy_b hT h1 hb h2 hp p0 p1 p2
theorem xy_c2 (hq : Bx w2 q r0 r1 r2 r3 r4 r5) (q0 : w.heap.size + 2 ≤ q) (q1 : q < lo1 ∨ w1.heap.size ≤ q) (q2 : q < lo2 ∨ w2.heap.size ≤ q) :
    XY w v0 v1 v2 v3 v4 v5 u0 u1 u2 u3 u4 u5 X Y (.pointer (some ⟨w2.heap.size, 0, none⟩)) (.pointer (some ⟨q, 0, none⟩)) ((((((((w2).setCell ⟨q, 0, none⟩ y0).setCell ⟨q, 1, none⟩ y1).setCell ⟨q, 2, none⟩ y2).setCell ⟨q, 3, none⟩ y3).setCell ⟨q, 4, none⟩ y4).setCell ⟨q, 5, none⟩ y5).alloc (.cells #[x0, x1, x2, x3, x4, x5] 27)) := xy_c hT h1 hb h2 hq q0 q1 q2
end
theorem born2 {w w' : World} {cs ds : Array Value} {t : TypeId} (hb : Below ((w.alloc (.cells cs t)).alloc (.cells ds t)).heap.size ((w.alloc (.cells cs t)).alloc (.cells ds t)) w') : Blk w' w.heap.size t cs ∧ Blk w' (w.heap.size + 1) t ds := by
  refine ⟨((Blk.new w t cs).alloc _).below hb (by simp; omega), ?_⟩
  have := (Blk.new (w.alloc (.cells cs t)) t ds).below hb (by simp)
  rwa [World.size_alloc] at this
theorem born2_eq {w w' : World} {n : Nat} {cs ds : Array Value} {t : TypeId} (hn : w.heap.size = n) (hb : Below (((w.alloc (.cells cs t)).alloc (.cells ds t)).drew).heap.size (((w.alloc (.cells cs t)).alloc (.cells ds t)).drew) w') : Blk w' n t cs ∧ Blk w' (n + 1) t ds := by
  rw [← hn]
  have hb' : Below ((w.alloc (.cells cs t)).alloc (.cells ds t)).heap.size ((w.alloc (.cells cs t)).alloc (.cells ds t)) w' := ((Below.refl _ _).drew).trans hb
  exact born2 hb'

set_option maxRecDepth 100000 in
set_option maxHeartbeats 4000000 in
theorem normalAlike_walk (ta : T) (ca : List Value) (tb : T) (cb : List Value) (w : World) (hT : Tab w) (hna : Nd w ta ca) (hnb : Nd w tb cb) : Calls Tryd.prog 6 #[.agg ca.toArray, .agg cb.toArray] w fun e w' => e = .returned (.bool true) ∧ Below w.heap.size w w' := by
  obtain ⟨k, n, u, s, A1, m1, c1, A2, m2, c2, rfl⟩ := hna.shape
  obtain ⟨k', n', u', s', A1', m1', c1', A2', m2', c2', rfl⟩ := hnb.shape
  have HFA := Lib.hid fun W (h : Below w.heap.size w W) => few9_any ta _ W (hna.bel h)
  have HFB := Lib.hid fun W (h : Below w.heap.size w W) => few9_any tb _ W (hnb.bel h)
  have HA : Hid (∀ W, Hid (Two w (.int .i64 k) (.int .i64 n) (.int .u64 u) (.string s) (.slice A1 m1 c1) (.slice A2 m2 c2) (.int .i64 k') (.int .i64 n') (.int .u64 u') (.string s') (.slice A1' m1' c1') (.slice A2' m2' c2') W) → Calls Tryd.prog 11 #[.agg #[.int .i64 k, .int .i64 n, .int .u64 u, .string s, .slice A1 m1 c1, .slice A2 m2 c2]] W fun e w' => (∃ (k n u : Int) (s : ByteArray) (A1 : Option Addr) (m1 c1 : Nat) (A2 : Option Addr) (m2 c2 : Nat), e = .returned (.agg #[.int .i64 k, .int .i64 n, .int .u64 u, .string s, .slice A1 m1 c1, .slice A2 m2 c2]) ∧ Hid (NdO (fun b => W.heap.size ≤ b) w' (fewT ta) [.int .i64 k, .int .i64 n, .int .u64 u, .string s, .slice A1 m1 c1, .slice A2 m2 c2])) ∧ Hid (Two w (.int .i64 k) (.int .i64 n) (.int .u64 u) (.string s) (.slice A1 m1 c1) (.slice A2 m2 c2) (.int .i64 k') (.int .i64 n') (.int .u64 u') (.string s') (.slice A1' m1' c1') (.slice A2' m2' c2') w') ∧ Hid (Below W.heap.size W w')) := Lib.hid fun W H => by
    refine (HFA.out W H.out.1).mono ?_
    rintro e w' ⟨⟨cs', rfl, hn⟩, hb⟩
    obtain ⟨k, n, u, s, A1, m1, c1, A2, m2, c2, rfl⟩ := hn.shape6
    exact ⟨⟨k, n, u, s, A1, m1, c1, A2, m2, c2, rfl, Lib.hid hn⟩, Lib.hid (H.out.below hb), Lib.hid hb⟩
  have HB : Hid (∀ W, Hid (Two w (.int .i64 k) (.int .i64 n) (.int .u64 u) (.string s) (.slice A1 m1 c1) (.slice A2 m2 c2) (.int .i64 k') (.int .i64 n') (.int .u64 u') (.string s') (.slice A1' m1' c1') (.slice A2' m2' c2') W) → Calls Tryd.prog 11 #[.agg #[.int .i64 k', .int .i64 n', .int .u64 u', .string s', .slice A1' m1' c1', .slice A2' m2' c2']] W fun e w' => (∃ (k n u : Int) (s : ByteArray) (A1 : Option Addr) (m1 c1 : Nat) (A2 : Option Addr) (m2 c2 : Nat), e = .returned (.agg #[.int .i64 k, .int .i64 n, .int .u64 u, .string s, .slice A1 m1 c1, .slice A2 m2 c2]) ∧ Hid (NdO (fun b => W.heap.size ≤ b) w' (fewT tb) [.int .i64 k, .int .i64 n, .int .u64 u, .string s, .slice A1 m1 c1, .slice A2 m2 c2])) ∧ Hid (Two w (.int .i64 k) (.int .i64 n) (.int .u64 u) (.string s) (.slice A1 m1 c1) (.slice A2 m2 c2) (.int .i64 k') (.int .i64 n') (.int .u64 u') (.string s') (.slice A1' m1' c1') (.slice A2' m2' c2') w') ∧ Hid (Below W.heap.size W w')) := Lib.hid fun W H => by
    refine (HFB.out W H.out.1).mono ?_
    rintro e w' ⟨⟨cs', rfl, hn⟩, hb⟩
    obtain ⟨k, n, u, s, A1, m1, c1, A2, m2, c2, rfl⟩ := hn.shape6
    exact ⟨⟨k, n, u, s, A1, m1, c1, A2, m2, c2, rfl, Lib.hid hn⟩, Lib.hid (H.out.below hb), Lib.hid hb⟩
  have HT0 : Hid (Two w (.int .i64 k) (.int .i64 n) (.int .u64 u) (.string s) (.slice A1 m1 c1) (.slice A2 m2 c2) (.int .i64 k') (.int .i64 n') (.int .u64 u') (.string s') (.slice A1' m1' c1') (.slice A2' m2' c2') ((w.alloc (.cells #[.int .i64 k, .int .i64 n, .int .u64 u, .string s, .slice A1 m1 c1, .slice A2 m2 c2] 27)).alloc (.cells #[.int .i64 k', .int .i64 n', .int .u64 u', .string s', .slice A1' m1' c1', .slice A2' m2' c2'] 27))) := Lib.hid (Two.start w _ _ _ _ _ _ _ _ _ _ _ _)
  have HT0d := Lib.hid (HT0.out.below (Below.refl _ _).drew)
  have HT0ad := Lib.hid ((HT0.out.below ((Below.refl _ _).alloc (Nat.le_refl _) (.cells #[.int .i64 0, .int .i64 0, .int .u64 0, .string ⟨#[]⟩, .slice none 0 0, .slice none 0 0] 27))).below (Below.refl _ _).drew)
  have HT0aad := Lib.hid (((HT0.out.below ((Below.refl _ _).alloc (Nat.le_refl _) (.cells #[.int .i64 0, .int .i64 0, .int .u64 0, .string ⟨#[]⟩, .slice none 0 0, .slice none 0 0] 27))).below ((Below.refl _ _).alloc (Nat.le_refl _) (.cells #[.int .i64 0, .int .i64 0, .int .u64 0, .string ⟨#[]⟩, .slice none 0 0, .slice none 0 0] 27))).below (Below.refl _ _).drew)
  have hcells : ∀ W, Hid (Two w (.int .i64 k) (.int .i64 n) (.int .u64 u) (.string s) (.slice A1 m1 c1) (.slice A2 m2 c2) (.int .i64 k') (.int .i64 n') (.int .u64 u') (.string s') (.slice A1' m1' c1') (.slice A2' m2' c2') W) → Hid (Two w (.int .i64 k) (.int .i64 n) (.int .u64 u) (.string s) (.slice A1 m1 c1) (.slice A2 m2 c2) (.int .i64 k') (.int .i64 n') (.int .u64 u') (.string s') (.slice A1' m1' c1') (.slice A2' m2' c2') W) ∧ W.cell? ⟨w.heap.size, 0, none⟩ = some (.int .i64 k) ∧ W.cell? ⟨w.heap.size, 1, none⟩ = some (.int .i64 n) ∧ W.cell? ⟨w.heap.size, 2, none⟩ = some (.int .u64 u) ∧ W.cell? ⟨w.heap.size, 3, none⟩ = some (.string s) ∧ W.cell? ⟨w.heap.size, 4, none⟩ = some (.slice A1 m1 c1) ∧ W.cell? ⟨w.heap.size, 5, none⟩ = some (.slice A2 m2 c2) ∧ W.cell? ⟨w.heap.size + 1, 0, none⟩ = some (.int .i64 k') ∧ W.cell? ⟨w.heap.size + 1, 1, none⟩ = some (.int .i64 n') ∧ W.cell? ⟨w.heap.size + 1, 2, none⟩ = some (.int .u64 u') ∧ W.cell? ⟨w.heap.size + 1, 3, none⟩ = some (.string s') ∧ W.cell? ⟨w.heap.size + 1, 4, none⟩ = some (.slice A1' m1' c1') ∧ W.cell? ⟨w.heap.size + 1, 5, none⟩ = some (.slice A2' m2' c2') := fun W H => by
    obtain ⟨a0, a1, a2, a3, a4, a5⟩ := Bx.all H.out.2.2.1
    exact ⟨H, a0, a1, a2, a3, a4, a5, Bx.all H.out.2.2.2⟩
  have hset : ∀ (W : World) (o : Nat) (a0 a1 a2 a3 a4 a5 : Value), Hid (Two w (.int .i64 k) (.int .i64 n) (.int .u64 u) (.string s) (.slice A1 m1 c1) (.slice A2 m2 c2) (.int .i64 k') (.int .i64 n') (.int .u64 u') (.string s') (.slice A1' m1' c1') (.slice A2' m2' c2') W) → Hid (w.heap.size + 2 ≤ o) → Hid (Two w (.int .i64 k) (.int .i64 n) (.int .u64 u) (.string s) (.slice A1 m1 c1) (.slice A2 m2 c2) (.int .i64 k') (.int .i64 n') (.int .u64 u') (.string s') (.slice A1' m1' c1') (.slice A2' m2' c2') ((((((W.setCell ⟨o, 0, none⟩ a0).setCell ⟨o, 1, none⟩ a1).setCell ⟨o, 2, none⟩ a2).setCell ⟨o, 3, none⟩ a3).setCell ⟨o, 4, none⟩ a4).setCell ⟨o, 5, none⟩ a5)) := fun W o a0 a1 a2 a3 a4 a5 H ho =>
      Lib.hid (put6_two H.out 0 ho.out _ _ _ _ _ _)
  obtain ⟨_, x0, x1, x2, x3, x4, x5, y0, y1, y2, y3, y4, y5⟩ := hcells _ HT0
  clear HFA HFB hna hnb
  have hc2 : ∀ (W : World) (o : Nat) (a0 a1 a2 a3 a4 a5 : Value), Hid (Two w (.int .i64 k) (.int .i64 n) (.int .u64 u) (.string s) (.slice A1 m1 c1) (.slice A2 m2 c2) (.int .i64 k') (.int .i64 n') (.int .u64 u') (.string s') (.slice A1' m1' c1') (.slice A2' m2' c2') W) → Hid (w.heap.size + 2 ≤ o) → Hid (Two w (.int .i64 k) (.int .i64 n) (.int .u64 u) (.string s) (.slice A1 m1 c1) (.slice A2 m2 c2) (.int .i64 k') (.int .i64 n') (.int .u64 u') (.string s') (.slice A1' m1' c1') (.slice A2' m2' c2') (((((((W).setCell ⟨o, 0, none⟩ a0).setCell ⟨o, 1, none⟩ a1).setCell ⟨o, 2, none⟩ a2).setCell ⟨o, 3, none⟩ a3).setCell ⟨o, 4, none⟩ a4).setCell ⟨o, 5, none⟩ a5)) ∧ (((((((W).setCell ⟨o, 0, none⟩ a0).setCell ⟨o, 1, none⟩ a1).setCell ⟨o, 2, none⟩ a2).setCell ⟨o, 3, none⟩ a3).setCell ⟨o, 4, none⟩ a4).setCell ⟨o, 5, none⟩ a5).cell? ⟨w.heap.size, 0, none⟩ = some (.int .i64 k) ∧ (((((((W).setCell ⟨o, 0, none⟩ a0).setCell ⟨o, 1, none⟩ a1).setCell ⟨o, 2, none⟩ a2).setCell ⟨o, 3, none⟩ a3).setCell ⟨o, 4, none⟩ a4).setCell ⟨o, 5, none⟩ a5).cell? ⟨w.heap.size, 1, none⟩ = some (.int .i64 n) ∧ (((((((W).setCell ⟨o, 0, none⟩ a0).setCell ⟨o, 1, none⟩ a1).setCell ⟨o, 2, none⟩ a2).setCell ⟨o, 3, none⟩ a3).setCell ⟨o, 4, none⟩ a4).setCell ⟨o, 5, none⟩ a5).cell? ⟨w.heap.size, 2, none⟩ = some (.int .u64 u) ∧ (((((((W).setCell ⟨o, 0, none⟩ a0).setCell ⟨o, 1, none⟩ a1).setCell ⟨o, 2, none⟩ a2).setCell ⟨o, 3, none⟩ a3).setCell ⟨o, 4, none⟩ a4).setCell ⟨o, 5, none⟩ a5).cell? ⟨w.heap.size, 3, none⟩ = some (.string s) ∧ (((((((W).setCell ⟨o, 0, none⟩ a0).setCell ⟨o, 1, none⟩ a1).setCell ⟨o, 2, none⟩ a2).setCell ⟨o, 3, none⟩ a3).setCell ⟨o, 4, none⟩ a4).setCell ⟨o, 5, none⟩ a5).cell? ⟨w.heap.size, 4, none⟩ = some (.slice A1 m1 c1) ∧ (((((((W).setCell ⟨o, 0, none⟩ a0).setCell ⟨o, 1, none⟩ a1).setCell ⟨o, 2, none⟩ a2).setCell ⟨o, 3, none⟩ a3).setCell ⟨o, 4, none⟩ a4).setCell ⟨o, 5, none⟩ a5).cell? ⟨w.heap.size, 5, none⟩ = some (.slice A2 m2 c2) ∧ (((((((W).setCell ⟨o, 0, none⟩ a0).setCell ⟨o, 1, none⟩ a1).setCell ⟨o, 2, none⟩ a2).setCell ⟨o, 3, none⟩ a3).setCell ⟨o, 4, none⟩ a4).setCell ⟨o, 5, none⟩ a5).cell? ⟨w.heap.size + 1, 0, none⟩ = some (.int .i64 k') ∧ (((((((W).setCell ⟨o, 0, none⟩ a0).setCell ⟨o, 1, none⟩ a1).setCell ⟨o, 2, none⟩ a2).setCell ⟨o, 3, none⟩ a3).setCell ⟨o, 4, none⟩ a4).setCell ⟨o, 5, none⟩ a5).cell? ⟨w.heap.size + 1, 1, none⟩ = some (.int .i64 n') ∧ (((((((W).setCell ⟨o, 0, none⟩ a0).setCell ⟨o, 1, none⟩ a1).setCell ⟨o, 2, none⟩ a2).setCell ⟨o, 3, none⟩ a3).setCell ⟨o, 4, none⟩ a4).setCell ⟨o, 5, none⟩ a5).cell? ⟨w.heap.size + 1, 2, none⟩ = some (.int .u64 u') ∧ (((((((W).setCell ⟨o, 0, none⟩ a0).setCell ⟨o, 1, none⟩ a1).setCell ⟨o, 2, none⟩ a2).setCell ⟨o, 3, none⟩ a3).setCell ⟨o, 4, none⟩ a4).setCell ⟨o, 5, none⟩ a5).cell? ⟨w.heap.size + 1, 3, none⟩ = some (.string s') ∧ (((((((W).setCell ⟨o, 0, none⟩ a0).setCell ⟨o, 1, none⟩ a1).setCell ⟨o, 2, none⟩ a2).setCell ⟨o, 3, none⟩ a3).setCell ⟨o, 4, none⟩ a4).setCell ⟨o, 5, none⟩ a5).cell? ⟨w.heap.size + 1, 4, none⟩ = some (.slice A1' m1' c1') ∧ (((((((W).setCell ⟨o, 0, none⟩ a0).setCell ⟨o, 1, none⟩ a1).setCell ⟨o, 2, none⟩ a2).setCell ⟨o, 3, none⟩ a3).setCell ⟨o, 4, none⟩ a4).setCell ⟨o, 5, none⟩ a5).cell? ⟨w.heap.size + 1, 5, none⟩ = some (.slice A2' m2' c2') := fun W o a0 a1 a2 a3 a4 a5 H ho => hcells _ (hset W o a0 a1 a2 a3 a4 a5 H ho)
  have hc3 : ∀ (W : World) (o o2 : Nat) (a0 a1 a2 a3 a4 a5 b0 b1 b2 b3 b4 b5 : Value), Hid (Two w (.int .i64 k) (.int .i64 n) (.int .u64 u) (.string s) (.slice A1 m1 c1) (.slice A2 m2 c2) (.int .i64 k') (.int .i64 n') (.int .u64 u') (.string s') (.slice A1' m1' c1') (.slice A2' m2' c2') W) → Hid (w.heap.size + 2 ≤ o) → Hid (w.heap.size + 2 ≤ o2) → Hid (Two w (.int .i64 k) (.int .i64 n) (.int .u64 u) (.string s) (.slice A1 m1 c1) (.slice A2 m2 c2) (.int .i64 k') (.int .i64 n') (.int .u64 u') (.string s') (.slice A1' m1' c1') (.slice A2' m2' c2') (((((((((((((W).setCell ⟨o, 0, none⟩ a0).setCell ⟨o, 1, none⟩ a1).setCell ⟨o, 2, none⟩ a2).setCell ⟨o, 3, none⟩ a3).setCell ⟨o, 4, none⟩ a4).setCell ⟨o, 5, none⟩ a5).setCell ⟨o2, 0, none⟩ b0).setCell ⟨o2, 1, none⟩ b1).setCell ⟨o2, 2, none⟩ b2).setCell ⟨o2, 3, none⟩ b3).setCell ⟨o2, 4, none⟩ b4).setCell ⟨o2, 5, none⟩ b5)) ∧ (((((((((((((W).setCell ⟨o, 0, none⟩ a0).setCell ⟨o, 1, none⟩ a1).setCell ⟨o, 2, none⟩ a2).setCell ⟨o, 3, none⟩ a3).setCell ⟨o, 4, none⟩ a4).setCell ⟨o, 5, none⟩ a5).setCell ⟨o2, 0, none⟩ b0).setCell ⟨o2, 1, none⟩ b1).setCell ⟨o2, 2, none⟩ b2).setCell ⟨o2, 3, none⟩ b3).setCell ⟨o2, 4, none⟩ b4).setCell ⟨o2, 5, none⟩ b5).cell? ⟨w.heap.size, 0, none⟩ = some (.int .i64 k) ∧ (((((((((((((W).setCell ⟨o, 0, none⟩ a0).setCell ⟨o, 1, none⟩ a1).setCell ⟨o, 2, none⟩ a2).setCell ⟨o, 3, none⟩ a3).setCell ⟨o, 4, none⟩ a4).setCell ⟨o, 5, none⟩ a5).setCell ⟨o2, 0, none⟩ b0).setCell ⟨o2, 1, none⟩ b1).setCell ⟨o2, 2, none⟩ b2).setCell ⟨o2, 3, none⟩ b3).setCell ⟨o2, 4, none⟩ b4).setCell ⟨o2, 5, none⟩ b5).cell? ⟨w.heap.size, 1, none⟩ = some (.int .i64 n) ∧ (((((((((((((W).setCell ⟨o, 0, none⟩ a0).setCell ⟨o, 1, none⟩ a1).setCell ⟨o, 2, none⟩ a2).setCell ⟨o, 3, none⟩ a3).setCell ⟨o, 4, none⟩ a4).setCell ⟨o, 5, none⟩ a5).setCell ⟨o2, 0, none⟩ b0).setCell ⟨o2, 1, none⟩ b1).setCell ⟨o2, 2, none⟩ b2).setCell ⟨o2, 3, none⟩ b3).setCell ⟨o2, 4, none⟩ b4).setCell ⟨o2, 5, none⟩ b5).cell? ⟨w.heap.size, 2, none⟩ = some (.int .u64 u) ∧ (((((((((((((W).setCell ⟨o, 0, none⟩ a0).setCell ⟨o, 1, none⟩ a1).setCell ⟨o, 2, none⟩ a2).setCell ⟨o, 3, none⟩ a3).setCell ⟨o, 4, none⟩ a4).setCell ⟨o, 5, none⟩ a5).setCell ⟨o2, 0, none⟩ b0).setCell ⟨o2, 1, none⟩ b1).setCell ⟨o2, 2, none⟩ b2).setCell ⟨o2, 3, none⟩ b3).setCell ⟨o2, 4, none⟩ b4).setCell ⟨o2, 5, none⟩ b5).cell? ⟨w.heap.size, 3, none⟩ = some (.string s) ∧ (((((((((((((W).setCell ⟨o, 0, none⟩ a0).setCell ⟨o, 1, none⟩ a1).setCell ⟨o, 2, none⟩ a2).setCell ⟨o, 3, none⟩ a3).setCell ⟨o, 4, none⟩ a4).setCell ⟨o, 5, none⟩ a5).setCell ⟨o2, 0, none⟩ b0).setCell ⟨o2, 1, none⟩ b1).setCell ⟨o2, 2, none⟩ b2).setCell ⟨o2, 3, none⟩ b3).setCell ⟨o2, 4, none⟩ b4).setCell ⟨o2, 5, none⟩ b5).cell? ⟨w.heap.size, 4, none⟩ = some (.slice A1 m1 c1) ∧ (((((((((((((W).setCell ⟨o, 0, none⟩ a0).setCell ⟨o, 1, none⟩ a1).setCell ⟨o, 2, none⟩ a2).setCell ⟨o, 3, none⟩ a3).setCell ⟨o, 4, none⟩ a4).setCell ⟨o, 5, none⟩ a5).setCell ⟨o2, 0, none⟩ b0).setCell ⟨o2, 1, none⟩ b1).setCell ⟨o2, 2, none⟩ b2).setCell ⟨o2, 3, none⟩ b3).setCell ⟨o2, 4, none⟩ b4).setCell ⟨o2, 5, none⟩ b5).cell? ⟨w.heap.size, 5, none⟩ = some (.slice A2 m2 c2) ∧ (((((((((((((W).setCell ⟨o, 0, none⟩ a0).setCell ⟨o, 1, none⟩ a1).setCell ⟨o, 2, none⟩ a2).setCell ⟨o, 3, none⟩ a3).setCell ⟨o, 4, none⟩ a4).setCell ⟨o, 5, none⟩ a5).setCell ⟨o2, 0, none⟩ b0).setCell ⟨o2, 1, none⟩ b1).setCell ⟨o2, 2, none⟩ b2).setCell ⟨o2, 3, none⟩ b3).setCell ⟨o2, 4, none⟩ b4).setCell ⟨o2, 5, none⟩ b5).cell? ⟨w.heap.size + 1, 0, none⟩ = some (.int .i64 k') ∧ (((((((((((((W).setCell ⟨o, 0, none⟩ a0).setCell ⟨o, 1, none⟩ a1).setCell ⟨o, 2, none⟩ a2).setCell ⟨o, 3, none⟩ a3).setCell ⟨o, 4, none⟩ a4).setCell ⟨o, 5, none⟩ a5).setCell ⟨o2, 0, none⟩ b0).setCell ⟨o2, 1, none⟩ b1).setCell ⟨o2, 2, none⟩ b2).setCell ⟨o2, 3, none⟩ b3).setCell ⟨o2, 4, none⟩ b4).setCell ⟨o2, 5, none⟩ b5).cell? ⟨w.heap.size + 1, 1, none⟩ = some (.int .i64 n') ∧ (((((((((((((W).setCell ⟨o, 0, none⟩ a0).setCell ⟨o, 1, none⟩ a1).setCell ⟨o, 2, none⟩ a2).setCell ⟨o, 3, none⟩ a3).setCell ⟨o, 4, none⟩ a4).setCell ⟨o, 5, none⟩ a5).setCell ⟨o2, 0, none⟩ b0).setCell ⟨o2, 1, none⟩ b1).setCell ⟨o2, 2, none⟩ b2).setCell ⟨o2, 3, none⟩ b3).setCell ⟨o2, 4, none⟩ b4).setCell ⟨o2, 5, none⟩ b5).cell? ⟨w.heap.size + 1, 2, none⟩ = some (.int .u64 u') ∧ (((((((((((((W).setCell ⟨o, 0, none⟩ a0).setCell ⟨o, 1, none⟩ a1).setCell ⟨o, 2, none⟩ a2).setCell ⟨o, 3, none⟩ a3).setCell ⟨o, 4, none⟩ a4).setCell ⟨o, 5, none⟩ a5).setCell ⟨o2, 0, none⟩ b0).setCell ⟨o2, 1, none⟩ b1).setCell ⟨o2, 2, none⟩ b2).setCell ⟨o2, 3, none⟩ b3).setCell ⟨o2, 4, none⟩ b4).setCell ⟨o2, 5, none⟩ b5).cell? ⟨w.heap.size + 1, 3, none⟩ = some (.string s') ∧ (((((((((((((W).setCell ⟨o, 0, none⟩ a0).setCell ⟨o, 1, none⟩ a1).setCell ⟨o, 2, none⟩ a2).setCell ⟨o, 3, none⟩ a3).setCell ⟨o, 4, none⟩ a4).setCell ⟨o, 5, none⟩ a5).setCell ⟨o2, 0, none⟩ b0).setCell ⟨o2, 1, none⟩ b1).setCell ⟨o2, 2, none⟩ b2).setCell ⟨o2, 3, none⟩ b3).setCell ⟨o2, 4, none⟩ b4).setCell ⟨o2, 5, none⟩ b5).cell? ⟨w.heap.size + 1, 4, none⟩ = some (.slice A1' m1' c1') ∧ (((((((((((((W).setCell ⟨o, 0, none⟩ a0).setCell ⟨o, 1, none⟩ a1).setCell ⟨o, 2, none⟩ a2).setCell ⟨o, 3, none⟩ a3).setCell ⟨o, 4, none⟩ a4).setCell ⟨o, 5, none⟩ a5).setCell ⟨o2, 0, none⟩ b0).setCell ⟨o2, 1, none⟩ b1).setCell ⟨o2, 2, none⟩ b2).setCell ⟨o2, 3, none⟩ b3).setCell ⟨o2, 4, none⟩ b4).setCell ⟨o2, 5, none⟩ b5).cell? ⟨w.heap.size + 1, 5, none⟩ = some (.slice A2' m2' c2') := fun W o o2 a0 a1 a2 a3 a4 a5 b0 b1 b2 b3 b4 b5 H ho ho2 => hcells _ (hset _ o2 b0 b1 b2 b3 b4 b5 (hset W o a0 a1 a2 a3 a4 a5 H ho) ho2)
  have hc4 : ∀ (W : World) (o : Nat) (a0 a1 a2 a3 a4 a5 : Value) (ob : Obj), Hid (Two w (.int .i64 k) (.int .i64 n) (.int .u64 u) (.string s) (.slice A1 m1 c1) (.slice A2 m2 c2) (.int .i64 k') (.int .i64 n') (.int .u64 u') (.string s') (.slice A1' m1' c1') (.slice A2' m2' c2') W) → Hid (w.heap.size + 2 ≤ o) → Hid (Two w (.int .i64 k) (.int .i64 n) (.int .u64 u) (.string s) (.slice A1 m1 c1) (.slice A2 m2 c2) (.int .i64 k') (.int .i64 n') (.int .u64 u') (.string s') (.slice A1' m1' c1') (.slice A2' m2' c2') ((((((((W).setCell ⟨o, 0, none⟩ a0).setCell ⟨o, 1, none⟩ a1).setCell ⟨o, 2, none⟩ a2).setCell ⟨o, 3, none⟩ a3).setCell ⟨o, 4, none⟩ a4).setCell ⟨o, 5, none⟩ a5).alloc ob)) ∧ ((((((((W).setCell ⟨o, 0, none⟩ a0).setCell ⟨o, 1, none⟩ a1).setCell ⟨o, 2, none⟩ a2).setCell ⟨o, 3, none⟩ a3).setCell ⟨o, 4, none⟩ a4).setCell ⟨o, 5, none⟩ a5).alloc ob).cell? ⟨w.heap.size, 0, none⟩ = some (.int .i64 k) ∧ ((((((((W).setCell ⟨o, 0, none⟩ a0).setCell ⟨o, 1, none⟩ a1).setCell ⟨o, 2, none⟩ a2).setCell ⟨o, 3, none⟩ a3).setCell ⟨o, 4, none⟩ a4).setCell ⟨o, 5, none⟩ a5).alloc ob).cell? ⟨w.heap.size, 1, none⟩ = some (.int .i64 n) ∧ ((((((((W).setCell ⟨o, 0, none⟩ a0).setCell ⟨o, 1, none⟩ a1).setCell ⟨o, 2, none⟩ a2).setCell ⟨o, 3, none⟩ a3).setCell ⟨o, 4, none⟩ a4).setCell ⟨o, 5, none⟩ a5).alloc ob).cell? ⟨w.heap.size, 2, none⟩ = some (.int .u64 u) ∧ ((((((((W).setCell ⟨o, 0, none⟩ a0).setCell ⟨o, 1, none⟩ a1).setCell ⟨o, 2, none⟩ a2).setCell ⟨o, 3, none⟩ a3).setCell ⟨o, 4, none⟩ a4).setCell ⟨o, 5, none⟩ a5).alloc ob).cell? ⟨w.heap.size, 3, none⟩ = some (.string s) ∧ ((((((((W).setCell ⟨o, 0, none⟩ a0).setCell ⟨o, 1, none⟩ a1).setCell ⟨o, 2, none⟩ a2).setCell ⟨o, 3, none⟩ a3).setCell ⟨o, 4, none⟩ a4).setCell ⟨o, 5, none⟩ a5).alloc ob).cell? ⟨w.heap.size, 4, none⟩ = some (.slice A1 m1 c1) ∧ ((((((((W).setCell ⟨o, 0, none⟩ a0).setCell ⟨o, 1, none⟩ a1).setCell ⟨o, 2, none⟩ a2).setCell ⟨o, 3, none⟩ a3).setCell ⟨o, 4, none⟩ a4).setCell ⟨o, 5, none⟩ a5).alloc ob).cell? ⟨w.heap.size, 5, none⟩ = some (.slice A2 m2 c2) ∧ ((((((((W).setCell ⟨o, 0, none⟩ a0).setCell ⟨o, 1, none⟩ a1).setCell ⟨o, 2, none⟩ a2).setCell ⟨o, 3, none⟩ a3).setCell ⟨o, 4, none⟩ a4).setCell ⟨o, 5, none⟩ a5).alloc ob).cell? ⟨w.heap.size + 1, 0, none⟩ = some (.int .i64 k') ∧ ((((((((W).setCell ⟨o, 0, none⟩ a0).setCell ⟨o, 1, none⟩ a1).setCell ⟨o, 2, none⟩ a2).setCell ⟨o, 3, none⟩ a3).setCell ⟨o, 4, none⟩ a4).setCell ⟨o, 5, none⟩ a5).alloc ob).cell? ⟨w.heap.size + 1, 1, none⟩ = some (.int .i64 n') ∧ ((((((((W).setCell ⟨o, 0, none⟩ a0).setCell ⟨o, 1, none⟩ a1).setCell ⟨o, 2, none⟩ a2).setCell ⟨o, 3, none⟩ a3).setCell ⟨o, 4, none⟩ a4).setCell ⟨o, 5, none⟩ a5).alloc ob).cell? ⟨w.heap.size + 1, 2, none⟩ = some (.int .u64 u') ∧ ((((((((W).setCell ⟨o, 0, none⟩ a0).setCell ⟨o, 1, none⟩ a1).setCell ⟨o, 2, none⟩ a2).setCell ⟨o, 3, none⟩ a3).setCell ⟨o, 4, none⟩ a4).setCell ⟨o, 5, none⟩ a5).alloc ob).cell? ⟨w.heap.size + 1, 3, none⟩ = some (.string s') ∧ ((((((((W).setCell ⟨o, 0, none⟩ a0).setCell ⟨o, 1, none⟩ a1).setCell ⟨o, 2, none⟩ a2).setCell ⟨o, 3, none⟩ a3).setCell ⟨o, 4, none⟩ a4).setCell ⟨o, 5, none⟩ a5).alloc ob).cell? ⟨w.heap.size + 1, 4, none⟩ = some (.slice A1' m1' c1') ∧ ((((((((W).setCell ⟨o, 0, none⟩ a0).setCell ⟨o, 1, none⟩ a1).setCell ⟨o, 2, none⟩ a2).setCell ⟨o, 3, none⟩ a3).setCell ⟨o, 4, none⟩ a4).setCell ⟨o, 5, none⟩ a5).alloc ob).cell? ⟨w.heap.size + 1, 5, none⟩ = some (.slice A2' m2' c2') := fun W o a0 a1 a2 a3 a4 a5 ob H ho => hcells _ (Lib.hid (Two.below (Hid.out (hset W o a0 a1 a2 a3 a4 a5 H ho)) ((Below.refl _ _).alloc (Nat.le_refl _) ob)))
  have hc5 : ∀ (W : World) (ob : Obj), Hid (Two w (.int .i64 k) (.int .i64 n) (.int .u64 u) (.string s) (.slice A1 m1 c1) (.slice A2 m2 c2) (.int .i64 k') (.int .i64 n') (.int .u64 u') (.string s') (.slice A1' m1' c1') (.slice A2' m2' c2') W) → Hid (Two w (.int .i64 k) (.int .i64 n) (.int .u64 u) (.string s) (.slice A1 m1 c1) (.slice A2 m2 c2) (.int .i64 k') (.int .i64 n') (.int .u64 u') (.string s') (.slice A1' m1' c1') (.slice A2' m2' c2') (W.alloc ob)) ∧ (W.alloc ob).cell? ⟨w.heap.size, 0, none⟩ = some (.int .i64 k) ∧ (W.alloc ob).cell? ⟨w.heap.size, 1, none⟩ = some (.int .i64 n) ∧ (W.alloc ob).cell? ⟨w.heap.size, 2, none⟩ = some (.int .u64 u) ∧ (W.alloc ob).cell? ⟨w.heap.size, 3, none⟩ = some (.string s) ∧ (W.alloc ob).cell? ⟨w.heap.size, 4, none⟩ = some (.slice A1 m1 c1) ∧ (W.alloc ob).cell? ⟨w.heap.size, 5, none⟩ = some (.slice A2 m2 c2) ∧ (W.alloc ob).cell? ⟨w.heap.size + 1, 0, none⟩ = some (.int .i64 k') ∧ (W.alloc ob).cell? ⟨w.heap.size + 1, 1, none⟩ = some (.int .i64 n') ∧ (W.alloc ob).cell? ⟨w.heap.size + 1, 2, none⟩ = some (.int .u64 u') ∧ (W.alloc ob).cell? ⟨w.heap.size + 1, 3, none⟩ = some (.string s') ∧ (W.alloc ob).cell? ⟨w.heap.size + 1, 4, none⟩ = some (.slice A1' m1' c1') ∧ (W.alloc ob).cell? ⟨w.heap.size + 1, 5, none⟩ = some (.slice A2' m2' c2') := fun W ob H => hcells _ (Lib.hid (Two.below (Hid.out H) ((Below.refl _ _).alloc (Nat.le_refl _) ob)))
  have hc6 : ∀ (W : World) (ob ob2 : Obj), Hid (Two w (.int .i64 k) (.int .i64 n) (.int .u64 u) (.string s) (.slice A1 m1 c1) (.slice A2 m2 c2) (.int .i64 k') (.int .i64 n') (.int .u64 u') (.string s') (.slice A1' m1' c1') (.slice A2' m2' c2') W) → Hid (Two w (.int .i64 k) (.int .i64 n) (.int .u64 u) (.string s) (.slice A1 m1 c1) (.slice A2 m2 c2) (.int .i64 k') (.int .i64 n') (.int .u64 u') (.string s') (.slice A1' m1' c1') (.slice A2' m2' c2') ((W.alloc ob).alloc ob2)) ∧ ((W.alloc ob).alloc ob2).cell? ⟨w.heap.size, 0, none⟩ = some (.int .i64 k) ∧ ((W.alloc ob).alloc ob2).cell? ⟨w.heap.size, 1, none⟩ = some (.int .i64 n) ∧ ((W.alloc ob).alloc ob2).cell? ⟨w.heap.size, 2, none⟩ = some (.int .u64 u) ∧ ((W.alloc ob).alloc ob2).cell? ⟨w.heap.size, 3, none⟩ = some (.string s) ∧ ((W.alloc ob).alloc ob2).cell? ⟨w.heap.size, 4, none⟩ = some (.slice A1 m1 c1) ∧ ((W.alloc ob).alloc ob2).cell? ⟨w.heap.size, 5, none⟩ = some (.slice A2 m2 c2) ∧ ((W.alloc ob).alloc ob2).cell? ⟨w.heap.size + 1, 0, none⟩ = some (.int .i64 k') ∧ ((W.alloc ob).alloc ob2).cell? ⟨w.heap.size + 1, 1, none⟩ = some (.int .i64 n') ∧ ((W.alloc ob).alloc ob2).cell? ⟨w.heap.size + 1, 2, none⟩ = some (.int .u64 u') ∧ ((W.alloc ob).alloc ob2).cell? ⟨w.heap.size + 1, 3, none⟩ = some (.string s') ∧ ((W.alloc ob).alloc ob2).cell? ⟨w.heap.size + 1, 4, none⟩ = some (.slice A1' m1' c1') ∧ ((W.alloc ob).alloc ob2).cell? ⟨w.heap.size + 1, 5, none⟩ = some (.slice A2' m2' c2') := fun W ob ob2 H => hcells _ (Lib.hid (Two.below (Two.below (Hid.out H) ((Below.refl _ _).alloc (Nat.le_refl _) ob)) ((Below.refl _ _).alloc (Nat.le_refl _) ob2)))
  have HLa : Hid (w.heap.size + 2 ≤ w.heap.size + 1 + 1) := Lib.hid (Nat.le_refl _)
  have HLb : Hid (w.heap.size + 2 ≤ w.heap.size + 1 + 1 + 1) := Lib.hid (Nat.le_succ _)
  have HSZ0 : Hid (((w.alloc (.cells #[.int .i64 k, .int .i64 n, .int .u64 u, .string s, .slice A1 m1 c1, .slice A2 m2 c2] 27)).alloc (.cells #[.int .i64 k', .int .i64 n', .int .u64 u', .string s', .slice A1' m1' c1', .slice A2' m2' c2'] 27)).heap.size = w.heap.size + 1 + 1) := Lib.hid (by simp)
  go_enter Tryd.func6, Tryd.ntmps6
  go_upto_region 1 with fail
  go_cut [5, 6] (fun s5 s6 wx => Hid (XY w (.int .i64 k) (.int .i64 n) (.int .u64 u) (.string s) (.slice A1 m1 c1) (.slice A2 m2 c2) (.int .i64 k') (.int .i64 n') (.int .u64 u') (.string s') (.slice A1' m1' c1') (.slice A2' m2' c2') (fewT ta) (fewT tb) s5 s6 wx))
  case first =>
    go_region_held3 (fun W => Hid (Two w (.int .i64 k) (.int .i64 n) (.int .u64 u) (.string s) (.slice A1 m1 c1) (.slice A2 m2 c2) (.int .i64 k') (.int .i64 n') (.int .u64 u') (.string s') (.slice A1' m1' c1') (.slice A2' m2' c2') W) ∧ W.cell? ⟨w.heap.size, 0, none⟩ = some (.int .i64 k) ∧ W.cell? ⟨w.heap.size, 1, none⟩ = some (.int .i64 n) ∧ W.cell? ⟨w.heap.size, 2, none⟩ = some (.int .u64 u) ∧ W.cell? ⟨w.heap.size, 3, none⟩ = some (.string s) ∧ W.cell? ⟨w.heap.size, 4, none⟩ = some (.slice A1 m1 c1) ∧ W.cell? ⟨w.heap.size, 5, none⟩ = some (.slice A2 m2 c2) ∧ W.cell? ⟨w.heap.size + 1, 0, none⟩ = some (.int .i64 k') ∧ W.cell? ⟨w.heap.size + 1, 1, none⟩ = some (.int .i64 n') ∧ W.cell? ⟨w.heap.size + 1, 2, none⟩ = some (.int .u64 u') ∧ W.cell? ⟨w.heap.size + 1, 3, none⟩ = some (.string s') ∧ W.cell? ⟨w.heap.size + 1, 4, none⟩ = some (.slice A1' m1' c1') ∧ W.cell? ⟨w.heap.size + 1, 5, none⟩ = some (.slice A2' m2' c2')) (first | (with_reducible exact hcells _ (by assumption)) | (with_reducible exact hcells _ HT0d) | (with_reducible exact hcells _ HT0ad) | (with_reducible exact hcells _ HT0aad) | (with_reducible exact hc5 _ _ (by assumption)) | (with_reducible exact hc6 _ _ _ (by assumption)) | (with_reducible exact hc2 _ _ _ _ _ _ _ _ (by assumption) (by assumption)) | (with_reducible exact hc4 _ _ _ _ _ _ _ _ _ (by assumption) (by assumption)) | (with_reducible exact hc3 _ _ _ _ _ _ _ _ _ _ _ _ _ _ _ (by assumption) (by assumption) (by assumption)))
      (first
        | (go_at_call 11; (with_reducible refine (HA.out _ (by first | assumption | with_reducible exact HT0ad | with_reducible exact HT0aad)).mono ?_); rintro e w1 ⟨⟨k5, i5, u5, s5, A5, a5, b5, C5, c5, d5, rfl, HN1⟩, HT1, HB1⟩; have HLc := Lib.hid HT1.out.2.1; have HLd : Hid (w.heap.size + 2 ≤ w1.heap.size + 1) := Lib.hid (Nat.le_succ_of_le HT1.out.2.1); have HT1a := Lib.hid (Two.below HT1.out ((Below.refl _ _).alloc (Nat.le_refl _) (.cells #[.int .i64 0, .int .i64 0, .int .u64 0, .string ⟨#[]⟩, .slice none 0 0, .slice none 0 0] 27))); have HT1aa := Lib.hid (Two.below HT1a.out ((Below.refl _ _).alloc (Nat.le_refl _) (.cells #[.int .i64 0, .int .i64 0, .int .u64 0, .string ⟨#[]⟩, .slice none 0 0, .slice none 0 0] 27))); first | (with_reducible have HPP := Lib.hid (born2_eq HSZ0.out HB1.out)) | (with_reducible have HP := Lib.hid (born_eq HSZ0.out HB1.out)) | skip)
        | (go_at_call 11; (with_reducible refine (HB.out _ (by first | assumption | with_reducible exact HT1a | with_reducible exact HT1aa)).mono ?_); rintro e w2 ⟨⟨k6, i6, u6, s6, A6, a6, b6, C6, c6, d6, rfl, HN2⟩, HT2, HB2⟩; have HB12 : Hid (Below w1.heap.size w1 w2) := (by first | with_reducible exact HB2 | with_reducible exact Lib.hid (al HB2.out) | with_reducible exact Lib.hid (al (al HB2.out))); first
            | (have HPP2 := Lib.hid (Blk.below HPP.out.1 HB12.out HPP.out.1.lt); have HQQ2 := Lib.hid (Blk.below HPP.out.2 HB12.out HPP.out.2.lt); obtain ⟨⟨z0, z1, z2, z3, z4, z5⟩, p0, p1, p2, p3, p4, p5⟩ := Bx.both HPP2.out; obtain ⟨⟨r0, r1, r2, r3, r4, r5⟩, q0, q1, q2, q3, q4, q5⟩ := Bx.both HQQ2.out)
            | (have HP2 := Lib.hid (Blk.below HP.out HB12.out HP.out.lt); obtain ⟨⟨z0, z1, z2, z3, z4, z5⟩, p0, p1, p2, p3, p4, p5⟩ := Bx.both HP2.out; have hne1 : ¬ w.heap.size + 1 + 1 = w1.heap.size := (by have := HP.out.lt; omega); have hne2 : ¬ w1.heap.size = w.heap.size + 1 + 1 := (by omega); have hne3 : ¬ w.heap.size + 1 + 1 = w2.heap.size := (by have := HP2.out.lt; omega); have hne4 : ¬ w2.heap.size = w.heap.size + 1 + 1 := (by omega); have hlt1 := HP2.out.lt; first | ((with_reducible have HR2 := Lib.hid (born HB2.out)); have hne5 : ¬ w1.heap.size = w2.heap.size := (by have := HR2.out.lt; omega); have hne6 : ¬ w2.heap.size = w1.heap.size := (by omega); have hlt2 := HR2.out.lt; obtain ⟨⟨r0, r1, r2, r3, r4, r5⟩, q0, q1, q2, q3, q4, q5⟩ := Bx.both HR2.out) | skip)
            | ((with_reducible have HRR2 := Lib.hid (born2 HB2.out)); obtain ⟨⟨z0, z1, z2, z3, z4, z5⟩, p0, p1, p2, p3, p4, p5⟩ := Bx.both HRR2.out.1; obtain ⟨⟨r0, r1, r2, r3, r4, r5⟩, q0, q1, q2, q3, q4, q5⟩ := Bx.both HRR2.out.2)
            | ((with_reducible have HR2 := Lib.hid (born HB2.out)); have hne5 : ¬ w1.heap.size = w2.heap.size := (by have := HR2.out.lt; omega); have hne6 : ¬ w2.heap.size = w1.heap.size := (by omega); have hlt2 := HR2.out.lt; obtain ⟨⟨z0, z1, z2, z3, z4, z5⟩, p0, p1, p2, p3, p4, p5⟩ := Bx.both HR2.out)
            | skip))
    all_goals
      go_wp2_with fail
      go_meet
    all_goals
      have sz1 := HT1.out.2.1
      have sz2 := HB12.out.size
      (try have lt1 := HP.out.lt)
      (try have lt2 := HPP.out.2.lt)
      (try have lt3 := HR2.out.lt)
      (try have lt4 := HRR2.out.2.lt)
      refine Lib.hid ?_
      first
      | (with_reducible refine xy_d HT2.out HN1.out HB12.out HN2.out)
      | (with_reducible refine xy_e HT2.out HN1.out HB12.out HN2.out)
      | (with_reducible refine xy_b2 HT2.out HN1.out HB12.out HN2.out (by first | with_reducible exact HP2.out | with_reducible exact HR2.out | with_reducible exact HPP2.out | with_reducible exact HQQ2.out | with_reducible exact HRR2.out.1 | with_reducible exact HRR2.out.2) ?_ ?_ ?_)
      | (with_reducible refine xy_c2 HT2.out HN1.out HB12.out HN2.out (by first | with_reducible exact HP2.out | with_reducible exact HR2.out | with_reducible exact HPP2.out | with_reducible exact HQQ2.out | with_reducible exact HRR2.out.1 | with_reducible exact HRR2.out.2) ?_ ?_ ?_)
      | (with_reducible refine xy_a2 HT2.out HN1.out HB12.out HN2.out (by first | with_reducible exact HP2.out | with_reducible exact HR2.out | with_reducible exact HPP2.out | with_reducible exact HQQ2.out | with_reducible exact HRR2.out.1 | with_reducible exact HRR2.out.2) (by first | with_reducible exact HP2.out | with_reducible exact HR2.out | with_reducible exact HPP2.out | with_reducible exact HQQ2.out | with_reducible exact HRR2.out.1 | with_reducible exact HRR2.out.2) ?_ ?_ ?_ ?_ ?_ ?_ ?_)
    all_goals ((try simp only [World.size_alloc, World.size_drew]); omega)
  case rest =>
    obtain ⟨wa, hwa⟩ : ∃ wa, wa = wc := ⟨_, rfl⟩
    subst hwa
    clear HT0 HT0d HT0ad HT0aad HLa HLb HSZ0 hc2 hc3 hc4 hc5 hc6 hset x0 x1 x2 x3 x4 x5 y0 y1 y2 y3 y4 y5
    obtain ⟨hTW, p, q, x0, x1, x2, x3, x4, x5, y0, y1, y2, y3, y4, y5, rfl, rfl, hp, hq, hX, hY⟩ := hcut.out
    obtain ⟨k3, i3, v3, s3, A3, a3, b3, C3, c3, d3, rfl, rfl, rfl, rfl, rfl, rfl⟩ := hX.shape6
    obtain ⟨k4, i4, v4, s4, A4, a4, b4, C4, c4, d4, rfl, rfl, rfl, rfl, rfl, rfl⟩ := hY.shape6
    have HTW := Lib.hid hTW
    have HP := Lib.hid hp
    have HQ := Lib.hid hq
    have HX := Lib.hid hX
    have HY := Lib.hid hY
    obtain ⟨z0, z1, z2, z3, z4, z5⟩ := Bx.all hp
    have HQX : Hid (QQ (fewT ta)) := Lib.hid ⟨Nat.le_trans (fewT_sz ta) (by omega), fewT_sm ta⟩
    have HQY : Hid (QQ (fewT tb)) := Lib.hid ⟨Nat.le_trans (fewT_sz tb) (by omega), fewT_sm tb⟩
    have HSZ0' : Hid (sz (fewT ta) ≤ 60000 ∧ sz (fewT tb) ≤ 60000) := Lib.hid ⟨by have := fewT_sz ta; omega, by have := fewT_sz tb; omega⟩
    obtain ⟨X, hXX⟩ : ∃ X, fewT ta = X := ⟨_, rfl⟩
    obtain ⟨Y, hYY⟩ : ∃ Y, fewT tb = Y := ⟨_, rfl⟩
    rw [hXX] at HX HQX HA
    rw [hYY] at HY HQY HB
    have HSZ : Hid (sz X ≤ 60000 ∧ sz Y ≤ 60000) := Lib.hid (by rw [← hXX, ← hYY]; exact HSZ0'.out)
    clear HSZ0' hXX hYY hcut hTW hp hq hX hY
    have HFA2 : Hid (∀ W, C0 wa W → Calls Tryd.prog 11 #[.agg #[.int .i64 k, .int .i64 n, .int .u64 u, .string s, .slice A1 m1 c1, .slice A2 m2 c2]] W fun e w' => (∃ (k n u : Int) (s : ByteArray) (A1 : Option Addr) (m1 c1 : Nat) (A2 : Option Addr) (m2 c2 : Nat), e = .returned (.agg #[.int .i64 k, .int .i64 n, .int .u64 u, .string s, .slice A1 m1 c1, .slice A2 m2 c2]) ∧ Hid (Nd w' X [.int .i64 k, .int .i64 n, .int .u64 u, .string s, .slice A1 m1 c1, .slice A2 m2 c2])) ∧ C0 wa w') := Lib.hid fun W h => by
      refine (HA.out W (Lib.hid (HTW.out.below h))).mono ?_
      rintro e w' ⟨⟨k, n, u, s, A1, m1, c1, A2, m2, c2, rfl, hn⟩, -, hb⟩
      exact ⟨⟨k, n, u, s, A1, m1, c1, A2, m2, c2, rfl, Lib.hid (NdO.nd _ _ hn.out)⟩, h.go hb.out⟩
    have HFB2 : Hid (∀ W, C0 wa W → Calls Tryd.prog 11 #[.agg #[.int .i64 k', .int .i64 n', .int .u64 u', .string s', .slice A1' m1' c1', .slice A2' m2' c2']] W fun e w' => (∃ (k n u : Int) (s : ByteArray) (A1 : Option Addr) (m1 c1 : Nat) (A2 : Option Addr) (m2 c2 : Nat), e = .returned (.agg #[.int .i64 k, .int .i64 n, .int .u64 u, .string s, .slice A1 m1 c1, .slice A2 m2 c2]) ∧ Hid (Nd w' Y [.int .i64 k, .int .i64 n, .int .u64 u, .string s, .slice A1 m1 c1, .slice A2 m2 c2])) ∧ C0 wa w') := Lib.hid fun W h => by
      refine (HB.out W (Lib.hid (HTW.out.below h))).mono ?_
      rintro e w' ⟨⟨k, n, u, s, A1, m1, c1, A2, m2, c2, rfl, hn⟩, -, hb⟩
      exact ⟨⟨k, n, u, s, A1, m1, c1, A2, m2, c2, rfl, Lib.hid (NdO.nd _ _ hn.out)⟩, h.go hb.out⟩
    have HEX : Hid (∀ W ds, C0 wa W → Nd W X ds → Calls Tryd.prog 13 #[.agg #[.int .i64 k3, .int .i64 i3, .int .u64 v3, .string s3, .slice A3 a3 b3, .slice C3 c3 d3], .agg ds.toArray] W fun e w' => e = .returned (.bool true) ∧ C0 wa w') := Lib.hid fun W ds h hn => eq_C h HQX.out (HX.out.bel h) hn
    have HEY : Hid (∀ W ds, C0 wa W → Nd W Y ds → Calls Tryd.prog 13 #[.agg #[.int .i64 k4, .int .i64 i4, .int .u64 v4, .string s4, .slice A4 a4 b4, .slice C4 c4 d4], .agg ds.toArray] W fun e w' => e = .returned (.bool true) ∧ C0 wa w') := Lib.hid fun W ds h hn => eq_C h HQY.out (HY.out.bel h) hn
    have HTA : Hid (Tab wa) := Lib.hid (hT.keep HTW.out.1)
    have HWK : Hid (∀ W, C0 wa W → Calls Tryd.prog 10 #[] W fun e w' => e = .returned (.bool true) ∧ C0 wa w') := Lib.hid fun W h => (works9_true W (HTA.out.keep h)).mono fun e w' k => ⟨k.1, h.go k.2⟩
    have hc9 : ∀ W, C0 wa W → C0 wa W ∧ W.cell? ⟨p, 0, none⟩ = some (.int .i64 k3) ∧ W.cell? ⟨p, 1, none⟩ = some (.int .i64 i3) ∧ W.cell? ⟨p, 2, none⟩ = some (.int .u64 v3) ∧ W.cell? ⟨p, 3, none⟩ = some (.string s3) ∧ W.cell? ⟨p, 4, none⟩ = some (.slice A3 a3 b3) ∧ W.cell? ⟨p, 5, none⟩ = some (.slice C3 c3 d3) ∧ W.cell? ⟨q, 0, none⟩ = some (.int .i64 k4) ∧ W.cell? ⟨q, 1, none⟩ = some (.int .i64 i4) ∧ W.cell? ⟨q, 2, none⟩ = some (.int .u64 v4) ∧ W.cell? ⟨q, 3, none⟩ = some (.string s4) ∧ W.cell? ⟨q, 4, none⟩ = some (.slice A4 a4 b4) ∧ W.cell? ⟨q, 5, none⟩ = some (.slice C4 c4 d4) ∧ W.cell? ⟨w.heap.size, 0, none⟩ = some (.int .i64 k) ∧ W.cell? ⟨w.heap.size, 1, none⟩ = some (.int .i64 n) ∧ W.cell? ⟨w.heap.size, 2, none⟩ = some (.int .u64 u) ∧ W.cell? ⟨w.heap.size, 3, none⟩ = some (.string s) ∧ W.cell? ⟨w.heap.size, 4, none⟩ = some (.slice A1 m1 c1) ∧ W.cell? ⟨w.heap.size, 5, none⟩ = some (.slice A2 m2 c2) ∧ W.cell? ⟨w.heap.size + 1, 0, none⟩ = some (.int .i64 k') ∧ W.cell? ⟨w.heap.size + 1, 1, none⟩ = some (.int .i64 n') ∧ W.cell? ⟨w.heap.size + 1, 2, none⟩ = some (.int .u64 u') ∧ W.cell? ⟨w.heap.size + 1, 3, none⟩ = some (.string s') ∧ W.cell? ⟨w.heap.size + 1, 4, none⟩ = some (.slice A1' m1' c1') ∧ W.cell? ⟨w.heap.size + 1, 5, none⟩ = some (.slice A2' m2' c2') := fun W h => by
      have h2 := HTW.out.below h
      obtain ⟨f0, f1, f2, f3, f4, f5⟩ := Bx.all (Blk.below HP.out h (Blk.lt HP.out))
      obtain ⟨g0, g1, g2, g3, g4, g5⟩ := Bx.all (Blk.below HQ.out h (Blk.lt HQ.out))
      obtain ⟨m0, m1, m2, m3, m4, m5⟩ := Bx.all h2.2.2.1
      exact ⟨h, f0, f1, f2, f3, f4, f5, g0, g1, g2, g3, g4, g5, m0, m1, m2, m3, m4, m5, Bx.all h2.2.2.2⟩
    have HBW := Lib.hid HTW.out.1
    have hVd : C0 wa wa.drew := (Below.refl _ _).drew
    obtain ⟨β, hβ⟩ : ∃ β : Bool, (β = true ↔ alk X Y) := by
      by_cases h : alk X Y
      · exact ⟨true, by simp [h]⟩
      · exact ⟨false, by simp [h]⟩
    have HBT := Lib.hid hβ
    clear hβ
    have HAL : Hid (∀ W, C0 wa W → Calls Tryd.prog 7 #[.agg #[.int .i64 k3, .int .i64 i3, .int .u64 v3, .string s3, .slice A3 a3 b3, .slice C3 c3 d3], .agg #[.int .i64 k4, .int .i64 i4, .int .u64 v4, .string s4, .slice A4 a4 b4, .slice C4 c4 d4]] W fun e w' => e = .returned (.bool β) ∧ C0 wa w') := Lib.hid fun W h => (alike_any X Y _ _ W (HTA.out.keep h) HQX.out HQY.out (HX.out.bel h) (HY.out.bel h)).mono fun e w' k => by
      obtain ⟨⟨γ, rfl, hγ⟩, hb⟩ := k
      exact ⟨by rw [bool_same (hγ.trans HBT.out.symm)], h.go hb⟩
    have HRL : Hid (∀ W, C0 wa W → Calls Tryd.prog 12 #[.agg #[.int .i64 k3, .int .i64 i3, .int .u64 v3, .string s3, .slice A3 a3 b3, .slice C3 c3 d3], .agg #[.int .i64 k4, .int .i64 i4, .int .u64 v4, .string s4, .slice A4 a4 b4, .slice C4 c4 d4]] W fun e w' => e = .returned (.bool β) ∧ C0 wa w') := Lib.hid fun W h => (refAlike_any X Y _ _ W ⟨HQX.out, HSZ.out.1⟩ ⟨HQY.out, HSZ.out.2⟩ (HX.out.bel h) (HY.out.bel h)).mono fun e w' k => by
      obtain ⟨⟨γ, rfl, hγ⟩, hb⟩ := k
      exact ⟨by rw [bool_same (hγ.trans HBT.out.symm)], h.go hb⟩
    have hbb : (β == β) = true := by simp
    clear z0 z1 z2 z3 z4 z5
    go_wp2_with fail
    go_region_held3 (fun W => C0 wa W ∧ W.cell? ⟨p, 0, none⟩ = some (.int .i64 k3) ∧ W.cell? ⟨p, 1, none⟩ = some (.int .i64 i3) ∧ W.cell? ⟨p, 2, none⟩ = some (.int .u64 v3) ∧ W.cell? ⟨p, 3, none⟩ = some (.string s3) ∧ W.cell? ⟨p, 4, none⟩ = some (.slice A3 a3 b3) ∧ W.cell? ⟨p, 5, none⟩ = some (.slice C3 c3 d3) ∧ W.cell? ⟨q, 0, none⟩ = some (.int .i64 k4) ∧ W.cell? ⟨q, 1, none⟩ = some (.int .i64 i4) ∧ W.cell? ⟨q, 2, none⟩ = some (.int .u64 v4) ∧ W.cell? ⟨q, 3, none⟩ = some (.string s4) ∧ W.cell? ⟨q, 4, none⟩ = some (.slice A4 a4 b4) ∧ W.cell? ⟨q, 5, none⟩ = some (.slice C4 c4 d4) ∧ W.cell? ⟨w.heap.size, 0, none⟩ = some (.int .i64 k) ∧ W.cell? ⟨w.heap.size, 1, none⟩ = some (.int .i64 n) ∧ W.cell? ⟨w.heap.size, 2, none⟩ = some (.int .u64 u) ∧ W.cell? ⟨w.heap.size, 3, none⟩ = some (.string s) ∧ W.cell? ⟨w.heap.size, 4, none⟩ = some (.slice A1 m1 c1) ∧ W.cell? ⟨w.heap.size, 5, none⟩ = some (.slice A2 m2 c2) ∧ W.cell? ⟨w.heap.size + 1, 0, none⟩ = some (.int .i64 k') ∧ W.cell? ⟨w.heap.size + 1, 1, none⟩ = some (.int .i64 n') ∧ W.cell? ⟨w.heap.size + 1, 2, none⟩ = some (.int .u64 u') ∧ W.cell? ⟨w.heap.size + 1, 3, none⟩ = some (.string s') ∧ W.cell? ⟨w.heap.size + 1, 4, none⟩ = some (.slice A1' m1' c1') ∧ W.cell? ⟨w.heap.size + 1, 5, none⟩ = some (.slice A2' m2' c2')) (first | (with_reducible exact hc9 _ (by assumption)))
      (first
        | (go_at_call 7; (with_reducible refine (HAL.out _ (by first | assumption | exact hVd)).mono ?_); rintro e V4 ⟨rfl, hC4⟩)
        | (go_at_call 12; (with_reducible refine (HRL.out _ (by assumption)).mono ?_); rintro e V5 ⟨rfl, hC5⟩)
        | (go_at_call 11; (with_reducible refine (HFA2.out _ (by assumption)).mono ?_); rintro e V9 ⟨⟨k6, i6, v6, s6, A6, a6, b6, C6, c6, d6, rfl, HN9⟩, hC9⟩)
        | (go_at_call 13; (with_reducible refine (HEX.out _ _ (by assumption) HN9.out).mono ?_); rintro e V10 ⟨rfl, hC10⟩)
        | (go_at_call 11; (with_reducible refine (HFB2.out _ (by assumption)).mono ?_); rintro e V11 ⟨⟨k7, i7, v7, s7, A7, a7, b7, C7, c7, d7, rfl, HN11⟩, hC11⟩)
        | (go_at_call 13; (with_reducible refine (HEY.out _ _ (by assumption) HN11.out).mono ?_); rintro e V12 ⟨rfl, hC12⟩)
        | (go_at_call 10; (with_reducible refine (HWK.out _ (by assumption)).mono ?_); rintro e V13 ⟨rfl, hC13⟩))
    all_goals go_wp2_with fail
    all_goals go_ret
    all_goals exact ⟨rfl, HBW.out.trans (Below.mono hC13 HBW.out.size)⟩
end Go.Proofs.YtemkfpofmblblaaDoor
namespace Go.Proofs.YtemkfpofmblblaaDoor
open Go.ChangeShapes Go.WideShapes Go.ChangeAt Go.WideMaps Go.WideElems Go.RowKit Go.ChangeMaps
end Go.Proofs.YtemkfpofmblblaaDoor
namespace Go.Proofs.YtemkfpofmblblaaDoor
open Go.ChangeShapes Go.WideShapes Go.ChangeAt Go.WideMaps Go.WideElems Go.RowKit

theorem normalKnown_walk (w : World) (hT : Tab w) : Calls Tryd.prog 3 #[] w fun e w' => e = .returned (.bool true) ∧ Below w.heap.size w w' :=
  known9_core w
    (fun W ca cb hb ⟨t, ht⟩ ⟨u, hu⟩ => normalAlike_walk t ca u cb W (hT.keep hb) ht hu)
    (fun W cs hb ⟨t, ht⟩ => normalForms_walk t cs W (hT.keep hb) ht)
    (okl_of w hT)
    (fun W hb => works9_true W (hT.keep hb))

set_option maxRecDepth 100000 in
theorem normalKnown_lifted (os : Os) (started : os.Started) (H : Type) (enc : TypeId × Value → H) :
    ReturnsInHanded {} Tryd.checked os 3 .any (fun w args => (Rows.normalKnownSpec.pre enc Tryd.prog Tryd.f3 [] false w args ∧ laidMetH Tryd.prog laidL w) ∧ sizedMet enc Tryd.prog Tryd.f3 (OpenSpec.ofChange Rows.normalKnownSpec) false w args)
      (Rows.normalKnownSpec.post enc Tryd.prog Tryd.f3 false true false false) := by
  refine returnsInHanded_of_change_and (C := Tryd.checked) (X := fun w _ => laidMetH Tryd.prog laidL w) (fun _ _ _ hh h => h.of_heap hh) ownK started (by kernel_rfl) Tryd.func3
    (ChangeSpec.witness_shaped (enc := enc) (C := Tryd.checked) (os := os) (X := fun w _ => laidMetH Tryd.prog laidL w) false (World.doorLaid Tryd.prog 50 os) #[] 8 rfl (World.shaped_of_RefB (by kernel_rfl) (by kernel_rfl)) (by kernel_rfl) (by kernel_rfl) (by kernel_rfl) (door_met os _)) ?_
  intro W base args ds gs before hval0 hW _ _ hL _
  have hW' := hW
  obtain ⟨p, q, hA0, hV, rfl, hfz, hnd⟩ := hW
  have hA : DataW.TrodAll enc Tryd.prog W 0 (fun _ => true) true Tryd.f3.params.toList args.toList ds p := hA0
  rw [Tryd.params3] at hA
  obtain ⟨hargs, rfl, rfl⟩ := trodAll_nil hA
  obtain rfl : args = #[] := by cases args; simp_all
  obtain ⟨rfl, rfl⟩ := trodVars_none hV
  refine (normalKnown_walk W (tab_of_laid hL)).mono fun e W' ⟨he, hb⟩ => ?_
  subst he
  exact ⟨_, rfl, law_post (by rw [Tryd.params3]; decide +kernel) rfl rfl rfl rfl rfl hW' hb⟩

theorem normalKnown_row : Rows.NormalKnownSaid :=
  OpenClaim.holds_of_wide 3 Tryd.f3 rfl rfl rfl rfl rfl rfl rfl ⟨rfl, rfl, rfl, rfl, rfl⟩ rfl rfl rfl rfl rfl (by kernel_rfl) Tryd.func3 (by kernel_rfl)
    (of_decide_eq_true (by kernel_rfl)) (by unfold Func.isWrapper; first | (rw [if_pos (by decide +kernel)]; kernel_rfl) | (rw [if_neg (by decide +kernel)]; exact ⟨rfl, rfl⟩))
    (fun os started H enc _ => normalKnown_lifted os started H enc)

theorem normalKnown_holds : Rows.NormalKnownCardSaid :=
  Claim7.holds_tied_plain_at .later [] [.data] true Rows.normalKnownCard.stood.harness true
    normalKnown_row (fun _ h => by cases h) (by kernel_rfl) (fun _ h => by cases h) normalKnown_row_tie rfl ⟨rfl, rfl⟩ (by kernel_rfl) rfl
    (fun f fn hf hfn => by
      obtain rfl : f = 3 := Option.some.inj ((show Tryd.prog.funcNamed "accordion/accordionlaw09.NormalKnown" = some 3 by kernel_rfl).symm.trans hf) |>.symm
      obtain rfl : fn = Tryd.f3 := (Option.some.inj (Tryd.func3.symm.trans hfn)).symm
      exact ⟨by kernel_rfl, fun j t ht => by
        rw [Tryd.params3] at ht
        simp at ht⟩)
    (by kernel_rfl)
end Go.Proofs.YtemkfpofmblblaaDoor
