/-
  What is proved here: what spoiling a tree's own rows leaves of memory, and that what read as a tree of own rows still reads as one; no condition but those that each fact states; and: a contract of SpoilNode on a tree of rows of the call's own: nothing turns but those rows; no other condition.
-/
import Derived.Test.YtlleknofnlmecaaDoorCopy
namespace Go.Proofs.YtlleknofnlmecaaDoor
open Go.RowKit

def spoilt : List Value := [.int .i64 (-9), .int .i64 0, .int .u64 0, .string ⟨#[115, 112, 111, 105, 108, 116]⟩, .slice none 0 0, .slice none 0 0]
/-- All that lay lies as it lay, but rows of strings and of nodes in blocks of which U holds, in which strings or whole nodes may have been spoilt. -/
structure Sp (U : Nat → Prop) (w w' : World) : Prop where
  os : w'.os = w.os
  tape : w'.tape = w.tape
  output : w'.output = w.output
  size : w.heap.size ≤ w'.heap.size
  keep : ∀ b, b < w.heap.size → ¬ U b → w'.heap[b]? = w.heap[b]?
  strs : ∀ b cur, U b → w.heap[b]? = some (.cells cur 9 (0, 0)) → ∃ cur', w'.heap[b]? = some (.cells cur' 9 (0, 0)) ∧ cur'.size = cur.size
  nods : ∀ b cur, U b → w.heap[b]? = some (.cells cur 26 (0, 0)) → ∃ cur', w'.heap[b]? = some (.cells cur' 26 (0, 0)) ∧ cur'.size = cur.size ∧
    ∀ j, j * 6 + 6 ≤ cur.size → (cur'.toList.drop (j * 6)).take 6 = (cur.toList.drop (j * 6)).take 6 ∨ (cur'.toList.drop (j * 6)).take 6 = spoilt
theorem Sp.refl (U : Nat → Prop) (w : World) : Sp U w w := ⟨rfl, rfl, rfl, Nat.le_refl _, fun _ _ _ => rfl, fun _ cur _ h => ⟨cur, h, rfl⟩, fun _ cur _ h => ⟨cur, h, rfl, fun _ _ => .inl rfl⟩⟩
theorem Sp.trans {U : Nat → Prop} {a b c : World} (h : Sp U a b) (k : Sp U b c) : Sp U a c :=
  ⟨k.os.trans h.os, k.tape.trans h.tape, k.output.trans h.output, Nat.le_trans h.size k.size, fun i hi hU => (k.keep i (Nat.lt_of_lt_of_le hi h.size) hU).trans (h.keep i hi hU),
    fun i cur hU hc => by
      obtain ⟨c1, h1, h2⟩ := h.strs i cur hU hc
      obtain ⟨c2, h3, h4⟩ := k.strs i c1 hU h1
      exact ⟨c2, h3, h4.trans h2⟩,
    fun i cur hU hc => by
      obtain ⟨c1, h1, h2, h5⟩ := h.nods i cur hU hc
      obtain ⟨c2, h3, h4, h6⟩ := k.nods i c1 hU h1
      refine ⟨c2, h3, h4.trans h2, fun j hj => ?_⟩
      rcases h6 j (by rw [h2]; exact hj) with e | e
      · rw [e]; exact h5 j hj
      · exact .inr e⟩
theorem Sp.of_below {U : Nat → Prop} {w w' : World} (h : Below w.heap.size w w') : Sp U w w' :=
  ⟨h.os, h.tape, h.output, h.size, fun b hb _ => h.block b hb, fun b cur _ hc => ⟨cur, (h.block b (Array.getElem?_eq_some_iff.1 hc).1).trans hc, rfl⟩,
    fun b cur _ hc => ⟨cur, (h.block b (Array.getElem?_eq_some_iff.1 hc).1).trans hc, rfl, fun _ _ => .inl rfl⟩⟩
/-- More blocks may be spoilt. -/
theorem Sp.wider {U U' : Nat → Prop} {w w' : World} (h : Sp U w w') (hU : ∀ b, b < w.heap.size → (U b ↔ U' b)) : Sp U' w w' :=
  ⟨h.os, h.tape, h.output, h.size, fun b hb hn => h.keep b hb (fun e => hn ((hU b hb).1 e)), fun b cur hb hc => h.strs b cur ((hU b (Array.getElem?_eq_some_iff.1 hc).1).2 hb) hc,
    fun b cur hb hc => h.nods b cur ((hU b (Array.getElem?_eq_some_iff.1 hc).1).2 hb) hc⟩
theorem Sp.bel {U : Nat → Prop} {n : Nat} {w w' : World} (h : Sp U w w') (hn : n ≤ w.heap.size) (hU : ∀ b, U b → n ≤ b) : Below n w w' :=
  ⟨h.os, h.tape, h.output, h.size, fun b hb => h.keep b (by omega) (fun e => by have := hU b e; omega)⟩
theorem Sp.blk {U : Nat → Prop} {w w' : World} {g : Nat} {t : TypeId} {cs : Array Value} (h : Sp U w w') (hb : Blk w g t cs) (hg : ¬ U g) : Blk w' g t cs := (h.keep g hb.lt hg).trans hb
/-- One string spoilt. -/
theorem Sp.setStr {U : Nat → Prop} {w : World} {g i : Nat} {cur : Array Value} (hU : U g) (hg : w.heap[g]? = some (.cells cur 9 (0, 0))) (u : Value) : Sp U w (w.setCell ⟨g, i, none⟩ u) := by
  refine ⟨rfl, rfl, rfl, by simp, fun b _ hb => heap_set_other w g i b u (fun e => hb (by rw [e]; exact hU)), fun b c _ hc => ?_, fun b c _ hc => ?_⟩
  · by_cases hbg : b = g
    · subst hbg
      rw [hc] at hg
      have hg' := Option.some.inj hg
      injection hg' with hg'
      subst hg'
      exact ⟨c.setIfInBounds i u, Blk.put (t := 9) hc i u, by simp⟩
    · exact ⟨c, (heap_set_other w g i b u hbg).trans hc, rfl⟩
  · have hbg : b ≠ g := fun e => by
      subst e
      rw [hc] at hg
      have hg' := Option.some.inj hg
      injection hg' with _ hg'
      exact absurd hg' (by decide)
    exact ⟨c, (heap_set_other w g i b u hbg).trans hc, rfl, fun _ _ => .inl rfl⟩
theorem put6_arr {w : World} {g : Nat} {cur : Array Value} {t : TypeId} (hg : Blk w g t cur) (o : Nat) (a0 a1 a2 a3 a4 a5 : Value) :
    Blk (put6 w g o a0 a1 a2 a3 a4 a5) g t ((((((cur.setIfInBounds o a0).setIfInBounds (o + 1) a1).setIfInBounds (o + 2) a2).setIfInBounds (o + 3) a3).setIfInBounds (o + 4) a4).setIfInBounds (o + 5) a5) :=
  (((((hg.put o a0).put (o + 1) a1).put (o + 2) a2).put (o + 3) a3).put (o + 4) a4).put (o + 5) a5
theorem six_at {cur : List Value} {o : Nat} (h : o + 6 ≤ cur.length) (a0 a1 a2 a3 a4 a5 : Value) : ((((((((cur.set o a0).set (o + 1) a1).set (o + 2) a2).set (o + 3) a3).set (o + 4) a4).set (o + 5) a5).drop o).take 6) = [a0, a1, a2, a3, a4, a5] := by
  apply List.ext_getElem?
  intro i
  rw [List.getElem?_take]
  by_cases h6 : i < 6
  · rw [if_pos h6, List.getElem?_drop]
    have hi : i = 0 ∨ i = 1 ∨ i = 2 ∨ i = 3 ∨ i = 4 ∨ i = 5 := by omega
    rcases hi with rfl | rfl | rfl | rfl | rfl | rfl <;> simp [List.getElem?_set] <;> omega
  · rw [if_neg h6, List.getElem?_eq_none (by simp; omega)]
theorem six_off {cur : List Value} {o p : Nat} (h : p + 6 ≤ o ∨ o + 6 ≤ p) (a0 a1 a2 a3 a4 a5 : Value) : ((((((((cur.set o a0).set (o + 1) a1).set (o + 2) a2).set (o + 3) a3).set (o + 4) a4).set (o + 5) a5).drop p).take 6) = (cur.drop p).take 6 := by
  apply List.ext_getElem?
  intro i
  rw [List.getElem?_take, List.getElem?_take]
  by_cases h6 : i < 6
  · rw [if_pos h6, if_pos h6, List.getElem?_drop, List.getElem?_drop]
    rw [List.getElem?_set_ne (by omega), List.getElem?_set_ne (by omega), List.getElem?_set_ne (by omega), List.getElem?_set_ne (by omega), List.getElem?_set_ne (by omega), List.getElem?_set_ne (by omega)]
  · rw [if_neg h6, if_neg h6]
/-- One node spoilt. -/
theorem Sp.put6 {U : Nat → Prop} {w : World} {g j : Nat} {cur : Array Value} (hU : U g) (hg : w.heap[g]? = some (.cells cur 26 (0, 0))) (hj : j * 6 + 6 ≤ cur.size) :
    Sp U w (put6 w g (j * 6) (.int .i64 (-9)) (.int .i64 0) (.int .u64 0) (.string ⟨#[115, 112, 111, 105, 108, 116]⟩) (.slice none 0 0) (.slice none 0 0)) := by
  have hB := put6_below (Below.refl 0 w) g (j * 6) (.int .i64 (-9)) (.int .i64 0) (.int .u64 0) (.string ⟨#[115, 112, 111, 105, 108, 116]⟩) (.slice none 0 0) (.slice none 0 0) (Nat.zero_le _)
  refine ⟨hB.os, hB.tape, hB.output, by rw [put6_size]; exact Nat.le_refl _, fun b _ hb => put6_other w g _ b _ _ _ _ _ _ (fun e => hb (by rw [e]; exact hU)), fun b c _ hc => ?_, fun b c _ hc => ?_⟩
  · have hbg : b ≠ g := fun e => by
      subst e
      rw [hc] at hg
      have hg' := Option.some.inj hg
      injection hg' with _ hg'
      exact absurd hg' (by decide)
    exact ⟨c, (put6_other w g _ b _ _ _ _ _ _ hbg).trans hc, rfl⟩
  · by_cases hbg : b = g
    · subst hbg
      rw [hc] at hg
      have hg' := Option.some.inj hg
      injection hg' with hg'
      subst hg'
      refine ⟨_, put6_arr (t := 26) hc _ _ _ _ _ _ _, by simp, fun i hi => ?_⟩
      simp only [Array.toList_setIfInBounds]
      by_cases hij : i = j
      · subst hij
        exact .inr (six_at (by simpa using hi) _ _ _ _ _ _)
      · exact .inl (six_off (by omega) _ _ _ _ _ _)
    · exact ⟨c, (put6_other w g _ b _ _ _ _ _ _ hbg).trans hc, rfl, fun _ _ => .inl rfl⟩

/-- Six cells that head a tree of rows of the call's own, of a depth of at most d below it. -/
def SX (U : Nat → Prop) (w : World) : Nat → List Value → Prop
  | 0, cs => ∃ (k n u : Int) (s : ByteArray) (kv : Value) (nk : Nat) (xk : List Value) (lv : Value) (xs : List Value), cs = [.int .i64 k, .int .i64 n, .int .u64 u, .string s, kv, lv] ∧ Ow U w 9 1 kv nk xk ∧ Ow U w 26 6 lv 0 xs
  | d + 1, cs => ∃ (k n u : Int) (s : ByteArray) (kv : Value) (nk : Nat) (xk : List Value) (lv : Value) (nl : Nat) (xs : List Value), cs = [.int .i64 k, .int .i64 n, .int .u64 u, .string s, kv, lv] ∧ Ow U w 9 1 kv nk xk ∧ Ow U w 26 6 lv nl xs ∧
      ∀ j, j < nl → SX U w d ((xs.drop (j * 6)).take 6)
theorem ow_nil (U : Nat → Prop) (w : World) (e : TypeId) (size : Nat) : Ow U w e size (.slice none 0 0) 0 [] := ⟨⟨by simp, .inl ⟨rfl, rfl⟩⟩, fun g hg => by cases hg⟩
theorem SX.spoilt (U : Nat → Prop) (w : World) : ∀ d, SX U w d spoilt
  | 0 => ⟨_, _, _, _, _, 0, [], _, [], rfl, ow_nil _ _ _ _, ow_nil _ _ _ _⟩
  | d + 1 => ⟨_, _, _, _, _, 0, [], _, 0, [], rfl, ow_nil _ _ _ _, ow_nil _ _ _ _, fun j hj => by omega⟩
theorem Ow.sp_str {U : Nat → Prop} {w w' : World} (hs : Sp U w w') {v : Value} {n : Nat} {xs : List Value} (h : Ow U w 9 1 v n xs) : ∃ xs', Ow U w' 9 1 v n xs' := by
  obtain ⟨⟨h1, h2⟩, hU⟩ := h
  rcases h2 with ⟨rfl, rfl⟩ | ⟨g, cap, cur, rfl, h3, h4, h5, h6, h7, h8⟩
  · exact ⟨[], ow_nil _ _ _ _⟩
  · obtain ⟨cur', e1, e2⟩ := hs.strs g cur (hU g rfl) h4
    refine ⟨cur'.toList.take (n * 1), ⟨by rw [List.length_take]; simp only [Array.length_toList]; omega, .inr ⟨g, cap, cur', rfl, h3, e1, h5, h6, by omega, rfl⟩⟩, hU⟩
theorem take_six {l : List Value} {n j : Nat} (h : j < n) : ((l.take (n * 6)).drop (j * 6)).take 6 = (l.drop (j * 6)).take 6 := by
  rw [List.drop_take, List.take_take, Nat.min_eq_left (by omega)]
theorem Ow.sp_nod {U : Nat → Prop} {w w' : World} (hs : Sp U w w') {v : Value} {n : Nat} {xs : List Value} (h : Ow U w 26 6 v n xs) :
    ∃ xs', Ow U w' 26 6 v n xs' ∧ ∀ j, j < n → (xs'.drop (j * 6)).take 6 = (xs.drop (j * 6)).take 6 ∨ (xs'.drop (j * 6)).take 6 = Go.Proofs.YtlleknofnlmecaaDoor.spoilt := by
  obtain ⟨⟨h1, h2⟩, hU⟩ := h
  rcases h2 with ⟨rfl, rfl⟩ | ⟨g, cap, cur, rfl, h3, h4, h5, h6, h7, h8⟩
  · exact ⟨[], ow_nil _ _ _ _, fun j hj => by omega⟩
  · obtain ⟨cur', e1, e2, e3⟩ := hs.nods g cur (hU g rfl) h4
    refine ⟨cur'.toList.take (n * 6), ⟨⟨by rw [List.length_take]; simp only [Array.length_toList]; omega, .inr ⟨g, cap, cur', rfl, h3, e1, h5, h6, by omega, rfl⟩⟩, hU⟩, fun j hj => ?_⟩
    rw [← h8, take_six hj, take_six hj]
    exact e3 j (by omega)
theorem SX.sp {U : Nat → Prop} {w w' : World} (hs : Sp U w w') : ∀ (d : Nat) (cs : List Value), SX U w d cs → SX U w' d cs
  | 0, cs, h => by
    obtain ⟨k, n, u, s, kv, nk, xk, lv, xs, rfl, h1, h2⟩ := h
    obtain ⟨xk', h1'⟩ := h1.sp_str hs
    obtain ⟨xs', h2', _⟩ := h2.sp_nod hs
    exact ⟨k, n, u, s, kv, nk, xk', lv, xs', rfl, h1', h2'⟩
  | d + 1, cs, h => by
    obtain ⟨k, n, u, s, kv, nk, xk, lv, nl, xs, rfl, h1, h2, h3⟩ := h
    obtain ⟨xk', h1'⟩ := h1.sp_str hs
    obtain ⟨xs', h2', h4⟩ := h2.sp_nod hs
    refine ⟨k, n, u, s, kv, nk, xk', lv, nl, xs', rfl, h1', h2', fun j hj => ?_⟩
    rcases h4 j hj with e | e
    · rw [e]; exact SX.sp hs d _ (h3 j hj)
    · rw [e]; exact SX.spoilt _ _ _
theorem SX.stepU {U U' : Nat → Prop} {w : World} (hk : ∀ b, U b → b < w.heap.size → U' b) : ∀ (d : Nat) (cs : List Value), SX U w d cs → SX U' w d cs
  | 0, cs, h => by
    obtain ⟨k, n, u, s, kv, nk, xk, lv, xs, rfl, h1, h2⟩ := h
    exact ⟨k, n, u, s, kv, nk, xk, lv, xs, rfl, h1.step fun b hb hl => ⟨rfl, hk b hb hl⟩, h2.step fun b hb hl => ⟨rfl, hk b hb hl⟩⟩
  | d + 1, cs, h => by
    obtain ⟨k, n, u, s, kv, nk, xk, lv, nl, xs, rfl, h1, h2, h3⟩ := h
    exact ⟨k, n, u, s, kv, nk, xk, lv, nl, xs, rfl, h1.step fun b hb hl => ⟨rfl, hk b hb hl⟩, h2.step fun b hb hl => ⟨rfl, hk b hb hl⟩, fun j hj => SX.stepU hk d _ (h3 j hj)⟩
theorem NdOL.nth {U : Nat → Prop} {w : World} : ∀ (l : List T) (xs : List Value), NdOL U w l xs → ∀ (j : Nat) (t : T), l[j]? = some t → NdO U w t ((xs.drop (j * 6)).take 6)
  | [], _, _, j, t, hj => by simp at hj
  | t0 :: ts, xs, h, 0, t, hj => by
    obtain ⟨cs, ys, rfl, h1, h2⟩ := h
    obtain rfl : t0 = t := by simpa using hj
    have hl := h1.len
    simp only [Nat.zero_mul, List.drop_zero]
    rw [← hl, List.take_left]
    exact h1
  | t0 :: ts, xs, h, j + 1, t, hj => by
    obtain ⟨cs, ys, rfl, h1, h2⟩ := h
    have hl := h1.len
    rw [show (j + 1) * 6 = cs.length + j * 6 by omega, List.drop_append, List.drop_eq_nil_of_le (by omega), List.nil_append, Nat.add_sub_cancel_left]
    exact NdOL.nth ts ys h2 j t (by simpa using hj)
theorem SX.of_ndo {U : Nat → Prop} {w : World} : ∀ (d : Nat) (t : T) (cs : List Value), dp t ≤ d + 1 → NdO U w t cs → SX U w d cs
  | 0, .mk k n u s ks l, cs, hd, h => by
    obtain ⟨_, _, _, kv, lv, xs, rfl, h1, h2, h3⟩ := h
    have hl : l = [] := by
      cases l with
      | nil => rfl
      | cons t ts => have := dp_pos t; simp only [dp, dpL] at hd; omega
    subst hl
    exact ⟨k, n, u, s, kv, _, _, lv, xs, rfl, h1, h2⟩
  | d + 1, .mk k n u s ks l, cs, hd, h => by
    obtain ⟨_, _, _, kv, lv, xs, rfl, h1, h2, h3⟩ := h
    refine ⟨k, n, u, s, kv, _, _, lv, l.length, xs, rfl, h1, h2, fun j hj => ?_⟩
    have ht : l[j]? = some l[j] := List.getElem?_eq_getElem hj
    have hdl := dp_le_of ht
    simp only [dp] at hd
    exact SX.of_ndo d l[j] _ (by omega) (NdOL.nth l xs h3 j _ ht)
end Go.Proofs.YtlleknofnlmecaaDoor
namespace Go.Proofs.YtlleknofnlmecaaDoor
open Go.RowKit

theorem SX.open {U : Nat → Prop} {w : World} {d : Nat} {cs : List Value} (h : SX U w d cs) : ∃ (k n u : Int) (s : ByteArray) (kv : Value) (nk : Nat) (xk : List Value) (lv : Value) (nl : Nat) (xs : List Value), cs = [.int .i64 k, .int .i64 n, .int .u64 u, .string s, kv, lv] ∧ Ow U w 9 1 kv nk xk ∧ Ow U w 26 6 lv nl xs ∧
      ∀ j, j < nl → ∃ d', d = d' + 1 ∧ SX U w d' ((xs.drop (j * 6)).take 6) := by
  cases d with
  | zero =>
    obtain ⟨k, n, u, s, kv, nk, xk, lv, xs, h0, h1, h2⟩ := h
    exact ⟨k, n, u, s, kv, nk, xk, lv, 0, xs, h0, h1, h2, fun j hj => by omega⟩
  | succ d =>
    obtain ⟨k, n, u, s, kv, nk, xk, lv, nl, xs, h0, h1, h2, h3⟩ := h
    exact ⟨k, n, u, s, kv, nk, xk, lv, nl, xs, h0, h1, h2, fun j hj => ⟨d, rfl, h3 j hj⟩⟩
/-- Between two rounds: the box of the node, and what has been spoilt. -/
structure SR (U : Nat → Prop) (w : World) (k n u : Int) (s : ByteArray) (kv lv : Value) (wr : World) : Prop where
  sp : Sp U w wr
  ul : ∀ b, U b → b < w.heap.size
  bx : Bx wr w.heap.size (.int .i64 k) (.int .i64 n) (.int .u64 u) (.string s) kv lv
theorem SR.go {U : Nat → Prop} {w : World} {k n u : Int} {s : ByteArray} {kv lv : Value} {wr w2 : World} (h : SR U w k n u s kv lv wr) (hs : Sp U wr w2) : SR U w k n u s kv lv w2 :=
  ⟨h.sp.trans hs, h.ul, hs.blk h.bx (fun e => by have := h.ul _ e; omega)⟩
theorem SR.key {U : Nat → Prop} {w : World} {k n u : Int} {s : ByteArray} {kv lv : Value} {wr : World} (h : SR U w k n u s kv lv wr) {nk : Nat} {xk : List Value} (hk : Ow U w 9 1 kv nk xk) {j : Nat} (hj : j < nk) :
    ∃ g c old, kv = .slice (some ⟨g, 0, none⟩) nk c ∧ wr.cell? ⟨g, j, none⟩ = some old ∧ wr.frozen? ⟨g, j, none⟩ = false ∧ ∀ x, SR U w k n u s kv lv (wr.setCell ⟨g, j, none⟩ x) := by
  obtain ⟨xk', hk'⟩ := hk.sp_str h.sp
  rcases hk'.1.2 with ⟨rfl, h0⟩ | ⟨g, cap, cur, rfl, h3, h4, h5, h6, h7, h8⟩
  · omega
  · obtain ⟨old, ho⟩ : ∃ old, cur[j]? = some old := ⟨_, Array.getElem?_eq_getElem (by omega)⟩
    refine ⟨g, cap, old, rfl, (Blk.cell (t := 9) h4 j).trans ho, Blk.frozen (t := 9) h4 j, fun x => h.go (Sp.setStr (hk'.2 g rfl) h4 x)⟩
theorem SR.nod {U : Nat → Prop} {w : World} {k n u : Int} {s : ByteArray} {kv lv : Value} {wr : World} (h : SR U w k n u s kv lv wr) {nl : Nat} {xs : List Value} (hk : Ow U w 26 6 lv nl xs) {j : Nat} (hj : j < nl) :
    ∃ (g c : Nat) (old : Nat → Value), lv = .slice (some ⟨g, 0, none⟩) nl c ∧ (∀ i, i < 6 → wr.cell? ⟨g, j * 6 + i, none⟩ = some (old i)) ∧ (∀ i, wr.frozen? ⟨g, i, none⟩ = false) ∧
      SR U w k n u s kv lv (put6 wr g (j * 6) (.int .i64 (-9)) (.int .i64 0) (.int .u64 0) (.string ⟨#[115, 112, 111, 105, 108, 116]⟩) (.slice none 0 0) (.slice none 0 0)) ∧
      ([old 0, old 1, old 2, old 3, old 4, old 5] = (xs.drop (j * 6)).take 6 ∨ [old 0, old 1, old 2, old 3, old 4, old 5] = Go.Proofs.YtlleknofnlmecaaDoor.spoilt) := by
  obtain ⟨xs', hk', hx⟩ := hk.sp_nod h.sp
  have hx := hx j hj
  rcases hk'.1.2 with ⟨rfl, h0⟩ | ⟨g, cap, cur, rfl, h3, h4, h5, h6, h7, h8⟩
  · omega
  · have hc : ∀ i, i < 6 → wr.cell? ⟨g, j * 6 + i, none⟩ = some (cur.toList.getD (j * 6 + i) undef) := fun i hi => by
      rw [Blk.cell (t := 26) h4, List.getD_eq_getElem?_getD, Array.getElem?_toList, Array.getElem?_eq_getElem (by omega)]
      rfl
    refine ⟨g, cap, fun i => cur.toList.getD (j * 6 + i) undef, rfl, hc, fun i => Blk.frozen (t := 26) h4 i, h.go (Sp.put6 (hk'.2 g rfl) h4 (by omega)), ?_⟩
    have e : [cur.toList.getD (j * 6 + 0) undef, cur.toList.getD (j * 6 + 1) undef, cur.toList.getD (j * 6 + 2) undef, cur.toList.getD (j * 6 + 3) undef, cur.toList.getD (j * 6 + 4) undef, cur.toList.getD (j * 6 + 5) undef] = (xs'.drop (j * 6)).take 6 := by
      rw [← h8, take_six hj]
      apply List.ext_getElem?
      intro i
      rw [List.getElem?_take]
      by_cases h6 : i < 6
      · rw [if_pos h6, List.getElem?_drop]
        have hi : i = 0 ∨ i = 1 ∨ i = 2 ∨ i = 3 ∨ i = 4 ∨ i = 5 := by omega
        have hl : cur.toList.length = cap * 6 := by simpa using h7
        rcases hi with rfl | rfl | rfl | rfl | rfl | rfl <;> simp [List.getD_eq_getElem?_getD] <;> rw [Array.getElem?_eq_getElem (by omega)] <;> rfl
      · rw [if_neg h6, List.getElem?_eq_none (by simp; omega)]
    rw [e]
    exact hx

set_option maxRecDepth 100000 in
set_option maxHeartbeats 1000000 in
theorem spoil_any : ∀ (d : Nat) (U : Nat → Prop) (cs : List Value) (w : World), SX U w d cs → Calls Tryd.prog 28 #[.agg cs.toArray] w fun e w' => e = .returned (.tuple #[]) ∧ Sp U w w' := by
  intro d
  induction d using Nat.strongRecOn with
  | _ d ih =>
    intro U cs w hx
    obtain ⟨k, n, u, s, kv, nk, xk, lv, nl, xs, rfl, hk, hl, hch⟩ := (SX.stepU (U' := fun b => U b ∧ b < w.heap.size) (fun b hb hlt => ⟨hb, hlt⟩) d cs hx).open
    have HR0 : Hid (SR (fun b => U b ∧ b < w.heap.size) w k n u s kv lv (w.alloc (.cells #[.int .i64 k, .int .i64 n, .int .u64 u, .string s, kv, lv] 26))) := Lib.hid ⟨Sp.of_below ((Below.refl _ w).alloc (Nat.le_refl _) _), fun b h => h.2, Blk.new _ _ _⟩
    obtain ⟨KA, Kc, rfl⟩ := hk.shape
    obtain ⟨LA, Lc, rfl⟩ := hl.shape
    go_enter Tryd.func28, Tryd.ntmps28
    go_wp2_with fail
    go_loopw [2] (fun i wr => ∃ j : Nat, j ≤ nk ∧ i = .int .i64 (j : Int) ∧ Hid (SR (fun b => U b ∧ b < w.heap.size) w k n u s (.slice KA nk Kc) (.slice LA nl Lc) wr)) (fun i wr => nk - (intOf i).toNat)
    case atStart => exact ⟨0, Nat.zero_le _, rfl, HR0⟩
    case round =>
      obtain ⟨j, hj, rfl, HR⟩ := hrel
      obtain ⟨_, _, _, _, c4, c5⟩ := HR.out.bx.all
      by_cases hjn : j < nk
      · obtain ⟨g, c, old, e, h1, h2, h3⟩ := HR.out.key hk hjn
        injection e with e1 e2 e3
        subst e1 e3
        clear e2
        have HN := Lib.hid (h3 (.string ⟨#[115, 112, 111, 105, 108, 116]⟩))
        clear h3
        have hjm : (j : Int) ≤ 9223372036854775806 := by have := hk.cells; obtain ⟨_, _, e, h1, h2, _⟩ := this; injection e with _ e2 e3; unfold maxLen at h2; omega
        go_wp2_with fail
        go_roundw
        case rel => exact ⟨j + 1, by omega, by simp, HN⟩
        case measure => simp [intOf]; omega
      · go_wp2_with fail
        have HR1 := HR
        clear HR0 HR c4 c5 hjn hj
        go_loopw [3] (fun i wr => ∃ j : Nat, j ≤ nl ∧ i = .int .i64 (j : Int) ∧ Hid (SR (fun b => U b ∧ b < w.heap.size) w k n u s (.slice KA nk Kc) (.slice LA nl Lc) wr)) (fun i wr => nl - (intOf i).toNat)
        case atStart => exact ⟨0, Nat.zero_le _, rfl, HR1⟩
        case round =>
          obtain ⟨j, hj, rfl, HR⟩ := hrel
          obtain ⟨_, _, _, _, c4, c5⟩ := HR.out.bx.all
          by_cases hjn : j < nl
          · obtain ⟨g, c, old, e, h1, h2, -, h4⟩ := HR.out.nod hl hjn
            injection e with e1 e2 e3
            subst e1 e3
            clear e2
            obtain ⟨d', hd', hx'⟩ := hch j hjn
            have hjm : (j : Int) ≤ 9223372036854775806 := by have := hl.cells; obtain ⟨_, _, e, h1, h2, _⟩ := this; injection e with _ e2 e3; unfold maxLen at h2; omega
            have HCH : Hid (∀ W, Hid (SR (fun b => U b ∧ b < w.heap.size) w k n u s (.slice KA nk Kc) (.slice (some ⟨g, 0, none⟩) nl Lc) W) → (∀ i, i < 6 → W.cell? ⟨g, j * 6 + i, none⟩ = some (old i)) → Calls Tryd.prog 28 #[.agg #[old 0, old 1, old 2, old 3, old 4, old 5]] W fun e w' => e = .returned (.tuple #[]) ∧ Hid (SR (fun b => U b ∧ b < w.heap.size) w k n u s (.slice KA nk Kc) (.slice (some ⟨g, 0, none⟩) nl Lc) w')) := Lib.hid fun W H _ => by
              have hX : SX (fun b => U b ∧ b < w.heap.size) W d' [old 0, old 1, old 2, old 3, old 4, old 5] := by
                rcases h4 with e | e
                · rw [e]; exact SX.sp H.out.sp _ _ hx'
                · rw [e]; exact SX.spoilt _ _ _
              refine (ih d' (by omega) _ _ W hX).mono ?_
              rintro e w' ⟨rfl, h⟩
              exact ⟨rfl, Lib.hid (H.out.go h)⟩
            have HND : Hid (∀ W, Hid (SR (fun b => U b ∧ b < w.heap.size) w k n u s (.slice KA nk Kc) (.slice (some ⟨g, 0, none⟩) nl Lc) W) → ∃ old : Nat → Value, (∀ i, i < 6 → W.cell? ⟨g, j * 6 + i, none⟩ = some (old i)) ∧ (∀ i, W.frozen? ⟨g, i, none⟩ = false) ∧ W.cell? ⟨w.heap.size, 5, none⟩ = some (.slice (some ⟨g, 0, none⟩) nl Lc) ∧ Hid (SR (fun b => U b ∧ b < w.heap.size) w k n u s (.slice KA nk Kc) (.slice (some ⟨g, 0, none⟩) nl Lc) (put6 W g (j * 6) (.int .i64 (-9)) (.int .i64 0) (.int .u64 0) (.string ⟨#[115, 112, 111, 105, 108, 116]⟩) (.slice none 0 0) (.slice none 0 0)))) := Lib.hid fun W H => by
              obtain ⟨g', c', old', e, h1, h2, h3, _⟩ := H.out.nod hl hjn
              injection e with e1 e2 e3
              injection e1 with e1
              injection e1 with e1
              subst e1 e3
              exact ⟨old', h1, h2, H.out.bx.all.2.2.2.2.2, Lib.hid h3⟩
            have a0 : wr.cell? ⟨g, j * 6, none⟩ = some (old 0) := h1 0 (by omega)
            have a1 := h1 1 (by omega)
            have a2 := h1 2 (by omega)
            have a3 := h1 3 (by omega)
            have a4 := h1 4 (by omega)
            have a5 := h1 5 (by omega)
            have HH1 := Lib.hid h1
            clear h1 h2 h4 hx' hch ih
            go_wp2_with (go_at_call 28; refine (HCH.out _ HR HH1.out).mono ?_; rintro e w2 ⟨rfl, HR2⟩; obtain ⟨old2, h1, h2, x5, HR3⟩ := HND.out _ HR2; have b0 : w2.cell? ⟨g, j * 6, none⟩ = some (old2 0) := h1 0 (by omega); have b1 := h1 1 (by omega); have b2 := h1 2 (by omega); have b3 := h1 3 (by omega); have b4 := h1 4 (by omega); have b5 := h1 5 (by omega); have f0 := h2 (j * 6); have f1 := h2 (j * 6 + 1); have f2 := h2 (j * 6 + 2); have f3 := h2 (j * 6 + 3); have f4 := h2 (j * 6 + 4); have f5 := h2 (j * 6 + 5); clear h1 h2; clear a0 a1 a2 a3 a4 a5 c4 c5)
            go_roundw
            case rel => exact ⟨j + 1, by omega, by simp, HR3⟩
            case measure => simp [intOf]; omega
          · go_wp2_with fail
            go_end0
            refine ⟨rfl, HR.out.sp.wider fun b hb => ⟨fun h => h.1, fun h => ⟨h, hb⟩⟩⟩
end Go.Proofs.YtlleknofnlmecaaDoor
