/-
  What is proved here: what spoiling a tree's own rows leaves of memory, and that what read as a tree of own rows still reads as one; no condition but those that each fact states.
-/
import Derived.Test.YtmhaffcgiaffpaaDoorCopy
namespace Go.Proofs.YtmhaffcgiaffpaaDoor
open Go.RowKit

def spoilt : List Value := [.int .i64 (-9), .int .i64 0, .int .u64 0, .string ⟨#[115, 112, 111, 105, 108, 116]⟩, .slice none 0 0, .slice none 0 0]
/-- All that lay lies as it lay, but rows of strings and of nodes in blocks of which U holds, in which strings or whole nodes may have been spoilt. -/
structure Sp (U : Nat → Prop) (w w' : World) : Prop where
  os : w'.os = w.os
  tape : w'.tape = w.tape
  output : w'.output = w.output
  size : w.heap.size ≤ w'.heap.size
  keep : ∀ b, b < w.heap.size → ¬ U b → w'.heap[b]? = w.heap[b]?
  strs : ∀ b cur, U b → w.heap[b]? = some (.cells cur 9 (0, 0)) → ∃ cur', w'.heap[b]? = some (.cells cur' 9 (0, 0)) ∧ cur'.size = cur.size
  nods : ∀ b cur, U b → w.heap[b]? = some (.cells cur 26 (0, 0)) → ∃ cur', w'.heap[b]? = some (.cells cur' 26 (0, 0)) ∧ cur'.size = cur.size ∧
    ∀ j, j * 6 + 6 ≤ cur.size → (cur'.toList.drop (j * 6)).take 6 = (cur.toList.drop (j * 6)).take 6 ∨ (cur'.toList.drop (j * 6)).take 6 = spoilt
theorem Sp.refl (U : Nat → Prop) (w : World) : Sp U w w := ⟨rfl, rfl, rfl, Nat.le_refl _, fun _ _ _ => rfl, fun _ cur _ h => ⟨cur, h, rfl⟩, fun _ cur _ h => ⟨cur, h, rfl, fun _ _ => .inl rfl⟩⟩
theorem Sp.trans {U : Nat → Prop} {a b c : World} (h : Sp U a b) (k : Sp U b c) : Sp U a c :=
  ⟨k.os.trans h.os, k.tape.trans h.tape, k.output.trans h.output, Nat.le_trans h.size k.size, fun i hi hU => (k.keep i (Nat.lt_of_lt_of_le hi h.size) hU).trans (h.keep i hi hU),
    fun i cur hU hc => by
      obtain ⟨c1, h1, h2⟩ := h.strs i cur hU hc
      obtain ⟨c2, h3, h4⟩ := k.strs i c1 hU h1
      exact ⟨c2, h3, h4.trans h2⟩,
    fun i cur hU hc => by
      obtain ⟨c1, h1, h2, h5⟩ := h.nods i cur hU hc
      obtain ⟨c2, h3, h4, h6⟩ := k.nods i c1 hU h1
      refine ⟨c2, h3, h4.trans h2, fun j hj => ?_⟩
      rcases h6 j (by rw [h2]; exact hj) with e | e
      · rw [e]; exact h5 j hj
      · exact .inr e⟩
theorem Sp.of_below {U : Nat → Prop} {w w' : World} (h : Below w.heap.size w w') : Sp U w w' :=
  ⟨h.os, h.tape, h.output, h.size, fun b hb _ => h.block b hb, fun b cur _ hc => ⟨cur, (h.block b (Array.getElem?_eq_some_iff.1 hc).1).trans hc, rfl⟩,
    fun b cur _ hc => ⟨cur, (h.block b (Array.getElem?_eq_some_iff.1 hc).1).trans hc, rfl, fun _ _ => .inl rfl⟩⟩
/-- More blocks may be spoilt. -/
theorem Sp.wider {U U' : Nat → Prop} {w w' : World} (h : Sp U w w') (hU : ∀ b, b < w.heap.size → (U b ↔ U' b)) : Sp U' w w' :=
  ⟨h.os, h.tape, h.output, h.size, fun b hb hn => h.keep b hb (fun e => hn ((hU b hb).1 e)), fun b cur hb hc => h.strs b cur ((hU b (Array.getElem?_eq_some_iff.1 hc).1).2 hb) hc,
    fun b cur hb hc => h.nods b cur ((hU b (Array.getElem?_eq_some_iff.1 hc).1).2 hb) hc⟩
theorem Sp.bel {U : Nat → Prop} {n : Nat} {w w' : World} (h : Sp U w w') (hn : n ≤ w.heap.size) (hU : ∀ b, U b → n ≤ b) : Below n w w' :=
  ⟨h.os, h.tape, h.output, h.size, fun b hb => h.keep b (by omega) (fun e => by have := hU b e; omega)⟩
theorem Sp.blk {U : Nat → Prop} {w w' : World} {g : Nat} {t : TypeId} {cs : Array Value} (h : Sp U w w') (hb : Blk w g t cs) (hg : ¬ U g) : Blk w' g t cs := (h.keep g hb.lt hg).trans hb
/-- One string spoilt. -/
theorem Sp.setStr {U : Nat → Prop} {w : World} {g i : Nat} {cur : Array Value} (hU : U g) (hg : w.heap[g]? = some (.cells cur 9 (0, 0))) (u : Value) : Sp U w (w.setCell ⟨g, i, none⟩ u) := by
  refine ⟨rfl, rfl, rfl, by simp, fun b _ hb => heap_set_other w g i b u (fun e => hb (by rw [e]; exact hU)), fun b c _ hc => ?_, fun b c _ hc => ?_⟩
  · by_cases hbg : b = g
    · subst hbg
      rw [hc] at hg
      have hg' := Option.some.inj hg
      injection hg' with hg'
      subst hg'
      exact ⟨c.setIfInBounds i u, Blk.put (t := 9) hc i u, by simp⟩
    · exact ⟨c, (heap_set_other w g i b u hbg).trans hc, rfl⟩
  · have hbg : b ≠ g := fun e => by
      subst e
      rw [hc] at hg
      have hg' := Option.some.inj hg
      injection hg' with _ hg'
      exact absurd hg' (by decide)
    exact ⟨c, (heap_set_other w g i b u hbg).trans hc, rfl, fun _ _ => .inl rfl⟩
theorem put6_arr {w : World} {g : Nat} {cur : Array Value} {t : TypeId} (hg : Blk w g t cur) (o : Nat) (a0 a1 a2 a3 a4 a5 : Value) :
    Blk (put6 w g o a0 a1 a2 a3 a4 a5) g t ((((((cur.setIfInBounds o a0).setIfInBounds (o + 1) a1).setIfInBounds (o + 2) a2).setIfInBounds (o + 3) a3).setIfInBounds (o + 4) a4).setIfInBounds (o + 5) a5) :=
  (((((hg.put o a0).put (o + 1) a1).put (o + 2) a2).put (o + 3) a3).put (o + 4) a4).put (o + 5) a5
theorem six_at {cur : List Value} {o : Nat} (h : o + 6 ≤ cur.length) (a0 a1 a2 a3 a4 a5 : Value) : ((((((((cur.set o a0).set (o + 1) a1).set (o + 2) a2).set (o + 3) a3).set (o + 4) a4).set (o + 5) a5).drop o).take 6) = [a0, a1, a2, a3, a4, a5] := by
  apply List.ext_getElem?
  intro i
  rw [List.getElem?_take]
  by_cases h6 : i < 6
  · rw [if_pos h6, List.getElem?_drop]
    have hi : i = 0 ∨ i = 1 ∨ i = 2 ∨ i = 3 ∨ i = 4 ∨ i = 5 := by omega
    rcases hi with rfl | rfl | rfl | rfl | rfl | rfl <;> simp [List.getElem?_set] <;> omega
  · rw [if_neg h6, List.getElem?_eq_none (by simp; omega)]
theorem six_off {cur : List Value} {o p : Nat} (h : p + 6 ≤ o ∨ o + 6 ≤ p) (a0 a1 a2 a3 a4 a5 : Value) : ((((((((cur.set o a0).set (o + 1) a1).set (o + 2) a2).set (o + 3) a3).set (o + 4) a4).set (o + 5) a5).drop p).take 6) = (cur.drop p).take 6 := by
  apply List.ext_getElem?
  intro i
  rw [List.getElem?_take, List.getElem?_take]
  by_cases h6 : i < 6
  · rw [if_pos h6, if_pos h6, List.getElem?_drop, List.getElem?_drop]
    rw [List.getElem?_set_ne (by omega), List.getElem?_set_ne (by omega), List.getElem?_set_ne (by omega), List.getElem?_set_ne (by omega), List.getElem?_set_ne (by omega), List.getElem?_set_ne (by omega)]
  · rw [if_neg h6, if_neg h6]
/-- One node spoilt. -/
theorem Sp.put6 {U : Nat → Prop} {w : World} {g j : Nat} {cur : Array Value} (hU : U g) (hg : w.heap[g]? = some (.cells cur 26 (0, 0))) (hj : j * 6 + 6 ≤ cur.size) :
    Sp U w (put6 w g (j * 6) (.int .i64 (-9)) (.int .i64 0) (.int .u64 0) (.string ⟨#[115, 112, 111, 105, 108, 116]⟩) (.slice none 0 0) (.slice none 0 0)) := by
  have hB := put6_below (Below.refl 0 w) g (j * 6) (.int .i64 (-9)) (.int .i64 0) (.int .u64 0) (.string ⟨#[115, 112, 111, 105, 108, 116]⟩) (.slice none 0 0) (.slice none 0 0) (Nat.zero_le _)
  refine ⟨hB.os, hB.tape, hB.output, by rw [put6_size]; exact Nat.le_refl _, fun b _ hb => put6_other w g _ b _ _ _ _ _ _ (fun e => hb (by rw [e]; exact hU)), fun b c _ hc => ?_, fun b c _ hc => ?_⟩
  · have hbg : b ≠ g := fun e => by
      subst e
      rw [hc] at hg
      have hg' := Option.some.inj hg
      injection hg' with _ hg'
      exact absurd hg' (by decide)
    exact ⟨c, (put6_other w g _ b _ _ _ _ _ _ hbg).trans hc, rfl⟩
  · by_cases hbg : b = g
    · subst hbg
      rw [hc] at hg
      have hg' := Option.some.inj hg
      injection hg' with hg'
      subst hg'
      refine ⟨_, put6_arr (t := 26) hc _ _ _ _ _ _ _, by simp, fun i hi => ?_⟩
      simp only [Array.toList_setIfInBounds]
      by_cases hij : i = j
      · subst hij
        exact .inr (six_at (by simpa using hi) _ _ _ _ _ _)
      · exact .inl (six_off (by omega) _ _ _ _ _ _)
    · exact ⟨c, (put6_other w g _ b _ _ _ _ _ _ hbg).trans hc, rfl, fun _ _ => .inl rfl⟩

/-- Six cells that head a tree of rows of the call's own, of a depth of at most d below it. -/
def SX (U : Nat → Prop) (w : World) : Nat → List Value → Prop
  | 0, cs => ∃ (k n u : Int) (s : ByteArray) (kv : Value) (nk : Nat) (xk : List Value) (lv : Value) (xs : List Value), cs = [.int .i64 k, .int .i64 n, .int .u64 u, .string s, kv, lv] ∧ Ow U w 9 1 kv nk xk ∧ Ow U w 26 6 lv 0 xs
  | d + 1, cs => ∃ (k n u : Int) (s : ByteArray) (kv : Value) (nk : Nat) (xk : List Value) (lv : Value) (nl : Nat) (xs : List Value), cs = [.int .i64 k, .int .i64 n, .int .u64 u, .string s, kv, lv] ∧ Ow U w 9 1 kv nk xk ∧ Ow U w 26 6 lv nl xs ∧
      ∀ j, j < nl → SX U w d ((xs.drop (j * 6)).take 6)
theorem ow_nil (U : Nat → Prop) (w : World) (e : TypeId) (size : Nat) : Ow U w e size (.slice none 0 0) 0 [] := ⟨⟨by simp, .inl ⟨rfl, rfl⟩⟩, fun g hg => by cases hg⟩
theorem SX.spoilt (U : Nat → Prop) (w : World) : ∀ d, SX U w d spoilt
  | 0 => ⟨_, _, _, _, _, 0, [], _, [], rfl, ow_nil _ _ _ _, ow_nil _ _ _ _⟩
  | d + 1 => ⟨_, _, _, _, _, 0, [], _, 0, [], rfl, ow_nil _ _ _ _, ow_nil _ _ _ _, fun j hj => by omega⟩
theorem Ow.sp_str {U : Nat → Prop} {w w' : World} (hs : Sp U w w') {v : Value} {n : Nat} {xs : List Value} (h : Ow U w 9 1 v n xs) : ∃ xs', Ow U w' 9 1 v n xs' := by
  obtain ⟨⟨h1, h2⟩, hU⟩ := h
  rcases h2 with ⟨rfl, rfl⟩ | ⟨g, cap, cur, rfl, h3, h4, h5, h6, h7, h8⟩
  · exact ⟨[], ow_nil _ _ _ _⟩
  · obtain ⟨cur', e1, e2⟩ := hs.strs g cur (hU g rfl) h4
    refine ⟨cur'.toList.take (n * 1), ⟨by rw [List.length_take]; simp only [Array.length_toList]; omega, .inr ⟨g, cap, cur', rfl, h3, e1, h5, h6, by omega, rfl⟩⟩, hU⟩
theorem take_six {l : List Value} {n j : Nat} (h : j < n) : ((l.take (n * 6)).drop (j * 6)).take 6 = (l.drop (j * 6)).take 6 := by
  rw [List.drop_take, List.take_take, Nat.min_eq_left (by omega)]
theorem Ow.sp_nod {U : Nat → Prop} {w w' : World} (hs : Sp U w w') {v : Value} {n : Nat} {xs : List Value} (h : Ow U w 26 6 v n xs) :
    ∃ xs', Ow U w' 26 6 v n xs' ∧ ∀ j, j < n → (xs'.drop (j * 6)).take 6 = (xs.drop (j * 6)).take 6 ∨ (xs'.drop (j * 6)).take 6 = Go.Proofs.YtmhaffcgiaffpaaDoor.spoilt := by
  obtain ⟨⟨h1, h2⟩, hU⟩ := h
  rcases h2 with ⟨rfl, rfl⟩ | ⟨g, cap, cur, rfl, h3, h4, h5, h6, h7, h8⟩
  · exact ⟨[], ow_nil _ _ _ _, fun j hj => by omega⟩
  · obtain ⟨cur', e1, e2, e3⟩ := hs.nods g cur (hU g rfl) h4
    refine ⟨cur'.toList.take (n * 6), ⟨⟨by rw [List.length_take]; simp only [Array.length_toList]; omega, .inr ⟨g, cap, cur', rfl, h3, e1, h5, h6, by omega, rfl⟩⟩, hU⟩, fun j hj => ?_⟩
    rw [← h8, take_six hj, take_six hj]
    exact e3 j (by omega)
theorem SX.sp {U : Nat → Prop} {w w' : World} (hs : Sp U w w') : ∀ (d : Nat) (cs : List Value), SX U w d cs → SX U w' d cs
  | 0, cs, h => by
    obtain ⟨k, n, u, s, kv, nk, xk, lv, xs, rfl, h1, h2⟩ := h
    obtain ⟨xk', h1'⟩ := h1.sp_str hs
    obtain ⟨xs', h2', _⟩ := h2.sp_nod hs
    exact ⟨k, n, u, s, kv, nk, xk', lv, xs', rfl, h1', h2'⟩
  | d + 1, cs, h => by
    obtain ⟨k, n, u, s, kv, nk, xk, lv, nl, xs, rfl, h1, h2, h3⟩ := h
    obtain ⟨xk', h1'⟩ := h1.sp_str hs
    obtain ⟨xs', h2', h4⟩ := h2.sp_nod hs
    refine ⟨k, n, u, s, kv, nk, xk', lv, nl, xs', rfl, h1', h2', fun j hj => ?_⟩
    rcases h4 j hj with e | e
    · rw [e]; exact SX.sp hs d _ (h3 j hj)
    · rw [e]; exact SX.spoilt _ _ _
theorem SX.stepU {U U' : Nat → Prop} {w : World} (hk : ∀ b, U b → b < w.heap.size → U' b) : ∀ (d : Nat) (cs : List Value), SX U w d cs → SX U' w d cs
  | 0, cs, h => by
    obtain ⟨k, n, u, s, kv, nk, xk, lv, xs, rfl, h1, h2⟩ := h
    exact ⟨k, n, u, s, kv, nk, xk, lv, xs, rfl, h1.step fun b hb hl => ⟨rfl, hk b hb hl⟩, h2.step fun b hb hl => ⟨rfl, hk b hb hl⟩⟩
  | d + 1, cs, h => by
    obtain ⟨k, n, u, s, kv, nk, xk, lv, nl, xs, rfl, h1, h2, h3⟩ := h
    exact ⟨k, n, u, s, kv, nk, xk, lv, nl, xs, rfl, h1.step fun b hb hl => ⟨rfl, hk b hb hl⟩, h2.step fun b hb hl => ⟨rfl, hk b hb hl⟩, fun j hj => SX.stepU hk d _ (h3 j hj)⟩
theorem NdOL.nth {U : Nat → Prop} {w : World} : ∀ (l : List T) (xs : List Value), NdOL U w l xs → ∀ (j : Nat) (t : T), l[j]? = some t → NdO U w t ((xs.drop (j * 6)).take 6)
  | [], _, _, j, t, hj => by simp at hj
  | t0 :: ts, xs, h, 0, t, hj => by
    obtain ⟨cs, ys, rfl, h1, h2⟩ := h
    obtain rfl : t0 = t := by simpa using hj
    have hl := h1.len
    simp only [Nat.zero_mul, List.drop_zero]
    rw [← hl, List.take_left]
    exact h1
  | t0 :: ts, xs, h, j + 1, t, hj => by
    obtain ⟨cs, ys, rfl, h1, h2⟩ := h
    have hl := h1.len
    rw [show (j + 1) * 6 = cs.length + j * 6 by omega, List.drop_append, List.drop_eq_nil_of_le (by omega), List.nil_append, Nat.add_sub_cancel_left]
    exact NdOL.nth ts ys h2 j t (by simpa using hj)
theorem SX.of_ndo {U : Nat → Prop} {w : World} : ∀ (d : Nat) (t : T) (cs : List Value), dp t ≤ d + 1 → NdO U w t cs → SX U w d cs
  | 0, .mk k n u s ks l, cs, hd, h => by
    obtain ⟨_, _, _, kv, lv, xs, rfl, h1, h2, h3⟩ := h
    have hl : l = [] := by
      cases l with
      | nil => rfl
      | cons t ts => have := dp_pos t; simp only [dp, dpL] at hd; omega
    subst hl
    exact ⟨k, n, u, s, kv, _, _, lv, xs, rfl, h1, h2⟩
  | d + 1, .mk k n u s ks l, cs, hd, h => by
    obtain ⟨_, _, _, kv, lv, xs, rfl, h1, h2, h3⟩ := h
    refine ⟨k, n, u, s, kv, _, _, lv, l.length, xs, rfl, h1, h2, fun j hj => ?_⟩
    have ht : l[j]? = some l[j] := List.getElem?_eq_getElem hj
    have hdl := dp_le_of ht
    simp only [dp] at hd
    exact SX.of_ndo d l[j] _ (by omega) (NdOL.nth l xs h3 j _ ht)
end Go.Proofs.YtmhaffcgiaffpaaDoor
