/-
  What is proved here: a tree in memory whose rows lie apart from one another: what it means, how it is carried on; no condition but those that each fact states.
-/
import Derived.Test.YtjbmghfgbdnjjaaDoorOwn
namespace Go.Proofs.YtjbmghfgbdnjjaaDoor
open Go.RowKit

mutual
/-- Six cells read as a node; its rows and those of its descendants lie in blocks of which U holds, each apart from the others. -/
def NdS (U : Nat → Prop) (w : World) : T → List Value → Prop
  | .mk k n u s ks l, cs => Rng k n u ∧ s.size ≤ maxLen ∧ (∀ x ∈ ks, x.size ≤ maxLen) ∧ ∃ kv lv xs, ∃ C : Nat → Prop, cs = [.int .i64 k, .int .i64 n, .int .u64 u, .string s, kv, lv] ∧
      Ow (fun b => U b ∧ ¬ C b ∧ some b ≠ lv.ownBlock) w 9 1 kv ks.length (ks.map Value.string) ∧ Ow (fun b => U b ∧ ¬ C b) w 41 6 lv l.length xs ∧ NdSL C w l xs ∧ ∀ b, C b → U b
def NdSL (U : Nat → Prop) (w : World) : List T → List Value → Prop
  | [], xs => xs = []
  | t :: ts, xs => ∃ cs ys, ∃ C D : Nat → Prop, xs = cs ++ ys ∧ NdS C w t cs ∧ NdSL D w ts ys ∧ (∀ b, C b → U b ∧ ¬ D b) ∧ ∀ b, D b → U b
end
theorem Ow.imp {U U' : Nat → Prop} {w : World} {e : TypeId} {size n : Nat} {v : Value} {xs : List Value} (h : Ow U w e size v n xs) (hk : ∀ b, U b → U' b) : Ow U' w e size v n xs := h.step fun b hb _ => ⟨rfl, hk b hb⟩
theorem NdS.imp {U U' : Nat → Prop} {w : World} : ∀ {t : T} {cs : List Value}, NdS U w t cs → (∀ b, U b → U' b) → NdS U' w t cs
  | .mk k n u s ks l, cs, h, hk => by
    obtain ⟨hr, hs, hks, kv, lv, xs, C, rfl, h1, h2, h3, h4⟩ := h
    exact ⟨hr, hs, hks, kv, lv, xs, C, rfl, h1.imp fun b hb => ⟨hk b hb.1, hb.2⟩, h2.imp fun b hb => ⟨hk b hb.1, hb.2⟩, h3, fun b hb => hk b (h4 b hb)⟩
theorem NdSL.imp {U U' : Nat → Prop} {w : World} : ∀ {l : List T} {xs : List Value}, NdSL U w l xs → (∀ b, U b → U' b) → NdSL U' w l xs
  | [], _, h, _ => h
  | t :: ts, xs, h, hk => by
    obtain ⟨cs, ys, C, D, rfl, h1, h2, h3, h4⟩ := h
    exact ⟨cs, ys, C, D, rfl, h1, h2, fun b hb => ⟨hk b (h3 b hb).1, (h3 b hb).2⟩, fun b hb => hk b (h4 b hb)⟩
mutual
theorem NdS.step {U : Nat → Prop} {w w' : World} (hk : ∀ b, U b → b < w.heap.size → w'.heap[b]? = w.heap[b]?) : ∀ (t : T) (cs : List Value), NdS U w t cs → NdS U w' t cs
  | .mk k n u s ks l, cs, h => by
    obtain ⟨hr, hs, hks, kv, lv, xs, C, rfl, h1, h2, h3, h4⟩ := h
    exact ⟨hr, hs, hks, kv, lv, xs, C, rfl, h1.step fun b hb hl => ⟨hk b hb.1 hl, hb⟩, h2.step fun b hb hl => ⟨hk b hb.1 hl, hb⟩, NdSL.step (fun b hb hl => hk b (h4 b hb) hl) l xs h3, h4⟩
theorem NdSL.step {U : Nat → Prop} {w w' : World} (hk : ∀ b, U b → b < w.heap.size → w'.heap[b]? = w.heap[b]?) : ∀ (l : List T) (xs : List Value), NdSL U w l xs → NdSL U w' l xs
  | [], _, h => h
  | t :: ts, xs, h => by
    obtain ⟨cs, ys, C, D, rfl, h1, h2, h3, h4⟩ := h
    exact ⟨cs, ys, C, D, rfl, NdS.step (fun b hb hl => hk b (h3 b hb).1 hl) t cs h1, NdSL.step (fun b hb hl => hk b (h4 b hb) hl) ts ys h2, h3, h4⟩
end
mutual
theorem NdS.ndo {U : Nat → Prop} {w : World} : ∀ (t : T) (cs : List Value), NdS U w t cs → NdO U w t cs
  | .mk k n u s ks l, cs, h => by
    obtain ⟨hr, hs, hks, kv, lv, xs, C, rfl, h1, h2, h3, h4⟩ := h
    exact ⟨hr, hs, hks, kv, lv, xs, rfl, h1.imp fun b hb => hb.1, h2.imp fun b hb => hb.1, NdOL.step (fun b hb _ => ⟨rfl, h4 b hb⟩) l xs (NdSL.ndo l xs h3)⟩
theorem NdSL.ndo {U : Nat → Prop} {w : World} : ∀ (l : List T) (xs : List Value), NdSL U w l xs → NdOL U w l xs
  | [], _, h => h
  | t :: ts, xs, h => by
    obtain ⟨cs, ys, C, D, rfl, h1, h2, h3, h4⟩ := h
    exact ⟨cs, ys, rfl, NdO.step (fun b hb _ => ⟨rfl, (h3 b hb).1⟩) t cs (NdS.ndo t cs h1), NdOL.step (fun b hb _ => ⟨rfl, h4 b hb⟩) ts ys (NdSL.ndo ts ys h2)⟩
end
theorem NdS.nd {U : Nat → Prop} {w : World} {t : T} {cs : List Value} (h : NdS U w t cs) : Nd w t cs := NdO.nd _ _ (NdS.ndo _ _ h)
theorem NdSL.len {U : Nat → Prop} {w : World} {l : List T} {xs : List Value} (h : NdSL U w l xs) : xs.length = l.length * 6 := (NdSL.ndo _ _ h).len
theorem NdSL.app {C : Nat → Prop} {w : World} {t : T} {cs : List Value} (ht : NdS C w t cs) : ∀ {l : List T} {xs : List Value} {U : Nat → Prop}, NdSL U w l xs → (∀ b, C b → ¬ U b) → NdSL (fun b => U b ∨ C b) w (l ++ [t]) (xs ++ cs)
  | [], _, U, h, hd => by
    obtain rfl : _ = [] := h
    exact ⟨cs, [], C, fun _ => False, by simp, ht, rfl, fun b hb => ⟨.inr hb, fun h => h⟩, fun b hb => hb.elim⟩
  | t0 :: ts, xs, U, h, hd => by
    obtain ⟨cs0, ys, C0, D, rfl, h1, h2, h3, h4⟩ := h
    refine ⟨cs0, ys ++ cs, C0, fun b => D b ∨ C b, by simp, h1, NdSL.app ht h2 fun b hb hD => hd b hb (h4 b hD), fun b hb => ⟨.inl (h3 b hb).1, ?_⟩, ?_⟩
    · rintro (hD | hC)
      · exact (h3 b hb).2 hD
      · exact hd b hC (h3 b hb).1
    · rintro b (hD | hC)
      · exact .inl (h4 b hD)
      · exact .inr hC
/-- The nodes of a row, each with the blocks of its own. -/
theorem NdSL.fam {w : World} : ∀ {l : List T} {xs : List Value} {U : Nat → Prop}, NdSL U w l xs → ∃ F : Nat → Nat → Prop, (∀ i t, l[i]? = some t → NdS (F i) w t ((xs.drop (i * 6)).take 6)) ∧ (∀ i b, F i b → U b) ∧ ∀ i j b, i ≠ j → F i b → ¬ F j b
  | [], _, U, _ => ⟨fun _ _ => False, fun i t h => by simp at h, fun _ _ h => h.elim, fun _ _ _ _ h => h.elim⟩
  | t0 :: ts, xs, U, h => by
    obtain ⟨cs, ys, C, D, rfl, h1, h2, h3, h4⟩ := h
    obtain ⟨F, f1, f2, f3⟩ := NdSL.fam h2
    have hl : cs.length = 6 := (NdS.ndo _ _ h1).len
    refine ⟨fun i b => match i with | 0 => C b | i + 1 => F i b, ?_, ?_, ?_⟩
    · intro i t hi
      match i with
      | 0 =>
        obtain rfl : t0 = t := by simpa using hi
        rw [Nat.zero_mul, List.drop_zero, List.take_append_of_le_length (by omega), List.take_of_length_le (by omega)]
        exact h1
      | i + 1 =>
        have := f1 i t (by simpa using hi)
        rw [show (i + 1) * 6 = cs.length + i * 6 by omega, List.drop_append, List.drop_eq_nil_of_le (by omega), List.nil_append, Nat.add_sub_cancel_left]
        exact this
    · intro i b hb
      match i with
      | 0 => exact (h3 b hb).1
      | i + 1 => exact h4 b (f2 i b hb)
    · intro i j b hij hb hb'
      match i, j with
      | 0, 0 => exact hij rfl
      | 0, j + 1 => exact (h3 b hb).2 (f2 j b hb')
      | i + 1, 0 => exact (h3 b hb').2 (f2 i b hb)
      | i + 1, j + 1 => exact f3 i j b (by omega) hb hb'
/-- The row of some of the nodes of a row, in another order. -/
theorem NdSL.pick {w : World} {l : List T} {ys : List Value} {F : Nat → Nat → Prop} {U : Nat → Prop} (f1 : ∀ i t, l[i]? = some t → NdS (F i) w t ((ys.drop (i * 6)).take 6)) (f2 : ∀ i b, F i b → U b) (f3 : ∀ i j b, i ≠ j → F i b → ¬ F j b) :
    ∀ (q : List Nat), q.Nodup → (∀ i ∈ q, i < l.length) → NdSL (fun b => ∃ i ∈ q, F i b) w (q.map fun i => l.getD i (.mk 0 0 0 ⟨#[]⟩ [] [])) (q.flatMap fun i => (ys.drop (i * 6)).take 6)
  | [], _, _ => rfl
  | i :: q, hq, hl => by
    obtain ⟨hi, hq⟩ := List.nodup_cons.1 hq
    have hil := hl i (by simp)
    have ht : l[i]? = some (l.getD i (.mk 0 0 0 ⟨#[]⟩ [] [])) := by
      rw [List.getD_eq_getElem?_getD, List.getElem?_eq_getElem hil]
      rfl
    refine ⟨_, _, F i, fun b => ∃ j ∈ q, F j b, rfl, f1 i _ ht, NdSL.pick f1 f2 f3 q hq fun j hj => hl j (by simp [hj]), fun b hb => ⟨⟨i, by simp, hb⟩, ?_⟩, ?_⟩
    · rintro ⟨j, hj, hb'⟩
      exact f3 i j b (fun e => hi (by rw [e]; exact hj)) hb hb'
    · rintro b ⟨j, hj, hb⟩
      exact ⟨j, by simp [hj], hb⟩
end Go.Proofs.YtjbmghfgbdnjjaaDoor
