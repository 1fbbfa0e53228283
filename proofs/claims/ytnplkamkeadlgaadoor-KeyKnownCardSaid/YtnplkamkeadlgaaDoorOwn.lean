/-
  What is proved here: a tree that lies in memory of the call's own: what it means, that it reads as a tree, how it is carried on; no condition but those that each fact states.
-/
import Derived.Test.YtnplkamkeadlgaaDoorSize
namespace Go.Proofs.YtnplkamkeadlgaaDoor
open Go.RowKit

/-- A slice that owns its row, in a block of which U holds. -/
def Ow (U : Nat → Prop) (w : World) (e : TypeId) (size : Nat) (v : Value) (n : Nat) (xs : List Value) : Prop := w.ownsRow 0 e size v n xs ∧ ∀ g, v.ownBlock = some g → U g
theorem Ow.step {U U' : Nat → Prop} {w w' : World} {e : TypeId} {size n : Nat} {v : Value} {xs : List Value} (h : Ow U w e size v n xs) (hk : ∀ b, U b → b < w.heap.size → w'.heap[b]? = w.heap[b]? ∧ U' b) : Ow U' w' e size v n xs := by
  obtain ⟨⟨h1, h2⟩, hU⟩ := h
  rcases h2 with ⟨rfl, hn⟩ | ⟨g, cap, cur, rfl, h3, h4, h5, h6, h7, h8⟩
  · exact ⟨⟨h1, .inl ⟨rfl, hn⟩⟩, fun g hg => by cases hg⟩
  · have hg : g < w.heap.size := (Array.getElem?_eq_some_iff.1 h4).1
    have := hk g (hU g rfl) hg
    refine ⟨⟨h1, .inr ⟨g, cap, cur, rfl, h3, this.1.trans h4, h5, h6, h7, h8⟩⟩, fun g' hg' => ?_⟩
    obtain rfl : g = g' := by simpa [Value.ownBlock] using hg'
    exact this.2
mutual
/-- Six cells read as a node, all of whose rows are the call's own, in blocks of which U holds. -/
def NdO (U : Nat → Prop) (w : World) : T → List Value → Prop
  | .mk k n u s ks l, cs => Rng k n u ∧ s.size ≤ maxLen ∧ (∀ x ∈ ks, x.size ≤ maxLen) ∧ ∃ kv lv xs, cs = [.int .i64 k, .int .i64 n, .int .u64 u, .string s, kv, lv] ∧ Ow U w 9 1 kv ks.length (ks.map Value.string) ∧
      Ow U w 31 6 lv l.length xs ∧ NdOL U w l xs
def NdOL (U : Nat → Prop) (w : World) : List T → List Value → Prop
  | [], xs => xs = []
  | t :: ts, xs => ∃ cs ys, xs = cs ++ ys ∧ NdO U w t cs ∧ NdOL U w ts ys
end
mutual
theorem NdO.step {U U' : Nat → Prop} {w w' : World} (hk : ∀ b, U b → b < w.heap.size → w'.heap[b]? = w.heap[b]? ∧ U' b) : ∀ (t : T) (cs : List Value), NdO U w t cs → NdO U' w' t cs
  | .mk k n u s ks l, cs, h => by
    obtain ⟨hr, hs, hks, kv, lv, xs, rfl, h1, h2, h3⟩ := h
    exact ⟨hr, hs, hks, kv, lv, xs, rfl, h1.step hk, h2.step hk, NdOL.step hk l xs h3⟩
theorem NdOL.step {U U' : Nat → Prop} {w w' : World} (hk : ∀ b, U b → b < w.heap.size → w'.heap[b]? = w.heap[b]? ∧ U' b) : ∀ (l : List T) (xs : List Value), NdOL U w l xs → NdOL U' w' l xs
  | [], _, h => h
  | t :: ts, xs, h => by
    obtain ⟨cs, ys, rfl, h1, h2⟩ := h
    exact ⟨cs, ys, rfl, NdO.step hk t cs h1, NdOL.step hk ts ys h2⟩
end
theorem NdO.len {U : Nat → Prop} {w : World} : ∀ {t : T} {cs : List Value}, NdO U w t cs → cs.length = 6
  | .mk _ _ _ _ _ _, _, h => by
    obtain ⟨_, _, _, _, _, _, rfl, _⟩ := h
    rfl
theorem Ow.shape {U : Nat → Prop} {w : World} {e : TypeId} {size n : Nat} {v : Value} {xs : List Value} (h : Ow U w e size v n xs) : ∃ A c, v = .slice A n c := by
  rcases h.1.2 with ⟨rfl, rfl⟩ | ⟨g, cap, _, rfl, _⟩
  · exact ⟨_, _, rfl⟩
  · exact ⟨_, _, rfl⟩
theorem NdO.one {U : Nat → Prop} {w : World} : ∀ {t : T} {cs : List Value}, NdO U w t cs → ∀ u ∈ cs, u.oneCell' = true
  | .mk _ _ _ _ _ _, _, h => by
    obtain ⟨_, _, _, _, _, _, rfl, h1, h2, _⟩ := h
    obtain ⟨_, _, rfl⟩ := h1.shape
    obtain ⟨_, _, rfl⟩ := h2.shape
    intro u hu
    simp only [List.mem_cons, List.not_mem_nil, or_false] at hu
    rcases hu with rfl | rfl | rfl | rfl | rfl | rfl <;> rfl
theorem NdOL.len {U : Nat → Prop} {w : World} : ∀ {l : List T} {xs : List Value}, NdOL U w l xs → xs.length = l.length * 6
  | [], _, h => by obtain rfl : _ = [] := h; rfl
  | t :: ts, xs, h => by
    obtain ⟨cs, ys, rfl, h1, h2⟩ := h
    rw [List.length_append, h1.len, h2.len, List.length_cons]
    omega
theorem NdOL.app {U : Nat → Prop} {w : World} {t : T} {cs : List Value} (ht : NdO U w t cs) : ∀ {l : List T} {xs : List Value}, NdOL U w l xs → NdOL U w (l ++ [t]) (xs ++ cs)
  | [], _, h => by obtain rfl : _ = [] := h; exact ⟨cs, [], by simp, ht, rfl⟩
  | t0 :: ts, xs, h => by
    obtain ⟨cs0, ys, rfl, h1, h2⟩ := h
    exact ⟨cs0, ys ++ cs, by simp, h1, NdOL.app ht h2⟩
theorem Ow.cells {U : Nat → Prop} {w : World} {e : TypeId} {size n : Nat} {v : Value} {xs : List Value} (h : Ow U w e size v n xs) : ∃ A c, v = .slice A n c ∧ n ≤ c ∧ c ≤ maxLen ∧ (0 < n → ∃ g, A = some ⟨g, 0, none⟩ ∧ g < w.heap.size ∧ U g ∧ ∀ j, j < n * size → w.cell? ⟨g, j, none⟩ = xs[j]?) := by
  obtain ⟨⟨h1, h2⟩, hU⟩ := h
  rcases h2 with ⟨rfl, rfl⟩ | ⟨g, cap, cur, rfl, h3, h4, h5, h6, h7, h8⟩
  · exact ⟨none, 0, rfl, Nat.le_refl _, by unfold maxLen; omega, fun h => absurd h (by omega)⟩
  · refine ⟨_, cap, rfl, h5, h6, fun _ => ⟨g, rfl, (Array.getElem?_eq_some_iff.1 h4).1, hU g rfl, fun j hj => ?_⟩⟩
    rw [cell_of_row w g j cur e (0, 0) h4, ← h8, List.getElem?_take, if_pos hj, Array.getElem?_toList]
mutual
theorem NdO.nd {U : Nat → Prop} {w : World} : ∀ (t : T) (cs : List Value), NdO U w t cs → Nd w t cs
  | .mk k n u s ks l, cs, h => by
    obtain ⟨hr, hs, hks, kv, lv, xs, rfl, h1, h2, h3⟩ := h
    obtain ⟨A, c, rfl, hc, hm, hA⟩ := h1.cells
    obtain ⟨B, d, rfl, hd, hmd, hB⟩ := h2.cells
    refine ⟨hr, hs, _, B, l.length, d, rfl, ⟨A, ks.length, c, rfl, rfl, hc, hm, hks, fun hn => ?_⟩, rfl, hd, hmd, fun hn => ?_⟩
    · obtain ⟨g, rfl, hg, _, hcell⟩ := hA hn
      refine ⟨g, 0, rfl, hg, fun j x hx => ?_⟩
      have hj : j < ks.length := (List.getElem?_eq_some_iff.1 hx).1
      rw [Nat.zero_add, hcell j (by omega), List.getElem?_map, hx]
      rfl
    · obtain ⟨g, rfl, hg, _, hcell⟩ := hB hn
      exact ⟨g, 0, rfl, hg, NdOL.ndl g l xs 0 h3 (fun j hj => by rw [Nat.zero_add]; exact hcell j hj)⟩
theorem NdOL.ndl {U : Nat → Prop} {w : World} (g : Nat) : ∀ (l : List T) (xs : List Value) (off : Nat), NdOL U w l xs → (∀ j, j < l.length * 6 → w.cell? ⟨g, off + j, none⟩ = xs[j]?) → NdL w g l off
  | [], _, _, _, _ => trivial
  | t :: ts, xs, off, h, hc => by
    obtain ⟨cs, ys, rfl, h1, h2⟩ := h
    have hl := h1.len
    refine ⟨⟨cs, fun i hi => ?_, NdO.nd t cs h1⟩, NdOL.ndl g ts ys (off + 6) h2 fun j hj => ?_⟩
    · rw [hc i (by simp; omega), List.getElem?_append_left (by omega)]
    · rw [show off + 6 + j = off + (6 + j) by omega, hc (6 + j) (by simp; omega), List.getElem?_append_right (by omega), hl, Nat.add_sub_cancel_left]
end
end Go.Proofs.YtnplkamkeadlgaaDoor
