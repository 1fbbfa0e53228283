/-
  What is proved here: blocks known whole, the six cells of a node in a row, sums over a row's first nodes; the reference's Size and Deep; no condition but those that each fact states.
-/
import Derived.Test.YtjbmghfgbdnjjaaDoorRows
import Derived.Test.YtjbmghfgbdnjjaaDoorTree
import Derived.WalkKit
import Derived.WalkSpells
import Derived.WalkLawsBesides
import Derived.Lib.Hide
import Derived.Deep.QuietTactic
import Derived.Deep.LoopGhost
import Derived.Laws.OwnMore
import Derived.Maps.AppendAt
import Derived.Below
import Derived.OwnWalk
namespace Go.Proofs.YtjbmghfgbdnjjaaDoor
open Go.RowKit

/-- A block known whole, none of it frozen. -/
def Blk (w : World) (g : Nat) (t : TypeId) (cs : Array Value) : Prop := w.heap[g]? = some (.cells cs t (0, 0))
section
variable {w w' : World} {g : Nat} {t : TypeId} {cs : Array Value}
theorem Blk.lt (h : Blk w g t cs) : g < w.heap.size := by
  rcases Nat.lt_or_ge g w.heap.size with hl | hg
  · exact hl
  · unfold Blk at h; rw [Array.getElem?_eq_none hg] at h; cases h
theorem Blk.cell (h : Blk w g t cs) (i : Nat) : w.cell? ⟨g, i, none⟩ = cs[i]? := cell_of_row w g i cs t (0, 0) h
theorem Blk.frozen (h : Blk w g t cs) (i : Nat) : w.frozen? ⟨g, i, none⟩ = false := by
  unfold Blk at h
  simp [World.frozen?, h]
theorem Blk.new (w : World) (t : TypeId) (cs : Array Value) : Blk (w.alloc (.cells cs t)) w.heap.size t cs := heap_alloc_new w _
theorem Blk.alloc (h : Blk w g t cs) (o : Obj) : Blk (w.alloc o) g t cs := (Below.heap_alloc w o g h.lt).trans h
theorem Blk.below {B : Nat} (h : Blk w g t cs) (hb : Below B w w') (hg : g < B) : Blk w' g t cs := (hb.block g hg).trans h
theorem Blk.put (h : Blk w g t cs) (i : Nat) (u : Value) : Blk (w.setCell ⟨g, i, none⟩ u) g t (cs.setIfInBounds i u) := by
  unfold Blk at h ⊢
  simp [World.setCell, Array.getElem?_modify, h]
end

/-- The box of a node that was handed over. -/
abbrev Bx (w : World) (g : Nat) (v0 v1 v2 v3 v4 v5 : Value) : Prop := Blk w g 41 #[v0, v1, v2, v3, v4, v5]
theorem Bx.all {w : World} {g : Nat} {v0 v1 v2 v3 v4 v5 : Value} (h : Bx w g v0 v1 v2 v3 v4 v5) : w.cell? ⟨g, 0, none⟩ = some v0 ∧ w.cell? ⟨g, 1, none⟩ = some v1 ∧ w.cell? ⟨g, 2, none⟩ = some v2 ∧ w.cell? ⟨g, 3, none⟩ = some v3 ∧
    w.cell? ⟨g, 4, none⟩ = some v4 ∧ w.cell? ⟨g, 5, none⟩ = some v5 := by
  refine ⟨?_, ?_, ?_, ?_, ?_, ?_⟩ <;> rw [Blk.cell h] <;> rfl

/-- The six cells of one node of a row, in a later world. -/
theorem NdL.six {w wr : World} {b off j : Nat} {l : List T} {t : T} (hN : NdL w b l off) (hb : Below w.heap.size w wr) (hbw : b < w.heap.size) (ht : l[j]? = some t) :
    ∃ v0 v1 v2 v3 v4 v5, wr.cell? ⟨b, off + j * 6, none⟩ = some v0 ∧ wr.cell? ⟨b, off + j * 6 + 1, none⟩ = some v1 ∧ wr.cell? ⟨b, off + j * 6 + 2, none⟩ = some v2 ∧ wr.cell? ⟨b, off + j * 6 + 3, none⟩ = some v3 ∧
      wr.cell? ⟨b, off + j * 6 + 4, none⟩ = some v4 ∧ wr.cell? ⟨b, off + j * 6 + 5, none⟩ = some v5 ∧ Nd wr t [v0, v1, v2, v3, v4, v5] := by
  obtain ⟨cs, hc, hn⟩ := hN.at l off j t ht
  have hn' := hn.below hb
  rcases t with ⟨kk, nn, uu, s, ks, l'⟩
  obtain ⟨_, _, kv, A, m, c, rfl, _⟩ := hn
  have e : ∀ i, off + j * 6 + i = off + 6 * j + i := fun i => by omega
  refine ⟨_, _, _, _, _, _, ?_, ?_, ?_, ?_, ?_, ?_, hn'⟩
  · exact ((hb.cell (p := ⟨b, off + j * 6, none⟩) hbw).trans (by rw [show off + j * 6 = off + 6 * j + 0 by omega]; exact hc 0 (by omega)))
  all_goals refine (hb.cell hbw).trans ?_; rw [e]; exact hc _ (by omega)

theorem szL_take {l : List T} {j : Nat} {t : T} (h : l[j]? = some t) : szL (l.take (j + 1)) = szL (l.take j) + sz t := by
  rw [List.take_add_one, h, szL_app]
  simp [szL]
theorem dpL_take {l : List T} {j : Nat} {t : T} (h : l[j]? = some t) : dpL (l.take (j + 1)) = max (dpL (l.take j)) (dp t) := by
  rw [List.take_add_one, h, dpL_app]
  simp [dpL]
theorem szL_le_take (l : List T) (j : Nat) : szL (l.take j) ≤ szL l := by
  have := szL_app (l.take j) (l.drop j)
  rw [List.take_append_drop] at this
  omega
theorem dpL_le_take (l : List T) (j : Nat) : dpL (l.take j) ≤ dpL l := by
  have := dpL_app (l.take j) (l.drop j)
  rw [List.take_append_drop] at this
  omega
theorem sz_le_of {l : List T} {j : Nat} {t : T} (h : l[j]? = some t) : szL (l.take j) + sz t ≤ szL l := by
  rw [← szL_take h]; exact szL_le_take l _
theorem dp_le_of {l : List T} {j : Nat} {t : T} (h : l[j]? = some t) : dp t ≤ dpL l := by
  have := dpL_le_take l (j + 1)
  rw [dpL_take h] at this
  omega
theorem dpL_le_szL : ∀ (l : List T), (∀ t ∈ l, dp t ≤ sz t) → dpL l ≤ szL l
  | [], _ => by simp [dpL, szL]
  | t :: ts, h => by
    have h1 := h t (by simp)
    have h2 := dpL_le_szL ts fun x hx => h x (by simp [hx])
    simp only [dpL, szL]
    omega
mutual
theorem dp_le_sz : ∀ t : T, dp t ≤ sz t
  | .mk _ _ _ _ _ l => by
    have := dp_le_szL l
    simp only [dp, sz]
    omega
theorem dp_le_szL : ∀ l : List T, dpL l ≤ szL l
  | [] => by simp [dpL, szL]
  | t :: ts => by
    have h1 := dp_le_sz t
    have h2 := dp_le_szL ts
    simp only [dpL, szL]
    omega
end
theorem len_le_szL : ∀ l : List T, l.length ≤ szL l
  | [] => by simp [szL]
  | t :: ts => by
    have h1 := sz_pos t
    have h2 := len_le_szL ts
    simp only [List.length_cons, szL]
    omega

end Go.Proofs.YtjbmghfgbdnjjaaDoor
