/-
  What is proved here: rows of bytes that the call owns, a block that is known whole, append onto an own row, and the state of a reader in memory; no condition but those that each fact states.
-/
import Derived.Test.YtodmlgbomhmbpaaGreatDoorRows
import Derived.Test.YtodmlgbomhmbpaaGreatDoorShelf
import Derived.Test.YtodmlgbomhmbpaaGreatDoorMach
import Derived.WalkKit
import Derived.WalkSpells
import Derived.WalkLawsBesides
import Derived.Lib.Hide
import Derived.Laws.OwnMore
import Derived.Laws.AppendOwnNone
import Derived.Laws.CopyOwn
import Derived.Laws.BytesString
import Derived.Maps.AppendAt
import Derived.Deep.AppendLies
import Derived.Deep.Draws
import Derived.Deep.QuietTactic
import Derived.BigQuiet
import Derived.Deep.DeepFit
import Derived.Below
import Derived.OwnWalk
namespace Go.Proofs.YtodmlgbomhmbpaaGreatDoor
open Go.RowKit Ut

theorem ret_bool {a b : Bool} (h : a = b) : Ending.returned (.bool a) = .returned (.bool b) := by rw [h]

/-- The cells of a list of bytes. -/
def bv (xs : List UInt8) : List Value := xs.map fun b => Value.int .u8 (b.toNat : Int)
theorem bv_length (xs : List UInt8) : (bv xs).length = xs.length := by simp [bv]
theorem bv_inv {xs : List UInt8} {j : Nat} {u : Value} (h : (bv xs)[j]? = some u) : ∃ x : UInt8, xs[j]? = some x ∧ u = .int .u8 (x.toNat : Int) := by
  simp only [bv, List.getElem?_map, Option.map_eq_some_iff] at h
  obtain ⟨x, hx, rfl⟩ := h
  exact ⟨x, hx, rfl⟩
theorem bv_one (xs : List UInt8) : ∀ u ∈ bv xs, u.oneCell' = true := by
  intro u hu
  simp only [bv, List.mem_map] at hu
  obtain ⟨x, _, rfl⟩ := hu
  rfl
theorem bv_append (xs ys : List UInt8) : bv xs ++ bv ys = bv (xs ++ ys) := by simp [bv]
theorem bv_at {xs : List UInt8} {j : Nat} (h : j < xs.length) : (bv xs)[j]? = some (.int .u8 ((xs.getD j 0).toNat : Int)) := by
  simp [bv, List.getD, h]

abbrev Own (w : World) (B : Nat) (v : Value) (xs : List UInt8) : Prop := w.ownsRow B 5 1 v xs.length (bv xs)

/-- A block known whole, none of it frozen. -/
def Blk (w : World) (g : Nat) (t : TypeId) (cs : Array Value) : Prop := w.heap[g]? = some (.cells cs t (0, 0))
section
variable {w w' : World} {g : Nat} {t : TypeId} {cs : Array Value}
theorem Blk.lt (h : Blk w g t cs) : g < w.heap.size := by
  rcases Nat.lt_or_ge g w.heap.size with hl | hg
  · exact hl
  · unfold Blk at h; rw [Array.getElem?_eq_none hg] at h; cases h
theorem Blk.cell (h : Blk w g t cs) (i : Nat) : w.cell? ⟨g, i, none⟩ = cs[i]? := cell_of_row w g i cs t (0, 0) h
theorem Blk.frozen (h : Blk w g t cs) (i : Nat) : w.frozen? ⟨g, i, none⟩ = false := by
  unfold Blk at h
  simp [World.frozen?, h]
theorem Blk.new (w : World) (t : TypeId) (cs : Array Value) : Blk (w.alloc (.cells cs t)) w.heap.size t cs := heap_alloc_new w _
theorem Blk.alloc (h : Blk w g t cs) (o : Obj) : Blk (w.alloc o) g t cs := (Below.heap_alloc w o g h.lt).trans h
theorem Blk.put (h : Blk w g t cs) (i : Nat) (u : Value) : Blk (w.setCell ⟨g, i, none⟩ u) g t (cs.setIfInBounds i u) := by
  unfold Blk at h ⊢
  simp [World.setCell, Array.getElem?_modify, h]
theorem Blk.below {B : Nat} (h : Blk w g t cs) (hb : Below B w w') (hg : g < B) : Blk w' g t cs := (hb.block g hg).trans h
theorem Blk.grown {row : Option Nat} (h : Blk w g t cs) (hb : w.grownBy w' row) (hg : some g ≠ row) : Blk w' g t cs := (hb.block g h.lt hg).trans h
theorem own_ne {B n : Nat} {e : TypeId} {v : Value} {xs : List Value} (h : w.ownsRow B e 1 v n xs) (hg : Blk w g t cs) (hne : e ≠ t) : v.ownBlock ≠ some g := by
  rcases h.2 with ⟨rfl, _⟩ | ⟨g', cap, cur, rfl, _, hh, _⟩
  · simp [Value.ownBlock]
  · intro he
    have : g' = g := by simpa [Value.ownBlock] using he
    subst this
    unfold Blk at hg
    rw [hg] at hh
    injection hh with hh
    injection hh with _ h2
    exact hne h2.symm
end

section
variable {w w' : World} {B n : Nat} {v : Value} {xs : List Value}
theorem own_base (h : w.ownsRow B 5 1 v n xs) : ∀ k, v.ownBlock = some k → B ≤ k := fun k hk => (h.lt k hk).1
/-- An own row stays where its block stays. -/
theorem own_keep (h : w.ownsRow B 5 1 v n xs) (hk : ∀ k, v.ownBlock = some k → w'.heap[k]? = w.heap[k]?) : w'.ownsRow B 5 1 v n xs := by
  refine ⟨h.1, ?_⟩
  rcases h.2 with h0 | ⟨g, cap, cur, hv, hg, hh, r⟩
  · exact Or.inl h0
  · exact Or.inr ⟨g, cap, cur, hv, hg, (hk g (by rw [hv]; rfl)).trans hh, r⟩
theorem own_below {B' : Nat} (h : w.ownsRow B 5 1 v n xs) (hb : Below B' w w') (hB : w.heap.size ≤ B') : w'.ownsRow B 5 1 v n xs :=
  own_keep h fun k hk => hb.block k (by have := (h.lt k hk).2; omega)
theorem own_put (h : w.ownsRow B 5 1 v n xs) {g i : Nat} (hg : v.ownBlock ≠ some g) (u : Value) : (w.setCell ⟨g, i, none⟩ u).ownsRow B 5 1 v n xs :=
  own_keep h fun k hk => Below.heap_setCell _ _ _ _ (by rintro rfl; exact hg hk)
/-- The row cut to nothing. -/
theorem own_cut {g c : Nat} (h : w.ownsRow B 5 1 (.slice (some ⟨g, 0, none⟩) n c) n xs) : w.ownsRow B 5 1 (.slice (some ⟨g, 0, none⟩) 0 c) 0 [] := by
  refine ⟨by simp, Or.inr ?_⟩
  rcases h.2 with ⟨h0, _⟩ | ⟨g', cap, cur, hv, hg, hh, h1, h2, h3, h4⟩
  · cases h0
  · injection hv with a1 a2 a3
    injection a1 with a1
    injection a1 with a1
    subst a1; subst a3
    exact ⟨_, _, cur, rfl, hg, hh, Nat.zero_le _, h2, h3, by simp⟩
end

/-- What an append onto the row v does: it may turn the row's own block, and the new row lies there or in a new block. -/
def Gr (w w' : World) (v v' : Value) : Prop := w.grownBy w' v.ownBlock ∧ (v'.ownBlock = v.ownBlock ∨ ∃ k, v'.ownBlock = some k ∧ w.heap.size ≤ k)
theorem Gr.alloc {w w' : World} {o : Obj} {v v' : Value} (h : Gr (w.alloc o) w' v v') : Gr w w' v v' := by
  obtain ⟨h, hk⟩ := h
  have hs : w.heap.size ≤ (w.alloc o).heap.size := by simp
  refine ⟨⟨h.os, h.tape, h.output, Nat.le_trans hs h.size, fun k hk hne => (h.block k (by omega) hne).trans (Below.heap_alloc _ _ _ hk)⟩, ?_⟩
  rcases hk with hk | ⟨k, hk, hl⟩
  · exact Or.inl hk
  · exact Or.inr ⟨k, hk, by omega⟩
theorem Gr.below {B : Nat} {w0 w w' : World} {v v' : Value} (h : Gr w w' v v') (hb : Below B w0 w) (hB : B ≤ w.heap.size) (hv : ∀ k, v.ownBlock = some k → B ≤ k) : Below B w0 w' := hb.grown h.1 hB hv

theorem Tryz.infoU8 : (Tryz.prog.info? 5).map (fun i => (i.zero, i.size, i.bytes)) = some (some (.int .u8 0), 1, 1) := by kernel_rfl

/-- append onto an own row, from a source with an address. -/
theorem run_app {w : World} {B c : Nat} {v : Value} {xs ys : List UInt8} {ad : Addr} (ty : TypeId) (hown : Own w B v xs) (hr : ∀ j u, (bv ys)[j]? = some u → w.cell? (ad.add j) = some u)
    (hb : xs.length + ys.length ≤ 1000000) (hB : B ≤ w.heap.size) :
    ∃ v' w', (Builtin.append_ #[23, 23] ty #[v, .slice (some ad) ys.length c]).run Tryz.prog w = .ok v' w' ∧ Own w' B v' (xs ++ ys) ∧ Gr w w' v v' := by
  obtain ⟨i, hi, hz0, hz1, hz2⟩ := info_parts Tryz.infoU8
  obtain ⟨v', w', hrun, h2, h3, _, h5⟩ := run_append_own_at (P := Tryz.prog) w B 23 ty 5 i (.int .u8 0) 1 1 Tryz.underlying23 hi hz0 hz1 hz2 rfl (by decide) v xs.length (bv xs) hown ad ys.length c (bv ys)
    (by rw [bv_length]; omega) hr (bv_one ys) (by simp only [maxLen]; omega) (by omega) hB
  rw [bv_append] at h2
  refine ⟨v', w', hrun, ?_, h3, ?_⟩
  · unfold Own; rw [List.length_append]; exact h2
  · rcases h5 with h5 | h5
    · exact Or.inl h5
    · exact Or.inr ⟨_, h5, Nat.le_refl _⟩
theorem wpList_app {ops : Array Oper} {rest : List Oper} {o : Oper} {a : Act} {Q : Exit → Act → World → Prop} {w : World} {B m c : Nat} {v : Value} {xs ys : List UInt8} {ad : Addr}
    (hgd : o.guard = none) (s x : Operand) (ho : o.op = .call { callee := .builtin .append, args := #[s, x], argTypes := #[23, 23] })
    (hs : a.eval s = v) (hx : a.eval x = .slice (some ad) m c) (hm : m = ys.length) (hown : Own w B v xs) (hr : ∀ j u, (bv ys)[j]? = some u → w.cell? (ad.add j) = some u) (hb : xs.length + ys.length ≤ 1000000) (hB : B ≤ w.heap.size)
    (h : ∀ v' w', Own w' B v' (xs ++ ys) → Gr w w' v v' → wpList Tryz.prog ops Q rest (a.put o.dst v') w') : wpList Tryz.prog ops Q (o :: rest) a w := by
  subst hm
  refine wpList_plain hgd fun K hK => ?_
  obtain ⟨v', w', hrun, h2, h3⟩ := run_app o.type hown hr hb hB
  unfold Oper.wp execOp
  simp only [ho, resolve, invoke, builtin, Sem.run_bind, Sem.run_pure, Result.andThen_ok, List.map_toArray, List.map_cons, List.map_nil, hs, hx]
  rw [hrun]
  exact hK _ _ (h v' w' h2 h3)

/-- The cells of a block of the call's own, as a source. -/
theorem src_new {w : World} {zs : List UInt8} : ∀ j u, (bv zs)[j]? = some u → (w.alloc (.cells (bv zs).toArray 5)).cell? ((⟨w.heap.size, 0, none⟩ : Addr).add j) = some u := by
  intro j u h
  have h1 : ((⟨w.heap.size, 0, none⟩ : Addr).add j) = ⟨w.heap.size, j, none⟩ := by
    unfold Addr.add
    by_cases h : j = 0 <;> simp [h]
  rw [h1, (Blk.new w 5 (bv zs).toArray).cell j]
  simpa using h

/-- The reader at block R. -/
def RS (w : World) (B R : Nat) (q : Q) : Prop :=
  B ≤ R ∧ B ≤ w.heap.size ∧ ∃ vt vp, Blk w R 111 #[.int .i64 q.st, vt, vp, .int .i32 q.code, .int .i64 q.dig, .int .i32 q.high] ∧ Own w B vt q.text ∧ Own w B vp q.part ∧ (∀ k, vt.ownBlock = some k → vp.ownBlock ≠ some k)
theorem RS.lt {w : World} {B R : Nat} {q : Q} (h : RS w B R q) : R < w.heap.size := by obtain ⟨_, _, _, _, hb, _⟩ := h; exact hb.lt
theorem RS.below {w w' : World} {B R B' : Nat} {q : Q} (h : RS w B R q) (hb : Below B' w w') (hB : w.heap.size ≤ B') : RS w' B R q := by
  have hl := h.lt
  obtain ⟨h1, h2, vt, vp, h3, h4, h5, h6⟩ := h
  have hs := hb.size
  exact ⟨h1, by omega, vt, vp, h3.below hb (by omega), own_below h4 hb hB, own_below h5 hb hB, h6⟩
end Go.Proofs.YtodmlgbomhmbpaaGreatDoor
