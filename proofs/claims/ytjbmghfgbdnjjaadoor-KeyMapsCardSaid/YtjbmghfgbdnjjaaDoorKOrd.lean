/-
  What is proved here: the order of keys is a strict total order; what the library's comparison of strings has to do with it; rows that the library's sort has sorted; no condition.
-/
import Derived.Test.YtjbmghfgbdnjjaaDoorKBase
import Derived.Sort.OwnSorted
import Derived.Sort.Walk0
namespace Go.Proofs.YtjbmghfgbdnjjaaDoor
open Go.RowKit Go.Sort Go.Shelf

theorem cmp_lt : ∀ (a b : List UInt8), (Lib.compareBytes a b < 0) ↔ Op.bytesLess a b = true
  | [], [] => by simp [Lib.compareBytes, Op.bytesLess]
  | [], _ :: _ => by simp [Lib.compareBytes, Op.bytesLess]
  | _ :: _, [] => by simp [Lib.compareBytes, Op.bytesLess]
  | a :: s, b :: t => by
    have ih := cmp_lt s t
    rw [less_head]
    unfold Lib.compareBytes
    by_cases h1 : a < b
    · simp [h1]
    · by_cases h2 : b < a
      · have : a ≠ b := by intro e; subst e; exact h1 h2
        simp [h1, h2, this]
      · have e : a = b := by
          have h3 := UInt8.lt_iff_toNat_lt (a := a) (b := b)
          have h4 := UInt8.lt_iff_toNat_lt (a := b) (b := a)
          exact UInt8.toNat_inj.1 (by rw [h3] at h1; rw [h4] at h2; omega)
        simp [e, ih]
theorem bl_irrefl : ∀ (a : List UInt8), Op.bytesLess a a = false
  | [] => by simp [Op.bytesLess]
  | a :: s => by rw [less_head, bl_irrefl s]; simp
theorem bl_tri : ∀ (a b : List UInt8), a = b ∨ (Op.bytesLess a b = true ∧ Op.bytesLess b a = false) ∨ (Op.bytesLess b a = true ∧ Op.bytesLess a b = false)
  | [], [] => .inl rfl
  | [], _ :: _ => .inr (.inl ⟨by simp [Op.bytesLess], by simp [Op.bytesLess]⟩)
  | _ :: _, [] => .inr (.inr ⟨by simp [Op.bytesLess], by simp [Op.bytesLess]⟩)
  | a :: s, b :: t => by
    have ih := bl_tri s t
    have h3 := UInt8.lt_iff_toNat_lt (a := a) (b := b)
    have h4 := UInt8.lt_iff_toNat_lt (a := b) (b := a)
    rw [less_head, less_head]
    by_cases h1 : a < b
    · have h2 : ¬ b < a := by rw [h3] at h1; rw [h4]; omega
      have hne : b ≠ a := by intro e; subst e; exact h2 h1
      exact .inr (.inl ⟨by simp [h1], by simp [h2, hne]⟩)
    · by_cases h2 : b < a
      · have hne : a ≠ b := by intro e; subst e; exact h1 h2
        exact .inr (.inr ⟨by simp [h2], by simp [h1, hne]⟩)
      · have e : a = b := UInt8.toNat_inj.1 (by rw [h3] at h1; rw [h4] at h2; omega)
        subst e
        simp only [h1, decide_false, Bool.false_or, beq_self_eq_true, Bool.true_and]
        rcases ih with h | h | h
        · exact .inl (by rw [h])
        · exact .inr (.inl h)
        · exact .inr (.inr h)
theorem bl_trans : ∀ (a b c : List UInt8), Op.bytesLess a b = true → Op.bytesLess b c = true → Op.bytesLess a c = true
  | _, [], _, h, _ => by cases h1 : (‹List UInt8›) <;> simp [Op.bytesLess] at h
  | _, _ :: _, [], _, h => by simp [Op.bytesLess] at h
  | [], _ :: _, _ :: _, _, _ => by simp [Op.bytesLess]
  | a :: s, b :: t, c :: r, h, k => by
    have ih := bl_trans s t r
    rw [less_head] at h k ⊢
    have h3 := UInt8.lt_iff_toNat_lt (a := a) (b := b)
    have h4 := UInt8.lt_iff_toNat_lt (a := b) (b := c)
    have h5 := UInt8.lt_iff_toNat_lt (a := a) (b := c)
    simp only [Bool.or_eq_true, decide_eq_true_eq, Bool.and_eq_true, beq_iff_eq] at h k ⊢
    rcases h with h | ⟨rfl, h⟩
    · rcases k with k | ⟨rfl, k⟩
      · exact .inl (by rw [h3] at h; rw [h4] at k; rw [h5]; omega)
      · exact .inl h
    · rcases k with k | ⟨rfl, k⟩
      · exact .inl k
      · exact .inr ⟨rfl, ih h k⟩
theorem toList_inj {a b : ByteArray} (h : a.toList = b.toList) : a = b := bytes_ext (by rw [ByteArray.toList_eq, ByteArray.toList_eq] at h; exact h)
theorem lt_irrefl (a : ByteArray) : lt a a = false := bl_irrefl _
theorem lt_trans {a b c : ByteArray} (h : lt a b = true) (k : lt b c = true) : lt a c = true := bl_trans _ _ _ h k
theorem lt_tri (a b : ByteArray) : a = b ∨ (lt a b = true ∧ lt b a = false) ∨ (lt b a = true ∧ lt a b = false) := by
  rcases bl_tri a.toList b.toList with h | h | h
  · exact .inl (toList_inj h)
  · exact .inr (.inl h)
  · exact .inr (.inr h)
theorem lt_ntrans {a b c : ByteArray} (h : lt a b = false) (k : lt b c = false) : lt a c = false := by
  rcases lt_tri a c with e | ⟨e, _⟩ | ⟨_, e⟩
  · subst e; exact lt_irrefl _
  · rcases lt_tri a b with f | ⟨f, _⟩ | ⟨f, _⟩
    · subst f; rw [e] at k; cases k
    · rw [f] at h; cases h
    · have := lt_trans f e; rw [this] at k; cases k
  · exact e

section
variable {α : Type} [Inhabited α] {enc : α → Value}
theorem holds_blk {w : World} {g : Nat} {cur : Array Value} {e : TypeId} {ss : List α} (hb : w.heap[g]? = some (.cells cur e (0, 0))) (ht : cur.toList.take ss.length = ss.map enc) : Holds enc w g 0 ss.toArray := by
  intro j hj
  have hj' : j < ss.length := by simpa using hj
  refine ⟨?_, by simp [World.frozen?, hb]⟩
  have h1 : (cur.toList.take ss.length)[j]? = (ss.map enc)[j]? := by rw [ht]
  rw [List.getElem?_take_of_lt hj'] at h1
  simp only [World.cell?, hb, Nat.zero_add]
  simp only [Option.isSome_none, Bool.false_eq_true, if_false]
  rw [← Array.getElem?_toList, h1]
  simp [hj']
theorem heap_srt {w : World} {g n : Nat} {os : Array Obj} {cur : Array Value} {e : TypeId} {fr : Nat × Nat} (d : Array α) (hb : w.heap[g]? = some (.cells cur e fr)) :
    (sortWorld enc w g 0 n d os).heap[g]? = some (.cells (putCells enc 0 d cur) e fr) := by
  have hg : g < w.heap.size := (Array.getElem?_eq_some_iff.1 hb).1
  unfold sortWorld
  rw [heap_grow_old _ _ (by simpa using hg)]
  simp [putRow, mapBlock, Sort.ahead, Array.getElem?_modify, hb, onCells]
theorem grownBy_srt {w : World} {g n : Nat} {os : Array Obj} (d : Array α) : w.grownBy (sortWorld enc w g 0 n d os) (some g) := by
  unfold sortWorld
  refine ⟨rfl, rfl, rfl, by simp, fun k hk hne => ?_⟩
  rw [heap_grow_old _ _ (by simpa using hk)]
  have : g ≠ k := fun e => hne (by rw [e])
  simp [putRow, mapBlock, Sort.ahead, Array.getElem?_modify, this]
theorem take_put (cur : Array Value) (ts : List α) (h : ts.length ≤ cur.size) : (putCells enc 0 ts.toArray cur).toList.take ts.length = ts.map enc := by
  apply List.ext_getElem?
  intro j
  by_cases hj : j < ts.length
  · rw [List.getElem?_take_of_lt hj, Array.getElem?_toList]
    simp [putCells, hj, show j < cur.size by omega]
  · rw [List.getElem?_take_eq_none (by omega), List.getElem?_eq_none (by simp; omega)]
theorem owns_srt {w : World} {base g cap n m : Nat} {e : TypeId} {os : Array Obj} {cur : Array Value} {ts : List α} (hl : ts.length = m) (hbase : base ≤ g) (hb : w.heap[g]? = some (.cells cur e (0, 0)))
    (h1 : m ≤ cap) (h2 : cap ≤ maxLen) (h3 : cur.size = cap * 1) :
    (sortWorld enc w g 0 n ts.toArray os).ownsRow base e 1 (.slice (some ⟨g, 0, none⟩) m cap) m (ts.map enc) :=
  ⟨by simp [hl], .inr ⟨g, cap, _, rfl, hbase, heap_srt _ hb, h1, h2, by simp [putCells, h3], by rw [Nat.mul_one, ← hl]; exact take_put cur ts (by omega)⟩⟩
end
abbrev ix (n : Nat) (i : Fin n) : Value := .int .i64 ((i : Nat) : Int)
/-- The indices of l in an order in which no later key is less than an earlier one. -/
def Asc (l : List ByteArray) (p : List (Fin l.length)) : Prop := p.Perm (List.finRange l.length) ∧ p.Pairwise fun a b => lt l[b] l[a] = false
end Go.Proofs.YtjbmghfgbdnjjaaDoor
