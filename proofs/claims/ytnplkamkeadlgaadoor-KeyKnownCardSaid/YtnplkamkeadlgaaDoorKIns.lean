/-
  What is proved here: the order of keys is a strict total order; what the library's comparison of strings has to do with it; rows that the library's sort has sorted; no condition; and: a list has no key twice if and only if no two neighbours in its order are equal; no condition; and: what insertion keeps of an order of keys, and that there is one increasing order; no condition.
-/
import Derived.Test.YtnplkamkeadlgaaDoorKBase
import Derived.Sort.OwnSorted
import Derived.Sort.Walk0
namespace Go.Proofs.YtnplkamkeadlgaaDoor
open Go.RowKit Go.Sort Go.Shelf

theorem cmp_lt : ∀ (a b : List UInt8), (Lib.compareBytes a b < 0) ↔ Op.bytesLess a b = true
  | [], [] => by simp [Lib.compareBytes, Op.bytesLess]
  | [], _ :: _ => by simp [Lib.compareBytes, Op.bytesLess]
  | _ :: _, [] => by simp [Lib.compareBytes, Op.bytesLess]
  | a :: s, b :: t => by
    have ih := cmp_lt s t
    rw [less_head]
    unfold Lib.compareBytes
    by_cases h1 : a < b
    · simp [h1]
    · by_cases h2 : b < a
      · have : a ≠ b := by intro e; subst e; exact h1 h2
        simp [h1, h2, this]
      · have e : a = b := by
          have h3 := UInt8.lt_iff_toNat_lt (a := a) (b := b)
          have h4 := UInt8.lt_iff_toNat_lt (a := b) (b := a)
          exact UInt8.toNat_inj.1 (by rw [h3] at h1; rw [h4] at h2; omega)
        simp [e, ih]
theorem bl_irrefl : ∀ (a : List UInt8), Op.bytesLess a a = false
  | [] => by simp [Op.bytesLess]
  | a :: s => by rw [less_head, bl_irrefl s]; simp
theorem bl_tri : ∀ (a b : List UInt8), a = b ∨ (Op.bytesLess a b = true ∧ Op.bytesLess b a = false) ∨ (Op.bytesLess b a = true ∧ Op.bytesLess a b = false)
  | [], [] => .inl rfl
  | [], _ :: _ => .inr (.inl ⟨by simp [Op.bytesLess], by simp [Op.bytesLess]⟩)
  | _ :: _, [] => .inr (.inr ⟨by simp [Op.bytesLess], by simp [Op.bytesLess]⟩)
  | a :: s, b :: t => by
    have ih := bl_tri s t
    have h3 := UInt8.lt_iff_toNat_lt (a := a) (b := b)
    have h4 := UInt8.lt_iff_toNat_lt (a := b) (b := a)
    rw [less_head, less_head]
    by_cases h1 : a < b
    · have h2 : ¬ b < a := by rw [h3] at h1; rw [h4]; omega
      have hne : b ≠ a := by intro e; subst e; exact h2 h1
      exact .inr (.inl ⟨by simp [h1], by simp [h2, hne]⟩)
    · by_cases h2 : b < a
      · have hne : a ≠ b := by intro e; subst e; exact h1 h2
        exact .inr (.inr ⟨by simp [h2], by simp [h1, hne]⟩)
      · have e : a = b := UInt8.toNat_inj.1 (by rw [h3] at h1; rw [h4] at h2; omega)
        subst e
        simp only [h1, decide_false, Bool.false_or, beq_self_eq_true, Bool.true_and]
        rcases ih with h | h | h
        · exact .inl (by rw [h])
        · exact .inr (.inl h)
        · exact .inr (.inr h)
theorem bl_trans : ∀ (a b c : List UInt8), Op.bytesLess a b = true → Op.bytesLess b c = true → Op.bytesLess a c = true
  | _, [], _, h, _ => by cases h1 : (‹List UInt8›) <;> simp [Op.bytesLess] at h
  | _, _ :: _, [], _, h => by simp [Op.bytesLess] at h
  | [], _ :: _, _ :: _, _, _ => by simp [Op.bytesLess]
  | a :: s, b :: t, c :: r, h, k => by
    have ih := bl_trans s t r
    rw [less_head] at h k ⊢
    have h3 := UInt8.lt_iff_toNat_lt (a := a) (b := b)
    have h4 := UInt8.lt_iff_toNat_lt (a := b) (b := c)
    have h5 := UInt8.lt_iff_toNat_lt (a := a) (b := c)
    simp only [Bool.or_eq_true, decide_eq_true_eq, Bool.and_eq_true, beq_iff_eq] at h k ⊢
    rcases h with h | ⟨rfl, h⟩
    · rcases k with k | ⟨rfl, k⟩
      · exact .inl (by rw [h3] at h; rw [h4] at k; rw [h5]; omega)
      · exact .inl h
    · rcases k with k | ⟨rfl, k⟩
      · exact .inl k
      · exact .inr ⟨rfl, ih h k⟩
theorem toList_inj {a b : ByteArray} (h : a.toList = b.toList) : a = b := bytes_ext (by rw [ByteArray.toList_eq, ByteArray.toList_eq] at h; exact h)
theorem lt_irrefl (a : ByteArray) : lt a a = false := bl_irrefl _
theorem lt_trans {a b c : ByteArray} (h : lt a b = true) (k : lt b c = true) : lt a c = true := bl_trans _ _ _ h k
theorem lt_tri (a b : ByteArray) : a = b ∨ (lt a b = true ∧ lt b a = false) ∨ (lt b a = true ∧ lt a b = false) := by
  rcases bl_tri a.toList b.toList with h | h | h
  · exact .inl (toList_inj h)
  · exact .inr (.inl h)
  · exact .inr (.inr h)
theorem lt_ntrans {a b c : ByteArray} (h : lt a b = false) (k : lt b c = false) : lt a c = false := by
  rcases lt_tri a c with e | ⟨e, _⟩ | ⟨_, e⟩
  · subst e; exact lt_irrefl _
  · rcases lt_tri a b with f | ⟨f, _⟩ | ⟨f, _⟩
    · subst f; rw [e] at k; cases k
    · rw [f] at h; cases h
    · have := lt_trans f e; rw [this] at k; cases k
  · exact e

section
variable {α : Type} [Inhabited α] {enc : α → Value}
theorem holds_blk {w : World} {g : Nat} {cur : Array Value} {e : TypeId} {ss : List α} (hb : w.heap[g]? = some (.cells cur e (0, 0))) (ht : cur.toList.take ss.length = ss.map enc) : Holds enc w g 0 ss.toArray := by
  intro j hj
  have hj' : j < ss.length := by simpa using hj
  refine ⟨?_, by simp [World.frozen?, hb]⟩
  have h1 : (cur.toList.take ss.length)[j]? = (ss.map enc)[j]? := by rw [ht]
  rw [List.getElem?_take_of_lt hj'] at h1
  simp only [World.cell?, hb, Nat.zero_add]
  simp only [Option.isSome_none, Bool.false_eq_true, if_false]
  rw [← Array.getElem?_toList, h1]
  simp [hj']
theorem heap_srt {w : World} {g n : Nat} {os : Array Obj} {cur : Array Value} {e : TypeId} {fr : Nat × Nat} (d : Array α) (hb : w.heap[g]? = some (.cells cur e fr)) :
    (sortWorld enc w g 0 n d os).heap[g]? = some (.cells (putCells enc 0 d cur) e fr) := by
  have hg : g < w.heap.size := (Array.getElem?_eq_some_iff.1 hb).1
  unfold sortWorld
  rw [heap_grow_old _ _ (by simpa using hg)]
  simp [putRow, mapBlock, Sort.ahead, Array.getElem?_modify, hb, onCells]
theorem grownBy_srt {w : World} {g n : Nat} {os : Array Obj} (d : Array α) : w.grownBy (sortWorld enc w g 0 n d os) (some g) := by
  unfold sortWorld
  refine ⟨rfl, rfl, rfl, by simp, fun k hk hne => ?_⟩
  rw [heap_grow_old _ _ (by simpa using hk)]
  have : g ≠ k := fun e => hne (by rw [e])
  simp [putRow, mapBlock, Sort.ahead, Array.getElem?_modify, this]
theorem take_put (cur : Array Value) (ts : List α) (h : ts.length ≤ cur.size) : (putCells enc 0 ts.toArray cur).toList.take ts.length = ts.map enc := by
  apply List.ext_getElem?
  intro j
  by_cases hj : j < ts.length
  · rw [List.getElem?_take_of_lt hj, Array.getElem?_toList]
    simp [putCells, hj, show j < cur.size by omega]
  · rw [List.getElem?_take_eq_none (by omega), List.getElem?_eq_none (by simp; omega)]
theorem owns_srt {w : World} {base g cap n m : Nat} {e : TypeId} {os : Array Obj} {cur : Array Value} {ts : List α} (hl : ts.length = m) (hbase : base ≤ g) (hb : w.heap[g]? = some (.cells cur e (0, 0)))
    (h1 : m ≤ cap) (h2 : cap ≤ maxLen) (h3 : cur.size = cap * 1) :
    (sortWorld enc w g 0 n ts.toArray os).ownsRow base e 1 (.slice (some ⟨g, 0, none⟩) m cap) m (ts.map enc) :=
  ⟨by simp [hl], .inr ⟨g, cap, _, rfl, hbase, heap_srt _ hb, h1, h2, by simp [putCells, h3], by rw [Nat.mul_one, ← hl]; exact take_put cur ts (by omega)⟩⟩
end
abbrev ix (n : Nat) (i : Fin n) : Value := .int .i64 ((i : Nat) : Int)
/-- The indices of l in an order in which no later key is less than an earlier one. -/
def Asc (l : List ByteArray) (p : List (Fin l.length)) : Prop := p.Perm (List.finRange l.length) ∧ p.Pairwise fun a b => lt l[b] l[a] = false
end Go.Proofs.YtnplkamkeadlgaaDoor
namespace Go.Proofs.YtnplkamkeadlgaaDoor
open Go.RowKit Go.Sort Go.Shelf

/-- No two neighbours among the first k + 1 are equal. -/
def Adj (l : List ByteArray) (p : List (Fin l.length)) (k : Nat) : Prop := ∀ j, j < k → ∀ a b, p[j]? = some a → p[j + 1]? = some b → l[a] ≠ l[b]
theorem Adj.step {l : List ByteArray} {p : List (Fin l.length)} {k : Nat} {a b : Fin l.length} (h : Adj l p k) (ha : p[k]? = some a) (hb : p[k + 1]? = some b) (hne : l[a] ≠ l[b]) : Adj l p (k + 1) := by
  intro j hj a' b' ha' hb'
  by_cases e : j = k
  · subst e
    rw [ha] at ha'; rw [hb] at hb'
    cases ha'; cases hb'
    exact hne
  · exact h j (by omega) a' b' ha' hb'
theorem Asc.nodup {l : List ByteArray} {p : List (Fin l.length)} (h : Asc l p) : p.Nodup := h.1.nodup_iff.2 (List.nodup_finRange _)
theorem Asc.length {l : List ByteArray} {p : List (Fin l.length)} (h : Asc l p) : p.length = l.length := by rw [h.1.length_eq, List.length_finRange]
theorem twice_of {l : List ByteArray} {p : List (Fin l.length)} {k : Nat} {a b : Fin l.length} (h : Asc l p) (ha : p[k]? = some a) (hb : p[k + 1]? = some b) (he : l[a] = l[b]) : ¬ l.Nodup := by
  intro hn
  obtain ⟨h1, rfl⟩ := List.getElem?_eq_some_iff.1 ha
  obtain ⟨h2, rfl⟩ := List.getElem?_eq_some_iff.1 hb
  have hi : (p[k] : Nat) = (p[k + 1] : Nat) := (List.getElem_inj hn).1 he
  have := (List.getElem_inj h.nodup).1 (Fin.ext hi)
  omega
theorem strict_of {l : List ByteArray} {p : List (Fin l.length)} {k : Nat} (h : Asc l p) (hA : Adj l p k) (hk : p.length ≤ k + 1) :
    ∀ j (hj : j < p.length) i (hij : i < j), lt l[p[i]] l[p[j]] = true := by
  intro j
  induction j with
  | zero => intro _ i hij; omega
  | succ j ih =>
    intro hj i hij
    have hne := hA j (by omega) _ _ (List.getElem?_eq_getElem (by omega)) (List.getElem?_eq_getElem hj)
    have hge : lt l[p[j + 1]] l[p[j]] = false := List.pairwise_iff_getElem.1 h.2 j (j + 1) (by omega) hj (by omega)
    have hs : lt l[p[j]] l[p[j + 1]] = true := by
      rcases lt_tri l[p[j]] l[p[j + 1]] with e | ⟨e, _⟩ | ⟨e, _⟩
      · exact absurd e hne
      · exact e
      · rw [hge] at e; cases e
    by_cases e : i = j
    · subst e; exact hs
    · exact lt_trans (ih (by omega) i (by omega)) hs
theorem nodup_of {l : List ByteArray} {p : List (Fin l.length)} {k : Nat} (h : Asc l p) (hA : Adj l p k) (hk : p.length ≤ k + 1) : l.Nodup := by
  have hs := strict_of h hA hk
  have key : ∀ (x y : Fin l.length), x ≠ y → l[x] ≠ l[y] := by
    intro x y hxy he
    obtain ⟨i, hi, rfl⟩ := List.getElem_of_mem (h.1.mem_iff.2 (List.mem_finRange x))
    obtain ⟨j, hj, rfl⟩ := List.getElem_of_mem (h.1.mem_iff.2 (List.mem_finRange y))
    have hij : i ≠ j := by intro e; subst e; exact hxy rfl
    rcases Nat.lt_or_gt_of_ne hij with h1 | h1
    · have := hs j hj i h1
      rw [he, lt_irrefl] at this
      cases this
    · have := hs i hi j h1
      rw [he, lt_irrefl] at this
      cases this
  rw [List.nodup_iff_pairwise_ne, List.pairwise_iff_getElem]
  intro i j hi hj hij
  exact key ⟨i, hi⟩ ⟨j, hj⟩ (fun e => by have := congrArg Fin.val e; simp at this; omega)
end Go.Proofs.YtnplkamkeadlgaaDoor
namespace Go.Proofs.YtnplkamkeadlgaaDoor
open Go.RowKit Go.Sort Go.Shelf

def ky (l : List ByteArray) (j : Nat) : ByteArray := l.getD j ⟨#[]⟩
/-- The places below i, in the increasing order of their keys. -/
structure SQ (l : List ByteArray) (q : List Nat) (i : Nat) : Prop where
  perm : q.Perm (List.range i)
  inc : q.Pairwise fun a b => lt (ky l a) (ky l b) = true
theorem getD_at (l : List ByteArray) (j : Nat) (h : j < l.length) : l.getD j ⟨#[]⟩ = l[j] := by
  rw [List.getD_eq_getElem?_getD, List.getElem?_eq_getElem h]
  rfl
theorem SQ.nil (l : List ByteArray) : SQ l [] 0 := ⟨by simp, List.Pairwise.nil⟩
theorem SQ.ins {l : List ByteArray} {q : List Nat} {i at' : Nat} (h : SQ l q i) (h1 : ∀ j, j < at' → ∀ a, q[j]? = some a → lt (ky l a) (ky l i) = true) (h2 : ∀ a, q[at']? = some a → lt (ky l i) (ky l a) = true) :
    SQ l (q.take at' ++ i :: q.drop at') (i + 1) := by
  have hq : (q.take at' ++ q.drop at').Pairwise fun a b => lt (ky l a) (ky l b) = true := by rw [List.take_append_drop]; exact h.inc
  obtain ⟨p1, p2, p3⟩ := List.pairwise_append.1 hq
  have hd : ∀ b ∈ q.drop at', lt (ky l i) (ky l b) = true := by
    intro b hb
    cases hD : q.drop at' with
    | nil => rw [hD] at hb; cases hb
    | cons a r =>
      have ha : q[at']? = some a := by
        have : (q.drop at')[0]? = some a := by rw [hD]; rfl
        simpa using this
      rw [hD] at hb p2
      rcases List.mem_cons.1 hb with rfl | hb
      · exact h2 _ ha
      · exact lt_trans (h2 _ ha) ((List.pairwise_cons.1 p2).1 b hb)
  have ht : ∀ a ∈ q.take at', lt (ky l a) (ky l i) = true := by
    intro a ha
    obtain ⟨j, hj, rfl⟩ := List.getElem_of_mem ha
    rw [List.length_take] at hj
    rw [List.getElem_take]
    exact h1 j (by omega) _ (List.getElem?_eq_getElem (by omega))
  constructor
  · refine List.perm_middle.trans ?_
    rw [List.take_append_drop, List.range_succ]
    exact (List.Perm.cons i h.perm).trans (List.perm_append_singleton i (List.range i)).symm
  · refine List.pairwise_append.2 ⟨p1, List.pairwise_cons.2 ⟨hd, p2⟩, ?_⟩
    intro a ha b hb
    rcases List.mem_cons.1 hb with rfl | hb
    · exact ht a ha
    · exact p3 a ha b hb
theorem SQ.length {l : List ByteArray} {q : List Nat} {i : Nat} (h : SQ l q i) : q.length = i := by rw [h.perm.length_eq, List.length_range]
theorem SQ.lt {l : List ByteArray} {q : List Nat} {i j a : Nat} (h : SQ l q i) (ha : q[j]? = some a) : a < i := List.mem_range.1 (h.perm.mem_iff.1 (List.mem_of_getElem? ha))
theorem SQ.twice {l : List ByteArray} {q : List Nat} {i j a : Nat} (h : SQ l q i) (hi : i < l.length) (ha : q[j]? = some a) (he : ky l a = ky l i) : ¬ l.Nodup := by
  intro hn
  have hlt := h.lt ha
  unfold ky at he
  rw [getD_at _ _ (by omega), getD_at _ _ hi] at he
  have := (List.getElem_inj hn).1 he
  omega
theorem ky_fin (l : List ByteArray) (a : Fin l.length) : ky l a = l[a] := by
  unfold ky
  rw [getD_at _ _ a.2]
  rfl
theorem SQ.nodup {l : List ByteArray} {q : List Nat} (h : SQ l q l.length) : l.Nodup := by
  rw [List.nodup_iff_pairwise_ne, List.pairwise_iff_getElem]
  intro i j hi hj hij he
  obtain ⟨x, hx, hxi⟩ := List.getElem_of_mem (h.perm.mem_iff.2 (List.mem_range.2 hi))
  obtain ⟨y, hy, hyj⟩ := List.getElem_of_mem (h.perm.mem_iff.2 (List.mem_range.2 hj))
  have hk : ky l i = ky l j := by
    unfold ky
    rw [getD_at _ _ hi, getD_at _ _ hj]
    exact he
  have hxy : x ≠ y := by intro e; subst e; omega
  rcases Nat.lt_or_gt_of_ne hxy with h1 | h1
  · have := List.pairwise_iff_getElem.1 h.inc x y hx hy h1
    rw [hxi, hyj, hk, lt_irrefl] at this
    cases this
  · have := List.pairwise_iff_getElem.1 h.inc y x hy hx h1
    rw [hxi, hyj, hk, lt_irrefl] at this
    cases this
theorem Asc.sq {l : List ByteArray} {p : List (Fin l.length)} (h : Asc l p) (hn : l.Nodup) : SQ l (p.map Fin.val) l.length := by
  constructor
  · have := h.1.map Fin.val
    have e : (List.finRange l.length).map Fin.val = List.range l.length := by
      apply List.ext_getElem
      · simp
      · intro i h1 h2
        simp
    rw [e] at this
    exact this
  · rw [List.pairwise_map]
    have h2 := h.nodup
    rw [List.nodup_iff_pairwise_ne] at h2
    refine (h.2.and h2).imp ?_
    rintro a b ⟨h3, h4⟩
    rw [ky_fin, ky_fin]
    rcases lt_tri l[a] l[b] with e | ⟨e, _⟩ | ⟨e, _⟩
    · exact absurd (Fin.ext ((List.getElem_inj hn).1 e)) h4
    · exact e
    · rw [h3] at e; cases e
theorem SQ.unique {l : List ByteArray} {q q' : List Nat} {i : Nat} (h : SQ l q i) (h' : SQ l q' i) : q = q' := by
  refine List.Perm.eq_of_pairwise ?_ h.inc h'.inc (h.perm.trans h'.perm.symm)
  intro a b _ _ h1 h2
  have := lt_trans h1 h2
  rw [lt_irrefl] at this
  cases this
theorem split_at (p : Nat → Bool) : ∀ q : List Nat, ∃ m : Nat, (∀ j : Nat, j < m → ∀ a, q[j]? = some a → p a = true) ∧ ∀ a, q[m]? = some a → p a = false
  | [] => ⟨0, fun j h => absurd h (by omega), fun a h => by simp at h⟩
  | a :: q => by
    by_cases h : p a = true
    · obtain ⟨m, h1, h2⟩ := split_at p q
      refine ⟨m + 1, fun j hj b hb => ?_, fun b hb => h2 b (by simpa using hb)⟩
      match j, hb with
      | 0, hb => simp at hb; rw [← hb]; exact h
      | j + 1, hb => exact h1 j (by omega) b (by simpa using hb)
    · exact ⟨0, fun j h => absurd h (by omega), fun b hb => by simp at hb; rw [← hb]; simpa using h⟩
theorem sq_exists {l : List ByteArray} (hn : l.Nodup) : ∀ i, i ≤ l.length → ∃ q, SQ l q i
  | 0, _ => ⟨[], SQ.nil l⟩
  | i + 1, hi => by
    obtain ⟨q, hq⟩ := sq_exists hn i (by omega)
    obtain ⟨m, h1, h2⟩ := split_at (fun a => lt (ky l a) (ky l i)) q
    refine ⟨_, hq.ins h1 fun a ha => ?_⟩
    have hai := hq.lt ha
    rcases lt_tri (ky l a) (ky l i) with e | ⟨e, _⟩ | ⟨e, _⟩
    · unfold ky at e
      rw [getD_at _ _ (by omega), getD_at _ _ (by omega)] at e
      have := (List.getElem_inj hn).1 e
      omega
    · have h3 : lt (ky l a) (ky l i) = false := h2 a ha
      rw [h3] at e; cases e
    · exact e
def Incr (U : List ByteArray) : Prop := ∀ i j, i < j → j < U.length → lt (ky U i) (ky U j) = true
theorem SQ.incr {l : List ByteArray} {q : List Nat} {i : Nat} (h : SQ l q i) : Incr (q.map (ky l)) := by
  intro i j hij hj
  rw [List.length_map] at hj
  have := List.pairwise_iff_getElem.1 h.inc i j (by omega) hj hij
  unfold ky
  rw [List.getD_eq_getElem?_getD, List.getD_eq_getElem?_getD, List.getElem?_map, List.getElem?_map, List.getElem?_eq_getElem (by omega), List.getElem?_eq_getElem hj]
  exact this
end Go.Proofs.YtnplkamkeadlgaaDoor
