/-
  What is proved here: a list has no key twice if and only if no two neighbours in its order are equal; no condition; and: what insertion keeps of an order of keys, and that there is one increasing order; no condition.
-/
import Derived.Test.YtjbmghfgbdnjjaaDoorKOrd
namespace Go.Proofs.YtjbmghfgbdnjjaaDoor
open Go.RowKit Go.Sort Go.Shelf

/-- No two neighbours among the first k + 1 are equal. -/
def Adj (l : List ByteArray) (p : List (Fin l.length)) (k : Nat) : Prop := ∀ j, j < k → ∀ a b, p[j]? = some a → p[j + 1]? = some b → l[a] ≠ l[b]
theorem Adj.step {l : List ByteArray} {p : List (Fin l.length)} {k : Nat} {a b : Fin l.length} (h : Adj l p k) (ha : p[k]? = some a) (hb : p[k + 1]? = some b) (hne : l[a] ≠ l[b]) : Adj l p (k + 1) := by
  intro j hj a' b' ha' hb'
  by_cases e : j = k
  · subst e
    rw [ha] at ha'; rw [hb] at hb'
    cases ha'; cases hb'
    exact hne
  · exact h j (by omega) a' b' ha' hb'
theorem Asc.nodup {l : List ByteArray} {p : List (Fin l.length)} (h : Asc l p) : p.Nodup := h.1.nodup_iff.2 (List.nodup_finRange _)
theorem Asc.length {l : List ByteArray} {p : List (Fin l.length)} (h : Asc l p) : p.length = l.length := by rw [h.1.length_eq, List.length_finRange]
theorem twice_of {l : List ByteArray} {p : List (Fin l.length)} {k : Nat} {a b : Fin l.length} (h : Asc l p) (ha : p[k]? = some a) (hb : p[k + 1]? = some b) (he : l[a] = l[b]) : ¬ l.Nodup := by
  intro hn
  obtain ⟨h1, rfl⟩ := List.getElem?_eq_some_iff.1 ha
  obtain ⟨h2, rfl⟩ := List.getElem?_eq_some_iff.1 hb
  have hi : (p[k] : Nat) = (p[k + 1] : Nat) := (List.getElem_inj hn).1 he
  have := (List.getElem_inj h.nodup).1 (Fin.ext hi)
  omega
theorem strict_of {l : List ByteArray} {p : List (Fin l.length)} {k : Nat} (h : Asc l p) (hA : Adj l p k) (hk : p.length ≤ k + 1) :
    ∀ j (hj : j < p.length) i (hij : i < j), lt l[p[i]] l[p[j]] = true := by
  intro j
  induction j with
  | zero => intro _ i hij; omega
  | succ j ih =>
    intro hj i hij
    have hne := hA j (by omega) _ _ (List.getElem?_eq_getElem (by omega)) (List.getElem?_eq_getElem hj)
    have hge : lt l[p[j + 1]] l[p[j]] = false := List.pairwise_iff_getElem.1 h.2 j (j + 1) (by omega) hj (by omega)
    have hs : lt l[p[j]] l[p[j + 1]] = true := by
      rcases lt_tri l[p[j]] l[p[j + 1]] with e | ⟨e, _⟩ | ⟨e, _⟩
      · exact absurd e hne
      · exact e
      · rw [hge] at e; cases e
    by_cases e : i = j
    · subst e; exact hs
    · exact lt_trans (ih (by omega) i (by omega)) hs
theorem nodup_of {l : List ByteArray} {p : List (Fin l.length)} {k : Nat} (h : Asc l p) (hA : Adj l p k) (hk : p.length ≤ k + 1) : l.Nodup := by
  have hs := strict_of h hA hk
  have key : ∀ (x y : Fin l.length), x ≠ y → l[x] ≠ l[y] := by
    intro x y hxy he
    obtain ⟨i, hi, rfl⟩ := List.getElem_of_mem (h.1.mem_iff.2 (List.mem_finRange x))
    obtain ⟨j, hj, rfl⟩ := List.getElem_of_mem (h.1.mem_iff.2 (List.mem_finRange y))
    have hij : i ≠ j := by intro e; subst e; exact hxy rfl
    rcases Nat.lt_or_gt_of_ne hij with h1 | h1
    · have := hs j hj i h1
      rw [he, lt_irrefl] at this
      cases this
    · have := hs i hi j h1
      rw [he, lt_irrefl] at this
      cases this
  rw [List.nodup_iff_pairwise_ne, List.pairwise_iff_getElem]
  intro i j hi hj hij
  exact key ⟨i, hi⟩ ⟨j, hj⟩ (fun e => by have := congrArg Fin.val e; simp at this; omega)
end Go.Proofs.YtjbmghfgbdnjjaaDoor
namespace Go.Proofs.YtjbmghfgbdnjjaaDoor
open Go.RowKit Go.Sort Go.Shelf

def ky (l : List ByteArray) (j : Nat) : ByteArray := l.getD j ⟨#[]⟩
/-- The places below i, in the increasing order of their keys. -/
structure SQ (l : List ByteArray) (q : List Nat) (i : Nat) : Prop where
  perm : q.Perm (List.range i)
  inc : q.Pairwise fun a b => lt (ky l a) (ky l b) = true
theorem getD_at (l : List ByteArray) (j : Nat) (h : j < l.length) : l.getD j ⟨#[]⟩ = l[j] := by
  rw [List.getD_eq_getElem?_getD, List.getElem?_eq_getElem h]
  rfl
theorem SQ.nil (l : List ByteArray) : SQ l [] 0 := ⟨by simp, List.Pairwise.nil⟩
theorem SQ.ins {l : List ByteArray} {q : List Nat} {i at' : Nat} (h : SQ l q i) (h1 : ∀ j, j < at' → ∀ a, q[j]? = some a → lt (ky l a) (ky l i) = true) (h2 : ∀ a, q[at']? = some a → lt (ky l i) (ky l a) = true) :
    SQ l (q.take at' ++ i :: q.drop at') (i + 1) := by
  have hq : (q.take at' ++ q.drop at').Pairwise fun a b => lt (ky l a) (ky l b) = true := by rw [List.take_append_drop]; exact h.inc
  obtain ⟨p1, p2, p3⟩ := List.pairwise_append.1 hq
  have hd : ∀ b ∈ q.drop at', lt (ky l i) (ky l b) = true := by
    intro b hb
    cases hD : q.drop at' with
    | nil => rw [hD] at hb; cases hb
    | cons a r =>
      have ha : q[at']? = some a := by
        have : (q.drop at')[0]? = some a := by rw [hD]; rfl
        simpa using this
      rw [hD] at hb p2
      rcases List.mem_cons.1 hb with rfl | hb
      · exact h2 _ ha
      · exact lt_trans (h2 _ ha) ((List.pairwise_cons.1 p2).1 b hb)
  have ht : ∀ a ∈ q.take at', lt (ky l a) (ky l i) = true := by
    intro a ha
    obtain ⟨j, hj, rfl⟩ := List.getElem_of_mem ha
    rw [List.length_take] at hj
    rw [List.getElem_take]
    exact h1 j (by omega) _ (List.getElem?_eq_getElem (by omega))
  constructor
  · refine List.perm_middle.trans ?_
    rw [List.take_append_drop, List.range_succ]
    exact (List.Perm.cons i h.perm).trans (List.perm_append_singleton i (List.range i)).symm
  · refine List.pairwise_append.2 ⟨p1, List.pairwise_cons.2 ⟨hd, p2⟩, ?_⟩
    intro a ha b hb
    rcases List.mem_cons.1 hb with rfl | hb
    · exact ht a ha
    · exact p3 a ha b hb
theorem SQ.length {l : List ByteArray} {q : List Nat} {i : Nat} (h : SQ l q i) : q.length = i := by rw [h.perm.length_eq, List.length_range]
theorem SQ.lt {l : List ByteArray} {q : List Nat} {i j a : Nat} (h : SQ l q i) (ha : q[j]? = some a) : a < i := List.mem_range.1 (h.perm.mem_iff.1 (List.mem_of_getElem? ha))
theorem SQ.twice {l : List ByteArray} {q : List Nat} {i j a : Nat} (h : SQ l q i) (hi : i < l.length) (ha : q[j]? = some a) (he : ky l a = ky l i) : ¬ l.Nodup := by
  intro hn
  have hlt := h.lt ha
  unfold ky at he
  rw [getD_at _ _ (by omega), getD_at _ _ hi] at he
  have := (List.getElem_inj hn).1 he
  omega
theorem ky_fin (l : List ByteArray) (a : Fin l.length) : ky l a = l[a] := by
  unfold ky
  rw [getD_at _ _ a.2]
  rfl
theorem SQ.nodup {l : List ByteArray} {q : List Nat} (h : SQ l q l.length) : l.Nodup := by
  rw [List.nodup_iff_pairwise_ne, List.pairwise_iff_getElem]
  intro i j hi hj hij he
  obtain ⟨x, hx, hxi⟩ := List.getElem_of_mem (h.perm.mem_iff.2 (List.mem_range.2 hi))
  obtain ⟨y, hy, hyj⟩ := List.getElem_of_mem (h.perm.mem_iff.2 (List.mem_range.2 hj))
  have hk : ky l i = ky l j := by
    unfold ky
    rw [getD_at _ _ hi, getD_at _ _ hj]
    exact he
  have hxy : x ≠ y := by intro e; subst e; omega
  rcases Nat.lt_or_gt_of_ne hxy with h1 | h1
  · have := List.pairwise_iff_getElem.1 h.inc x y hx hy h1
    rw [hxi, hyj, hk, lt_irrefl] at this
    cases this
  · have := List.pairwise_iff_getElem.1 h.inc y x hy hx h1
    rw [hxi, hyj, hk, lt_irrefl] at this
    cases this
theorem Asc.sq {l : List ByteArray} {p : List (Fin l.length)} (h : Asc l p) (hn : l.Nodup) : SQ l (p.map Fin.val) l.length := by
  constructor
  · have := h.1.map Fin.val
    have e : (List.finRange l.length).map Fin.val = List.range l.length := by
      apply List.ext_getElem
      · simp
      · intro i h1 h2
        simp
    rw [e] at this
    exact this
  · rw [List.pairwise_map]
    have h2 := h.nodup
    rw [List.nodup_iff_pairwise_ne] at h2
    refine (h.2.and h2).imp ?_
    rintro a b ⟨h3, h4⟩
    rw [ky_fin, ky_fin]
    rcases lt_tri l[a] l[b] with e | ⟨e, _⟩ | ⟨e, _⟩
    · exact absurd (Fin.ext ((List.getElem_inj hn).1 e)) h4
    · exact e
    · rw [h3] at e; cases e
theorem SQ.unique {l : List ByteArray} {q q' : List Nat} {i : Nat} (h : SQ l q i) (h' : SQ l q' i) : q = q' := by
  refine List.Perm.eq_of_pairwise ?_ h.inc h'.inc (h.perm.trans h'.perm.symm)
  intro a b _ _ h1 h2
  have := lt_trans h1 h2
  rw [lt_irrefl] at this
  cases this
end Go.Proofs.YtjbmghfgbdnjjaaDoor
