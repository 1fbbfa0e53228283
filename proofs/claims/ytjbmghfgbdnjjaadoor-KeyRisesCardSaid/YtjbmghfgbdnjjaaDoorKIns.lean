/-
  What is proved here: what insertion keeps of an order of keys, and that there is one increasing order; no condition.
-/
import Derived.Test.YtjbmghfgbdnjjaaDoorKAdj
namespace Go.Proofs.YtjbmghfgbdnjjaaDoor
open Go.RowKit Go.Sort Go.Shelf

def ky (l : List ByteArray) (j : Nat) : ByteArray := l.getD j ⟨#[]⟩
/-- The places below i, in the increasing order of their keys. -/
structure SQ (l : List ByteArray) (q : List Nat) (i : Nat) : Prop where
  perm : q.Perm (List.range i)
  inc : q.Pairwise fun a b => lt (ky l a) (ky l b) = true
theorem getD_at (l : List ByteArray) (j : Nat) (h : j < l.length) : l.getD j ⟨#[]⟩ = l[j] := by
  rw [List.getD_eq_getElem?_getD, List.getElem?_eq_getElem h]
  rfl
theorem SQ.nil (l : List ByteArray) : SQ l [] 0 := ⟨by simp, List.Pairwise.nil⟩
theorem SQ.ins {l : List ByteArray} {q : List Nat} {i at' : Nat} (h : SQ l q i) (h1 : ∀ j, j < at' → ∀ a, q[j]? = some a → lt (ky l a) (ky l i) = true) (h2 : ∀ a, q[at']? = some a → lt (ky l i) (ky l a) = true) :
    SQ l (q.take at' ++ i :: q.drop at') (i + 1) := by
  have hq : (q.take at' ++ q.drop at').Pairwise fun a b => lt (ky l a) (ky l b) = true := by rw [List.take_append_drop]; exact h.inc
  obtain ⟨p1, p2, p3⟩ := List.pairwise_append.1 hq
  have hd : ∀ b ∈ q.drop at', lt (ky l i) (ky l b) = true := by
    intro b hb
    cases hD : q.drop at' with
    | nil => rw [hD] at hb; cases hb
    | cons a r =>
      have ha : q[at']? = some a := by
        have : (q.drop at')[0]? = some a := by rw [hD]; rfl
        simpa using this
      rw [hD] at hb p2
      rcases List.mem_cons.1 hb with rfl | hb
      · exact h2 _ ha
      · exact lt_trans (h2 _ ha) ((List.pairwise_cons.1 p2).1 b hb)
  have ht : ∀ a ∈ q.take at', lt (ky l a) (ky l i) = true := by
    intro a ha
    obtain ⟨j, hj, rfl⟩ := List.getElem_of_mem ha
    rw [List.length_take] at hj
    rw [List.getElem_take]
    exact h1 j (by omega) _ (List.getElem?_eq_getElem (by omega))
  constructor
  · refine List.perm_middle.trans ?_
    rw [List.take_append_drop, List.range_succ]
    exact (List.Perm.cons i h.perm).trans (List.perm_append_singleton i (List.range i)).symm
  · refine List.pairwise_append.2 ⟨p1, List.pairwise_cons.2 ⟨hd, p2⟩, ?_⟩
    intro a ha b hb
    rcases List.mem_cons.1 hb with rfl | hb
    · exact ht a ha
    · exact p3 a ha b hb
theorem SQ.length {l : List ByteArray} {q : List Nat} {i : Nat} (h : SQ l q i) : q.length = i := by rw [h.perm.length_eq, List.length_range]
theorem SQ.lt {l : List ByteArray} {q : List Nat} {i j a : Nat} (h : SQ l q i) (ha : q[j]? = some a) : a < i := List.mem_range.1 (h.perm.mem_iff.1 (List.mem_of_getElem? ha))
theorem SQ.twice {l : List ByteArray} {q : List Nat} {i j a : Nat} (h : SQ l q i) (hi : i < l.length) (ha : q[j]? = some a) (he : ky l a = ky l i) : ¬ l.Nodup := by
  intro hn
  have hlt := h.lt ha
  unfold ky at he
  rw [getD_at _ _ (by omega), getD_at _ _ hi] at he
  have := (List.getElem_inj hn).1 he
  omega
theorem ky_fin (l : List ByteArray) (a : Fin l.length) : ky l a = l[a] := by
  unfold ky
  rw [getD_at _ _ a.2]
  rfl
theorem SQ.nodup {l : List ByteArray} {q : List Nat} (h : SQ l q l.length) : l.Nodup := by
  rw [List.nodup_iff_pairwise_ne, List.pairwise_iff_getElem]
  intro i j hi hj hij he
  obtain ⟨x, hx, hxi⟩ := List.getElem_of_mem (h.perm.mem_iff.2 (List.mem_range.2 hi))
  obtain ⟨y, hy, hyj⟩ := List.getElem_of_mem (h.perm.mem_iff.2 (List.mem_range.2 hj))
  have hk : ky l i = ky l j := by
    unfold ky
    rw [getD_at _ _ hi, getD_at _ _ hj]
    exact he
  have hxy : x ≠ y := by intro e; subst e; omega
  rcases Nat.lt_or_gt_of_ne hxy with h1 | h1
  · have := List.pairwise_iff_getElem.1 h.inc x y hx hy h1
    rw [hxi, hyj, hk, lt_irrefl] at this
    cases this
  · have := List.pairwise_iff_getElem.1 h.inc y x hy hx h1
    rw [hxi, hyj, hk, lt_irrefl] at this
    cases this
theorem Asc.sq {l : List ByteArray} {p : List (Fin l.length)} (h : Asc l p) (hn : l.Nodup) : SQ l (p.map Fin.val) l.length := by
  constructor
  · have := h.1.map Fin.val
    have e : (List.finRange l.length).map Fin.val = List.range l.length := by
      apply List.ext_getElem
      · simp
      · intro i h1 h2
        simp
    rw [e] at this
    exact this
  · rw [List.pairwise_map]
    have h2 := h.nodup
    rw [List.nodup_iff_pairwise_ne] at h2
    refine (h.2.and h2).imp ?_
    rintro a b ⟨h3, h4⟩
    rw [ky_fin, ky_fin]
    rcases lt_tri l[a] l[b] with e | ⟨e, _⟩ | ⟨e, _⟩
    · exact absurd (Fin.ext ((List.getElem_inj hn).1 e)) h4
    · exact e
    · rw [h3] at e; cases e
theorem SQ.unique {l : List ByteArray} {q q' : List Nat} {i : Nat} (h : SQ l q i) (h' : SQ l q' i) : q = q' := by
  refine List.Perm.eq_of_pairwise ?_ h.inc h'.inc (h.perm.trans h'.perm.symm)
  intro a b _ _ h1 h2
  have := lt_trans h1 h2
  rw [lt_irrefl] at this
  cases this
end Go.Proofs.YtjbmghfgbdnjjaaDoor
