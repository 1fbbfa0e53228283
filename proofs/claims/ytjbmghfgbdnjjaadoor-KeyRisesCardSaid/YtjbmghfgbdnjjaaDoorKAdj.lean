/-
  What is proved here: a list has no key twice if and only if no two neighbours in its order are equal; no condition.
-/
import Derived.Test.YtjbmghfgbdnjjaaDoorKOrd
namespace Go.Proofs.YtjbmghfgbdnjjaaDoor
open Go.RowKit Go.Sort Go.Shelf

/-- No two neighbours among the first k + 1 are equal. -/
def Adj (l : List ByteArray) (p : List (Fin l.length)) (k : Nat) : Prop := ∀ j, j < k → ∀ a b, p[j]? = some a → p[j + 1]? = some b → l[a] ≠ l[b]
theorem Adj.step {l : List ByteArray} {p : List (Fin l.length)} {k : Nat} {a b : Fin l.length} (h : Adj l p k) (ha : p[k]? = some a) (hb : p[k + 1]? = some b) (hne : l[a] ≠ l[b]) : Adj l p (k + 1) := by
  intro j hj a' b' ha' hb'
  by_cases e : j = k
  · subst e
    rw [ha] at ha'; rw [hb] at hb'
    cases ha'; cases hb'
    exact hne
  · exact h j (by omega) a' b' ha' hb'
theorem Asc.nodup {l : List ByteArray} {p : List (Fin l.length)} (h : Asc l p) : p.Nodup := h.1.nodup_iff.2 (List.nodup_finRange _)
theorem Asc.length {l : List ByteArray} {p : List (Fin l.length)} (h : Asc l p) : p.length = l.length := by rw [h.1.length_eq, List.length_finRange]
theorem twice_of {l : List ByteArray} {p : List (Fin l.length)} {k : Nat} {a b : Fin l.length} (h : Asc l p) (ha : p[k]? = some a) (hb : p[k + 1]? = some b) (he : l[a] = l[b]) : ¬ l.Nodup := by
  intro hn
  obtain ⟨h1, rfl⟩ := List.getElem?_eq_some_iff.1 ha
  obtain ⟨h2, rfl⟩ := List.getElem?_eq_some_iff.1 hb
  have hi : (p[k] : Nat) = (p[k + 1] : Nat) := (List.getElem_inj hn).1 he
  have := (List.getElem_inj h.nodup).1 (Fin.ext hi)
  omega
theorem strict_of {l : List ByteArray} {p : List (Fin l.length)} {k : Nat} (h : Asc l p) (hA : Adj l p k) (hk : p.length ≤ k + 1) :
    ∀ j (hj : j < p.length) i (hij : i < j), lt l[p[i]] l[p[j]] = true := by
  intro j
  induction j with
  | zero => intro _ i hij; omega
  | succ j ih =>
    intro hj i hij
    have hne := hA j (by omega) _ _ (List.getElem?_eq_getElem (by omega)) (List.getElem?_eq_getElem hj)
    have hge : lt l[p[j + 1]] l[p[j]] = false := List.pairwise_iff_getElem.1 h.2 j (j + 1) (by omega) hj (by omega)
    have hs : lt l[p[j]] l[p[j + 1]] = true := by
      rcases lt_tri l[p[j]] l[p[j + 1]] with e | ⟨e, _⟩ | ⟨e, _⟩
      · exact absurd e hne
      · exact e
      · rw [hge] at e; cases e
    by_cases e : i = j
    · subst e; exact hs
    · exact lt_trans (ih (by omega) i (by omega)) hs
theorem nodup_of {l : List ByteArray} {p : List (Fin l.length)} {k : Nat} (h : Asc l p) (hA : Adj l p k) (hk : p.length ≤ k + 1) : l.Nodup := by
  have hs := strict_of h hA hk
  have key : ∀ (x y : Fin l.length), x ≠ y → l[x] ≠ l[y] := by
    intro x y hxy he
    obtain ⟨i, hi, rfl⟩ := List.getElem_of_mem (h.1.mem_iff.2 (List.mem_finRange x))
    obtain ⟨j, hj, rfl⟩ := List.getElem_of_mem (h.1.mem_iff.2 (List.mem_finRange y))
    have hij : i ≠ j := by intro e; subst e; exact hxy rfl
    rcases Nat.lt_or_gt_of_ne hij with h1 | h1
    · have := hs j hj i h1
      rw [he, lt_irrefl] at this
      cases this
    · have := hs i hi j h1
      rw [he, lt_irrefl] at this
      cases this
  rw [List.nodup_iff_pairwise_ne, List.pairwise_iff_getElem]
  intro i j hi hj hij
  exact key ⟨i, hi⟩ ⟨j, hj⟩ (fun e => by have := congrArg Fin.val e; simp at this; omega)
end Go.Proofs.YtjbmghfgbdnjjaaDoor
