/-
  What is proved here: contracts of tree.Size and tree.Deep on trees of at most 100000 nodes; no other condition.
-/
import Derived.Test.YtemkfpofmblblaaDoorVisit
namespace Go.Proofs.YtemkfpofmblblaaDoor
open Go.RowKit Go.Shelf
attribute [local go_sem] Oper.semAt_some

theorem wrap64_small (x : Nat) (h : x < 2000000) : wrap64 (x : Int) = (x : Int) := by
  unfold wrap64
  omega
theorem Kp.set {n₀ n₁ : Nat} {A B : World} (h : Kp n₀ n₁ A B) {g i : Nat} (hg : n₀ ≤ g) (hg1 : g < n₁) (v : Value) : Kp n₀ n₁ A (B.setCell ⟨g, i, none⟩ v) :=
  ⟨h.1.setCell (p := ⟨g, i, none⟩) hg v, fun k hk o ho hc => by
    refine Eq.trans ?_ (h.2 k hk o ho hc)
    exact Below.heap_setCell _ _ _ k (by show k ≠ g; omega)⟩

def mxl (l : List (Nat × T)) : Nat := l.foldr (fun x m => max x.1 m) 0
theorem mxl_app : ∀ (a b : List (Nat × T)), mxl (a ++ b) = max (mxl a) (mxl b)
  | [], b => by simp [mxl]
  | x :: a, b => by
    have := mxl_app a b
    simp only [mxl, List.cons_append, List.foldr_cons] at this ⊢
    omega
mutual
theorem mxl_preT : ∀ (t : T) (b : Nat), mxl (preT t b) + 1 = b + dp t
  | .mk k n u s ks l, b => by
    have h := mxl_preL l (b + 1)
    simp only [preT, dp]
    have e : mxl ((b, T.mk k n u s ks l) :: preL l (b + 1)) = max b (mxl (preL l (b + 1))) := rfl
    rcases h with ⟨h1, h2⟩ | h
    · subst h1; rw [e, h2]; simp only [dpL]; omega
    · omega
theorem mxl_preL : ∀ (l : List T) (b : Nat), (l = [] ∧ mxl (preL l b) = 0) ∨ (mxl (preL l b) + 1 = b + dpL l)
  | [], _ => .inl ⟨rfl, rfl⟩
  | t :: ts, b => by
    have h1 := mxl_preT t b
    have h2 := mxl_preL ts b
    have hp := dp_pos t
    refine .inr ?_
    simp only [preL, mxl_app, dpL]
    rcases h2 with ⟨h3, h4⟩ | h2
    · subst h3; simp only [dpL] at *; omega
    · omega
end

end Go.Proofs.YtemkfpofmblblaaDoor
