/-
  What is proved here: when Check answers OK, in plain words, and that a subtree of a valid tree is valid; no condition.
-/
import Derived.Test.YtnplkamkeadlgaaDoorCheck
namespace Go.Proofs.YtnplkamkeadlgaaDoor
open Go.RowKit

theorem stepE_zero (i : Nat) (x : Nat × T) : stepE i x = 0 ↔ i < 4096 ∧ x.1 < 64 ∧ ownE x.2 = 0 := by
  have e : ownE x.2 = if suchT x.2 = false then 60 else keyE x.2 := rfl
  rw [e]
  unfold stepE
  by_cases h1 : 4096 < i + 1
  · rw [if_pos h1]
    constructor
    · intro h; omega
    · rintro ⟨h, _⟩; omega
  · rw [if_neg h1]
    by_cases h2 : 64 ≤ x.1
    · rw [if_pos h2]
      constructor
      · intro h; omega
      · rintro ⟨_, h, _⟩; omega
    · rw [if_neg h2]
      exact ⟨fun h => ⟨by omega, by omega, h⟩, fun h => h.2.2⟩
theorem chkL_zero : ∀ (l : List (Nat × T)) (k : Nat), chkL l k = 0 ↔ ∀ i x, l[i]? = some x → stepE (k + i) x = 0
  | [], k => ⟨fun _ i x h => by simp at h, fun _ => rfl⟩
  | y :: r, k => by
    have hd : chkL (y :: r) k = if stepE k y ≠ 0 then stepE k y else chkL r (k + 1) := rfl
    rw [hd]
    constructor
    · intro h i x hx
      by_cases h0 : stepE k y = 0
      · rw [if_neg (by simp [h0])] at h
        cases i with
        | zero => simp at hx; subst hx; exact h0
        | succ i =>
          have := (chkL_zero r (k + 1)).1 h i x (by simpa using hx)
          rw [show k + (i + 1) = k + 1 + i by omega]
          exact this
      · rw [if_pos h0] at h; exact absurd h h0
    · intro h
      have h0 : stepE k y = 0 := h 0 y rfl
      rw [if_neg (by simp [h0])]
      refine (chkL_zero r (k + 1)).2 fun i x hx => ?_
      rw [show k + 1 + i = k + (i + 1) by omega]
      exact h (i + 1) x (by simpa using hx)
mutual
theorem ok_pre : ∀ (t : T) (b : Nat), okT t ↔ ∀ x ∈ preT t b, ownE x.2 = 0
  | .mk k n u s ks l, b => by
    have := okL_pre l (b + 1)
    simp only [okT, preT, List.mem_cons, forall_eq_or_imp]
    rw [this]
theorem okL_pre : ∀ (l : List T) (b : Nat), okL l ↔ ∀ x ∈ preL l b, ownE x.2 = 0
  | [], b => by simp [okL, preL]
  | t :: ts, b => by
    have h1 := ok_pre t b
    have h2 := okL_pre ts b
    simp only [okL, preL, List.mem_append]
    rw [h1, h2]
    exact ⟨fun h x hx => hx.elim (h.1 x) (h.2 x), fun h => ⟨fun x hx => h x (.inl hx), fun x hx => h x (.inr hx)⟩⟩
end
theorem mxl_le : ∀ (l : List (Nat × T)) (n : Nat), mxl l ≤ n ↔ ∀ x ∈ l, x.1 ≤ n
  | [], n => by simp [mxl]
  | y :: r, n => by
    have := mxl_le r n
    have e : mxl (y :: r) = max y.1 (mxl r) := rfl
    rw [e, Nat.max_le, this]
    simp
theorem chk_zero (t : T) : chk t = 0 ↔ okT t ∧ dp t ≤ 64 ∧ sz t ≤ 4096 := by
  unfold chk
  rw [chkL_zero, ok_pre t 0]
  have hl := preT_length t 0
  have hm := mxl_preT t 0
  have hx := mxl_le (preT t 0) 63
  constructor
  · intro h
    have hh : ∀ i x, (preT t 0)[i]? = some x → i < 4096 ∧ x.1 < 64 ∧ ownE x.2 = 0 := fun i x hi => by
      have := (stepE_zero _ _).1 (h i x hi)
      rw [Nat.zero_add] at this
      exact this
    refine ⟨fun x hx => ?_, ?_, ?_⟩
    · obtain ⟨i, hi⟩ := List.getElem?_of_mem hx
      exact (hh i x hi).2.2
    · have : mxl (preT t 0) ≤ 63 := hx.2 fun x hx => by
        obtain ⟨i, hi⟩ := List.getElem?_of_mem hx
        have := (hh i x hi).2.1
        omega
      omega
    · by_cases h9 : sz t ≤ 4096
      · exact h9
      · have h8 : 4096 < (preT t 0).length := by omega
        have := (hh 4096 _ (List.getElem?_eq_getElem h8)).1
        omega
  · rintro ⟨h1, h2, h3⟩ i x hi
    refine (stepE_zero _ _).2 ⟨?_, ?_, h1 x (List.mem_of_getElem? hi)⟩
    · have := (List.getElem?_eq_some_iff.1 hi).1
      omega
    · have := hx.1 (by omega) x (List.mem_of_getElem? hi)
      omega
mutual
theorem atT_her (P : T → Prop) (hP : ∀ t, P t → ∀ c ∈ t.l, P c) : ∀ (t : T) (i : Nat) (x : T), P t → atT t i = some x → P x
  | .mk k n u s ks l, i, x, h, ha => by
    unfold atT at ha
    by_cases h0 : i = 0
    · rw [if_pos h0] at ha
      obtain rfl := Option.some.inj ha
      exact h
    · rw [if_neg h0] at ha
      exact atL_her P hP l (i - 1) x (fun c hc => hP _ h c hc) ha
theorem atL_her (P : T → Prop) (hP : ∀ t, P t → ∀ c ∈ t.l, P c) : ∀ (l : List T) (i : Nat) (x : T), (∀ c ∈ l, P c) → atL l i = some x → P x
  | [], i, x, _, ha => by simp [atL] at ha
  | t :: ts, i, x, h, ha => by
    unfold atL at ha
    by_cases h0 : i < sz t
    · rw [if_pos h0] at ha
      exact atT_her P hP t i x (h t (by simp)) ha
    · rw [if_neg h0] at ha
      exact atL_her P hP ts (i - sz t) x (fun c hc => h c (by simp [hc])) ha
end
theorem mem_szL {l : List T} {c : T} (h : c ∈ l) : sz c ≤ szL l := by
  obtain ⟨i, hi⟩ := List.getElem?_of_mem h
  have := sz_le_of hi
  omega
theorem at_QQ {t x : T} {i : Nat} (h : QQ t) (ha : atT t i = some x) : QQ x := atT_her QQ QQ_sub t i x h ha
theorem at_sz {t x : T} {i : Nat} {N : Nat} (h : sz t ≤ N) (ha : atT t i = some x) : sz x ≤ N :=
  atT_her (fun t => sz t ≤ N) (fun t h c hc => by
    have := mem_szL hc
    cases t
    simp only [sz] at h
    simp only [T.l] at this
    omega) t i x h ha
theorem chk_sub {t x : T} {i : Nat} (h : chk t = 0) (ha : atT t i = some x) : chk x = 0 := by
  rw [chk_zero] at h ⊢
  obtain ⟨h1, h2, h3⟩ := h
  have := at_ok t i x h1 ha
  exact ⟨this.1, by omega, at_sz h3 ha⟩
end Go.Proofs.YtnplkamkeadlgaaDoor
