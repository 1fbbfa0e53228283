/-
  What is proved here: plain facts of the reader of literals: where it stops, that a prefix lacks only its end, that what comes behind does not matter; no program in this text; no condition but those that each fact states.
-/
import Derived.Test.YtoifjbhjclglmaaDoorMath
namespace Go.Proofs.YtoifjbhjclglmaaDoor
namespace Ut
open Go.Lib

theorem go_8 {q : Q} (h : q.st = 8) (l : List UInt8) (k : Nat) : go q l k = (q.text, k, 0, 0) := by
  cases l <;> simp [go, h]
theorem go_nil {q : Q} (h : q.st ≠ 8) (k : Nat) : go q [] k = ([], 0, k, 3) := by simp [go, h]
theorem go_ok {q : Q} {c : UInt8} {r : List UInt8} (h : q.st ≠ 8) (hs : (step q c).2 = 0) (k : Nat) : go q (c :: r) k = go (step q c).1 r (k + 1) := by simp [go, h, hs]
theorem go_err {q : Q} {c : UInt8} {r : List UInt8} (h : q.st ≠ 8) (hs : (step q c).2 ≠ 0) (k : Nat) : go q (c :: r) k = ([], 0, k, (step q c).2) := by simp [go, h, hs]

theorem encS_err (q : Q) (c : UInt8) : (encS q c).2 = 0 ∨ (encS q c).2 = 40 ∨ (encS q c).2 = 41 := by
  unfold encS
  repeat' split
  all_goals simp
theorem step_err (q : Q) (c : UInt8) : (step q c).2 = 0 ∨ (step q c).2 = 40 ∨ (step q c).2 = 41 := by
  unfold step expS itemS escS firstS secondS
  repeat' split
  all_goals first | exact encS_err _ _ | simp
theorem step_st0 {q : Q} {c : UInt8} (h : q.st = 0) (hs : (step q c).2 = 0) : (step q c).1.st = 1 := by
  unfold step at hs ⊢
  rw [if_pos h] at hs ⊢
  unfold expS at hs ⊢
  split at hs
  · rename_i h; rw [if_pos h]
  · cases hs

/-- Where the reader stops, and what it says. -/
theorem go_facts (l : List UInt8) : ∀ (q : Q) (k : Nat), 
    ((go q l k).2.2.2 = 0 ∧ k ≤ (go q l k).2.1 ∧ (go q l k).2.1 ≤ k + l.length ∧ (go q l k).2.2.1 = 0 ∧ (q.st ≠ 8 → k < (go q l k).2.1)) ∨
    ((go q l k).2.2.2 ≠ 0 ∧ go q l k = ([], 0, (go q l k).2.2.1, (go q l k).2.2.2) ∧ k ≤ (go q l k).2.2.1 ∧ (go q l k).2.2.1 ≤ k + l.length ∧ ((go q l k).2.2.2 = 3 ↔ (go q l k).2.2.1 = k + l.length) ∧
      ((go q l k).2.2.2 = 3 ∨ (go q l k).2.2.2 = 40 ∨ (go q l k).2.2.2 = 41) ∧
      go q (l.take ((go q l k).2.2.1 - k)) k = ([], 0, (go q l k).2.2.1, 3) ∧
      ((go q l k).2.2.1 < k + l.length → ∀ b, go q (l.take ((go q l k).2.2.1 - k + 1) ++ b) k = go q l k)) := by
  induction l with
  | nil =>
    intro q k
    by_cases h : q.st = 8
    · rw [go_8 h]; left; simp [h]
    · rw [go_nil h]; right; simp [go_nil h]
  | cons c r ih =>
    intro q k
    by_cases h : q.st = 8
    · rw [go_8 h]; left; simp [h]
    · by_cases hs : (step q c).2 = 0
      · rw [go_ok h hs]
        rcases ih (step q c).1 (k + 1) with ⟨h1, h2, h3, h4, h5⟩ | ⟨h1, h2, h3, h4, h5, h6, h7, h8⟩
        · left
          refine ⟨h1, by omega, by simp; omega, h4, fun _ => by omega⟩
        · right
          generalize hat : (go (step q c).1 r (k + 1)).2.2.1 = at_ at *
          have e1 : at_ - k = (at_ - (k + 1)) + 1 := by omega
          refine ⟨h1, h2, by omega, by simp; omega, ?_, h6, ?_, ?_⟩
          · rw [h5]; simp; omega
          · rw [e1, List.take_succ_cons, go_ok h hs]; exact h7
          · intro hlt b
            rw [e1, List.take_succ_cons, List.cons_append, go_ok h hs]
            exact h8 (by simp at hlt; omega) b
      · rw [go_err h hs]
        right
        have he := step_err q c
        refine ⟨hs, rfl, Nat.le_refl _, by simp, ?_, ?_, ?_, ?_⟩
        · simp; omega
        · simp; omega
        · simp [go_nil h]
        · intro _ b
          simp [go_err h hs]

theorem unq_two {l : List UInt8} (h : (unq l).2.2.2 = 0) : 2 ≤ (unq l).2.1 ∧ (unq l).2.1 ≤ l.length := by
  unfold unq at h ⊢
  have h0 : q0.st ≠ 8 := by decide
  match l with
  | [] => rw [go_nil h0] at h; cases h
  | c :: r =>
    by_cases hs : (step q0 c).2 = 0
    · rw [go_ok h0 hs] at h ⊢
      have h1 := step_st0 (q := q0) rfl hs
      rcases go_facts r (step q0 c).1 (0 + 1) with ⟨_, h2, h3, h4, h5⟩ | ⟨h2, _⟩
      · have := h5 (by omega)
        exact ⟨by omega, by rw [List.length_cons]; omega⟩
      · exact absurd h h2
    · rw [go_err h0 hs] at h; exact absurd h hs
end Ut
end Go.Proofs.YtoifjbhjclglmaaDoor
