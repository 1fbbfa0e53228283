/-
  What is proved here: what holds of the reader between two bytes stays so over each byte; its text grows by at most four bytes; no program in this text; no condition but those that each fact states.
-/
import Derived.Test.YtoifjbhjclglmaaDoorMach
namespace Go.Proofs.YtoifjbhjclglmaaDoor
namespace Ut
open Go.Lib

theorem pow_step {code dig d : Nat} (h : code < 16 ^ dig) (hd : d < 16) : code * 16 + d < 16 ^ (dig + 1) := by
  rw [Nat.pow_succ]; omega
theorem encS_len (q : Q) (c : UInt8) : (encS q c).1.text.length ≤ q.text.length + (q.part.length + 1) := by
  unfold encS
  repeat' split
  all_goals simp
theorem den_len (q : Q) (r : Nat) : (den q r).text.length ≤ q.text.length + 4 := by
  have := enc_len r
  simp [den]; omega
theorem step_len {q : Q} (hw : WF q) (c : UInt8) : (step q c).1.text.length ≤ q.text.length + 4 := by
  have hp : q.part.length ≤ 3 := by
    by_cases h : q.st = 2
    · exact full_len (hw.p2 h).2
    · rw [hw.pn h]; simp
  unfold step
  repeat' split
  · unfold expS; split <;> simp
  · unfold itemS
    repeat' split
    · simp
    · simp
    · simp
    · have := encS_len { q with st := 2 } c; simp at this; omega
  · have := encS_len q c; omega
  · unfold escS
    repeat' split
    · simp
    · simp
    · exact den_len q _
  · unfold firstS
    repeat' split
    all_goals first | exact den_len q _ | simp
  · unfold expS; split <;> simp
  · unfold expS; split <;> simp
  · unfold secondS
    repeat' split
    all_goals first | exact den_len q _ | simp

theorem WF.to {q : Q} (hw : WF q) (h2 : q.st ≠ 2) (s : Nat) (hs : s ≤ 8) (hs2 : s ≠ 2) (h6 : 5 ≤ s → s ≤ 7 → 55296 ≤ q.high) : WF { q with st := s } :=
  { st8 := hs, p2 := fun h => absurd h hs2, pn := fun _ => hw.pn h2, d4 := hw.d4, c4 := hw.c4, h5 := hw.h5, h6 := h6 }
theorem WF.done {q : Q} (hw : WF q) (t : List UInt8) : WF { q with st := 1, text := t, part := [] } :=
  { st8 := by show 1 ≤ 8; decide, p2 := fun h => absurd h (by show 1 ≠ 2; decide), pn := fun _ => rfl, d4 := hw.d4, c4 := hw.c4, h5 := hw.h5, h6 := fun h => absurd h (by show ¬ 5 ≤ 1; decide) }
theorem WF.inc {q : Q} (hw : WF q) (p : List UInt8) (h0 : 0 < p.length) (hf : full p = false) : WF { q with st := 2, part := p } :=
  { st8 := by show 2 ≤ 8; decide, p2 := fun _ => ⟨h0, hf⟩, pn := fun h => absurd rfl h, d4 := hw.d4, c4 := hw.c4, h5 := hw.h5, h6 := fun h => absurd h (by show ¬ 5 ≤ 2; decide) }
theorem encS_wf {q : Q} (hw : WF q) (h2 : q.st = 2) (c : UInt8) (he : (encS q c).2 = 0) : WF (encS q c).1 := by
  unfold encS at he ⊢
  split at he
  · rename_i hf
    rw [if_pos hf]
    have := hw.inc (q.part ++ [c]) (by simp) hf
    rw [← h2] at this
    exact this
  · rename_i hf
    split at he
    · cases he
    · rename_i hv
      rw [if_neg hf, if_neg hv]
      exact hw.done _
theorem den_wf {q : Q} (hw : WF q) (h2 : q.st ≠ 2) (r : Nat) : WF (den q r) :=
  { st8 := by show 1 ≤ 8; decide, p2 := fun h => absurd h (by show 1 ≠ 2; decide), pn := fun _ => hw.pn h2, d4 := by show 0 < 4; decide, c4 := by show 0 < 16 ^ 0; decide, h5 := hw.h5, h6 := fun h => absurd h (by show ¬ 5 ≤ 1; decide) }
theorem WF.more {q : Q} (hw : WF q) (h2 : q.st ≠ 2) (c d : Nat) (hd : d < 4) (hc : c < 16 ^ d) : WF { q with code := c, dig := d } :=
  { st8 := hw.st8, p2 := fun h => absurd h h2, pn := fun _ => hw.pn h2, d4 := hd, c4 := hc, h5 := hw.h5, h6 := hw.h6 }
theorem WF.high {q : Q} (hw : WF q) (h2 : q.st ≠ 2) (x : Nat) (h1 : 55296 ≤ x) (hx : x < 56320) : WF { q with st := 5, code := 0, dig := 0, high := x } :=
  { st8 := by show 5 ≤ 8; decide, p2 := fun h => absurd h (by show 5 ≠ 2; decide), pn := fun _ => hw.pn h2, d4 := by show 0 < 4; decide, c4 := by show 0 < 16 ^ 0; decide, h5 := hx, h6 := fun _ _ => h1 }
theorem expS_wf {q : Q} (hw : WF q) (h2 : q.st ≠ 2) (c o n : Nat) (hs : n ≤ 8) (hs2 : n ≠ 2) (h6 : 5 ≤ n → n ≤ 7 → 55296 ≤ q.high) (he : (expS q c o n).2 = 0) : WF (expS q c o n).1 := by
  unfold expS at he ⊢
  split at he
  · rename_i h; rw [if_pos h]
    exact hw.to h2 n hs hs2 h6
  · cases he
theorem step_wf {q : Q} (hw : WF q) (h8 : q.st ≠ 8) (c : UInt8) (he : (step q c).2 = 0) : WF (step q c).1 := by
  have hle := hw.st8
  unfold step at he ⊢
  rcases (show q.st = 0 ∨ q.st = 1 ∨ q.st = 2 ∨ q.st = 3 ∨ q.st = 4 ∨ q.st = 5 ∨ q.st = 6 ∨ q.st = 7 by omega) with hs | hs | hs | hs | hs | hs | hs | hs
  · rw [if_pos hs] at he ⊢
    exact expS_wf hw (by omega) _ _ _ (by decide) (by decide) (fun h => absurd h (by decide)) he
  · rw [if_neg (by omega), if_pos hs] at he ⊢
    unfold itemS at he ⊢
    by_cases h1 : c.toNat = 34
    · rw [if_pos h1]; exact hw.to (by omega) 8 (by decide) (by decide) (fun _ h => absurd h (by decide))
    · rw [if_neg h1] at he ⊢
      by_cases h2 : c.toNat = 92
      · rw [if_pos h2]; exact hw.to (by omega) 3 (by decide) (by decide) (fun h => absurd h (by decide))
      · rw [if_neg h2] at he ⊢
        by_cases h3 : c.toNat < 32
        · rw [if_pos h3] at he; cases he
        · rw [if_neg h3] at he ⊢
          unfold encS at he ⊢
          split at he
          · rename_i hf
            rw [if_pos hf]
            exact hw.inc _ (by simp) hf
          · rename_i hf
            split at he
            · cases he
            · rename_i hv
              rw [if_neg hf, if_neg hv]
              exact hw.done _
  · rw [if_neg (by omega), if_neg (by omega), if_pos hs] at he ⊢
    exact encS_wf hw hs c he
  · rw [if_neg (by omega), if_neg (by omega), if_neg (by omega), if_pos hs] at he ⊢
    unfold escS at he ⊢
    by_cases h1 : c.toNat = 117
    · rw [if_pos h1]; exact hw.to (by omega) 4 (by decide) (by decide) (fun h => absurd h (by decide))
    · rw [if_neg h1] at he ⊢
      cases hx : esc c.toNat with
      | none => rw [hx] at he; cases he
      | some d => exact den_wf hw (by omega) _
  · rw [if_neg (by omega), if_neg (by omega), if_neg (by omega), if_neg (by omega), if_pos hs] at he ⊢
    unfold firstS at he ⊢
    cases hx : dv c.toNat with
    | none => rw [hx] at he; cases he
    | some d =>
      rw [hx] at he
      dsimp only at he ⊢
      have hps := pow_step hw.c4 (dv_lt hx)
      have h4 := hw.d4
      split at he
      · cases he
      · rename_i h1; rw [if_neg h1]
        split
        · exact hw.more (by omega) _ _ (by omega) hps
        · split
          · rename_i h3
            exact hw.high (by omega) _ h3.1 h3.2
          · exact den_wf hw (by omega) _
  · rw [if_neg (by omega), if_neg (by omega), if_neg (by omega), if_neg (by omega), if_neg (by omega), if_pos hs] at he ⊢
    exact expS_wf hw (by omega) _ _ _ (by decide) (by decide) (fun _ _ => hw.h6 (by omega) (by omega)) he
  · rw [if_neg (by omega), if_neg (by omega), if_neg (by omega), if_neg (by omega), if_neg (by omega), if_neg (by omega), if_pos hs] at he ⊢
    exact expS_wf hw (by omega) _ _ _ (by decide) (by decide) (fun _ _ => hw.h6 (by omega) (by omega)) he
  · rw [if_neg (by omega), if_neg (by omega), if_neg (by omega), if_neg (by omega), if_neg (by omega), if_neg (by omega), if_neg (by omega)] at he ⊢
    unfold secondS at he ⊢
    cases hx : dv c.toNat with
    | none => rw [hx] at he; cases he
    | some d =>
      rw [hx] at he
      dsimp only at he ⊢
      have hps := pow_step hw.c4 (dv_lt hx)
      have h4 := hw.d4
      split at he
      · cases he
      · rename_i h1; rw [if_neg h1]
        split
        · exact hw.more (by omega) _ _ (by omega) hps
        · exact den_wf hw (by omega) _
end Ut
end Go.Proofs.YtoifjbhjclglmaaDoor
