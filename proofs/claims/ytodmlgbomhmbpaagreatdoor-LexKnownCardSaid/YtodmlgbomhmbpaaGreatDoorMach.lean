/-
  What is proved here: plain facts of bytes, encodings and the reader of literals as a machine over lists of bytes; no program in this text; no condition but those that each fact states; and: plain facts of the reader of literals: where it stops, that a prefix lacks only its end, that what comes behind does not matter; no program in this text; no condition but those that each fact states.
-/
import Derived.Shelf.Unicode.DecodeSlow
namespace Go.Proofs.YtodmlgbomhmbpaaGreatDoor
namespace Ut
open Go.Lib

/-- The value of a hexadecimal digit. -/
def dv (c : Nat) : Option Nat :=
  if 48 ≤ c ∧ c ≤ 57 then some (c - 48) else if 97 ≤ c ∧ c ≤ 102 then some (c - 87) else if 65 ≤ c ∧ c ≤ 70 then some (c - 55) else none
theorem dv_lt {c d : Nat} (h : dv c = some d) : d < 16 := by
  unfold dv at h
  repeat' split at h
  all_goals first | (injection h with h; omega) | cases h

/-- The encoding of a scalar value. -/
def encN (r : Nat) : List Nat :=
  if r < 128 then [r] else if r < 2048 then [192 + r / 64, 128 + r % 64] else if r < 65536 then [224 + r / 4096, 128 + r / 64 % 64, 128 + r % 64]
  else [240 + r / 262144, 128 + r / 4096 % 64, 128 + r / 64 % 64, 128 + r % 64]
def enc (r : Nat) : List UInt8 := (encN r).map UInt8.ofNat
def scal (r : Nat) : Prop := r ≤ 1114111 ∧ (r < 55296 ∨ 57343 < r)
theorem enc_len (r : Nat) : 1 ≤ (enc r).length ∧ (enc r).length ≤ 4 := by
  unfold enc encN
  repeat' split
  all_goals simp

/-- Do the first bytes of an encoding lack no byte? (As the library's FullRune answers.) -/
def fullN (n b0 b1 b2 : Nat) : Bool :=
  decide (firstT b0 % 8 ≤ n) || (decide (1 < n) && (decide (b1 < accLo (firstT b0 / 16)) || decide (accHi (firstT b0 / 16) < b1))) || (decide (2 < n) && (decide (b2 < 128) || decide (191 < b2)))
def full (l : List UInt8) : Bool := decide (0 < l.length) && fullN l.length (l.getD 0 0).toNat (l.getD 1 0).toNat (l.getD 2 0).toNat
/-- Are they an encoding? -/
def valN (n b0 b1 b2 b3 : Nat) : Bool :=
  decide (b0 < 128) || (decide (1 < firstT b0 % 8) && decide (firstT b0 % 8 ≤ n) && (decide (accLo (firstT b0 / 16) ≤ b1) && decide (b1 ≤ accHi (firstT b0 / 16))) &&
    (decide (firstT b0 % 8 < 3) || (decide (128 ≤ b2) && decide (b2 ≤ 191))) && (decide (firstT b0 % 8 < 4) || (decide (128 ≤ b3) && decide (b3 ≤ 191))))
def val (l : List UInt8) : Bool := valN l.length (l.getD 0 0).toNat (l.getD 1 0).toNat (l.getD 2 0).toNat (l.getD 3 0).toNat

/-- The reader of a literal. -/
structure Q where
  st : Nat
  text : List UInt8
  part : List UInt8
  code : Nat
  dig : Nat
  high : Nat
def q0 : Q := ⟨0, [], [], 0, 0, 0⟩

def esc (c : Nat) : Option Nat :=
  if c = 34 then some 34 else if c = 92 then some 92 else if c = 98 then some 8 else if c = 102 then some 12 else if c = 110 then some 10 else if c = 114 then some 13 else if c = 116 then some 9 else if c = 47 then some 47 else none
def den (q : Q) (r : Nat) : Q := { q with st := 1, text := q.text ++ enc r, code := 0, dig := 0 }
def lo (code dig : Nat) : Nat := code * 16 ^ (4 - dig)
def hi (code dig : Nat) : Nat := code * 16 ^ (4 - dig) + 16 ^ (4 - dig) - 1

def encS (q : Q) (c : UInt8) : Q × Nat :=
  if full (q.part ++ [c]) = false then ({ q with part := q.part ++ [c] }, 0)
  else if val (q.part ++ [c]) = false then ({ q with part := q.part ++ [c] }, 40)
  else ({ q with st := 1, text := q.text ++ (q.part ++ [c]), part := [] }, 0)
def firstS (q : Q) (c : Nat) : Q × Nat :=
  match dv c with
  | none => (q, 41)
  | some d =>
    if 56320 ≤ lo (q.code * 16 + d) (q.dig + 1) ∧ hi (q.code * 16 + d) (q.dig + 1) ≤ 57343 then ({ q with code := q.code * 16 + d, dig := q.dig + 1 }, 41)
    else if q.dig + 1 ≠ 4 then ({ q with code := q.code * 16 + d, dig := q.dig + 1 }, 0)
    else if 55296 ≤ lo (q.code * 16 + d) (q.dig + 1) ∧ lo (q.code * 16 + d) (q.dig + 1) < 56320 then ({ q with st := 5, code := 0, dig := 0, high := lo (q.code * 16 + d) (q.dig + 1) }, 0)
    else (den q (lo (q.code * 16 + d) (q.dig + 1)), 0)
def secondS (q : Q) (c : Nat) : Q × Nat :=
  match dv c with
  | none => (q, 41)
  | some d =>
    if hi (q.code * 16 + d) (q.dig + 1) < 56320 ∨ 57343 < lo (q.code * 16 + d) (q.dig + 1) then ({ q with code := q.code * 16 + d, dig := q.dig + 1 }, 41)
    else if q.dig + 1 ≠ 4 then ({ q with code := q.code * 16 + d, dig := q.dig + 1 }, 0)
    else (den q (65536 + 1024 * (q.high - 55296) + lo (q.code * 16 + d) (q.dig + 1) - 56320), 0)
def expS (q : Q) (c only next : Nat) : Q × Nat := if c = only then ({ q with st := next }, 0) else (q, 41)
def itemS (q : Q) (c : UInt8) : Q × Nat :=
  if c.toNat = 34 then ({ q with st := 8 }, 0) else if c.toNat = 92 then ({ q with st := 3 }, 0) else if c.toNat < 32 then (q, 41) else encS { q with st := 2 } c
def escS (q : Q) (c : Nat) : Q × Nat :=
  if c = 117 then ({ q with st := 4 }, 0) else match esc c with
  | none => (q, 41)
  | some d => (den q d, 0)
def step (q : Q) (c : UInt8) : Q × Nat :=
  if q.st = 0 then expS q c.toNat 34 1 else if q.st = 1 then itemS q c else if q.st = 2 then encS q c else if q.st = 3 then escS q c.toNat else if q.st = 4 then firstS q c.toNat
  else if q.st = 5 then expS q c.toNat 92 6 else if q.st = 6 then expS q c.toNat 117 7 else secondS q c.toNat

/-- What holds of the reader between two bytes. -/
structure WF (q : Q) : Prop where
  st8 : q.st ≤ 8
  p2 : q.st = 2 → 0 < q.part.length ∧ full q.part = false
  pn : q.st ≠ 2 → q.part = []
  d4 : q.dig < 4
  c4 : q.code < 16 ^ q.dig
  h5 : q.high < 56320
  h6 : 5 ≤ q.st → q.st ≤ 7 → 55296 ≤ q.high
theorem wf0 : WF q0 := ⟨by decide, by decide, fun _ => rfl, by decide, by decide, by decide, by decide⟩

theorem firstT_le (b : Nat) : firstT b % 8 ≤ 4 := by
  rcases firstT_cases b with h | h | h | h | h | h | h | h | h <;> rw [h] <;> decide
theorem full_len {l : List UInt8} (h : full l = false) : l.length ≤ 3 := by
  unfold full fullN at h
  have := firstT_le (l.getD 0 0).toNat
  rcases Nat.lt_or_ge 3 l.length with h3 | h3
  · rw [decide_eq_true (show 0 < l.length by omega), decide_eq_true (show firstT (l.getD 0 0).toNat % 8 ≤ l.length by omega)] at h
    cases h
  · omega
theorem pow_lt {q : Q} (h : WF q) : q.code < 4096 := by
  have := h.c4
  have h4 := h.d4
  rcases (show q.dig = 0 ∨ q.dig = 1 ∨ q.dig = 2 ∨ q.dig = 3 by omega) with e | e | e | e <;> rw [e] at this <;> omega

/-- The reader over the rest of the bytes, k of which are read: the text, the length, the offset, the error. -/
def go (q : Q) : List UInt8 → Nat → List UInt8 × Nat × Nat × Nat
  | l, k => if q.st = 8 then (q.text, k, 0, 0) else match l with
    | [] => ([], 0, k, 3)
    | c :: r => if (step q c).2 = 0 then go (step q c).1 r (k + 1) else ([], 0, k, (step q c).2)
def unq (l : List UInt8) : List UInt8 × Nat × Nat × Nat := go q0 l 0
end Ut
end Go.Proofs.YtodmlgbomhmbpaaGreatDoor
namespace Go.Proofs.YtodmlgbomhmbpaaGreatDoor
namespace Ut
open Go.Lib

theorem go_8 {q : Q} (h : q.st = 8) (l : List UInt8) (k : Nat) : go q l k = (q.text, k, 0, 0) := by
  cases l <;> simp [go, h]
theorem go_nil {q : Q} (h : q.st ≠ 8) (k : Nat) : go q [] k = ([], 0, k, 3) := by simp [go, h]
theorem go_ok {q : Q} {c : UInt8} {r : List UInt8} (h : q.st ≠ 8) (hs : (step q c).2 = 0) (k : Nat) : go q (c :: r) k = go (step q c).1 r (k + 1) := by simp [go, h, hs]
theorem go_err {q : Q} {c : UInt8} {r : List UInt8} (h : q.st ≠ 8) (hs : (step q c).2 ≠ 0) (k : Nat) : go q (c :: r) k = ([], 0, k, (step q c).2) := by simp [go, h, hs]

theorem encS_err (q : Q) (c : UInt8) : (encS q c).2 = 0 ∨ (encS q c).2 = 40 ∨ (encS q c).2 = 41 := by
  unfold encS
  repeat' split
  all_goals simp
theorem step_err (q : Q) (c : UInt8) : (step q c).2 = 0 ∨ (step q c).2 = 40 ∨ (step q c).2 = 41 := by
  unfold step expS itemS escS firstS secondS
  repeat' split
  all_goals first | exact encS_err _ _ | simp
theorem step_st0 {q : Q} {c : UInt8} (h : q.st = 0) (hs : (step q c).2 = 0) : (step q c).1.st = 1 := by
  unfold step at hs ⊢
  rw [if_pos h] at hs ⊢
  unfold expS at hs ⊢
  split at hs
  · rename_i h; rw [if_pos h]
  · cases hs

/-- Where the reader stops, and what it says. -/
theorem go_facts (l : List UInt8) : ∀ (q : Q) (k : Nat), 
    ((go q l k).2.2.2 = 0 ∧ k ≤ (go q l k).2.1 ∧ (go q l k).2.1 ≤ k + l.length ∧ (go q l k).2.2.1 = 0 ∧ (q.st ≠ 8 → k < (go q l k).2.1)) ∨
    ((go q l k).2.2.2 ≠ 0 ∧ go q l k = ([], 0, (go q l k).2.2.1, (go q l k).2.2.2) ∧ k ≤ (go q l k).2.2.1 ∧ (go q l k).2.2.1 ≤ k + l.length ∧ ((go q l k).2.2.2 = 3 ↔ (go q l k).2.2.1 = k + l.length) ∧
      ((go q l k).2.2.2 = 3 ∨ (go q l k).2.2.2 = 40 ∨ (go q l k).2.2.2 = 41) ∧
      go q (l.take ((go q l k).2.2.1 - k)) k = ([], 0, (go q l k).2.2.1, 3) ∧
      ((go q l k).2.2.1 < k + l.length → ∀ b, go q (l.take ((go q l k).2.2.1 - k + 1) ++ b) k = go q l k)) := by
  induction l with
  | nil =>
    intro q k
    by_cases h : q.st = 8
    · rw [go_8 h]; left; simp [h]
    · rw [go_nil h]; right; simp [go_nil h]
  | cons c r ih =>
    intro q k
    by_cases h : q.st = 8
    · rw [go_8 h]; left; simp [h]
    · by_cases hs : (step q c).2 = 0
      · rw [go_ok h hs]
        rcases ih (step q c).1 (k + 1) with ⟨h1, h2, h3, h4, h5⟩ | ⟨h1, h2, h3, h4, h5, h6, h7, h8⟩
        · left
          refine ⟨h1, by omega, by simp; omega, h4, fun _ => by omega⟩
        · right
          generalize hat : (go (step q c).1 r (k + 1)).2.2.1 = at_ at *
          have e1 : at_ - k = (at_ - (k + 1)) + 1 := by omega
          refine ⟨h1, h2, by omega, by simp; omega, ?_, h6, ?_, ?_⟩
          · rw [h5]; simp; omega
          · rw [e1, List.take_succ_cons, go_ok h hs]; exact h7
          · intro hlt b
            rw [e1, List.take_succ_cons, List.cons_append, go_ok h hs]
            exact h8 (by simp at hlt; omega) b
      · rw [go_err h hs]
        right
        have he := step_err q c
        refine ⟨hs, rfl, Nat.le_refl _, by simp, ?_, ?_, ?_, ?_⟩
        · simp; omega
        · simp; omega
        · simp [go_nil h]
        · intro _ b
          simp [go_err h hs]

theorem unq_two {l : List UInt8} (h : (unq l).2.2.2 = 0) : 2 ≤ (unq l).2.1 ∧ (unq l).2.1 ≤ l.length := by
  unfold unq at h ⊢
  have h0 : q0.st ≠ 8 := by decide
  match l with
  | [] => rw [go_nil h0] at h; cases h
  | c :: r =>
    by_cases hs : (step q0 c).2 = 0
    · rw [go_ok h0 hs] at h ⊢
      have h1 := step_st0 (q := q0) rfl hs
      rcases go_facts r (step q0 c).1 (0 + 1) with ⟨_, h2, h3, h4, h5⟩ | ⟨h2, _⟩
      · have := h5 (by omega)
        exact ⟨by omega, by rw [List.length_cons]; omega⟩
      · exact absurd h h2
    · rw [go_err h0 hs] at h; exact absurd h hs
end Ut
end Go.Proofs.YtodmlgbomhmbpaaGreatDoor
