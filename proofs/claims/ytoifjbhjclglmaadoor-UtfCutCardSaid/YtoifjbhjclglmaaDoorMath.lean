/-
  What is proved here: plain facts of bytes, encodings and the reader of literals as a machine over lists of bytes; no program in this text; no condition but those that each fact states.
-/
import Derived.Shelf.Unicode.DecodeSlow
namespace Go.Proofs.YtoifjbhjclglmaaDoor
namespace Ut
open Go.Lib

/-- The value of a hexadecimal digit. -/
def dv (c : Nat) : Option Nat :=
  if 48 ≤ c ∧ c ≤ 57 then some (c - 48) else if 97 ≤ c ∧ c ≤ 102 then some (c - 87) else if 65 ≤ c ∧ c ≤ 70 then some (c - 55) else none
theorem dv_lt {c d : Nat} (h : dv c = some d) : d < 16 := by
  unfold dv at h
  repeat' split at h
  all_goals first | (injection h with h; omega) | cases h

/-- The encoding of a scalar value. -/
def encN (r : Nat) : List Nat :=
  if r < 128 then [r] else if r < 2048 then [192 + r / 64, 128 + r % 64] else if r < 65536 then [224 + r / 4096, 128 + r / 64 % 64, 128 + r % 64]
  else [240 + r / 262144, 128 + r / 4096 % 64, 128 + r / 64 % 64, 128 + r % 64]
def enc (r : Nat) : List UInt8 := (encN r).map UInt8.ofNat
def scal (r : Nat) : Prop := r ≤ 1114111 ∧ (r < 55296 ∨ 57343 < r)
theorem enc_len (r : Nat) : 1 ≤ (enc r).length ∧ (enc r).length ≤ 4 := by
  unfold enc encN
  repeat' split
  all_goals simp

/-- Do the first bytes of an encoding lack no byte? (As the library's FullRune answers.) -/
def fullN (n b0 b1 b2 : Nat) : Bool :=
  decide (firstT b0 % 8 ≤ n) || (decide (1 < n) && (decide (b1 < accLo (firstT b0 / 16)) || decide (accHi (firstT b0 / 16) < b1))) || (decide (2 < n) && (decide (b2 < 128) || decide (191 < b2)))
def full (l : List UInt8) : Bool := decide (0 < l.length) && fullN l.length (l.getD 0 0).toNat (l.getD 1 0).toNat (l.getD 2 0).toNat
/-- Are they an encoding? -/
def valN (n b0 b1 b2 b3 : Nat) : Bool :=
  decide (b0 < 128) || (decide (1 < firstT b0 % 8) && decide (firstT b0 % 8 ≤ n) && (decide (accLo (firstT b0 / 16) ≤ b1) && decide (b1 ≤ accHi (firstT b0 / 16))) &&
    (decide (firstT b0 % 8 < 3) || (decide (128 ≤ b2) && decide (b2 ≤ 191))) && (decide (firstT b0 % 8 < 4) || (decide (128 ≤ b3) && decide (b3 ≤ 191))))
def val (l : List UInt8) : Bool := valN l.length (l.getD 0 0).toNat (l.getD 1 0).toNat (l.getD 2 0).toNat (l.getD 3 0).toNat

/-- The reader of a literal. -/
structure Q where
  st : Nat
  text : List UInt8
  part : List UInt8
  code : Nat
  dig : Nat
  high : Nat
def q0 : Q := ⟨0, [], [], 0, 0, 0⟩

def esc (c : Nat) : Option Nat :=
  if c = 34 then some 34 else if c = 92 then some 92 else if c = 98 then some 8 else if c = 102 then some 12 else if c = 110 then some 10 else if c = 114 then some 13 else if c = 116 then some 9 else if c = 47 then some 47 else none
def den (q : Q) (r : Nat) : Q := { q with st := 1, text := q.text ++ enc r, code := 0, dig := 0 }
def lo (code dig : Nat) : Nat := code * 16 ^ (4 - dig)
def hi (code dig : Nat) : Nat := code * 16 ^ (4 - dig) + 16 ^ (4 - dig) - 1

def encS (q : Q) (c : UInt8) : Q × Nat :=
  if full (q.part ++ [c]) = false then ({ q with part := q.part ++ [c] }, 0)
  else if val (q.part ++ [c]) = false then ({ q with part := q.part ++ [c] }, 40)
  else ({ q with st := 1, text := q.text ++ (q.part ++ [c]), part := [] }, 0)
def firstS (q : Q) (c : Nat) : Q × Nat :=
  match dv c with
  | none => (q, 41)
  | some d =>
    if 56320 ≤ lo (q.code * 16 + d) (q.dig + 1) ∧ hi (q.code * 16 + d) (q.dig + 1) ≤ 57343 then ({ q with code := q.code * 16 + d, dig := q.dig + 1 }, 41)
    else if q.dig + 1 ≠ 4 then ({ q with code := q.code * 16 + d, dig := q.dig + 1 }, 0)
    else if 55296 ≤ lo (q.code * 16 + d) (q.dig + 1) ∧ lo (q.code * 16 + d) (q.dig + 1) < 56320 then ({ q with st := 5, code := 0, dig := 0, high := lo (q.code * 16 + d) (q.dig + 1) }, 0)
    else (den q (lo (q.code * 16 + d) (q.dig + 1)), 0)
def secondS (q : Q) (c : Nat) : Q × Nat :=
  match dv c with
  | none => (q, 41)
  | some d =>
    if hi (q.code * 16 + d) (q.dig + 1) < 56320 ∨ 57343 < lo (q.code * 16 + d) (q.dig + 1) then ({ q with code := q.code * 16 + d, dig := q.dig + 1 }, 41)
    else if q.dig + 1 ≠ 4 then ({ q with code := q.code * 16 + d, dig := q.dig + 1 }, 0)
    else (den q (65536 + 1024 * (q.high - 55296) + lo (q.code * 16 + d) (q.dig + 1) - 56320), 0)
def expS (q : Q) (c only next : Nat) : Q × Nat := if c = only then ({ q with st := next }, 0) else (q, 41)
def itemS (q : Q) (c : UInt8) : Q × Nat :=
  if c.toNat = 34 then ({ q with st := 8 }, 0) else if c.toNat = 92 then ({ q with st := 3 }, 0) else if c.toNat < 32 then (q, 41) else encS { q with st := 2 } c
def escS (q : Q) (c : Nat) : Q × Nat :=
  if c = 117 then ({ q with st := 4 }, 0) else match esc c with
  | none => (q, 41)
  | some d => (den q d, 0)
def step (q : Q) (c : UInt8) : Q × Nat :=
  if q.st = 0 then expS q c.toNat 34 1 else if q.st = 1 then itemS q c else if q.st = 2 then encS q c else if q.st = 3 then escS q c.toNat else if q.st = 4 then firstS q c.toNat
  else if q.st = 5 then expS q c.toNat 92 6 else if q.st = 6 then expS q c.toNat 117 7 else secondS q c.toNat

/-- What holds of the reader between two bytes. -/
structure WF (q : Q) : Prop where
  st8 : q.st ≤ 8
  p2 : q.st = 2 → 0 < q.part.length ∧ full q.part = false
  pn : q.st ≠ 2 → q.part = []
  d4 : q.dig < 4
  c4 : q.code < 16 ^ q.dig
  h5 : q.high < 56320
  h6 : 5 ≤ q.st → q.st ≤ 7 → 55296 ≤ q.high
theorem wf0 : WF q0 := ⟨by decide, by decide, fun _ => rfl, by decide, by decide, by decide, by decide⟩

theorem firstT_le (b : Nat) : firstT b % 8 ≤ 4 := by
  rcases firstT_cases b with h | h | h | h | h | h | h | h | h <;> rw [h] <;> decide
theorem full_len {l : List UInt8} (h : full l = false) : l.length ≤ 3 := by
  unfold full fullN at h
  have := firstT_le (l.getD 0 0).toNat
  rcases Nat.lt_or_ge 3 l.length with h3 | h3
  · rw [decide_eq_true (show 0 < l.length by omega), decide_eq_true (show firstT (l.getD 0 0).toNat % 8 ≤ l.length by omega)] at h
    cases h
  · omega
theorem pow_lt {q : Q} (h : WF q) : q.code < 4096 := by
  have := h.c4
  have h4 := h.d4
  rcases (show q.dig = 0 ∨ q.dig = 1 ∨ q.dig = 2 ∨ q.dig = 3 by omega) with e | e | e | e <;> rw [e] at this <;> omega

/-- The reader over the rest of the bytes, k of which are read: the text, the length, the offset, the error. -/
def go (q : Q) : List UInt8 → Nat → List UInt8 × Nat × Nat × Nat
  | l, k => if q.st = 8 then (q.text, k, 0, 0) else match l with
    | [] => ([], 0, k, 3)
    | c :: r => if (step q c).2 = 0 then go (step q c).1 r (k + 1) else ([], 0, k, (step q c).2)
def unq (l : List UInt8) : List UInt8 × Nat × Nat × Nat := go q0 l 0
end Ut
end Go.Proofs.YtoifjbhjclglmaaDoor
