/-
  What is proved here: plain facts about little-endian encodings of natural numbers as lists of bytes (encoding, decoding, lengths, signs); no condition but those that each fact states.
-/
import Derived.Laws.BitsAllLaws
import Derived.Laws.BitsLemmas
namespace Go.Proofs.Ytkcmpakcahemcaa.Le

/-- The number that a list of bytes encodes, the lowest byte first. -/
def dec : List UInt8 → Nat
  | [] => 0
  | x :: xs => x.toNat + 256 * dec xs

/-- The lowest k bytes of a number, the lowest first. -/
def enc : Nat → Nat → List UInt8
  | 0, _ => []
  | k + 1, u => UInt8.ofNat u :: enc k (u / 256)

theorem enc_length (k u : Nat) : (enc k u).length = k := by
  induction k generalizing u with
  | zero => rfl
  | succ k ih => simp [enc, ih]

theorem dec_lt (xs : List UInt8) : dec xs < 256 ^ xs.length := by
  induction xs with
  | nil => simp [dec]
  | cons x xs ih =>
    have hx := x.toNat_lt
    simp only [dec, List.length_cons, Nat.pow_succ]
    omega

theorem dec_enc (k u : Nat) : dec (enc k u) = u % 256 ^ k := by
  induction k generalizing u with
  | zero => simp [dec, enc, Nat.mod_one]
  | succ k ih =>
    simp only [enc, dec, ih, UInt8.toNat_ofNat']
    have e : 2 ^ 8 = 256 := by decide
    rw [e, Nat.pow_succ, Nat.mul_comm (256 ^ k) 256, Nat.mod_mul]

theorem dec_enc_of_lt {k u : Nat} (h : u < 256 ^ k) : dec (enc k u) = u := by rw [dec_enc, Nat.mod_eq_of_lt h]

theorem ofNat_add_mul (x : UInt8) (n : Nat) : UInt8.ofNat (x.toNat + 256 * n) = x := by
  apply UInt8.toNat_inj.1
  have := x.toNat_lt
  simp only [UInt8.toNat_ofNat']
  have e : 2 ^ 8 = 256 := by decide
  rw [e]; omega

theorem enc_dec (xs : List UInt8) : enc xs.length (dec xs) = xs := by
  induction xs with
  | nil => rfl
  | cons x xs ih =>
    have hx := x.toNat_lt
    simp only [dec, List.length_cons, enc, ofNat_add_mul]
    rw [show (x.toNat + 256 * dec xs) / 256 = dec xs by omega, ih]

theorem enc_snoc (k u : Nat) : enc (k + 1) u = enc k u ++ [UInt8.ofNat (u / 256 ^ k)] := by
  induction k generalizing u with
  | zero => simp [enc]
  | succ k ih =>
    rw [enc, ih (u / 256)]
    simp [enc, Nat.pow_succ, Nat.div_div_eq_div_mul, Nat.mul_comm]

theorem enc_getElem? (k u i : Nat) (h : i < k) : (enc k u)[i]? = some (UInt8.ofNat (u / 256 ^ i)) := by
  induction k generalizing u i with
  | zero => omega
  | succ k ih =>
    cases i with
    | zero => simp [enc]
    | succ i =>
      simp only [enc, List.getElem?_cons_succ]
      rw [ih _ _ (by omega), Nat.pow_succ, Nat.div_div_eq_div_mul, Nat.mul_comm (256 ^ i) 256]

theorem enc_add (j k u : Nat) : enc (j + k) u = enc j u ++ enc k (u / 256 ^ j) := by
  induction j generalizing u with
  | zero => simp [enc]
  | succ j ih =>
    rw [show j + 1 + k = (j + k) + 1 by omega, enc, ih]
    simp [enc, Nat.pow_succ, Nat.div_div_eq_div_mul, Nat.mul_comm]

theorem enc_zero (k : Nat) : enc k 0 = List.replicate k 0 := by
  induction k with
  | zero => rfl
  | succ k ih => simp [enc, ih, List.replicate_succ]

theorem enc_mod (k u : Nat) : enc k (u % 256 ^ k) = enc k u := by
  induction k generalizing u with
  | zero => rfl
  | succ k ih =>
    have e1 : UInt8.ofNat (u % 256 ^ (k + 1)) = UInt8.ofNat u := by
      apply UInt8.toNat_inj.1
      simp only [UInt8.toNat_ofNat']
      rw [Nat.pow_succ, Nat.mul_comm (256 ^ k) 256]
      have e : 2 ^ 8 = 256 := by decide
      rw [e, Nat.mod_mul_right_mod]
    have e2 : u % 256 ^ (k + 1) / 256 = (u / 256) % 256 ^ k := by
      rw [Nat.pow_succ, Nat.mul_comm (256 ^ k) 256, Nat.mod_mul_right_div_self]
    rw [enc, enc, e1, e2, ih]

theorem dec_snoc (xs : List UInt8) (x : UInt8) : dec (xs ++ [x]) = dec xs + x.toNat * 256 ^ xs.length := by
  induction xs with
  | nil => simp [dec]
  | cons y ys ih =>
    simp only [List.cons_append, dec, ih, List.length_cons, Nat.pow_succ]
    have e : x.toNat * (256 ^ ys.length * 256) = 256 * (x.toNat * 256 ^ ys.length) := by
      rw [← Nat.mul_assoc, Nat.mul_comm]
    omega

theorem dec_append (xs ys : List UInt8) : dec (xs ++ ys) = dec xs + 256 ^ xs.length * dec ys := by
  induction xs with
  | nil => simp [dec]
  | cons x xs ih =>
    simp only [List.cons_append, dec, ih, List.length_cons, Nat.pow_succ]
    have e : 256 ^ xs.length * 256 * dec ys = 256 * (256 ^ xs.length * dec ys) := by
      rw [Nat.mul_comm (256 ^ xs.length) 256, Nat.mul_assoc]
    omega

theorem pow256 (k : Nat) : 2 ^ (8 * k) = 256 ^ k := by rw [Nat.pow_mul]

/-- One step of the decoding: the next byte is laid above the bits that are there. -/
theorem or_step (d x k : Nat) (hd : d < 256 ^ k) : d ||| (x * 2 ^ (8 * k)) = d + x * 256 ^ k := by
  rw [← pow256] at hd ⊢
  rw [Nat.or_comm, Nat.mul_comm x, ← Nat.two_pow_add_eq_or_of_lt hd x, Nat.add_comm]

/-- The four widths. -/
def isW (x : Int) : Bool := x == 1 || x == 2 || x == 4 || x == 8
theorem isW_iff {x : Int} : isW x = true ↔ x = 1 ∨ x = 2 ∨ x = 4 ∨ x = 8 := by
  unfold isW; simp [or_assoc]
theorem isW_false {x : Int} (h : ¬ (x = 1 ∨ x = 2 ∨ x = 4 ∨ x = 8)) : isW x = false := by
  cases hx : isW x with
  | false => rfl
  | true => exact absurd (isW_iff.1 hx) h

/-- 2 to the number of bits of a width. -/
def pw (x : Int) : Int := if x = 1 then 256 else if x = 2 then 65536 else if x = 4 then 4294967296 else 18446744073709551616
theorem pw1 : pw 1 = 256 := rfl
theorem pw2 : pw 2 = 65536 := rfl
theorem pw4 : pw 4 = 4294967296 := rfl
theorem pw8 : pw 8 = 18446744073709551616 := rfl
theorem pw_eq {x : Int} (h : isW x = true) : pw x = ((256 ^ x.toNat : Nat) : Int) := by
  rcases isW_iff.1 h with rfl | rfl | rfl | rfl <;> decide

def fitsU (u x : Int) : Bool := decide (u < pw x)
def fitsI (n x : Int) : Bool := decide (-(pw x / 2) ≤ n ∧ n < pw x / 2)

/-- The signed number of a width that has the same bytes. -/
def sgn (x u : Int) : Int := if u < pw x / 2 then u else u - pw x

/-- The error of a width and an offset. -/
def lookE (n : Nat) (at' x : Int) : Int := if isW x then (if at' < 0 ∨ (n : Int) - x < at' then 6 else 0) else 2

def seg (xs : List UInt8) (at' x : Int) : List UInt8 := (xs.drop at'.toNat).take x.toNat
def loadU (xs : List UInt8) (at' x : Int) : Int := if lookE xs.length at' x = 0 then (dec (seg xs at' x) : Nat) else 0
def loadI (xs : List UInt8) (at' x : Int) : Int := if lookE xs.length at' x = 0 then sgn x (dec (seg xs at' x) : Nat) else 0
def putE (x u : Int) : Int := if isW x then (if fitsU u x then 0 else 10) else 2
def putIE (x n : Int) : Int := if isW x then (if fitsI n x then 0 else 10) else 2
def u64 (n : Int) : Int := n % 18446744073709551616
def putL (xs : List UInt8) (x u : Int) : List UInt8 := if putE x u = 0 then xs ++ enc x.toNat u.toNat else []
def putIL (xs : List UInt8) (x n : Int) : List UInt8 := if putIE x n = 0 then xs ++ enc x.toNat (u64 n).toNat else []
def setE (n : Nat) (at' x u : Int) : Int := if lookE n at' x = 0 then (if fitsU u x then 0 else 10) else lookE n at' x
def setL (xs : List UInt8) (at' x u : Int) : List UInt8 :=
  if setE xs.length at' x u = 0 then xs.take at'.toNat ++ (enc x.toNat u.toNat ++ xs.drop (at'.toNat + x.toNat)) else []

theorem look0 {n : Nat} {at' x : Int} (h : lookE n at' x = 0) : isW x = true ∧ 0 ≤ at' ∧ at' + x ≤ n := by
  unfold lookE at h
  split at h
  · split at h
    · cases h
    · rename_i h1 h2; exact ⟨h1, by omega, by omega⟩
  · cases h
theorem look0_of {n : Nat} {at' x : Int} (h : isW x = true) (h0 : 0 ≤ at') (h1 : at' + x ≤ n) : lookE n at' x = 0 := by
  unfold lookE; rw [if_pos h, if_neg (by omega)]
theorem look2_of {n : Nat} {at' x : Int} (h : isW x = false) : lookE n at' x = 2 := by
  unfold lookE; rw [if_neg (by simp [h])]
theorem look6_of {n : Nat} {at' x : Int} (h : isW x = true) (h1 : at' < 0 ∨ (n : Int) - x < at') : lookE n at' x = 6 := by
  unfold lookE; rw [if_pos h, if_pos h1]
theorem look_cases (n : Nat) (at' x : Int) : (isW x = false) ∨ (isW x = true ∧ (at' < 0 ∨ (n : Int) - x < at')) ∨ (isW x = true ∧ 0 ≤ at' ∧ at' + x ≤ n) := by
  cases h : isW x with
  | false => exact .inl rfl
  | true =>
    by_cases h1 : at' < 0 ∨ (n : Int) - x < at'
    · exact .inr (.inl ⟨rfl, h1⟩)
    · exact .inr (.inr ⟨rfl, by omega, by omega⟩)
theorem seg_nat (xs : List UInt8) (a m : Nat) : seg xs (a : Int) (m : Int) = (xs.drop a).take m := by simp [seg]
theorem isW_nat {m : Nat} (h : isW (m : Int) = true) : 1 ≤ m ∧ m ≤ 8 := by rcases isW_iff.1 h with h | h | h | h <;> omega
theorem isW_bd {x : Int} (h : isW x = true) : 1 ≤ x ∧ x ≤ 8 := by rcases isW_iff.1 h with rfl | rfl | rfl | rfl <;> decide
theorem seg_length {xs : List UInt8} {at' x : Int} (h0 : 0 ≤ at') (hx : 0 ≤ x) (h1 : at' + x ≤ xs.length) : (seg xs at' x).length = x.toNat := by
  unfold seg; rw [List.length_take, List.length_drop]; omega
theorem seg_lt {xs : List UInt8} {at' x : Int} (h : isW x = true) (h0 : 0 ≤ at') (h1 : at' + x ≤ xs.length) : ((dec (seg xs at' x) : Nat) : Int) < pw x := by
  have hx : 0 ≤ x := by rcases isW_iff.1 h with rfl | rfl | rfl | rfl <;> decide
  have h2 := dec_lt (seg xs at' x)
  rw [seg_length h0 hx h1] at h2
  rw [pw_eq h]
  exact Int.ofNat_lt.2 h2
theorem fitsU_1 {u : Int} (h : 0 ≤ u) : (u / 256 == 0) = fitsU u 1 := by
  rw [Bool.eq_iff_iff, fitsU, pw1, beq_iff_eq, decide_eq_true_iff]; omega
theorem fitsU_2 {u : Int} (h : 0 ≤ u) : (u / 65536 == 0) = fitsU u 2 := by
  rw [Bool.eq_iff_iff, fitsU, pw2, beq_iff_eq, decide_eq_true_iff]; omega
theorem fitsU_4 {u : Int} (h : 0 ≤ u) : (u / 4294967296 == 0) = fitsU u 4 := by
  rw [Bool.eq_iff_iff, fitsU, pw4, beq_iff_eq, decide_eq_true_iff]; omega
theorem fitsU_8 {u : Int} (h : 0 ≤ u) : (u / 18446744073709551616 == 0) = fitsU u 8 := by
  rw [Bool.eq_iff_iff, fitsU, pw8, beq_iff_eq, decide_eq_true_iff]; omega
theorem fitsI_iff {n x : Int} : fitsI n x = true ↔ -(pw x / 2) ≤ n ∧ n < pw x / 2 := by rw [fitsI, decide_eq_true_iff]
theorem fitsU_iff {u x : Int} : fitsU u x = true ↔ u < pw x := by rw [fitsU, decide_eq_true_iff]
theorem fitsI_1 (n : Int) : (n / 128 == 0 || n / 128 == -1) = fitsI n 1 := by
  rw [Bool.eq_iff_iff, fitsI_iff, pw1, Bool.or_eq_true, beq_iff_eq, beq_iff_eq]; omega
theorem fitsI_2 (n : Int) : (n / 32768 == 0 || n / 32768 == -1) = fitsI n 2 := by
  rw [Bool.eq_iff_iff, fitsI_iff, pw2, Bool.or_eq_true, beq_iff_eq, beq_iff_eq]; omega
theorem fitsI_4 (n : Int) : (n / 2147483648 == 0 || n / 2147483648 == -1) = fitsI n 4 := by
  rw [Bool.eq_iff_iff, fitsI_iff, pw4, Bool.or_eq_true, beq_iff_eq, beq_iff_eq]; omega
theorem fitsI_8 (n : Int) : (n / 9223372036854775808 == 0 || n / 9223372036854775808 == -1) = fitsI n 8 := by
  rw [Bool.eq_iff_iff, fitsI_iff, pw8, Bool.or_eq_true, beq_iff_eq, beq_iff_eq]; omega
theorem sgn_lo {x u : Int} (h : u < pw x / 2) : sgn x u = u := if_pos h
theorem sgn_hi {x u : Int} (h : ¬ u < pw x / 2) : sgn x u = u - pw x := if_neg h
theorem sgn_1 {u : Int} (h0 : 0 ≤ u) (h1 : u < 256) : ((u * 72057594037927936 + 9223372036854775808) % 18446744073709551616 - 9223372036854775808) / 72057594037927936 = sgn 1 u := by
  by_cases h : u < 128
  · rw [sgn_lo (by rw [pw1]; omega)]; omega
  · rw [sgn_hi (by rw [pw1]; omega), pw1]; omega
theorem sgn_2 {u : Int} (h0 : 0 ≤ u) (h1 : u < 65536) : ((u * 281474976710656 + 9223372036854775808) % 18446744073709551616 - 9223372036854775808) / 281474976710656 = sgn 2 u := by
  by_cases h : u < 32768
  · rw [sgn_lo (by rw [pw2]; omega)]; omega
  · rw [sgn_hi (by rw [pw2]; omega), pw2]; omega
theorem sgn_4 {u : Int} (h0 : 0 ≤ u) (h1 : u < 4294967296) : ((u * 4294967296 + 9223372036854775808) % 18446744073709551616 - 9223372036854775808) / 4294967296 = sgn 4 u := by
  by_cases h : u < 2147483648
  · rw [sgn_lo (by rw [pw4]; omega)]; omega
  · rw [sgn_hi (by rw [pw4]; omega), pw4]; omega
theorem sgn_8 {u : Int} (h0 : 0 ≤ u) (h1 : u < 18446744073709551616) : (u + 9223372036854775808) % 18446744073709551616 - 9223372036854775808 = sgn 8 u := by
  by_cases h : u < 9223372036854775808
  · rw [sgn_lo (by rw [pw8]; omega)]; omega
  · rw [sgn_hi (by rw [pw8]; omega), pw8]; omega
theorem fitsI_lo {n x a b : Int} (ha : pw x / 2 = a) (hb : b = a) (h : -a ≤ n) : decide (n < b) = fitsI n x := by
  rw [Bool.eq_iff_iff, fitsI_iff, decide_eq_true_iff]; omega
theorem fitsI_no {n x a : Int} (ha : pw x / 2 = a) (h : n < -a) : false = fitsI n x := by
  rw [Bool.eq_iff_iff, fitsI_iff]; simp; omega
end Go.Proofs.Ytkcmpakcahemcaa.Le
