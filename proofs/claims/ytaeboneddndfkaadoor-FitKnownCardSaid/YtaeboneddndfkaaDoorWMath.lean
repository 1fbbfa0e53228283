/-
  What is proved here: plain facts about minimal widths of integers, the codes of widths, greatest elements and rounding up; no condition but those that each fact states.
-/
import Derived.Laws.BitsAllLaws
import Derived.Laws.BitsLemmas
namespace Go.Proofs.YtaeboneddndfkaaDoor.Wd

def isW (x : Int) : Bool := x == 1 || x == 2 || x == 4 || x == 8
theorem isW_iff {x : Int} : isW x = true ↔ x = 1 ∨ x = 2 ∨ x = 4 ∨ x = 8 := by
  unfold isW; simp [or_assoc]
theorem isW_false {x : Int} (h : ¬ (x = 1 ∨ x = 2 ∨ x = 4 ∨ x = 8)) : isW x = false := by
  cases hx : isW x with
  | false => rfl
  | true => exact absurd (isW_iff.1 hx) h
theorem isW_bd {x : Int} (h : isW x = true) : 1 ≤ x ∧ x ≤ 8 := by rcases isW_iff.1 h with rfl | rfl | rfl | rfl <;> decide

/-- The least width of an unsigned and of a signed number. -/
def mU (u : Int) : Int := if u < 256 then 1 else if u < 65536 then 2 else if u < 4294967296 then 4 else 8
def mI (n : Int) : Int := if -128 ≤ n ∧ n < 128 then 1 else if -32768 ≤ n ∧ n < 32768 then 2 else if -2147483648 ≤ n ∧ n < 2147483648 then 4 else 8
def cdV (w : Int) : Int := if w = 2 then 1 else if w = 4 then 2 else if w = 8 then 3 else 0
def cdE (w : Int) : Int := if isW w then 0 else 2
def bkV (c : Int) : Int := if c = 0 then 1 else if c = 1 then 2 else if c = 2 then 4 else if c = 3 then 8 else 0
def bkE (c : Int) : Int := if 0 ≤ c ∧ c ≤ 3 then 0 else 2
def upE (a w : Int) : Int := if isW w = true ∧ 0 ≤ a then (if a ≤ 9007199254740992 then 0 else 5) else 2
def upV (a w : Int) : Int := if upE a w = 0 then (a + w - 1) / w * w else 0
def mx (l : List Int) : Int := l.foldl max 1

theorem mU_cases (u : Int) : (u < 256 ∧ mU u = 1) ∨ (256 ≤ u ∧ u < 65536 ∧ mU u = 2) ∨ (65536 ≤ u ∧ u < 4294967296 ∧ mU u = 4) ∨ (4294967296 ≤ u ∧ mU u = 8) := by
  unfold mU
  split
  · exact .inl ⟨by assumption, rfl⟩
  · split
    · exact .inr (.inl ⟨by omega, by assumption, rfl⟩)
    · split
      · exact .inr (.inr (.inl ⟨by omega, by assumption, rfl⟩))
      · exact .inr (.inr (.inr ⟨by omega, rfl⟩))
theorem mI_cases (n : Int) : ((-128 ≤ n ∧ n < 128) ∧ mI n = 1) ∨ (¬(-128 ≤ n ∧ n < 128) ∧ (-32768 ≤ n ∧ n < 32768) ∧ mI n = 2) ∨ (¬(-32768 ≤ n ∧ n < 32768) ∧ (-2147483648 ≤ n ∧ n < 2147483648) ∧ mI n = 4) ∨ (¬(-2147483648 ≤ n ∧ n < 2147483648) ∧ mI n = 8) := by
  unfold mI
  split
  · exact .inl ⟨by assumption, rfl⟩
  · split
    · exact .inr (.inl ⟨by omega, by assumption, rfl⟩)
    · split
      · exact .inr (.inr (.inl ⟨by omega, by assumption, rfl⟩))
      · exact .inr (.inr (.inr ⟨by omega, rfl⟩))
theorem mU_isW (u : Int) : isW (mU u) = true := by rcases mU_cases u with ⟨_, h⟩ | ⟨_, _, h⟩ | ⟨_, _, h⟩ | ⟨_, h⟩ <;> rw [h] <;> rfl
theorem mI_isW (u : Int) : isW (mI u) = true := by rcases mI_cases u with ⟨_, h⟩ | ⟨_, _, h⟩ | ⟨_, _, h⟩ | ⟨_, h⟩ <;> rw [h] <;> rfl

/-- The test of width 2^k for an unsigned and for a signed number. -/
def shU (u : Int) (k : Nat) : Bool := u / 2 ^ (8 * 2 ^ k) == 0
def shI (n : Int) (k : Nat) : Bool := n / 2 ^ (8 * 2 ^ k - 1) == 0 || n / 2 ^ (8 * 2 ^ k - 1) == -1


theorem shU_t {u : Int} (h0 : 0 ≤ u) : (shU u 0 = decide (u < 256)) ∧ (shU u 1 = decide (u < 65536)) ∧ (shU u 2 = decide (u < 4294967296)) := by
  refine ⟨?_, ?_, ?_⟩ <;> (unfold shU; rw [Bool.eq_iff_iff, beq_iff_eq, decide_eq_true_iff])
  · show u / 256 = 0 ↔ _; omega
  · show u / 65536 = 0 ↔ _; omega
  · show u / 4294967296 = 0 ↔ _; omega
theorem shI_t (n : Int) : (shI n 0 = decide (-128 ≤ n ∧ n < 128)) ∧ (shI n 1 = decide (-32768 ≤ n ∧ n < 32768)) ∧ (shI n 2 = decide (-2147483648 ≤ n ∧ n < 2147483648)) := by
  refine ⟨?_, ?_, ?_⟩ <;> (unfold shI; rw [Bool.eq_iff_iff, Bool.or_eq_true, beq_iff_eq, beq_iff_eq, decide_eq_true_iff])
  · show n / 128 = 0 ∨ n / 128 = -1 ↔ _; omega
  · show n / 32768 = 0 ∨ n / 32768 = -1 ↔ _; omega
  · show n / 2147483648 = 0 ∨ n / 2147483648 = -1 ↔ _; omega
theorem of_hit {u : Int} {k : Nat} (h0 : 0 ≤ u) (hj : ∀ j, j < k → shU u j = false) (h : shU u k = true) (hk : k ≤ 2) : mU u = ((2 ^ k : Nat) : Int) := by
  obtain ⟨t0, t1, t2⟩ := shU_t h0
  have h3 : k = 0 ∨ k = 1 ∨ k = 2 := by omega
  rcases h3 with rfl | rfl | rfl
  · rw [t0, decide_eq_true_iff] at h
    unfold mU; rw [if_pos h]; rfl
  · rw [t1, decide_eq_true_iff] at h
    have g0 := hj 0 (by omega)
    rw [t0, decide_eq_false_iff_not] at g0
    unfold mU; rw [if_neg g0, if_pos h]; rfl
  · rw [t2, decide_eq_true_iff] at h
    have g0 := hj 0 (by omega)
    have g1 := hj 1 (by omega)
    rw [t0, decide_eq_false_iff_not] at g0
    rw [t1, decide_eq_false_iff_not] at g1
    unfold mU; rw [if_neg g0, if_neg g1, if_pos h]; rfl
theorem of_miss {u : Int} (h0 : 0 ≤ u) (hj : ∀ j, j < 3 → shU u j = false) : mU u = 8 := by
  obtain ⟨t0, t1, t2⟩ := shU_t h0
  have g0 := hj 0 (by omega)
  have g1 := hj 1 (by omega)
  have g2 := hj 2 (by omega)
  rw [t0, decide_eq_false_iff_not] at g0
  rw [t1, decide_eq_false_iff_not] at g1
  rw [t2, decide_eq_false_iff_not] at g2
  unfold mU; rw [if_neg g0, if_neg g1, if_neg g2]
theorem ofInt_hit {u : Int} {k : Nat} (hj : ∀ j, j < k → shI u j = false) (h : shI u k = true) (hk : k ≤ 2) : mI u = ((2 ^ k : Nat) : Int) := by
  obtain ⟨t0, t1, t2⟩ := shI_t u
  have h3 : k = 0 ∨ k = 1 ∨ k = 2 := by omega
  rcases h3 with rfl | rfl | rfl
  · rw [t0, decide_eq_true_iff] at h
    unfold mI; rw [if_pos h]; rfl
  · rw [t1, decide_eq_true_iff] at h
    have g0 := hj 0 (by omega)
    rw [t0, decide_eq_false_iff_not] at g0
    unfold mI; rw [if_neg g0, if_pos h]; rfl
  · rw [t2, decide_eq_true_iff] at h
    have g0 := hj 0 (by omega)
    have g1 := hj 1 (by omega)
    rw [t0, decide_eq_false_iff_not] at g0
    rw [t1, decide_eq_false_iff_not] at g1
    unfold mI; rw [if_neg g0, if_neg g1, if_pos h]; rfl
theorem ofInt_miss {u : Int} (hj : ∀ j, j < 3 → shI u j = false) : mI u = 8 := by
  obtain ⟨t0, t1, t2⟩ := shI_t u
  have g0 := hj 0 (by omega)
  have g1 := hj 1 (by omega)
  have g2 := hj 2 (by omega)
  rw [t0, decide_eq_false_iff_not] at g0
  rw [t1, decide_eq_false_iff_not] at g1
  rw [t2, decide_eq_false_iff_not] at g2
  unfold mI; rw [if_neg g0, if_neg g1, if_neg g2]

theorem upE_cases (a w : Int) : (isW w = false) ∨ (isW w = true ∧ a < 0) ∨ (isW w = true ∧ 0 ≤ a ∧ 9007199254740992 < a) ∨ (isW w = true ∧ 0 ≤ a ∧ a ≤ 9007199254740992) := by
  cases h : isW w with
  | false => exact .inl rfl
  | true => right; simp only [true_and]; omega
theorem up_w {a w : Int} (h : isW w = false) : upE a w = 2 ∧ upV a w = 0 := by
  have e : upE a w = 2 := by unfold upE; rw [if_neg (by simp [h])]
  exact ⟨e, by unfold upV; rw [e, if_neg (by decide)]⟩
theorem up_neg {a w : Int} (h : a < 0) : upE a w = 2 ∧ upV a w = 0 := by
  have e : upE a w = 2 := by unfold upE; rw [if_neg (by omega)]
  exact ⟨e, by unfold upV; rw [e, if_neg (by decide)]⟩
theorem up_big {a w : Int} (h : isW w = true) (h1 : 9007199254740992 < a) : upE a w = 5 ∧ upV a w = 0 := by
  have e : upE a w = 5 := by unfold upE; rw [if_pos ⟨h, by omega⟩, if_neg (by omega)]
  exact ⟨e, by unfold upV; rw [e, if_neg (by decide)]⟩
theorem up_ok {a w : Int} (h : isW w = true) (h0 : 0 ≤ a) (h1 : a ≤ 9007199254740992) : upE a w = 0 ∧ upV a w = (a + w - 1) / w * w := by
  have e : upE a w = 0 := by unfold upE; rw [if_pos ⟨h, by omega⟩, if_pos (by omega)]
  exact ⟨e, by unfold upV; rw [e, if_pos rfl]⟩
theorem mx_nil : mx [] = 1 := rfl
theorem mx_snoc (l : List Int) (x : Int) : mx (l ++ [x]) = max (mx l) x := by simp [mx]
theorem foldl_max (l : List Int) (a : Int) : l.foldl max a = max a (l.foldl max a) := by
  induction l generalizing a with
  | nil => simp
  | cons x xs ih =>
    simp only [List.foldl_cons]
    have := ih (max a x)
    omega
theorem foldl_le (l : List Int) (a : Int) : a ≤ l.foldl max a := by have := foldl_max l a; omega
theorem foldl_max2 (l : List Int) (a b : Int) : l.foldl max (max a b) = max a (l.foldl max b) := by
  induction l generalizing a b with
  | nil => rfl
  | cons x xs ih =>
    simp only [List.foldl_cons]
    rw [show max (max a b) x = max a (max b x) by omega, ih]
theorem mx_ge (l : List Int) : 1 ≤ mx l := foldl_le l 1
theorem mx_append (l m : List Int) : mx (l ++ m) = max (mx l) (mx m) := by
  unfold mx
  rw [List.foldl_append]
  have h := foldl_le l 1
  have := foldl_max2 m (l.foldl max 1) 1
  rw [← this]
  congr 1
  omega
theorem mx_mem {l : List Int} {x : Int} (h : x ∈ l) : x ≤ mx l := by
  obtain ⟨s, t, rfl⟩ := List.append_of_mem h
  rw [show s ++ x :: t = s ++ ([x] ++ t) by simp, mx_append, mx_append]
  have : mx [x] = max 1 x := rfl
  omega
theorem mx_in (l : List Int) : mx l = 1 ∨ mx l ∈ l := by
  induction l with
  | nil => exact .inl rfl
  | cons x xs ih =>
    have e : mx (x :: xs) = max (mx [x]) (mx xs) := mx_append [x] xs
    have e1 : mx [x] = max 1 x := rfl
    rcases Int.le_total (mx xs) x with h | h
    · have h1 := mx_ge xs
      right
      rw [e, e1, show max (max 1 x) (mx xs) = x by omega]
      exact List.mem_cons_self ..
    · have h1 := mx_ge xs
      rw [e, e1, show max (max 1 x) (mx xs) = mx xs by omega]
      rcases ih with h2 | h2
      · exact .inl h2
      · exact .inr (List.mem_cons_of_mem _ h2)
end Go.Proofs.YtaeboneddndfkaaDoor.Wd
