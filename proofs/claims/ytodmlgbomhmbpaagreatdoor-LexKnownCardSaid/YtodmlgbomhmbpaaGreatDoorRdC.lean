/-
  What is proved here: the contract of the reference's Begins (it answers whether the bytes are the start of an encoding that lacks bytes); condition: at least one byte.
-/
import Derived.Test.YtodmlgbomhmbpaaGreatDoorRdB
import Derived.Test.YtodmlgbomhmbpaaGreatDoorRefN
import Derived.BigQuiet
import Derived.Deep.QuietTactic
namespace Go.Proofs.YtodmlgbomhmbpaaGreatDoor
open Go.RowKit Ut Go.Lib

theorem lg_inv (b : Nat) : (lg b = 1 ∧ b < 128) ∨ (lg b = 2 ∧ 194 ≤ b ∧ b < 224) ∨ (lg b = 3 ∧ 224 ≤ b ∧ b < 240) ∨ (lg b = 4 ∧ 240 ≤ b ∧ b < 245) ∨ (lg b = 0 ∧ (128 ≤ b ∧ b < 194 ∨ 245 ≤ b)) := by
  unfold lg
  by_cases h1 : b < 128
  · rw [if_pos h1]; omega
  rw [if_neg h1]
  by_cases h2 : 194 ≤ b ∧ b < 224
  · rw [if_pos h2]; omega
  rw [if_neg h2]
  by_cases h3 : 224 ≤ b ∧ b < 240
  · rw [if_pos h3]; omega
  rw [if_neg h3]
  by_cases h4 : 240 ≤ b ∧ b < 245
  · rw [if_pos h4]; omega
  rw [if_neg h4]
  omega
theorem first_inv (b : Nat) : (firstT b = 240 ∧ b < 128) ∨ (firstT b = 241 ∧ (128 ≤ b ∧ b < 194 ∨ 245 ≤ b)) ∨ (firstT b = 2 ∧ 194 ≤ b ∧ b < 224) ∨ (firstT b = 19 ∧ b = 224) ∨ (firstT b = 35 ∧ b = 237) ∨ (firstT b = 3 ∧ 224 < b ∧ b < 240 ∧ b ≠ 237) ∨ (firstT b = 52 ∧ b = 240) ∨ (firstT b = 68 ∧ b = 244) ∨ (firstT b = 4 ∧ 240 < b ∧ b < 244) := by
  unfold firstT
  by_cases h1 : b < 128
  · rw [if_pos h1]; omega
  rw [if_neg h1]
  by_cases h2 : b < 194
  · rw [if_pos h2]; omega
  rw [if_neg h2]
  by_cases h3 : b < 224
  · rw [if_pos h3]; omega
  rw [if_neg h3]
  by_cases h4 : b = 224
  · rw [if_pos h4]; omega
  rw [if_neg h4]
  by_cases h5 : b < 237
  · rw [if_pos h5]; omega
  rw [if_neg h5]
  by_cases h6 : b = 237
  · rw [if_pos h6]; omega
  rw [if_neg h6]
  by_cases h7 : b < 240
  · rw [if_pos h7]; omega
  rw [if_neg h7]
  by_cases h8 : b = 240
  · rw [if_pos h8]; omega
  rw [if_neg h8]
  by_cases h9 : b < 244
  · rw [if_pos h9]; omega
  rw [if_neg h9]
  by_cases h10 : b = 244
  · rw [if_pos h10]; omega
  rw [if_neg h10]
  omega
theorem lg_first {b : Nat} : (lg b ≤ 1 ↔ firstT b % 8 ≤ 1) ∧ (2 ≤ lg b → firstT b % 8 = lg b) := by
  have h1 := lg_inv b
  have h2 := first_inv b
  constructor
  · omega
  · omega
theorem full_long {l : List UInt8} (h1 : 1 ≤ l.length) (h : lg (l.getD 0 0).toNat ≤ l.length) : full l = true := by
  have hf := @lg_first (l.getD 0 0).toNat
  unfold full fullN
  rw [decide_eq_true (show 0 < l.length by omega)]
  have : firstT (l.getD 0 0).toNat % 8 ≤ l.length := by
    rcases Nat.lt_or_ge 1 (lg (l.getD 0 0).toNat) with h2 | h2
    · rw [hf.2 h2]; exact h
    · have := hf.1.1 h2; omega
  rw [decide_eq_true this]
  rfl
theorem getD_lt (l : List UInt8) (j : Nat) : (l.getD j 0).toNat < 256 := (l.getD j 0).toNat_lt
/-- A byte that is none of the middle. -/
theorem full_cont {l : List UInt8} {j : Nat} (hj1 : 1 ≤ j) (hj3 : j ≤ 2) (hj : j < l.length) (hb : (l.getD j 0).toNat < 128 ∨ 191 < (l.getD j 0).toNat) : full l = true := by
  unfold full fullN
  rw [decide_eq_true (show 0 < l.length by omega)]
  have hacc : ∀ b, (firstT b / 16 ≤ 4 ∧ 128 ≤ accLo (firstT b / 16) ∧ accHi (firstT b / 16) ≤ 191) ∨ firstT b % 8 ≤ 1 := by
    intro b
    rcases firstT_cases b with h | h | h | h | h | h | h | h | h <;> rw [h] <;> decide
  rcases (show j = 1 ∨ j = 2 by omega) with rfl | rfl
  · rw [decide_eq_true (show 1 < l.length by omega)]
    rcases hacc (l.getD 0 0).toNat with ⟨_, h2, h3⟩ | h
    · rcases hb with hb | hb
      · rw [decide_eq_true (show (l.getD 1 0).toNat < accLo (firstT (l.getD 0 0).toNat / 16) by omega)]; simp
      · rw [decide_eq_true (show accHi (firstT (l.getD 0 0).toNat / 16) < (l.getD 1 0).toNat by omega)]; simp
    · rw [decide_eq_true (show firstT (l.getD 0 0).toNat % 8 ≤ l.length by omega)]; simp
  · rw [decide_eq_true (show 2 < l.length by omega)]
    rcases hb with hb | hb
    · rw [decide_eq_true hb]; simp
    · rw [decide_eq_true hb]; simp
/-- The least and the greatest value that the first bytes can become. -/
def lowF (l : List UInt8) (n : Nat) : Nat → Nat
  | 0 => 0
  | 1 => (l.getD 0 0).toNat - hd n
  | i + 2 => if i + 1 < l.length then 64 * lowF l n (i + 1) + (l.getD (i + 1) 0).toNat - 128 else 64 * lowF l n (i + 1)
def highF (l : List UInt8) (n : Nat) : Nat → Nat
  | 0 => 0
  | 1 => (l.getD 0 0).toNat - hd n
  | i + 2 => if i + 1 < l.length then 64 * highF l n (i + 1) + (l.getD (i + 1) 0).toNat - 128 else 64 * highF l n (i + 1) + 63
theorem low_in {l : List UInt8} {n i k : Nat} (hk : k = i + 1) (h1 : 1 ≤ i) (h : i < l.length) : lowF l n k = 64 * lowF l n i + (l.getD i 0).toNat - 128 := by
  subst hk
  obtain ⟨j, rfl⟩ : ∃ j, i = j + 1 := ⟨i - 1, by omega⟩
  show (if j + 1 < l.length then _ else _) = _
  rw [if_pos h]
theorem low_out {l : List UInt8} {n i k : Nat} (hk : k = i + 1) (h1 : 1 ≤ i) (h : ¬ i < l.length) : lowF l n k = 64 * lowF l n i := by
  subst hk
  obtain ⟨j, rfl⟩ : ∃ j, i = j + 1 := ⟨i - 1, by omega⟩
  show (if j + 1 < l.length then _ else _) = _
  rw [if_neg h]
theorem high_in {l : List UInt8} {n i k : Nat} (hk : k = i + 1) (h1 : 1 ≤ i) (h : i < l.length) : highF l n k = 64 * highF l n i + (l.getD i 0).toNat - 128 := by
  subst hk
  obtain ⟨j, rfl⟩ : ∃ j, i = j + 1 := ⟨i - 1, by omega⟩
  show (if j + 1 < l.length then _ else _) = _
  rw [if_pos h]
theorem high_out {l : List UInt8} {n i k : Nat} (hk : k = i + 1) (h1 : 1 ≤ i) (h : ¬ i < l.length) : highF l n k = 64 * highF l n i + 63 := by
  subst hk
  obtain ⟨j, rfl⟩ : ∃ j, i = j + 1 := ⟨i - 1, by omega⟩
  show (if j + 1 < l.length then _ else _) = _
  rw [if_neg h]
def least (n : Nat) : Nat := if n = 2 then 128 else if n = 3 then 2048 else 65536
/-- All bytes that are there continue; then this is what the values say. -/
theorem full_fin {l : List UInt8} {n M m : Nat} (hn : lg (l.getD 0 0).toNat = n) (h1 : 1 ≤ l.length) (h2 : l.length < n) (hc : ∀ j, 1 ≤ j → j < l.length → 128 ≤ (l.getD j 0).toNat ∧ (l.getD j 0).toNat ≤ 191)
    (hM : max (lowF l n n) (least n) = M) (hm : min (highF l n n) 1114111 = m) : full l = !(decide (M ≤ m) && (decide (M < 55296) || decide (57343 < m))) := by
  have hb := getD_lt l
  have h0 := hb 0
  have hf := (@lg_first (l.getD 0 0).toNat).2 (by omega)
  have hli := lg_inv (l.getD 0 0).toNat
  have hfi := first_inv (l.getD 0 0).toNat
  rw [hn] at hli
  have h4 : n ≤ 4 := by omega
  unfold full fullN
  rw [decide_eq_true (show 0 < l.length by omega), hf, hn, decide_eq_false (show ¬ n ≤ l.length by omega)]
  rcases (show l.length = 1 ∨ l.length = 2 ∨ l.length = 3 by omega) with hl | hl | hl
  · rw [decide_eq_false (show ¬ 1 < l.length by omega), decide_eq_false (show ¬ 2 < l.length by omega)]
    simp only [Bool.false_and, Bool.or_false, Bool.and_false]
    have e : (decide (M ≤ m) && (decide (M < 55296) || decide (57343 < m))) = true := by
      rw [Bool.and_eq_true, Bool.or_eq_true, decide_eq_true_eq, decide_eq_true_eq, decide_eq_true_eq]
      rcases (show n = 2 ∨ n = 3 ∨ n = 4 by omega) with rfl | rfl | rfl
      · have a2 := low_out (l := l) (n := 2) (i := 1) (k := 2) rfl (by omega) (by omega)
        have b2 := high_out (l := l) (n := 2) (i := 1) (k := 2) rfl (by omega) (by omega)
        have a1 : lowF l 2 1 = (l.getD 0 0).toNat - 192 := rfl
        have b1 : highF l 2 1 = (l.getD 0 0).toNat - 192 := rfl
        have : 194 ≤ (l.getD 0 0).toNat ∧ (l.getD 0 0).toNat < 224 := by omega
        have e2 : least 2 = 128 := rfl
        omega
      · have a3 := low_out (l := l) (n := 3) (i := 2) (k := 3) rfl (by omega) (by omega)
        have b3 := high_out (l := l) (n := 3) (i := 2) (k := 3) rfl (by omega) (by omega)
        have a2 := low_out (l := l) (n := 3) (i := 1) (k := 2) rfl (by omega) (by omega)
        have b2 := high_out (l := l) (n := 3) (i := 1) (k := 2) rfl (by omega) (by omega)
        have a1 : lowF l 3 1 = (l.getD 0 0).toNat - 224 := rfl
        have b1 : highF l 3 1 = (l.getD 0 0).toNat - 224 := rfl
        have : 224 ≤ (l.getD 0 0).toNat ∧ (l.getD 0 0).toNat < 240 := by omega
        have e2 : least 3 = 2048 := rfl
        omega
      · have a4 := low_out (l := l) (n := 4) (i := 3) (k := 4) rfl (by omega) (by omega)
        have b4 := high_out (l := l) (n := 4) (i := 3) (k := 4) rfl (by omega) (by omega)
        have a3 := low_out (l := l) (n := 4) (i := 2) (k := 3) rfl (by omega) (by omega)
        have b3 := high_out (l := l) (n := 4) (i := 2) (k := 3) rfl (by omega) (by omega)
        have a2 := low_out (l := l) (n := 4) (i := 1) (k := 2) rfl (by omega) (by omega)
        have b2 := high_out (l := l) (n := 4) (i := 1) (k := 2) rfl (by omega) (by omega)
        have a1 : lowF l 4 1 = (l.getD 0 0).toNat - 240 := rfl
        have b1 : highF l 4 1 = (l.getD 0 0).toNat - 240 := rfl
        have : 240 ≤ (l.getD 0 0).toNat ∧ (l.getD 0 0).toNat < 245 := by omega
        have e2 : least 4 = 65536 := rfl
        omega
    rw [e]
    rfl
  · have hc1 := hc 1 (by omega) (by omega)
    rw [decide_eq_true (show 1 < l.length by omega), decide_eq_false (show ¬ 2 < l.length by omega)]
    simp only [Bool.true_and, Bool.false_and, Bool.or_false, Bool.false_or]
    rw [Bool.eq_iff_iff, Bool.not_eq_true', Bool.and_eq_false_iff, Bool.or_eq_false_iff, Bool.or_eq_true, decide_eq_true_eq, decide_eq_true_eq, decide_eq_false_iff_not, decide_eq_false_iff_not, decide_eq_false_iff_not]
    rcases (show n = 3 ∨ n = 4 by omega) with rfl | rfl
    · have a3 := low_out (l := l) (n := 3) (i := 2) (k := 3) rfl (by omega) (by omega)
      have b3 := high_out (l := l) (n := 3) (i := 2) (k := 3) rfl (by omega) (by omega)
      have a2 := low_in (l := l) (n := 3) (i := 1) (k := 2) rfl (by omega) (by omega)
      have b2 := high_in (l := l) (n := 3) (i := 1) (k := 2) rfl (by omega) (by omega)
      have a1 : lowF l 3 1 = (l.getD 0 0).toNat - 224 := rfl
      have b1 : highF l 3 1 = (l.getD 0 0).toNat - 224 := rfl
      have e2 : least 3 = 2048 := rfl
      have hF : ((l.getD 0 0).toNat = 224 ∧ firstT (l.getD 0 0).toNat = 19) ∨ ((l.getD 0 0).toNat = 237 ∧ firstT (l.getD 0 0).toNat = 35) ∨ (firstT (l.getD 0 0).toNat = 3 ∧ 224 < (l.getD 0 0).toNat ∧ (l.getD 0 0).toNat ≠ 237 ∧ (l.getD 0 0).toNat < 240) := by omega
      rcases hF with ⟨h0, hF⟩ | ⟨h0, hF⟩ | ⟨hF, h5, h6, h7⟩ <;> rw [hF] <;> simp only [accLo, accHi] <;> (try simp only [Nat.reduceDiv, Nat.reduceEqDiff, if_true, if_false]) <;> omega
    · have a4 := low_out (l := l) (n := 4) (i := 3) (k := 4) rfl (by omega) (by omega)
      have b4 := high_out (l := l) (n := 4) (i := 3) (k := 4) rfl (by omega) (by omega)
      have a3 := low_out (l := l) (n := 4) (i := 2) (k := 3) rfl (by omega) (by omega)
      have b3 := high_out (l := l) (n := 4) (i := 2) (k := 3) rfl (by omega) (by omega)
      have a2 := low_in (l := l) (n := 4) (i := 1) (k := 2) rfl (by omega) (by omega)
      have b2 := high_in (l := l) (n := 4) (i := 1) (k := 2) rfl (by omega) (by omega)
      have a1 : lowF l 4 1 = (l.getD 0 0).toNat - 240 := rfl
      have b1 : highF l 4 1 = (l.getD 0 0).toNat - 240 := rfl
      have e2 : least 4 = 65536 := rfl
      have hF : ((l.getD 0 0).toNat = 240 ∧ firstT (l.getD 0 0).toNat = 52) ∨ ((l.getD 0 0).toNat = 244 ∧ firstT (l.getD 0 0).toNat = 68) ∨ (firstT (l.getD 0 0).toNat = 4 ∧ 240 < (l.getD 0 0).toNat ∧ (l.getD 0 0).toNat < 244) := by omega
      rcases hF with ⟨h0, hF⟩ | ⟨h0, hF⟩ | ⟨hF, h5, h6⟩ <;> rw [hF] <;> simp only [accLo, accHi] <;> (try simp only [Nat.reduceDiv, Nat.reduceEqDiff, if_true, if_false]) <;> omega
  · have hc1 := hc 1 (by omega) (by omega)
    have hc2 := hc 2 (by omega) (by omega)
    obtain rfl : n = 4 := by omega
    rw [decide_eq_true (show 1 < l.length by omega), decide_eq_true (show 2 < l.length by omega), decide_eq_false (show ¬ (l.getD 2 0).toNat < 128 by omega), decide_eq_false (show ¬ 191 < (l.getD 2 0).toNat by omega)]
    simp only [Bool.true_and, Bool.or_false, Bool.false_or]
    rw [Bool.eq_iff_iff, Bool.not_eq_true', Bool.and_eq_false_iff, Bool.or_eq_false_iff, Bool.or_eq_true, decide_eq_true_eq, decide_eq_true_eq, decide_eq_false_iff_not, decide_eq_false_iff_not, decide_eq_false_iff_not]
    have a4 := low_out (l := l) (n := 4) (i := 3) (k := 4) rfl (by omega) (by omega)
    have b4 := high_out (l := l) (n := 4) (i := 3) (k := 4) rfl (by omega) (by omega)
    have a3 := low_in (l := l) (n := 4) (i := 2) (k := 3) rfl (by omega) (by omega)
    have b3 := high_in (l := l) (n := 4) (i := 2) (k := 3) rfl (by omega) (by omega)
    have a2 := low_in (l := l) (n := 4) (i := 1) (k := 2) rfl (by omega) (by omega)
    have b2 := high_in (l := l) (n := 4) (i := 1) (k := 2) rfl (by omega) (by omega)
    have a1 : lowF l 4 1 = (l.getD 0 0).toNat - 240 := rfl
    have b1 : highF l 4 1 = (l.getD 0 0).toNat - 240 := rfl
    have e2 : least 4 = 65536 := rfl
    have hF : ((l.getD 0 0).toNat = 240 ∧ firstT (l.getD 0 0).toNat = 52) ∨ ((l.getD 0 0).toNat = 244 ∧ firstT (l.getD 0 0).toNat = 68) ∨ (firstT (l.getD 0 0).toNat = 4 ∧ 240 < (l.getD 0 0).toNat ∧ (l.getD 0 0).toNat < 244) := by omega
    rcases hF with ⟨h0, hF⟩ | ⟨h0, hF⟩ | ⟨hF, h5, h6⟩ <;> rw [hF] <;> simp only [accLo, accHi] <;> (try simp only [Nat.reduceDiv, Nat.reduceEqDiff, if_true, if_false]) <;> omega
theorem first_two {b0 : Nat} (h : 1 < firstT b0 % 8) : (194 ≤ b0 ∧ b0 < 224 ∧ firstT b0 = 2) ∨ (b0 = 224 ∧ firstT b0 = 19) ∨ (b0 = 237 ∧ firstT b0 = 35) ∨ (224 < b0 ∧ b0 < 240 ∧ b0 ≠ 237 ∧ firstT b0 = 3) ∨ (b0 = 240 ∧ firstT b0 = 52) ∨ (b0 = 244 ∧ firstT b0 = 68) ∨ (240 < b0 ∧ b0 < 244 ∧ firstT b0 = 4) := by
  have := first_inv b0
  omega
/-- The bytes of an encoding: the decoder takes them. -/
theorem val_dec {l : List UInt8} {j : Nat} (h1 : 1 ≤ j) (hj : j ≤ l.length) (hv : val (l.take j) = true) : ¬ ((decodeL l).1 = 65533 ∧ (decodeL l).2 = 1) := by
  rw [decodeL_N]
  have hg : ∀ i, i < j → (l.take j).getD i 0 = l.getD i 0 := by
    intro i hi
    rw [List.getD_eq_getElem?_getD, List.getD_eq_getElem?_getD, List.getElem?_take, if_pos hi]
  have hlen : (l.take j).length = j := by rw [List.length_take]; omega
  unfold val valN at hv
  rw [hlen, hg 0 (by omega)] at hv
  have hb := getD_lt l
  have h0 := hb 0; have h1' := hb 1; have h2' := hb 2; have h3' := hb 3
  simp only [Bool.or_eq_true, Bool.and_eq_true, decide_eq_true_eq] at hv
  by_cases ha : (l.getD 0 0).toNat < 128
  · unfold decodeN
    rw [if_pos ha]
    rintro ⟨h, _⟩
    dsimp only at h
    omega
  · obtain ⟨⟨⟨⟨hv1, hv2⟩, hv3, hv4⟩, hv5⟩, hv6⟩ := hv.resolve_left ha
    rw [hg 1 (by omega)] at hv3 hv4
    have hv5' : firstT (l.getD 0 0).toNat % 8 < 3 ∨ 128 ≤ (l.getD 2 0).toNat ∧ (l.getD 2 0).toNat ≤ 191 := by
      rcases hv5 with h | h
      · exact .inl h
      · by_cases h3 : firstT (l.getD 0 0).toNat % 8 < 3
        · exact .inl h3
        · rw [hg 2 (by omega)] at h; exact .inr h
    have hv6' : firstT (l.getD 0 0).toNat % 8 < 4 ∨ 128 ≤ (l.getD 3 0).toNat ∧ (l.getD 3 0).toNat ≤ 191 := by
      rcases hv6 with h | h
      · exact .inl h
      · by_cases h3 : firstT (l.getD 0 0).toNat % 8 < 4
        · exact .inl h3
        · rw [hg 3 (by omega)] at h; exact .inr h
    clear hv hv5 hv6 hg hb hlen
    generalize (l.getD 0 0).toNat = b0 at *
    generalize (l.getD 1 0).toNat = b1 at *
    generalize (l.getD 2 0).toNat = b2 at *
    generalize (l.getD 3 0).toNat = b3 at *
    generalize l.length = n at *
    have hF := first_two hv1
    rcases hF with ⟨g1, g2, hF⟩ | ⟨g1, hF⟩ | ⟨g1, hF⟩ | ⟨g1, g2, g3, hF⟩ | ⟨g1, hF⟩ | ⟨g1, hF⟩ | ⟨g1, g2, hF⟩
    · rw [hF] at hv1 hv2 hv3 hv4 hv5' hv6'
      have hv2n : 2 ≤ j := by omega
      simp only [accLo, accHi] at hv3 hv4
      simp only [Nat.reduceDiv, Nat.reduceEqDiff, if_true, if_false] at hv3 hv4
      unfold decodeN
      rw [if_neg (by omega), if_pos (by omega), if_pos (by omega)]
      rintro ⟨h, _⟩
      dsimp only at h
      omega
    · rw [hF] at hv1 hv2 hv3 hv4 hv5' hv6'
      have hv2n : 3 ≤ j := by omega
      simp only [accLo, accHi] at hv3 hv4
      simp only [Nat.reduceDiv, Nat.reduceEqDiff, if_true, if_false] at hv3 hv4
      unfold decodeN
      rw [if_neg (by omega), if_neg (by omega), if_pos (by omega), if_pos (by omega)]
      rintro ⟨_, h⟩
      dsimp only at h
      omega
    · rw [hF] at hv1 hv2 hv3 hv4 hv5' hv6'
      have hv2n : 3 ≤ j := by omega
      simp only [accLo, accHi] at hv3 hv4
      simp only [Nat.reduceDiv, Nat.reduceEqDiff, if_true, if_false] at hv3 hv4
      unfold decodeN
      rw [if_neg (by omega), if_neg (by omega), if_pos (by omega), if_pos (by omega)]
      rintro ⟨_, h⟩
      dsimp only at h
      omega
    · rw [hF] at hv1 hv2 hv3 hv4 hv5' hv6'
      have hv2n : 3 ≤ j := by omega
      simp only [accLo, accHi] at hv3 hv4
      simp only [Nat.reduceDiv, Nat.reduceEqDiff, if_true, if_false] at hv3 hv4
      unfold decodeN
      rw [if_neg (by omega), if_neg (by omega), if_pos (by omega), if_pos (by omega)]
      rintro ⟨_, h⟩
      dsimp only at h
      omega
    · rw [hF] at hv1 hv2 hv3 hv4 hv5' hv6'
      have hv2n : 4 ≤ j := by omega
      simp only [accLo, accHi] at hv3 hv4
      simp only [Nat.reduceDiv, Nat.reduceEqDiff, if_true, if_false] at hv3 hv4
      unfold decodeN
      rw [if_neg (by omega), if_neg (by omega), if_neg (by omega), if_pos (by omega), if_pos (by omega)]
      rintro ⟨_, h⟩
      dsimp only at h
      omega
    · rw [hF] at hv1 hv2 hv3 hv4 hv5' hv6'
      have hv2n : 4 ≤ j := by omega
      simp only [accLo, accHi] at hv3 hv4
      simp only [Nat.reduceDiv, Nat.reduceEqDiff, if_true, if_false] at hv3 hv4
      unfold decodeN
      rw [if_neg (by omega), if_neg (by omega), if_neg (by omega), if_pos (by omega), if_pos (by omega)]
      rintro ⟨_, h⟩
      dsimp only at h
      omega
    · rw [hF] at hv1 hv2 hv3 hv4 hv5' hv6'
      have hv2n : 4 ≤ j := by omega
      simp only [accLo, accHi] at hv3 hv4
      simp only [Nat.reduceDiv, Nat.reduceEqDiff, if_true, if_false] at hv3 hv4
      unfold decodeN
      rw [if_neg (by omega), if_neg (by omega), if_neg (by omega), if_pos (by omega), if_pos (by omega)]
      rintro ⟨_, h⟩
      dsimp only at h
      omega
end Go.Proofs.YtodmlgbomhmbpaaGreatDoor
