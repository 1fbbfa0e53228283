/-
  What is proved here: where the library finds the byte 00; no condition.
-/
import Derived.Test.YtnplkamkeadlgaaDoorMem
import Derived.Shelf.Strings.Search1
namespace Go.Proofs.YtnplkamkeadlgaaDoor
open Go.RowKit

theorem index_low (l : List UInt8) (c : UInt8) : -1 ≤ Lib.indexByte l c := by
  induction l with
  | nil => simp [Lib.indexByte]
  | cons b l ih =>
    simp only [Lib.indexByte]
    split
    · omega
    · split <;> omega
theorem hasZ_index (s : ByteArray) : (decide (0 ≤ Lib.indexByte s.data.toList 0)) = hasZ s := by
  unfold hasZ
  generalize s.data.toList = l
  induction l with
  | nil => rfl
  | cons c l ih =>
    have hl := index_low l 0
    have e : Lib.indexByte (c :: l) 0 = if (c == 0) = true then 0 else if (Lib.indexByte l 0 == -1) = true then -1 else Lib.indexByte l 0 + 1 := rfl
    rw [List.any_cons, ← ih]
    by_cases hc : (c == 0) = true
    · rw [if_pos hc] at e
      rw [hc, decide_eq_true (by omega)]
      rfl
    · rw [if_neg hc] at e
      have hcf : (c == 0) = false := by simpa using hc
      rw [hcf, Bool.false_or]
      by_cases h1 : (Lib.indexByte l 0 == -1) = true
      · rw [if_pos h1] at e
        have h2 : Lib.indexByte l 0 = -1 := eq_of_beq h1
        rw [decide_eq_false (by omega), decide_eq_false (by omega)]
      · rw [if_neg h1] at e
        have h2 : ¬ Lib.indexByte l 0 = -1 := fun e => h1 (by rw [e]; rfl)
        rw [decide_eq_true (by omega), decide_eq_true (by omega)]
end Go.Proofs.YtnplkamkeadlgaaDoor
