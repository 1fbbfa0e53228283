/-
  What is proved here: the byte order of encodings is the order of the numbers; no program in this text; no condition.
-/
import Derived.Test.YtoifjbhjclglmaaDoorEnc
namespace Go.Proofs.YtoifjbhjclglmaaDoor
namespace Ut
open Go.Lib

theorem less_head {a b : Nat} (ha : a < 256) (hb : b < 256) (s t : List UInt8) : Op.bytesLess (UInt8.ofNat a :: s) (UInt8.ofNat b :: t) = (decide (a < b) || (decide (a = b) && Op.bytesLess s t)) := by
  have h1 := ofNat_toNat ha
  have h2 := ofNat_toNat hb
  show (decide (UInt8.ofNat a < UInt8.ofNat b) || (UInt8.ofNat a == UInt8.ofNat b && Op.bytesLess s t)) = _
  by_cases h : a < b
  · have : UInt8.ofNat a < UInt8.ofNat b := by rw [UInt8.lt_iff_toNat_lt]; omega
    simp [this, h]
  · by_cases he : a = b
    · subst he
      simp
    · have h3 : ¬ (UInt8.ofNat a < UInt8.ofNat b) := by rw [UInt8.lt_iff_toNat_lt]; omega
      have h5 : UInt8.ofNat a ≠ UInt8.ofNat b := by intro h6; rw [h6] at h1; omega
      simp [h3, h5, h, he]
theorem less_nil (t : List UInt8) : Op.bytesLess [] t = !t.isEmpty := by cases t <;> simp [Op.bytesLess]
theorem less_enc (a b : Nat) (ha : a ≤ 1114111) (hb : b ≤ 1114111) : Op.bytesLess (enc a) (enc b) = decide (a < b) := by
  have h1 := enc_shape a
  have h2 := enc_shape b
  revert h1 h2
  generalize enc a = s
  generalize enc b = t
  intro h1 h2
  cases h1 <;> cases h2
  all_goals
    repeat rw [less_head (by omega) (by omega)]
    try rw [less_nil]
    rw [Bool.eq_iff_iff]
    simp <;> omega
end Ut
end Go.Proofs.YtoifjbhjclglmaaDoor
