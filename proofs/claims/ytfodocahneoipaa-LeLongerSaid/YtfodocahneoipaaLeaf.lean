/-
  What is proved here: contracts of the small functions of package le and of its reference that only compute with numbers (widths, fits, signs); conditions: the numbers are in the range of their types, and the width is 1, 2, 4 or 8 where stated.
-/
import Derived.Test.YtfodocahneoipaaRows
import Derived.Test.YtfodocahneoipaaMath
import Derived.WalkKit
import Derived.WalkSpells
import Derived.WalkLawsBesides
import Derived.Lib.Hide
namespace Go.Proofs.Ytfodocahneoipaa
open Go.RowKit Le
theorem ret_bool {a b : Bool} (h : a = b) : Ending.returned (.bool a) = .returned (.bool b) := by rw [h]
theorem ret_int {k : IntKind} {a b : Int} (h : a = b) : Ending.returned (.int k a) = .returned (.int k b) := by rw [h]

theorem isWidth_any (x : Int) (w : World) : Calls Try.prog 33 #[.int .i64 x] w fun e w' => e = .returned (.bool (isW x)) ∧ w = w' := by
  by_cases h : x = 1 ∨ x = 2 ∨ x = 4 ∨ x = 8
  · rcases h with rfl | rfl | rfl | rfl
    all_goals
      go_enter Try.func33, Try.ntmps33
      go_wp2
      go_ret
      exact ⟨rfl, rfl⟩
  · rw [isW_false h]
    have h1 : (x == 1) = false := by simp; omega
    have h2 : (x == 2) = false := by simp; omega
    have h4 : (x == 4) = false := by simp; omega
    have h8 : (x == 8) = false := by simp; omega
    clear h
    go_enter Try.func33, Try.ntmps33
    go_wp2
    go_ret
    exact ⟨rfl, rfl⟩

theorem wide_any (x : Int) (w : World) : Calls Try.prog 36 #[.int .i64 x] w fun e w' => e = .returned (.bool (isW x)) ∧ w = w' := by
  by_cases h : x = 1 ∨ x = 2 ∨ x = 4 ∨ x = 8
  · rcases h with rfl | rfl | rfl | rfl
    all_goals
      go_enter Try.func36, Try.ntmps36
      go_wp2
      go_ret
      exact ⟨rfl, rfl⟩
  · rw [isW_false h]
    have h1 : (x == 1) = false := by simp; omega
    have h2 : (x == 2) = false := by simp; omega
    have h4 : (x == 4) = false := by simp; omega
    have h8 : (x == 8) = false := by simp; omega
    clear h
    go_enter Try.func36, Try.ntmps36
    go_wp2
    go_ret
    exact ⟨rfl, rfl⟩

theorem fits_any (u x : Int) (w : World) (hw : isW x = true) (h0 : 0 ≤ u) :
    Calls Try.prog 34 #[.int .u64 u, .int .i64 x] w fun e w' => e = .returned (.bool (fitsU u x)) ∧ w = w' := by
  rcases isW_iff.1 hw with rfl | rfl | rfl | rfl
  all_goals
    clear hw
    go_enter Try.func34, Try.ntmps34
    go_wp2
    go_ret
  · exact ⟨ret_bool (fitsU_1 h0), rfl⟩
  · exact ⟨ret_bool (fitsU_2 h0), rfl⟩
  · exact ⟨ret_bool (fitsU_4 h0), rfl⟩
  · exact ⟨ret_bool (fitsU_8 h0), rfl⟩

theorem rfits_any (u x : Int) (w : World) (hw : isW x = true) (h1 : u ≤ 18446744073709551615) :
    Calls Try.prog 37 #[.int .i64 x, .int .u64 u] w fun e w' => e = .returned (.bool (fitsU u x)) ∧ w = w' := by
  rcases isW_iff.1 hw with rfl | rfl | rfl | rfl
  all_goals
    clear hw
    have H1 := Lib.hid h1
    clear h1
    go_enter Try.func37, Try.ntmps37
    go_wp2
    go_ret
  · exact ⟨rfl, rfl⟩
  · exact ⟨rfl, rfl⟩
  · exact ⟨rfl, rfl⟩
  · exact ⟨ret_bool (fitsU_iff.2 (by rw [pw8]; have := H1.out; omega)).symm, rfl⟩

theorem fitsInt_any (n x : Int) (w : World) (hw : isW x = true) :
    Calls Try.prog 39 #[.int .i64 n, .int .i64 x] w fun e w' => e = .returned (.bool (fitsI n x)) ∧ w = w' := by
  rcases isW_iff.1 hw with rfl | rfl | rfl | rfl
  all_goals
    clear hw
    go_enter Try.func39, Try.ntmps39
    go_wp2
    all_goals go_ret
  · rename_i h; exact ⟨ret_bool ((fitsI_1 n).symm.trans (by rw [h]; rfl)).symm, rfl⟩
  · exact ⟨ret_bool (fitsI_1 n), rfl⟩
  · rename_i h; exact ⟨ret_bool ((fitsI_2 n).symm.trans (by rw [h]; rfl)).symm, rfl⟩
  · exact ⟨ret_bool (fitsI_2 n), rfl⟩
  · rename_i h; exact ⟨ret_bool ((fitsI_4 n).symm.trans (by rw [h]; rfl)).symm, rfl⟩
  · exact ⟨ret_bool (fitsI_4 n), rfl⟩
  · rename_i h; exact ⟨ret_bool ((fitsI_8 n).symm.trans (by rw [h]; rfl)).symm, rfl⟩
  · exact ⟨ret_bool (fitsI_8 n), rfl⟩

theorem rfitsInt_any (n x : Int) (w : World) (hw : isW x = true) (h0 : -9223372036854775808 ≤ n) (h1 : n ≤ 9223372036854775807) :
    Calls Try.prog 40 #[.int .i64 x, .int .i64 n] w fun e w' => e = .returned (.bool (fitsI n x)) ∧ w = w' := by
  rcases isW_iff.1 hw with rfl | rfl | rfl | rfl
  all_goals
    clear hw
    have H0 := Lib.hid h0
    have H1 := Lib.hid h1
    clear h0 h1
    go_enter Try.func40, Try.ntmps40
    go_wp2
    all_goals go_ret
  · exact ⟨ret_bool (fitsI_lo (a := 128) rfl rfl (by assumption)), rfl⟩
  · exact ⟨ret_bool (fitsI_no (a := 128) rfl (by assumption)), rfl⟩
  · exact ⟨ret_bool (fitsI_lo (a := 32768) rfl rfl (by assumption)), rfl⟩
  · exact ⟨ret_bool (fitsI_no (a := 32768) rfl (by assumption)), rfl⟩
  · exact ⟨ret_bool (fitsI_lo (a := 2147483648) rfl rfl (by assumption)), rfl⟩
  · exact ⟨ret_bool (fitsI_no (a := 2147483648) rfl (by assumption)), rfl⟩
  · exact ⟨ret_bool (fitsI_iff.2 (by rw [pw8]; have := H0.out; have := H1.out; omega)).symm, rfl⟩

theorem signed_any (u x : Int) (w : World) (hw : isW x = true) (h0 : 0 ≤ u) (h1 : u < pw x) :
    Calls Try.prog 30 #[.int .u64 u, .int .i64 x] w fun e w' => e = .returned (.int .i64 (sgn x u)) ∧ w = w' := by
  rcases isW_iff.1 hw with rfl | rfl | rfl | rfl
  all_goals
    clear hw
    simp only [pw1, pw2, pw4, pw8] at h1
    go_enter Try.func30, Try.ntmps30
    go_wp2
    go_ret
    refine ⟨ret_int ?_, rfl⟩
    simp only [wrap64]
  · exact sgn_1 h0 h1
  · exact sgn_2 h0 h1
  · exact sgn_4 h0 h1
  · exact sgn_8 h0 h1
end Go.Proofs.Ytfodocahneoipaa
