/-
  What is proved here: contracts of the small functions of package le and of its reference that only compute with numbers (widths, fits, signs); conditions: the numbers are in the range of their types, and the width is 1, 2, 4 or 8 where stated.
-/
import Derived.Test.YtkcmpakcahemcaaRows
import Derived.Test.YtkcmpakcahemcaaMath
import Derived.WalkKit
import Derived.WalkSpells
import Derived.WalkLawsBesides
import Derived.Lib.Hide
namespace Go.Proofs.Ytkcmpakcahemcaa
open Go.RowKit Le
theorem ret_bool {a b : Bool} (h : a = b) : Ending.returned (.bool a) = .returned (.bool b) := by rw [h]
theorem ret_int {k : IntKind} {a b : Int} (h : a = b) : Ending.returned (.int k a) = .returned (.int k b) := by rw [h]

theorem isWidth_any (x : Int) (w : World) : Calls Try.prog 53 #[.int .i64 x] w fun e w' => e = .returned (.bool (isW x)) ∧ w = w' := by
  by_cases h : x = 1 ∨ x = 2 ∨ x = 4 ∨ x = 8
  · rcases h with rfl | rfl | rfl | rfl
    all_goals
      go_enter Try.func53, Try.ntmps53
      go_wp2
      go_ret
      exact ⟨rfl, rfl⟩
  · rw [isW_false h]
    have h1 : (x == 1) = false := by simp; omega
    have h2 : (x == 2) = false := by simp; omega
    have h4 : (x == 4) = false := by simp; omega
    have h8 : (x == 8) = false := by simp; omega
    clear h
    go_enter Try.func53, Try.ntmps53
    go_wp2
    go_ret
    exact ⟨rfl, rfl⟩

theorem fits_any (u x : Int) (w : World) (hw : isW x = true) (h0 : 0 ≤ u) :
    Calls Try.prog 54 #[.int .u64 u, .int .i64 x] w fun e w' => e = .returned (.bool (fitsU u x)) ∧ w = w' := by
  rcases isW_iff.1 hw with rfl | rfl | rfl | rfl
  all_goals
    clear hw
    go_enter Try.func54, Try.ntmps54
    go_wp2
    go_ret
  · exact ⟨ret_bool (fitsU_1 h0), rfl⟩
  · exact ⟨ret_bool (fitsU_2 h0), rfl⟩
  · exact ⟨ret_bool (fitsU_4 h0), rfl⟩
  · exact ⟨ret_bool (fitsU_8 h0), rfl⟩

end Go.Proofs.Ytkcmpakcahemcaa
