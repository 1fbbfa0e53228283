/-
  What is proved here: accordionlaw01.wide returns one of the four widths, and always the same for the same number; condition: the number is an int.
-/
import Derived.Test.YtfodocahneoipaaSets
namespace Go.Proofs.Ytfodocahneoipaa
open Go.RowKit Le

theorem tmod4 (x : Int) (h : x < 0) : x.tmod 4 = -((-x) % 4) := by
  obtain ⟨z, rfl⟩ : ∃ z, x = -z := ⟨-x, by omega⟩
  rw [Int.neg_tmod, Int.neg_neg, Int.tmod_eq_emod_of_nonneg (by omega)]

theorem bring4 (x : Int) (w : World) (h0 : -9223372036854775808 ≤ x) :
    Calls Try.prog 43 #[.int .i64 x, .int .i64 4] w fun e w' => e = .returned (.int .i64 (x % 4)) ∧ w = w' := by
  by_cases hx : 0 ≤ x
  · have hm : 0 ≤ x % 4 := by omega
    go_enter Try.func43, Try.ntmps43
    go_wp2
    go_ret
    exact ⟨rfl, rfl⟩
  · have ht := tmod4 x (by omega)
    obtain ⟨y, hy⟩ : ∃ y, x.tmod 4 = y := ⟨_, rfl⟩
    have hb : -4 < y ∧ y ≤ 0 := by omega
    by_cases hn : y < 0
    · have e : x % 4 = y + 4 := by omega
      rw [e]
      clear ht e
      go_enter Try.func43, Try.ntmps43
      go_wp2
      go_ret
      exact ⟨rfl, rfl⟩
    · have e : x % 4 = y := by omega
      rw [e]
      clear ht e
      go_enter Try.func43, Try.ntmps43
      go_wp2
      go_ret
      exact ⟨rfl, rfl⟩

/-- The width that the laws make of a number. -/
def wideF (x : Int) : Int := if x % 4 = 0 then 1 else if x % 4 = 1 then 2 else if x % 4 = 2 then 4 else 8
theorem wideF_isW (x : Int) : isW (wideF x) = true := by
  unfold wideF
  split
  · decide
  · split
    · decide
    · split <;> decide

theorem wideF_any (x : Int) (w : World) (h0 : -9223372036854775808 ≤ x) :
    Calls Try.prog 24 #[.int .i64 x] w fun e w' => e = .returned (.int .i64 (wideF x)) ∧ w = w' := by
  have hb := bring4 x w h0
  obtain ⟨y, hy⟩ : ∃ y, x % 4 = y := ⟨_, rfl⟩
  have hc : y = 0 ∨ y = 1 ∨ y = 2 ∨ y = 3 := by omega
  unfold wideF
  rw [hy] at hb ⊢
  clear hy
  rcases hc with rfl | rfl | rfl | rfl
  all_goals
    have HB := Lib.hid hb
    clear hb
    go_enter Try.func24, Try.ntmps24
    go_wp2_with (go_at_call 43; refine HB.out.mono ?_; rintro e w' ⟨rfl, rfl⟩)
    go_ret
    exact ⟨rfl, rfl⟩
end Go.Proofs.Ytfodocahneoipaa
