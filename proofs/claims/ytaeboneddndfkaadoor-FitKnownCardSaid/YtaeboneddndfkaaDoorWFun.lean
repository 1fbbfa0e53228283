/-
  What is proved here: contracts of width.Code, width.Back and width.Up; conditions: the numbers are in the range of their types where stated.
-/
import Derived.Test.YtaeboneddndfkaaDoorWLeaf
namespace Go.Proofs.YtaeboneddndfkaaDoor.Wd
open Go.RowKit

theorem cd_hit {k : Nat} (hk : k ≤ 3) : cdV ((2 ^ k : Nat) : Int) = (k : Int) ∧ cdE ((2 ^ k : Nat) : Int) = 0 := by
  have h : k = 0 ∨ k = 1 ∨ k = 2 ∨ k = 3 := by omega
  rcases h with rfl | rfl | rfl | rfl <;> decide
theorem cd_miss {x : Int} (h : ∀ j, j < 4 → ((2 ^ j : Nat) : Int) ≠ x) : cdV x = 0 ∧ cdE x = 2 := by
  have h0 : x ≠ 1 := fun e => h 0 (by omega) (by rw [e]; rfl)
  have h1 : x ≠ 2 := fun e => h 1 (by omega) (by rw [e]; rfl)
  have h2 : x ≠ 4 := fun e => h 2 (by omega) (by rw [e]; rfl)
  have h3 : x ≠ 8 := fun e => h 3 (by omega) (by rw [e]; rfl)
  refine ⟨by unfold cdV; rw [if_neg h1, if_neg h2, if_neg h3], ?_⟩
  unfold cdE
  rw [isW_false (by omega)]
  rfl

theorem code_any (x : Int) (w : World) : Calls Tryd.prog 43 #[.int .i64 x] w fun e w' => e = .returned (.tuple #[.int .i64 (cdV x), .int .i64 (cdE x)]) ∧ w = w' := by
  go_enter Tryd.func43, Tryd.ntmps43
  go_wp2
  go_loop [5] (fun i => ∃ k : Nat, k ≤ 4 ∧ i = .int .i64 k ∧ Hid (∀ j, j < k → ((2 ^ j : Nat) : Int) ≠ x)) (fun i => 4 - (intOf i).toNat)
  case atStart => exact ⟨0, Nat.zero_le _, rfl, fun j hj => absurd hj (by omega)⟩
  case round =>
    obtain ⟨k, hk, rfl, HJ⟩ := hrel
    by_cases hlt : k < 4
    · have hw := widthOf_any k w (by omega)
      obtain ⟨p, hpk⟩ : ∃ p, p = 2 ^ k := ⟨_, rfl⟩
      rw [← hpk] at hw
      have HW := Lib.hid hw
      clear hw
      by_cases he : (p : Int) = x
      · have d : ((p : Int) == x) = true := by simpa using he
        have HE := Lib.hid he
        have HPK := Lib.hid hpk
        clear he hpk
        go_wp2_with (go_at_call 46; refine HW.out.mono ?_; rintro e w' ⟨rfl, rfl⟩)
        go_ret2
        have e1 := HE.out
        rw [HPK.out] at e1
        obtain ⟨h1, h2⟩ := cd_hit (k := k) (by omega)
        rw [e1] at h1 h2
        rw [h1, h2]
        exact ⟨rfl, rfl⟩
      · have d : ((p : Int) == x) = false := by simpa using he
        have HE := Lib.hid he
        have HPK := Lib.hid hpk
        clear he hpk
        go_wp2_with (go_at_call 46; refine HW.out.mono ?_; rintro e w' ⟨rfl, rfl⟩)
        go_round
        case rel =>
          refine ⟨k + 1, by omega, by go_num, fun j hj => ?_⟩
          by_cases h : j < k
          · exact HJ.out j h
          · obtain rfl : j = k := by omega
            have := HE.out
            rw [HPK.out] at this
            exact this
        case measure => simp [intOf]; omega
    · obtain rfl : k = 4 := by omega
      go_wp2
      go_ret2
      obtain ⟨h1, h2⟩ := cd_miss HJ.out
      rw [h1, h2]
      exact ⟨rfl, rfl⟩

theorem bk_hit {k : Nat} (hk : k ≤ 3) : bkV (k : Int) = ((2 ^ k : Nat) : Int) ∧ bkE (k : Int) = 0 := by
  have h : k = 0 ∨ k = 1 ∨ k = 2 ∨ k = 3 := by omega
  rcases h with rfl | rfl | rfl | rfl <;> decide
theorem bk_miss {c : Int} (h : c < 0 ∨ 3 < c) : bkV c = 0 ∧ bkE c = 2 := by
  refine ⟨?_, by unfold bkE; rw [if_neg (by omega)]⟩
  unfold bkV
  rw [if_neg (by omega), if_neg (by omega), if_neg (by omega), if_neg (by omega)]

theorem back_any (c : Int) (w : World) : Calls Tryd.prog 42 #[.int .i64 c] w fun e w' => e = .returned (.tuple #[.int .i64 (bkV c), .int .i64 (bkE c)]) ∧ w = w' := by
  by_cases h : c < 0
  · obtain ⟨h1, h2⟩ := bk_miss (.inl h)
    rw [h1, h2]
    clear h1 h2
    have d : decide (c < 0) = true := by simpa using h
    go_enter Tryd.func42, Tryd.ntmps42
    go_wp2
    go_ret2
    exact ⟨rfl, rfl⟩
  · obtain ⟨k, rfl⟩ := Int.eq_ofNat_of_zero_le (show 0 ≤ c by omega)
    clear h
    by_cases h3 : k ≤ 3
    · obtain ⟨h1, h2⟩ := bk_hit h3
      rw [h1, h2]
      clear h1 h2
      have hw := widthOf_any k w h3
      obtain ⟨p, hpk⟩ : ∃ p, p = 2 ^ k := ⟨_, rfl⟩
      rw [← hpk] at hw ⊢
      have HW := Lib.hid hw
      have d1 : decide (4 ≤ (k : Int)) = false := by simp; omega
      clear hw hpk
      go_enter Tryd.func42, Tryd.ntmps42
      go_wp2_with (go_at_call 46; refine HW.out.mono ?_; rintro e w' ⟨rfl, rfl⟩)
      go_ret2
      exact ⟨rfl, rfl⟩
    · obtain ⟨h1, h2⟩ := bk_miss (c := (k : Int)) (.inr (by omega))
      rw [h1, h2]
      clear h1 h2
      have d1 : decide (4 ≤ (k : Int)) = true := by simp; omega
      go_enter Tryd.func42, Tryd.ntmps42
      go_wp2
      go_ret2
      exact ⟨rfl, rfl⟩

theorem up_any (a x : Int) (w : World) : Calls Tryd.prog 35 #[.int .i64 a, .int .i64 x] w fun e w' => e = .returned (.tuple #[.int .i64 (upV a x), .int .i64 (upE a x)]) ∧ w = w' := by
  have hC := code_any x w
  obtain ⟨cv, hcv⟩ : ∃ cv, cv = cdV x := ⟨_, rfl⟩
  rw [← hcv] at hC
  clear hcv
  rcases upE_cases a x with h | ⟨h, h0⟩ | ⟨h, h0, h1⟩ | ⟨h, h0, h1⟩
  · obtain ⟨e1, e2⟩ := up_w (a := a) h
    rw [e1, e2]
    rw [cdE, h] at hC
    have HC := Lib.hid hC
    clear e1 e2 h hC
    go_enter Tryd.func35, Tryd.ntmps35
    go_wp2_with (go_at_call 43; refine HC.out.mono ?_; rintro e w' ⟨rfl, rfl⟩)
    go_ret2
    exact ⟨rfl, rfl⟩
  · obtain ⟨e1, e2⟩ := up_neg (w := x) h0
    rw [e1, e2]
    rw [cdE, h] at hC
    have HC := Lib.hid hC
    clear e1 e2 h hC
    go_enter Tryd.func35, Tryd.ntmps35
    go_wp2_with (go_at_call 43; refine HC.out.mono ?_; rintro e w' ⟨rfl, rfl⟩)
    go_ret2
    exact ⟨rfl, rfl⟩
  · obtain ⟨e1, e2⟩ := up_big (a := a) h h1
    rw [e1, e2]
    rw [cdE, h] at hC
    have HC := Lib.hid hC
    have d0 : decide (a < 0) = false := by simpa using h0
    clear e1 e2 h hC
    go_enter Tryd.func35, Tryd.ntmps35
    go_wp2_with (go_at_call 43; refine HC.out.mono ?_; rintro e w' ⟨rfl, rfl⟩)
    go_ret2
    exact ⟨rfl, rfl⟩
  · obtain ⟨e1, e2⟩ := up_ok (a := a) h h0 h1
    rw [e1, e2]
    rw [cdE, h] at hC
    have HC := Lib.hid hC
    have hx := isW_iff.1 h
    have d0 : decide (a < 0) = false := by simpa using h0
    clear e1 e2 h hC
    rcases hx with rfl | rfl | rfl | rfl
    all_goals
      go_enter Tryd.func35, Tryd.ntmps35
      go_wp2_with (go_at_call 43; refine HC.out.mono ?_; rintro e w' ⟨rfl, rfl⟩)
      go_ret2
      refine ⟨?_, rfl⟩
      simp
end Go.Proofs.YtaeboneddndfkaaDoor.Wd
