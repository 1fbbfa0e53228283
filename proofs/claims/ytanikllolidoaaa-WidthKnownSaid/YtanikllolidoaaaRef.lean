/-
  What is proved here: contracts of the reference's Fits, FitsInt, Wide, Back, Code, Of, OfInt and Up of layer 3; conditions: the numbers are in the range of their types where stated.
-/
import Derived.Test.YtanikllolidoaaaFun
namespace Go.Proofs.Ytanikllolidoaaa
open Go.RowKit Wd

theorem wide_any (x : Int) (w : World) : Calls Try.prog 34 #[.int .i64 x] w fun e w' => e = .returned (.bool (isW x)) ∧ w = w' := by
  by_cases h : x = 1 ∨ x = 2 ∨ x = 4 ∨ x = 8
  · rcases h with rfl | rfl | rfl | rfl
    all_goals
      go_enter Try.func34, Try.ntmps34
      go_wp2
      go_ret
      exact ⟨rfl, rfl⟩
  · rw [isW_false h]
    have h1 : (x == 1) = false := by simp; omega
    have h2 : (x == 2) = false := by simp; omega
    have h4 : (x == 4) = false := by simp; omega
    have h8 : (x == 8) = false := by simp; omega
    clear h
    go_enter Try.func34, Try.ntmps34
    go_wp2
    go_ret
    exact ⟨rfl, rfl⟩

theorem among_any (x : Int) (w : World) (h : isW x = true) : Calls Try.prog 25 #[.int .i64 x] w fun e w' => e = .returned (.bool true) ∧ w = w' := by
  rcases isW_iff.1 h with rfl | rfl | rfl | rfl
  all_goals
    clear h
    go_enter Try.func25, Try.ntmps25
    go_wp2
    go_ret
    exact ⟨rfl, rfl⟩

theorem is_any (n e0 : Int) (w : World) : Calls Try.prog 33 #[.int .i64 n, .int .i64 e0, .int .i64 n, .int .i64 e0] w fun e w' => e = .returned (.bool true) ∧ w = w' := by
  go_enter Try.func33, Try.ntmps33
  go_wp2
  go_ret
  exact ⟨rfl, rfl⟩

theorem rfits1 (u : Int) (w : World) :
    Calls Try.prog 30 #[.int .i64 1, .int .u64 u] w fun e w' => e = .returned (.bool (decide (u < 256))) ∧ w = w' := by
  go_enter Try.func30, Try.ntmps30
  go_wp2
  go_ret
  exact ⟨rfl, rfl⟩
theorem rfitsInt1 (u : Int) (w : World) :
    Calls Try.prog 32 #[.int .i64 1, .int .i64 u] w fun e w' => e = .returned (.bool (decide (-128 ≤ u ∧ u < 128))) ∧ w = w' := by
  go_enter Try.func32, Try.ntmps32
  go_wp2
  all_goals
    go_ret
    refine ⟨ret_bool ?_, rfl⟩
    first
      | (rw [Bool.eq_iff_iff, decide_eq_true_iff, decide_eq_true_iff]; omega)
      | (simp; omega)

theorem rfits2 (u : Int) (w : World) :
    Calls Try.prog 30 #[.int .i64 2, .int .u64 u] w fun e w' => e = .returned (.bool (decide (u < 65536))) ∧ w = w' := by
  go_enter Try.func30, Try.ntmps30
  go_wp2
  go_ret
  exact ⟨rfl, rfl⟩
theorem rfitsInt2 (u : Int) (w : World) :
    Calls Try.prog 32 #[.int .i64 2, .int .i64 u] w fun e w' => e = .returned (.bool (decide (-32768 ≤ u ∧ u < 32768))) ∧ w = w' := by
  go_enter Try.func32, Try.ntmps32
  go_wp2
  all_goals
    go_ret
    refine ⟨ret_bool ?_, rfl⟩
    first
      | (rw [Bool.eq_iff_iff, decide_eq_true_iff, decide_eq_true_iff]; omega)
      | (simp; omega)

theorem rfits4 (u : Int) (w : World) :
    Calls Try.prog 30 #[.int .i64 4, .int .u64 u] w fun e w' => e = .returned (.bool (decide (u < 4294967296))) ∧ w = w' := by
  go_enter Try.func30, Try.ntmps30
  go_wp2
  go_ret
  exact ⟨rfl, rfl⟩
theorem rfitsInt4 (u : Int) (w : World) :
    Calls Try.prog 32 #[.int .i64 4, .int .i64 u] w fun e w' => e = .returned (.bool (decide (-2147483648 ≤ u ∧ u < 2147483648))) ∧ w = w' := by
  go_enter Try.func32, Try.ntmps32
  go_wp2
  all_goals
    go_ret
    refine ⟨ret_bool ?_, rfl⟩
    first
      | (rw [Bool.eq_iff_iff, decide_eq_true_iff, decide_eq_true_iff]; omega)
      | (simp; omega)

theorem rof_any (u : Int) (w : World) : Calls Try.prog 15 #[.int .u64 u] w fun e w' => e = .returned (.int .i64 (mU u)) ∧ w = w' := by
  go_enter Try.func15, Try.ntmps15
  go_wp2
  go_loop [3] (fun i => ∃ p : Int, i = .int .i64 p ∧ Hid (p = 1 ∨ (p = 2 ∧ ¬ (u < 256)) ∨ (p = 4 ∧ ¬ (u < 256) ∧ ¬ (u < 65536)) ∨ (p = 8 ∧ ¬ (u < 256) ∧ ¬ (u < 65536) ∧ ¬ (u < 4294967296)))) (fun i => 8 - (intOf i).toNat)
  case atStart => exact ⟨1, rfl, .inl rfl⟩
  case round =>
    obtain ⟨p, rfl, HH⟩ := hrel
    rcases HH.out with rfl | ⟨rfl, h0⟩ | ⟨rfl, h0, h1⟩ | ⟨rfl, h0, h1, h2⟩
    · clear HH
      have HF := Lib.hid (rfits1 u w)
      
      by_cases hc : u < 256
      · have HC := Lib.hid hc
        have hd := HF.out
        rw [show decide (u < 256) = true from decide_eq_true hc] at hd
        have HD := Lib.hid hd
        clear hc HF hd
        go_wp2_with (go_at_call 30; refine HD.out.mono ?_; rintro e w' ⟨rfl, rfl⟩)
        go_ret
        refine ⟨ret_int ?_, rfl⟩
        unfold mU
        rw [if_pos (by have := HC.out; omega)]
      · have HC := Lib.hid hc
        have hd := HF.out
        rw [show decide (u < 256) = false from decide_eq_false hc] at hd
        have HD := Lib.hid hd
        clear hc HF hd
        go_wp2_with (go_at_call 30; refine HD.out.mono ?_; rintro e w' ⟨rfl, rfl⟩)
        go_round
        case rel => exact ⟨_, rfl, .inr (.inl ⟨rfl, by have := HC.out; omega⟩)⟩
        case measure => simp [intOf]
    · clear HH
      have HF := Lib.hid (rfits2 u w)
      have H0 := Lib.hid h0; clear h0;
      by_cases hc : u < 65536
      · have HC := Lib.hid hc
        have hd := HF.out
        rw [show decide (u < 65536) = true from decide_eq_true hc] at hd
        have HD := Lib.hid hd
        clear hc HF hd
        go_wp2_with (go_at_call 30; refine HD.out.mono ?_; rintro e w' ⟨rfl, rfl⟩)
        go_ret
        refine ⟨ret_int ?_, rfl⟩
        unfold mU
        rw [if_neg (by have := H0.out; omega), if_pos (by have := HC.out; omega)]
      · have HC := Lib.hid hc
        have hd := HF.out
        rw [show decide (u < 65536) = false from decide_eq_false hc] at hd
        have HD := Lib.hid hd
        clear hc HF hd
        go_wp2_with (go_at_call 30; refine HD.out.mono ?_; rintro e w' ⟨rfl, rfl⟩)
        go_round
        case rel => exact ⟨_, rfl, .inr (.inr (.inl ⟨rfl, by have := H0.out; omega, by have := HC.out; omega⟩))⟩
        case measure => simp [intOf]
    · clear HH
      have HF := Lib.hid (rfits4 u w)
      have H0 := Lib.hid h0; clear h0; have H1 := Lib.hid h1; clear h1;
      by_cases hc : u < 4294967296
      · have HC := Lib.hid hc
        have hd := HF.out
        rw [show decide (u < 4294967296) = true from decide_eq_true hc] at hd
        have HD := Lib.hid hd
        clear hc HF hd
        go_wp2_with (go_at_call 30; refine HD.out.mono ?_; rintro e w' ⟨rfl, rfl⟩)
        go_ret
        refine ⟨ret_int ?_, rfl⟩
        unfold mU
        rw [if_neg (by have := H0.out; omega), if_neg (by have := H1.out; omega), if_pos (by have := HC.out; omega)]
      · have HC := Lib.hid hc
        have hd := HF.out
        rw [show decide (u < 4294967296) = false from decide_eq_false hc] at hd
        have HD := Lib.hid hd
        clear hc HF hd
        go_wp2_with (go_at_call 30; refine HD.out.mono ?_; rintro e w' ⟨rfl, rfl⟩)
        go_round
        case rel => exact ⟨_, rfl, .inr (.inr (.inr (⟨rfl, by have := H0.out; omega, by have := H1.out; omega, by have := HC.out; omega⟩)))⟩
        case measure => simp [intOf]
    · clear HH
      have H0 := Lib.hid h0; have H1 := Lib.hid h1; have H2 := Lib.hid h2
      clear h0 h1 h2
      go_wp2
      go_ret
      refine ⟨ret_int ?_, rfl⟩
      unfold mU
      rw [if_neg (by have := H0.out; omega), if_neg (by have := H1.out; omega), if_neg (by have := H2.out; omega)]

theorem rofInt_any (u : Int) (w : World) : Calls Try.prog 17 #[.int .i64 u] w fun e w' => e = .returned (.int .i64 (mI u)) ∧ w = w' := by
  go_enter Try.func17, Try.ntmps17
  go_wp2
  go_loop [3] (fun i => ∃ p : Int, i = .int .i64 p ∧ Hid (p = 1 ∨ (p = 2 ∧ ¬ (-128 ≤ u ∧ u < 128)) ∨ (p = 4 ∧ ¬ (-128 ≤ u ∧ u < 128) ∧ ¬ (-32768 ≤ u ∧ u < 32768)) ∨ (p = 8 ∧ ¬ (-128 ≤ u ∧ u < 128) ∧ ¬ (-32768 ≤ u ∧ u < 32768) ∧ ¬ (-2147483648 ≤ u ∧ u < 2147483648)))) (fun i => 8 - (intOf i).toNat)
  case atStart => exact ⟨1, rfl, .inl rfl⟩
  case round =>
    obtain ⟨p, rfl, HH⟩ := hrel
    rcases HH.out with rfl | ⟨rfl, h0⟩ | ⟨rfl, h0, h1⟩ | ⟨rfl, h0, h1, h2⟩
    · clear HH
      have HF := Lib.hid (rfitsInt1 u w)
      
      by_cases hc : -128 ≤ u ∧ u < 128
      · have HC := Lib.hid hc
        have hd := HF.out
        rw [show decide (-128 ≤ u ∧ u < 128) = true from decide_eq_true hc] at hd
        have HD := Lib.hid hd
        clear hc HF hd
        go_wp2_with (go_at_call 32; refine HD.out.mono ?_; rintro e w' ⟨rfl, rfl⟩)
        go_ret
        refine ⟨ret_int ?_, rfl⟩
        unfold mI
        rw [if_pos (by have := HC.out; omega)]
      · have HC := Lib.hid hc
        have hd := HF.out
        rw [show decide (-128 ≤ u ∧ u < 128) = false from decide_eq_false hc] at hd
        have HD := Lib.hid hd
        clear hc HF hd
        go_wp2_with (go_at_call 32; refine HD.out.mono ?_; rintro e w' ⟨rfl, rfl⟩)
        go_round
        case rel => exact ⟨_, rfl, .inr (.inl ⟨rfl, by have := HC.out; omega⟩)⟩
        case measure => simp [intOf]
    · clear HH
      have HF := Lib.hid (rfitsInt2 u w)
      have H0 := Lib.hid h0; clear h0;
      by_cases hc : -32768 ≤ u ∧ u < 32768
      · have HC := Lib.hid hc
        have hd := HF.out
        rw [show decide (-32768 ≤ u ∧ u < 32768) = true from decide_eq_true hc] at hd
        have HD := Lib.hid hd
        clear hc HF hd
        go_wp2_with (go_at_call 32; refine HD.out.mono ?_; rintro e w' ⟨rfl, rfl⟩)
        go_ret
        refine ⟨ret_int ?_, rfl⟩
        unfold mI
        rw [if_neg (by have := H0.out; omega), if_pos (by have := HC.out; omega)]
      · have HC := Lib.hid hc
        have hd := HF.out
        rw [show decide (-32768 ≤ u ∧ u < 32768) = false from decide_eq_false hc] at hd
        have HD := Lib.hid hd
        clear hc HF hd
        go_wp2_with (go_at_call 32; refine HD.out.mono ?_; rintro e w' ⟨rfl, rfl⟩)
        go_round
        case rel => exact ⟨_, rfl, .inr (.inr (.inl ⟨rfl, by have := H0.out; omega, by have := HC.out; omega⟩))⟩
        case measure => simp [intOf]
    · clear HH
      have HF := Lib.hid (rfitsInt4 u w)
      have H0 := Lib.hid h0; clear h0; have H1 := Lib.hid h1; clear h1;
      by_cases hc : -2147483648 ≤ u ∧ u < 2147483648
      · have HC := Lib.hid hc
        have hd := HF.out
        rw [show decide (-2147483648 ≤ u ∧ u < 2147483648) = true from decide_eq_true hc] at hd
        have HD := Lib.hid hd
        clear hc HF hd
        go_wp2_with (go_at_call 32; refine HD.out.mono ?_; rintro e w' ⟨rfl, rfl⟩)
        go_ret
        refine ⟨ret_int ?_, rfl⟩
        unfold mI
        rw [if_neg (by have := H0.out; omega), if_neg (by have := H1.out; omega), if_pos (by have := HC.out; omega)]
      · have HC := Lib.hid hc
        have hd := HF.out
        rw [show decide (-2147483648 ≤ u ∧ u < 2147483648) = false from decide_eq_false hc] at hd
        have HD := Lib.hid hd
        clear hc HF hd
        go_wp2_with (go_at_call 32; refine HD.out.mono ?_; rintro e w' ⟨rfl, rfl⟩)
        go_round
        case rel => exact ⟨_, rfl, .inr (.inr (.inr (⟨rfl, by have := H0.out; omega, by have := H1.out; omega, by have := HC.out; omega⟩)))⟩
        case measure => simp [intOf]
    · clear HH
      have H0 := Lib.hid h0; have H1 := Lib.hid h1; have H2 := Lib.hid h2
      clear h0 h1 h2
      go_wp2
      go_ret
      refine ⟨ret_int ?_, rfl⟩
      unfold mI
      rw [if_neg (by have := H0.out; omega), if_neg (by have := H1.out; omega), if_neg (by have := H2.out; omega)]

theorem rback_any (c : Int) (w : World) : Calls Try.prog 13 #[.int .i64 c] w fun e w' => e = .returned (.tuple #[.int .i64 (bkV c), .int .i64 (bkE c)]) ∧ Below w.heap.size w w' := by
  by_cases h : c < 0
  · obtain ⟨h1, h2⟩ := bk_miss (.inl h)
    rw [h1, h2]
    clear h1 h2
    have d : decide (c < 0) = true := by simpa using h
    go_enter Try.func13, Try.ntmps13
    go_wp2
    go_ret2
    exact ⟨rfl, Below.refl _ _⟩
  · obtain ⟨k, rfl⟩ := Int.eq_ofNat_of_zero_le (show 0 ≤ c by omega)
    clear h
    by_cases h3 : k ≤ 3
    · have h : k = 0 ∨ k = 1 ∨ k = 2 ∨ k = 3 := by omega
      clear h3
      rcases h with rfl | rfl | rfl | rfl
      all_goals
        go_enter Try.func13, Try.ntmps13
        go_wp2
        go_ret2
        exact ⟨rfl, (Below.refl _ _).alloc (Nat.le_refl _) _⟩
    · obtain ⟨h1, h2⟩ := bk_miss (c := (k : Int)) (.inr (by omega))
      rw [h1, h2]
      clear h1 h2
      have d1 : decide (3 < (k : Int)) = true := by simp; omega
      go_enter Try.func13, Try.ntmps13
      go_wp2
      go_ret2
      exact ⟨rfl, Below.refl _ _⟩

theorem bk_pow {k : Nat} (hk : k ≤ 3) : (bkV (k : Int), bkE (k : Int)) = (((2 ^ k : Nat) : Int), 0) := by
  obtain ⟨h1, h2⟩ := bk_hit hk
  rw [h1, h2]

theorem rcode_any (x : Int) (w : World) : Calls Try.prog 11 #[.int .i64 x] w fun e w' => e = .returned (.tuple #[.int .i64 (cdV x), .int .i64 (cdE x)]) ∧ Below w.heap.size w w' := by
  go_enter Try.func11, Try.ntmps11
  go_wp2
  go_loopw [4] (fun i wr => ∃ k : Nat, k ≤ 4 ∧ i = .int .i64 k ∧ Hid (∀ j, j < k → ((2 ^ j : Nat) : Int) ≠ x) ∧ Hid (Below w.heap.size w wr)) (fun i _ => 4 - (intOf i).toNat)
  case atStart => exact ⟨0, Nat.zero_le _, rfl, fun j hj => absurd hj (by omega), Below.refl _ _⟩
  case round =>
    obtain ⟨k, hk, rfl, HJ, HB⟩ := hrel
    by_cases hlt : k < 4
    · have hw := rback_any (k : Int) wr
      obtain ⟨h1, h2⟩ := bk_hit (k := k) (by omega)
      rw [h1, h2] at hw
      clear h1 h2
      obtain ⟨p, hpk⟩ : ∃ p, p = 2 ^ k := ⟨_, rfl⟩
      rw [← hpk] at hw
      have HW := Lib.hid hw
      clear hw
      by_cases he : (p : Int) = x
      · have d : ((p : Int) == x) = true := by simpa using he
        have HE := Lib.hid he
        have HPK := Lib.hid hpk
        clear he hpk
        go_wp2_with (go_at_call 13; refine HW.out.mono ?_; rintro e w' ⟨rfl, hb⟩; have HB2 := Lib.hid hb; clear hb)
        go_ret2
        have e1 := HE.out
        rw [HPK.out] at e1
        obtain ⟨h1, h2⟩ := cd_hit (k := k) (by omega)
        rw [e1] at h1 h2
        rw [h1, h2]
        exact ⟨rfl, HB.out.trans (HB2.out.mono HB.out.size)⟩
      · have d : ((p : Int) == x) = false := by simpa using he
        have HE := Lib.hid he
        have HPK := Lib.hid hpk
        clear he hpk
        go_wp2_with (go_at_call 13; refine HW.out.mono ?_; rintro e w' ⟨rfl, hb⟩; have HB2 := Lib.hid hb; clear hb)
        go_roundw
        case rel =>
          refine ⟨k + 1, by omega, by go_num, fun j hj => ?_, HB.out.trans (HB2.out.mono HB.out.size)⟩
          by_cases h : j < k
          · exact HJ.out j h
          · obtain rfl : j = k := by omega
            have := HE.out
            rw [HPK.out] at this
            exact this
        case measure => simp [intOf]; omega
    · obtain rfl : k = 4 := by omega
      go_wp2
      go_ret2
      obtain ⟨h1, h2⟩ := cd_miss HJ.out
      rw [h1, h2]
      exact ⟨rfl, HB.out⟩

theorem rup_any (a x : Int) (w : World) : Calls Try.prog 21 #[.int .i64 a, .int .i64 x] w fun e w' => e = .returned (.tuple #[.int .i64 (upV a x), .int .i64 (upE a x)]) ∧ w = w' := by
  have hC := wide_any x w
  rcases upE_cases a x with h | ⟨h, h0⟩ | ⟨h, h0, h1⟩ | ⟨h, h0, h1⟩
  · obtain ⟨e1, e2⟩ := up_w (a := a) h
    rw [e1, e2]
    rw [h] at hC
    have HC := Lib.hid hC
    clear e1 e2 h hC
    go_enter Try.func21, Try.ntmps21
    go_wp2_with (go_at_call 34; refine HC.out.mono ?_; rintro e w' ⟨rfl, rfl⟩)
    go_ret2
    exact ⟨rfl, rfl⟩
  · obtain ⟨e1, e2⟩ := up_neg (w := x) h0
    rw [e1, e2]
    rw [h] at hC
    have HC := Lib.hid hC
    clear e1 e2 h hC
    go_enter Try.func21, Try.ntmps21
    go_wp2_with (go_at_call 34; refine HC.out.mono ?_; rintro e w' ⟨rfl, rfl⟩)
    go_ret2
    exact ⟨rfl, rfl⟩
  · obtain ⟨e1, e2⟩ := up_big (a := a) h h1
    rw [e1, e2]
    rw [h] at hC
    have HC := Lib.hid hC
    have d0 : decide (a < 0) = false := by simpa using h0
    clear e1 e2 h hC
    go_enter Try.func21, Try.ntmps21
    go_wp2_with (go_at_call 34; refine HC.out.mono ?_; rintro e w' ⟨rfl, rfl⟩)
    go_ret2
    exact ⟨rfl, rfl⟩
  · obtain ⟨e1, e2⟩ := up_ok (a := a) h h0 h1
    rw [e1, e2]
    rw [h] at hC
    have HC := Lib.hid hC
    have hx := isW_iff.1 h
    have d0 : decide (a < 0) = false := by simpa using h0
    clear e1 e2 h hC
    rcases hx with rfl | rfl | rfl | rfl
    · have H0 := Lib.hid h0
      go_enter Try.func21, Try.ntmps21
      go_wp2_with (go_at_call 34; refine HC.out.mono ?_; rintro e w' ⟨rfl, rfl⟩)
      go_loop [0] (fun i => ∃ b : Int, i = .int .i64 b ∧ 0 ≤ b ∧ b ≤ 9007199254741000 ∧ Hid (a ≤ b ∧ b ≤ (a + 1 - 1) / 1 * 1)) (fun i => (9007199254741000 - intOf i).toNat)
      case atStart => exact ⟨a, rfl, h0, by omega, Int.le_refl _, by omega⟩
      case round =>
        obtain ⟨b, rfl, hb0, hb1, HH⟩ := hrel
        have hm : b % 1 = 0 := by omega
        have HM := Lib.hid hm
        clear hm
        go_wp2
        go_ret2
        obtain ⟨g1, g2⟩ := HH.out
        rw [show a = b by omega]
        exact ⟨rfl, rfl⟩
    · have H0 := Lib.hid h0
      go_enter Try.func21, Try.ntmps21
      go_wp2_with (go_at_call 34; refine HC.out.mono ?_; rintro e w' ⟨rfl, rfl⟩)
      go_loop [0] (fun i => ∃ b : Int, i = .int .i64 b ∧ 0 ≤ b ∧ b ≤ 9007199254741000 ∧ Hid (a ≤ b ∧ b ≤ (a + 2 - 1) / 2 * 2)) (fun i => (9007199254741000 - intOf i).toNat)
      case atStart => exact ⟨a, rfl, h0, by omega, Int.le_refl _, by omega⟩
      case round =>
        obtain ⟨b, rfl, hb0, hb1, HH⟩ := hrel
        by_cases hm : b % 2 = 0
        · have d1 : (b % 2 != 0) = false := by simpa using hm
          have HM := Lib.hid hm
          clear hm
          go_wp2
          go_ret2
          have hm := HM.out
          obtain ⟨g1, g2⟩ := HH.out
          rw [show (a + 2 - 1) / 2 * 2 = b by omega]
          exact ⟨rfl, rfl⟩
        · have d1 : (b % 2 != 0) = true := by simpa using hm
          have HM := Lib.hid hm
          have hb2 : b + 1 ≤ 9007199254741000 := by have := HH.out; omega
          clear hm
          go_wp2
          go_round
          case rel =>
            have hm := HM.out
            obtain ⟨g1, g2⟩ := HH.out
            exact ⟨b + 1, rfl, by omega, by omega, by omega, by omega⟩
          case measure => simp [intOf]; omega
    · have H0 := Lib.hid h0
      go_enter Try.func21, Try.ntmps21
      go_wp2_with (go_at_call 34; refine HC.out.mono ?_; rintro e w' ⟨rfl, rfl⟩)
      go_loop [0] (fun i => ∃ b : Int, i = .int .i64 b ∧ 0 ≤ b ∧ b ≤ 9007199254741000 ∧ Hid (a ≤ b ∧ b ≤ (a + 4 - 1) / 4 * 4)) (fun i => (9007199254741000 - intOf i).toNat)
      case atStart => exact ⟨a, rfl, h0, by omega, Int.le_refl _, by omega⟩
      case round =>
        obtain ⟨b, rfl, hb0, hb1, HH⟩ := hrel
        by_cases hm : b % 4 = 0
        · have d1 : (b % 4 != 0) = false := by simpa using hm
          have HM := Lib.hid hm
          clear hm
          go_wp2
          go_ret2
          have hm := HM.out
          obtain ⟨g1, g2⟩ := HH.out
          rw [show (a + 4 - 1) / 4 * 4 = b by omega]
          exact ⟨rfl, rfl⟩
        · have d1 : (b % 4 != 0) = true := by simpa using hm
          have HM := Lib.hid hm
          have hb2 : b + 1 ≤ 9007199254741000 := by have := HH.out; omega
          clear hm
          go_wp2
          go_round
          case rel =>
            have hm := HM.out
            obtain ⟨g1, g2⟩ := HH.out
            exact ⟨b + 1, rfl, by omega, by omega, by omega, by omega⟩
          case measure => simp [intOf]; omega
    · have H0 := Lib.hid h0
      go_enter Try.func21, Try.ntmps21
      go_wp2_with (go_at_call 34; refine HC.out.mono ?_; rintro e w' ⟨rfl, rfl⟩)
      go_loop [0] (fun i => ∃ b : Int, i = .int .i64 b ∧ 0 ≤ b ∧ b ≤ 9007199254741000 ∧ Hid (a ≤ b ∧ b ≤ (a + 8 - 1) / 8 * 8)) (fun i => (9007199254741000 - intOf i).toNat)
      case atStart => exact ⟨a, rfl, h0, by omega, Int.le_refl _, by omega⟩
      case round =>
        obtain ⟨b, rfl, hb0, hb1, HH⟩ := hrel
        by_cases hm : b % 8 = 0
        · have d1 : (b % 8 != 0) = false := by simpa using hm
          have HM := Lib.hid hm
          clear hm
          go_wp2
          go_ret2
          have hm := HM.out
          obtain ⟨g1, g2⟩ := HH.out
          rw [show (a + 8 - 1) / 8 * 8 = b by omega]
          exact ⟨rfl, rfl⟩
        · have d1 : (b % 8 != 0) = true := by simpa using hm
          have HM := Lib.hid hm
          have hb2 : b + 1 ≤ 9007199254741000 := by have := HH.out; omega
          clear hm
          go_wp2
          go_round
          case rel =>
            have hm := HM.out
            obtain ⟨g1, g2⟩ := HH.out
            exact ⟨b + 1, rfl, by omega, by omega, by omega, by omega⟩
          case measure => simp [intOf]; omega
end Go.Proofs.Ytanikllolidoaaa
