/-
  What is proved here: contracts of the reference implementation's Pack, Unpack and Typed: their results are those that the specification gives; condition: the byte is a byte.
-/
import Derived.Test.YtocdmjbmeindgaaDoorRef
namespace Go.Proofs.YtocdmjbmeindgaaDoor
open Go.RowKit Tg

theorem wi0 : wid 0 = 1 := rfl
theorem wi1 : wid 1 = 2 := rfl
theorem wi2 : wid 2 = 4 := rfl
theorem wi3 : wid 3 = 8 := rfl

theorem rpack_no (t x : Int) (w : World) (h : legal t = false) :
    Calls Tryd.prog 11 #[.int .i64 t, .int .i64 x] w fun e w' => e = .returned (.tuple #[.int .u8 0, .int .i64 20]) ∧ w = w' := by
  have hl := rlegal_any t w
  rw [h] at hl
  have HL := Lib.hid hl
  clear hl h
  go_enter Tryd.func11, Tryd.ntmps11
  go_wp2_with (go_at_call 20; refine HL.out.mono ?_; rintro e w1 ⟨rfl, rfl⟩)
  go_ret2
  exact ⟨rfl, rfl⟩

theorem rpack_0 (t : Int) (w : World) (h : legal t = true) :
    Calls Tryd.prog 11 #[.int .i64 t, .int .i64 1] w fun e w' => e = .returned (.tuple #[.int .u8 (4 * t + 0), .int .i64 0]) ∧ w = w' := by
  obtain ⟨t0, t1⟩ := legal_in h
  have hl := rlegal_any t w
  rw [h] at hl
  have HL := Lib.hid hl
  clear hl h
  go_enter Tryd.func11, Tryd.ntmps11
  go_wp2_with (go_at_call 20; refine HL.out.mono ?_; rintro e w1 ⟨rfl, rfl⟩)
  go_loop [6] (fun i => ∃ k : Nat, k ≤ 0 ∧ i = .int .i64 k) (fun i => 5 - (intOf i).toNat)
  case atStart => exact ⟨0, Nat.zero_le _, rfl⟩
  case round =>
    obtain ⟨k, hk, rfl⟩ := hrel
    rcases (show k = 0 by omega) with rfl
    · go_wp2_with (go_at_call 24; refine (rwidth_any _ _ (by decide)).mono ?_; rintro e w1 ⟨rfl, rfl⟩; simp only [wi0])
      go_ret2
      exact ⟨rfl, rfl⟩

theorem rpack_1 (t : Int) (w : World) (h : legal t = true) :
    Calls Tryd.prog 11 #[.int .i64 t, .int .i64 2] w fun e w' => e = .returned (.tuple #[.int .u8 (4 * t + 1), .int .i64 0]) ∧ w = w' := by
  obtain ⟨t0, t1⟩ := legal_in h
  have hl := rlegal_any t w
  rw [h] at hl
  have HL := Lib.hid hl
  clear hl h
  go_enter Tryd.func11, Tryd.ntmps11
  go_wp2_with (go_at_call 20; refine HL.out.mono ?_; rintro e w1 ⟨rfl, rfl⟩)
  go_loop [6] (fun i => ∃ k : Nat, k ≤ 1 ∧ i = .int .i64 k) (fun i => 5 - (intOf i).toNat)
  case atStart => exact ⟨0, Nat.zero_le _, rfl⟩
  case round =>
    obtain ⟨k, hk, rfl⟩ := hrel
    rcases (show k = 0 ∨ k = 1 by omega) with rfl | rfl
    · go_wp2_with (go_at_call 24; refine (rwidth_any _ _ (by decide)).mono ?_; rintro e w1 ⟨rfl, rfl⟩; simp only [wi0])
      go_round
      case rel => exact ⟨1, by omega, rfl⟩
      case measure => simp [intOf]
    · go_wp2_with (go_at_call 24; refine (rwidth_any _ _ (by decide)).mono ?_; rintro e w1 ⟨rfl, rfl⟩; simp only [wi1])
      go_ret2
      exact ⟨rfl, rfl⟩

theorem rpack_2 (t : Int) (w : World) (h : legal t = true) :
    Calls Tryd.prog 11 #[.int .i64 t, .int .i64 4] w fun e w' => e = .returned (.tuple #[.int .u8 (4 * t + 2), .int .i64 0]) ∧ w = w' := by
  obtain ⟨t0, t1⟩ := legal_in h
  have hl := rlegal_any t w
  rw [h] at hl
  have HL := Lib.hid hl
  clear hl h
  go_enter Tryd.func11, Tryd.ntmps11
  go_wp2_with (go_at_call 20; refine HL.out.mono ?_; rintro e w1 ⟨rfl, rfl⟩)
  go_loop [6] (fun i => ∃ k : Nat, k ≤ 2 ∧ i = .int .i64 k) (fun i => 5 - (intOf i).toNat)
  case atStart => exact ⟨0, Nat.zero_le _, rfl⟩
  case round =>
    obtain ⟨k, hk, rfl⟩ := hrel
    rcases (show k = 0 ∨ k = 1 ∨ k = 2 by omega) with rfl | rfl | rfl
    · go_wp2_with (go_at_call 24; refine (rwidth_any _ _ (by decide)).mono ?_; rintro e w1 ⟨rfl, rfl⟩; simp only [wi0])
      go_round
      case rel => exact ⟨1, by omega, rfl⟩
      case measure => simp [intOf]
    · go_wp2_with (go_at_call 24; refine (rwidth_any _ _ (by decide)).mono ?_; rintro e w1 ⟨rfl, rfl⟩; simp only [wi1])
      go_round
      case rel => exact ⟨2, by omega, rfl⟩
      case measure => simp [intOf]
    · go_wp2_with (go_at_call 24; refine (rwidth_any _ _ (by decide)).mono ?_; rintro e w1 ⟨rfl, rfl⟩; simp only [wi2])
      go_ret2
      exact ⟨rfl, rfl⟩

theorem rpack_3 (t : Int) (w : World) (h : legal t = true) :
    Calls Tryd.prog 11 #[.int .i64 t, .int .i64 8] w fun e w' => e = .returned (.tuple #[.int .u8 (4 * t + 3), .int .i64 0]) ∧ w = w' := by
  obtain ⟨t0, t1⟩ := legal_in h
  have hl := rlegal_any t w
  rw [h] at hl
  have HL := Lib.hid hl
  clear hl h
  go_enter Tryd.func11, Tryd.ntmps11
  go_wp2_with (go_at_call 20; refine HL.out.mono ?_; rintro e w1 ⟨rfl, rfl⟩)
  go_loop [6] (fun i => ∃ k : Nat, k ≤ 3 ∧ i = .int .i64 k) (fun i => 5 - (intOf i).toNat)
  case atStart => exact ⟨0, Nat.zero_le _, rfl⟩
  case round =>
    obtain ⟨k, hk, rfl⟩ := hrel
    rcases (show k = 0 ∨ k = 1 ∨ k = 2 ∨ k = 3 by omega) with rfl | rfl | rfl | rfl
    · go_wp2_with (go_at_call 24; refine (rwidth_any _ _ (by decide)).mono ?_; rintro e w1 ⟨rfl, rfl⟩; simp only [wi0])
      go_round
      case rel => exact ⟨1, by omega, rfl⟩
      case measure => simp [intOf]
    · go_wp2_with (go_at_call 24; refine (rwidth_any _ _ (by decide)).mono ?_; rintro e w1 ⟨rfl, rfl⟩; simp only [wi1])
      go_round
      case rel => exact ⟨2, by omega, rfl⟩
      case measure => simp [intOf]
    · go_wp2_with (go_at_call 24; refine (rwidth_any _ _ (by decide)).mono ?_; rintro e w1 ⟨rfl, rfl⟩; simp only [wi2])
      go_round
      case rel => exact ⟨3, by omega, rfl⟩
      case measure => simp [intOf]
    · go_wp2_with (go_at_call 24; refine (rwidth_any _ _ (by decide)).mono ?_; rintro e w1 ⟨rfl, rfl⟩; simp only [wi3])
      go_ret2
      exact ⟨rfl, rfl⟩

theorem rpack_4 (t x : Int) (w : World) (h : legal t = true) (n1 : x ≠ 1) (n2 : x ≠ 2) (n4 : x ≠ 4) (n8 : x ≠ 8) :
    Calls Tryd.prog 11 #[.int .i64 t, .int .i64 x] w fun e w' => e = .returned (.tuple #[.int .u8 0, .int .i64 2]) ∧ w = w' := by
  obtain ⟨t0, t1⟩ := legal_in h
  have hl := rlegal_any t w
  rw [h] at hl
  have HL := Lib.hid hl
  clear hl h
  have b1 : (1 == x) = false := by simp; omega
  have b2 : (2 == x) = false := by simp; omega
  have b4 : (4 == x) = false := by simp; omega
  have b8 : (8 == x) = false := by simp; omega
  clear n1 n2 n4 n8
  go_enter Tryd.func11, Tryd.ntmps11
  go_wp2_with (go_at_call 20; refine HL.out.mono ?_; rintro e w1 ⟨rfl, rfl⟩)
  go_loop [6] (fun i => ∃ k : Nat, k ≤ 4 ∧ i = .int .i64 k) (fun i => 5 - (intOf i).toNat)
  case atStart => exact ⟨0, Nat.zero_le _, rfl⟩
  case round =>
    obtain ⟨k, hk, rfl⟩ := hrel
    rcases (show k = 0 ∨ k = 1 ∨ k = 2 ∨ k = 3 ∨ k = 4 by omega) with rfl | rfl | rfl | rfl | rfl
    · go_wp2_with (go_at_call 24; refine (rwidth_any _ _ (by decide)).mono ?_; rintro e w1 ⟨rfl, rfl⟩; simp only [wi0])
      go_round
      case rel => exact ⟨1, by omega, rfl⟩
      case measure => simp [intOf]
    · go_wp2_with (go_at_call 24; refine (rwidth_any _ _ (by decide)).mono ?_; rintro e w1 ⟨rfl, rfl⟩; simp only [wi1])
      go_round
      case rel => exact ⟨2, by omega, rfl⟩
      case measure => simp [intOf]
    · go_wp2_with (go_at_call 24; refine (rwidth_any _ _ (by decide)).mono ?_; rintro e w1 ⟨rfl, rfl⟩; simp only [wi2])
      go_round
      case rel => exact ⟨3, by omega, rfl⟩
      case measure => simp [intOf]
    · go_wp2_with (go_at_call 24; refine (rwidth_any _ _ (by decide)).mono ?_; rintro e w1 ⟨rfl, rfl⟩; simp only [wi3])
      go_round
      case rel => exact ⟨4, by omega, rfl⟩
      case measure => simp [intOf]
    · go_wp2
      go_ret2
      exact ⟨rfl, rfl⟩

theorem rpack_any (t x : Int) (w : World) :
    Calls Tryd.prog 11 #[.int .i64 t, .int .i64 x] w fun e w' => e = .returned (.tuple #[.int .u8 (packC t x), .int .i64 (packE t x)]) ∧ w = w' := by
  cases h : legal t
  · rw [packC, packE, if_neg (by rw [h]; simp), if_neg (by rw [h]; simp)]
    exact rpack_no t x w h
  · rw [packE, if_pos h]
    rcases code_cases x with ⟨rfl, e⟩ | ⟨rfl, e⟩ | ⟨rfl, e⟩ | ⟨rfl, e⟩ | ⟨n1, n2, n4, n8, e⟩
    · rw [packC_of h (by rw [e]; decide), e]; exact rpack_0 t w h
    · rw [packC_of h (by rw [e]; decide), e]; exact rpack_1 t w h
    · rw [packC_of h (by rw [e]; decide), e]; exact rpack_2 t w h
    · rw [packC_of h (by rw [e]; decide), e]; exact rpack_3 t w h
    · rw [packC, if_neg (by rw [e]; simp), e]; exact rpack_4 t x w h n1 n2 n4 n8

theorem runpack_any (c : Int) (w : World) (h0 : 0 ≤ c) (h1 : c ≤ 255) :
    Calls Tryd.prog 13 #[.int .u8 c] w fun e w' => e = .returned (.tuple #[.int .i64 (unT c), .int .i64 (unW c), .int .i64 (unE c)]) ∧ w = w' := by
  have hl := rlegal_any (c / 4) w
  cases h : legal (c / 4)
  · rw [unT, unW, unE, h]
    rw [h] at hl
    have HL := Lib.hid hl
    clear hl h
    go_enter Tryd.func13, Tryd.ntmps13
    go_wp2_with (go_at_call 20; refine HL.out.mono ?_; rintro e w1 ⟨rfl, rfl⟩)
    go_ret3
    exact ⟨rfl, rfl⟩
  · rw [unT, unW, unE, h]
    rw [h] at hl
    have HL := Lib.hid hl
    have HW := Lib.hid (rwidth_any (c % 4) w (by omega))
    clear hl h
    go_enter Tryd.func13, Tryd.ntmps13
    go_wp2_with (first | (go_at_call 20; refine HL.out.mono ?_; rintro e w1 ⟨rfl, rfl⟩) | (go_at_call 24; refine HW.out.mono ?_; rintro e w1 ⟨rfl, rfl⟩))
    go_ret3
    exact ⟨rfl, rfl⟩

theorem typ_hit {k : Nat} (hk : k < 37) (h : isV k = true) : typT (elm k) (mny k) = k ∧ typB (elm k) (mny k) = true := by
  have T : ∀ k : Fin 37, isV (k : Nat) = true → typT (elm (k : Nat)) (mny (k : Nat)) = (k : Nat) ∧ typB (elm (k : Nat)) (mny (k : Nat)) = true := by decide +kernel
  exact T ⟨k, hk⟩ h
theorem typ_miss {e m : Int} (h : ∀ j : Nat, j < 37 → ¬ (isV j = true ∧ elm j = e ∧ mny j = m)) : typT e m = 0 ∧ typB e m = false := by
  have hf : (vecs.find? fun p => p.1 == (e, m)) = none := by
    rw [List.find?_eq_none]
    intro p hp hb
    have hb' : p.1 = (e, m) := by simpa using hb
    have T : ∀ p ∈ vecs, p.2.toNat < 37 ∧ isV (p.2.toNat : Nat) = true ∧ elm (p.2.toNat : Nat) = p.1.1 ∧ mny (p.2.toNat : Nat) = p.1.2 := by decide +kernel
    obtain ⟨h1, h2, h3, h4⟩ := T p hp
    exact h _ h1 ⟨h2, by rw [h3, hb'], by rw [h4, hb']⟩
  rw [typB, typT, hf]
  exact ⟨rfl, rfl⟩

theorem not_step {p : Nat → Prop} {k : Nat} (h : ∀ j : Nat, j < k → ¬ p j) (hk : ¬ p k) : ∀ j : Nat, j < k + 1 → ¬ p j := fun j hj => by
  rcases Nat.lt_or_eq_of_le (Nat.lt_succ_iff.1 hj) with h' | rfl
  · exact h j h'
  · exact hk

theorem rtyped_any (e m : Int) (w : World) :
    Calls Tryd.prog 18 #[.int .i64 e, .int .i64 m] w fun r w' => r = .returned (.tuple #[.int .i64 (typT e m), .bool (typB e m)]) ∧ w = w' := by
  go_enter Tryd.func18, Tryd.ntmps18
  go_wp2
  go_loop [6] (fun i => ∃ k : Nat, k ≤ 37 ∧ i = .int .i64 k ∧ Hid (∀ j : Nat, j < k → ¬ (isV j = true ∧ elm j = e ∧ mny j = m))) (fun i => 37 - (intOf i).toNat)
  case atStart => exact ⟨0, Nat.zero_le _, rfl, fun j hj => absurd hj (by omega)⟩
  case round =>
    obtain ⟨k, hk, rfl, HN⟩ := hrel
    by_cases hlt : k < 37
    · by_cases hv : isV k = true
      · by_cases he : elm k = e
        · by_cases hm : mny k = m
          · obtain ⟨c1, c2⟩ := typ_hit hlt hv
            rw [he, hm] at c1 c2
            have HC1 := Lib.hid c1
            have HC2 := Lib.hid c2
            have hl := relem_any (k : Int) w
            rw [hv, he, hm] at hl
            have HL := Lib.hid hl
            clear c1 c2 hl hv he hm
            go_wp2_with (go_at_call 16; refine HL.out.mono ?_; rintro r w1 ⟨rfl, rfl⟩)
            go_ret2
            rw [HC1.out, HC2.out]
            exact ⟨rfl, rfl⟩
          · have hl := relem_any (k : Int) w
            rw [hv, he] at hl
            have HL := Lib.hid hl
            have HM := Lib.hid (fun (x : isV k = true ∧ elm k = e ∧ mny k = m) => hm x.2.2)
            have b : (mny k == m) = false := by simpa using hm
            clear hl hv hm he
            generalize mny k = mk at HL b
            go_wp2_with (go_at_call 16; refine HL.out.mono ?_; rintro r w1 ⟨rfl, rfl⟩)
            go_round
            case rel => exact ⟨k + 1, by omega, by go_num, not_step HN.out HM.out⟩
            case measure => simp [intOf]; omega
        · have hl := relem_any (k : Int) w
          rw [hv] at hl
          have HL := Lib.hid hl
          have HM := Lib.hid (fun (x : isV k = true ∧ elm k = e ∧ mny k = m) => he x.2.1)
          have b : (elm k == e) = false := by simpa using he
          clear hl hv he
          generalize mny k = mk at HL
          generalize elm k = ek at HL b
          go_wp2_with (go_at_call 16; refine HL.out.mono ?_; rintro r w1 ⟨rfl, rfl⟩)
          go_round
          case rel => exact ⟨k + 1, by omega, by go_num, not_step HN.out HM.out⟩
          case measure => simp [intOf]; omega
      · have hl := relem_any (k : Int) w
        have hv' : isV k = false := by simpa using hv
        rw [hv'] at hl
        have HL := Lib.hid hl
        have HM := Lib.hid (fun (x : isV k = true ∧ elm k = e ∧ mny k = m) => hv x.1)
        clear hl hv hv'
        generalize mny k = mk at HL
        generalize elm k = ek at HL
        go_wp2_with (go_at_call 16; refine HL.out.mono ?_; rintro r w1 ⟨rfl, rfl⟩)
        go_round
        case rel => exact ⟨k + 1, by omega, by go_num, not_step HN.out HM.out⟩
        case measure => simp [intOf]; omega
    · obtain rfl : k = 37 := by omega
      obtain ⟨c1, c2⟩ := typ_miss HN.out
      have HC1 := Lib.hid c1
      have HC2 := Lib.hid c2
      clear c1 c2
      go_wp2
      go_ret2
      rw [HC1.out, HC2.out]
      exact ⟨rfl, rfl⟩
end Go.Proofs.YtocdmjbmeindgaaDoor
