/-
  What is proved here: the contract of tag.Pack and tag.Unpack: their results are those that the specification gives; condition: the tables hold what is laid, and the byte is a byte.
-/
import Derived.Test.YtocdmjbmeindgaaDoorTab
namespace Go.Proofs.YtocdmjbmeindgaaDoor
open Go.RowKit Tg

theorem idx0 (W : World) : (Instr.index 39 (.agg #[.int .i64 1, .int .i64 2, .int .i64 4, .int .i64 8]) (.int .i64 0)).run Tryd.prog W = .ok (.int .i64 1) W := by kernel_rfl
theorem idx1 (W : World) : (Instr.index 39 (.agg #[.int .i64 1, .int .i64 2, .int .i64 4, .int .i64 8]) (.int .i64 1)).run Tryd.prog W = .ok (.int .i64 2) W := by kernel_rfl
theorem idx2 (W : World) : (Instr.index 39 (.agg #[.int .i64 1, .int .i64 2, .int .i64 4, .int .i64 8]) (.int .i64 2)).run Tryd.prog W = .ok (.int .i64 4) W := by kernel_rfl
theorem idx3 (W : World) : (Instr.index 39 (.agg #[.int .i64 1, .int .i64 2, .int .i64 4, .int .i64 8]) (.int .i64 3)).run Tryd.prog W = .ok (.int .i64 8) W := by kernel_rfl

theorem wid0 : wid ((0 : Nat) : Int) = 1 := rfl
theorem wid1 : wid ((1 : Nat) : Int) = 2 := rfl
theorem wid2 : wid ((2 : Nat) : Int) = 4 := rfl
theorem wid3 : wid ((3 : Nat) : Int) = 8 := rfl

theorem pack_no (t x : Int) (w : World) (hT : Tab w) (h : legal t = false) :
    Calls Tryd.prog 10 #[.int .i64 t, .int .i64 x] w fun e w' => e = .returned (.tuple #[.int .u8 0, .int .i64 20]) ∧ Below w.heap.size w w' := by
  have hl := legal_any t w hT
  rw [h] at hl
  have HL := Lib.hid hl
  clear hl h hT
  go_enter Tryd.func10, Tryd.ntmps10
  go_wp2_with (go_at_call 19; refine HL.out.mono ?_; rintro e w1 ⟨rfl, hb⟩; have HB := Lib.hid hb; clear hb)
  go_ret2
  exact ⟨rfl, HB.out⟩

theorem pack_0 (t : Int) (w : World) (hT : Tab w) (h : legal t = true) :
    Calls Tryd.prog 10 #[.int .i64 t, .int .i64 1] w fun e w' => e = .returned (.tuple #[.int .u8 (4 * t + 0), .int .i64 0]) ∧ Below w.heap.size w w' := by
  obtain ⟨t0, t1⟩ := legal_in h
  have hl := legal_any t w hT
  rw [h] at hl
  have HL := Lib.hid hl
  have HT := Lib.hid hT
  clear hl h hT
  have hi0 := idx0
  have hi1 := idx1
  have hi2 := idx2
  have hi3 := idx3
  go_enter Tryd.func10, Tryd.ntmps10
  go_wp2_with (go_at_call 19; refine HL.out.mono ?_; rintro e w1 ⟨rfl, hb⟩; have HB := Lib.hid hb; clear hb; have hc0 := (HT.out.keep HB.out).2.1 0 (by omega); have hc1 := (HT.out.keep HB.out).2.1 1 (by omega); have hc2 := (HT.out.keep HB.out).2.1 2 (by omega); have hc3 := (HT.out.keep HB.out).2.1 3 (by omega); simp only [wid0, wid1, wid2, wid3] at hc0 hc1 hc2 hc3)
  go_loop [12] (fun i => ∃ k : Nat, k ≤ 0 ∧ i = .int .i64 k) (fun i => 5 - (intOf i).toNat)
  case atStart => exact ⟨0, Nat.zero_le _, rfl⟩
  case round =>
    obtain ⟨k, hk, rfl⟩ := hrel
    rcases (show k = 0 by omega) with rfl
    · go_wp2
      go_ret2
      exact ⟨rfl, HB.out⟩

theorem pack_1 (t : Int) (w : World) (hT : Tab w) (h : legal t = true) :
    Calls Tryd.prog 10 #[.int .i64 t, .int .i64 2] w fun e w' => e = .returned (.tuple #[.int .u8 (4 * t + 1), .int .i64 0]) ∧ Below w.heap.size w w' := by
  obtain ⟨t0, t1⟩ := legal_in h
  have hl := legal_any t w hT
  rw [h] at hl
  have HL := Lib.hid hl
  have HT := Lib.hid hT
  clear hl h hT
  have hi0 := idx0
  have hi1 := idx1
  have hi2 := idx2
  have hi3 := idx3
  go_enter Tryd.func10, Tryd.ntmps10
  go_wp2_with (go_at_call 19; refine HL.out.mono ?_; rintro e w1 ⟨rfl, hb⟩; have HB := Lib.hid hb; clear hb; have hc0 := (HT.out.keep HB.out).2.1 0 (by omega); have hc1 := (HT.out.keep HB.out).2.1 1 (by omega); have hc2 := (HT.out.keep HB.out).2.1 2 (by omega); have hc3 := (HT.out.keep HB.out).2.1 3 (by omega); simp only [wid0, wid1, wid2, wid3] at hc0 hc1 hc2 hc3)
  go_loop [12] (fun i => ∃ k : Nat, k ≤ 1 ∧ i = .int .i64 k) (fun i => 5 - (intOf i).toNat)
  case atStart => exact ⟨0, Nat.zero_le _, rfl⟩
  case round =>
    obtain ⟨k, hk, rfl⟩ := hrel
    rcases (show k = 0 ∨ k = 1 by omega) with rfl | rfl
    · go_wp2
      go_round
      case rel => exact ⟨1, by omega, rfl⟩
      case measure => simp [intOf]
    · go_wp2
      go_ret2
      exact ⟨rfl, HB.out⟩

theorem pack_2 (t : Int) (w : World) (hT : Tab w) (h : legal t = true) :
    Calls Tryd.prog 10 #[.int .i64 t, .int .i64 4] w fun e w' => e = .returned (.tuple #[.int .u8 (4 * t + 2), .int .i64 0]) ∧ Below w.heap.size w w' := by
  obtain ⟨t0, t1⟩ := legal_in h
  have hl := legal_any t w hT
  rw [h] at hl
  have HL := Lib.hid hl
  have HT := Lib.hid hT
  clear hl h hT
  have hi0 := idx0
  have hi1 := idx1
  have hi2 := idx2
  have hi3 := idx3
  go_enter Tryd.func10, Tryd.ntmps10
  go_wp2_with (go_at_call 19; refine HL.out.mono ?_; rintro e w1 ⟨rfl, hb⟩; have HB := Lib.hid hb; clear hb; have hc0 := (HT.out.keep HB.out).2.1 0 (by omega); have hc1 := (HT.out.keep HB.out).2.1 1 (by omega); have hc2 := (HT.out.keep HB.out).2.1 2 (by omega); have hc3 := (HT.out.keep HB.out).2.1 3 (by omega); simp only [wid0, wid1, wid2, wid3] at hc0 hc1 hc2 hc3)
  go_loop [12] (fun i => ∃ k : Nat, k ≤ 2 ∧ i = .int .i64 k) (fun i => 5 - (intOf i).toNat)
  case atStart => exact ⟨0, Nat.zero_le _, rfl⟩
  case round =>
    obtain ⟨k, hk, rfl⟩ := hrel
    rcases (show k = 0 ∨ k = 1 ∨ k = 2 by omega) with rfl | rfl | rfl
    · go_wp2
      go_round
      case rel => exact ⟨1, by omega, rfl⟩
      case measure => simp [intOf]
    · go_wp2
      go_round
      case rel => exact ⟨2, by omega, rfl⟩
      case measure => simp [intOf]
    · go_wp2
      go_ret2
      exact ⟨rfl, HB.out⟩

theorem pack_3 (t : Int) (w : World) (hT : Tab w) (h : legal t = true) :
    Calls Tryd.prog 10 #[.int .i64 t, .int .i64 8] w fun e w' => e = .returned (.tuple #[.int .u8 (4 * t + 3), .int .i64 0]) ∧ Below w.heap.size w w' := by
  obtain ⟨t0, t1⟩ := legal_in h
  have hl := legal_any t w hT
  rw [h] at hl
  have HL := Lib.hid hl
  have HT := Lib.hid hT
  clear hl h hT
  have hi0 := idx0
  have hi1 := idx1
  have hi2 := idx2
  have hi3 := idx3
  go_enter Tryd.func10, Tryd.ntmps10
  go_wp2_with (go_at_call 19; refine HL.out.mono ?_; rintro e w1 ⟨rfl, hb⟩; have HB := Lib.hid hb; clear hb; have hc0 := (HT.out.keep HB.out).2.1 0 (by omega); have hc1 := (HT.out.keep HB.out).2.1 1 (by omega); have hc2 := (HT.out.keep HB.out).2.1 2 (by omega); have hc3 := (HT.out.keep HB.out).2.1 3 (by omega); simp only [wid0, wid1, wid2, wid3] at hc0 hc1 hc2 hc3)
  go_loop [12] (fun i => ∃ k : Nat, k ≤ 3 ∧ i = .int .i64 k) (fun i => 5 - (intOf i).toNat)
  case atStart => exact ⟨0, Nat.zero_le _, rfl⟩
  case round =>
    obtain ⟨k, hk, rfl⟩ := hrel
    rcases (show k = 0 ∨ k = 1 ∨ k = 2 ∨ k = 3 by omega) with rfl | rfl | rfl | rfl
    · go_wp2
      go_round
      case rel => exact ⟨1, by omega, rfl⟩
      case measure => simp [intOf]
    · go_wp2
      go_round
      case rel => exact ⟨2, by omega, rfl⟩
      case measure => simp [intOf]
    · go_wp2
      go_round
      case rel => exact ⟨3, by omega, rfl⟩
      case measure => simp [intOf]
    · go_wp2
      go_ret2
      exact ⟨rfl, HB.out⟩

theorem pack_4 (t x : Int) (w : World) (hT : Tab w) (h : legal t = true) (n1 : x ≠ 1) (n2 : x ≠ 2) (n4 : x ≠ 4) (n8 : x ≠ 8) :
    Calls Tryd.prog 10 #[.int .i64 t, .int .i64 x] w fun e w' => e = .returned (.tuple #[.int .u8 0, .int .i64 2]) ∧ Below w.heap.size w w' := by
  obtain ⟨t0, t1⟩ := legal_in h
  have hl := legal_any t w hT
  rw [h] at hl
  have HL := Lib.hid hl
  have HT := Lib.hid hT
  clear hl h hT
  have b1 : (1 == x) = false := by simp; omega
  have b2 : (2 == x) = false := by simp; omega
  have b4 : (4 == x) = false := by simp; omega
  have b8 : (8 == x) = false := by simp; omega
  clear n1 n2 n4 n8
  have hi0 := idx0
  have hi1 := idx1
  have hi2 := idx2
  have hi3 := idx3
  go_enter Tryd.func10, Tryd.ntmps10
  go_wp2_with (go_at_call 19; refine HL.out.mono ?_; rintro e w1 ⟨rfl, hb⟩; have HB := Lib.hid hb; clear hb; have hc0 := (HT.out.keep HB.out).2.1 0 (by omega); have hc1 := (HT.out.keep HB.out).2.1 1 (by omega); have hc2 := (HT.out.keep HB.out).2.1 2 (by omega); have hc3 := (HT.out.keep HB.out).2.1 3 (by omega); simp only [wid0, wid1, wid2, wid3] at hc0 hc1 hc2 hc3)
  go_loop [12] (fun i => ∃ k : Nat, k ≤ 4 ∧ i = .int .i64 k) (fun i => 5 - (intOf i).toNat)
  case atStart => exact ⟨0, Nat.zero_le _, rfl⟩
  case round =>
    obtain ⟨k, hk, rfl⟩ := hrel
    rcases (show k = 0 ∨ k = 1 ∨ k = 2 ∨ k = 3 ∨ k = 4 by omega) with rfl | rfl | rfl | rfl | rfl
    · go_wp2
      go_round
      case rel => exact ⟨1, by omega, rfl⟩
      case measure => simp [intOf]
    · go_wp2
      go_round
      case rel => exact ⟨2, by omega, rfl⟩
      case measure => simp [intOf]
    · go_wp2
      go_round
      case rel => exact ⟨3, by omega, rfl⟩
      case measure => simp [intOf]
    · go_wp2
      go_round
      case rel => exact ⟨4, by omega, rfl⟩
      case measure => simp [intOf]
    · go_wp2
      go_ret2
      exact ⟨rfl, HB.out⟩

theorem packC_of {t x : Int} (h : legal t = true) (hc : code x < 4) : packC t x = 4 * t + code x := by rw [packC, if_pos ⟨h, hc⟩]
theorem pack_any (t x : Int) (w : World) (hT : Tab w) :
    Calls Tryd.prog 10 #[.int .i64 t, .int .i64 x] w fun e w' => e = .returned (.tuple #[.int .u8 (packC t x), .int .i64 (packE t x)]) ∧ Below w.heap.size w w' := by
  cases h : legal t
  · rw [packC, packE, if_neg (by rw [h]; simp), if_neg (by rw [h]; simp)]
    exact pack_no t x w hT h
  · rw [packE, if_pos h]
    rcases code_cases x with ⟨rfl, e⟩ | ⟨rfl, e⟩ | ⟨rfl, e⟩ | ⟨rfl, e⟩ | ⟨n1, n2, n4, n8, e⟩
    · rw [packC_of h (by rw [e]; decide), e]; exact pack_0 t w hT h
    · rw [packC_of h (by rw [e]; decide), e]; exact pack_1 t w hT h
    · rw [packC_of h (by rw [e]; decide), e]; exact pack_2 t w hT h
    · rw [packC_of h (by rw [e]; decide), e]; exact pack_3 t w hT h
    · rw [packC, if_neg (by rw [e]; simp), e]; exact pack_4 t x w hT h n1 n2 n4 n8

theorem unpack_any (c : Int) (w : World) (hT : Tab w) (h0 : 0 ≤ c) (h1 : c ≤ 255) :
    Calls Tryd.prog 12 #[.int .u8 c] w fun e w' => e = .returned (.tuple #[.int .i64 (unT c), .int .i64 (unW c), .int .i64 (unE c)]) ∧ Below w.heap.size w w' := by
  cases h : legal (c / 4)
  · rw [unT, unW, unE, h]
    exact unpack_no c w hT h h0 h1
  · rw [unT, unW, unE, h]
    exact unpack_yes c w hT h h0 h1
end Go.Proofs.YtocdmjbmeindgaaDoor
