/-
  What is proved here: contracts of the digits of a \u sequence (digitOf, add, bounds, complete) and of the small functions of the reference's helper; conditions: those that each fact states.
-/
import Derived.Test.YtodmlgbomhmbpaaGreatDoorMem
namespace Go.Proofs.YtodmlgbomhmbpaaGreatDoor
open Go.RowKit Ut

def dvR (c : Nat) : Value := match dv c with
  | some d => .tuple #[.int .i32 d, .bool true]
  | none => .tuple #[.int .i32 0, .bool false]
theorem dv_a {c : Nat} (h : 48 ≤ c ∧ c ≤ 57) : dv c = some (c - 48) := by unfold dv; rw [if_pos h]
theorem dv_b {c : Nat} (h : 97 ≤ c ∧ c ≤ 102) : dv c = some (c - 87) := by unfold dv; rw [if_neg (by omega), if_pos h]
theorem dv_c {c : Nat} (h : 65 ≤ c ∧ c ≤ 70) : dv c = some (c - 55) := by unfold dv; rw [if_neg (by omega), if_neg (by omega), if_pos h]
theorem dv_d {c : Nat} (h : ¬ (48 ≤ c ∧ c ≤ 57)) (h1 : ¬ (97 ≤ c ∧ c ≤ 102)) (h2 : ¬ (65 ≤ c ∧ c ≤ 70)) : dv c = none := by unfold dv; rw [if_neg h, if_neg h1, if_neg h2]

set_option maxHeartbeats 1000000 in
theorem digitOf_any (c : Nat) (w : World) (hc : c < 256) :
    Calls Tryz.prog 90 #[.int .u8 (c : Int)] w fun e w' => e = .returned (dvR c) ∧ w = w' := by
  by_cases h1 : 48 ≤ c ∧ c ≤ 57
  · have hd : dvR c = .tuple #[.int .i32 ((c : Int) - 48), .bool true] := by simp [dvR, dv_a h1]; omega
    rw [hd]
    obtain ⟨h1a, h1b⟩ := h1
    clear hd
    go_enter Tryz.func90, Tryz.ntmps90
    go_wp2
    go_ret2
    exact ⟨rfl, rfl⟩
  · by_cases h2 : 97 ≤ c ∧ c ≤ 102
    · have hd : dvR c = .tuple #[.int .i32 ((c : Int) - 97 + 10), .bool true] := by simp [dvR, dv_b h2]; omega
      rw [hd]
      obtain ⟨h2a, h2b⟩ := h2
      have h3 : ¬ c ≤ 57 := by omega
      clear hd h1
      go_enter Tryz.func90, Tryz.ntmps90
      go_wp2
      go_ret2
      exact ⟨rfl, rfl⟩
    · by_cases h3 : 65 ≤ c ∧ c ≤ 70
      · have hd : dvR c = .tuple #[.int .i32 ((c : Int) - 65 + 10), .bool true] := by simp [dvR, dv_c h3]; omega
        rw [hd]
        obtain ⟨h3a, h3b⟩ := h3
        have h4 : ¬ c ≤ 57 := by omega
        have h5 : ¬ 97 ≤ c := by omega
        clear hd h1 h2
        go_enter Tryz.func90, Tryz.ntmps90
        go_wp2
        go_ret2
        exact ⟨rfl, rfl⟩
      · have hd : dvR c = .tuple #[.int .i32 0, .bool false] := by simp [dvR, dv_d h1 h2 h3]
        rw [hd]
        clear hd
        go_enter Tryz.func90, Tryz.ntmps90
        go_wp2
        all_goals first
          | (exfalso; omega)
          | (go_ret2; exact ⟨rfl, rfl⟩)

/-- add, a digit: at the cells of a number. -/
theorem add_yes (R o c d code dig : Nat) (w : World) (hc : c < 256) (hdv : dv c = some d) (h0 : w.cell? ⟨R, o, none⟩ = some (.int .i32 code)) (h1 : w.cell? ⟨R, o + 1, none⟩ = some (.int .i64 dig))
    (f0 : w.frozen? ⟨R, o, none⟩ = false) (f1 : w.frozen? ⟨R, o + 1, none⟩ = false) (hcode : code < 4096) (hdig : dig < 4) :
    Calls Tryz.prog 84 #[.pointer (some ⟨R, o, none⟩), .int .u8 (c : Int)] w fun e w' => e = .returned (.bool true) ∧ w' = (w.setCell ⟨R, o, none⟩ (.int .i32 ((code * 16 + d : Nat) : Int))).setCell ⟨R, o + 1, none⟩ (.int .i64 ((dig + 1 : Nat) : Int)) := by
  have hd := dv_lt hdv
  have hr : dvR c = .tuple #[.int .i32 (d : Int), .bool true] := by simp [dvR, hdv]
  have C := digitOf_any c w hc
  rw [hr] at C
  have HC := Lib.hid C
  clear C hr hdv
  go_enter Tryz.func84, Tryz.ntmps84
  go_wp2_with (go_at_call 90; refine HC.out.mono ?_; rintro e w1 ⟨rfl, rfl⟩)
  go_ret
  exact ⟨rfl, by rw [show ((code * 16 + d : Nat) : Int) = (code : Int) * 16 + d by omega, show ((dig + 1 : Nat) : Int) = (dig : Int) + 1 by omega]⟩
theorem add_no (R o c : Nat) (w : World) (hc : c < 256) (hdv : dv c = none) :
    Calls Tryz.prog 84 #[.pointer (some ⟨R, o, none⟩), .int .u8 (c : Int)] w fun e w' => e = .returned (.bool false) ∧ w = w' := by
  have hr : dvR c = .tuple #[.int .i32 (0 : Int), .bool false] := by simp [dvR, hdv]
  have C := digitOf_any c w hc
  rw [hr] at C
  have HC := Lib.hid C
  clear C hr hdv
  go_enter Tryz.func84, Tryz.ntmps84
  go_wp2_with (go_at_call 90; refine HC.out.mono ?_; rintro e w1 ⟨rfl, rfl⟩)
  go_ret
  exact ⟨rfl, rfl⟩

theorem below_drewN {B : Nat} {a w : World} (h : Below B a w) (n : Nat) : Below B a (w.drewN n) := ⟨h.os, h.tape, h.output, h.size, h.block⟩
theorem bounds_any (code : Nat) (dig : Nat) (w : World) (hcode : code < 65536) (hdig : dig = 1 ∨ dig = 2 ∨ dig = 3 ∨ dig = 4) (hlt : code < 16 ^ dig) :
    Calls Tryz.prog 85 #[.agg #[.int .i32 code, .int .i64 dig]] w fun e w' => e = .returned (.tuple #[.int .i32 (lo code dig), .int .i32 (hi code dig)]) ∧ Below w.heap.size w w' := by
  rcases hdig with rfl | rfl | rfl | rfl
  · have e1 : (lo code 1 : Int) = (code : Int) * 4096 := by unfold lo; omega
    have e2 : (hi code 1 : Int) = (code : Int) * 4096 + 4096 - 1 := by unfold hi; omega
    rw [e1, e2]
    have hc : (code : Int) < 16 := by omega
    clear e1 e2 hlt hcode
    go_enter Tryz.func85, Tryz.ntmps85
    go_wp2
    go_quiet (fail)
    go_wp2
    exact bodyPost_ret (v := .tuple #[.int .i32 ((code : Int) * 4096), .int .i32 ((code : Int) * 4096 + 4096 - 1)]) (by simp [results, Tryz.results85, go_sem]) rfl ⟨rfl, below_drewN ((Below.refl _ _).alloc (Nat.le_refl _) _) _⟩
  · have e1 : (lo code 2 : Int) = (code : Int) * 256 := by unfold lo; omega
    have e2 : (hi code 2 : Int) = (code : Int) * 256 + 256 - 1 := by unfold hi; omega
    rw [e1, e2]
    have hc : (code : Int) < 256 := by omega
    clear e1 e2 hlt hcode
    go_enter Tryz.func85, Tryz.ntmps85
    go_wp2
    go_quiet (fail)
    go_wp2
    exact bodyPost_ret (v := .tuple #[.int .i32 ((code : Int) * 256), .int .i32 ((code : Int) * 256 + 256 - 1)]) (by simp [results, Tryz.results85, go_sem]) rfl ⟨rfl, below_drewN ((Below.refl _ _).alloc (Nat.le_refl _) _) _⟩
  · have e1 : (lo code 3 : Int) = (code : Int) * 16 := by unfold lo; omega
    have e2 : (hi code 3 : Int) = (code : Int) * 16 + 16 - 1 := by unfold hi; omega
    rw [e1, e2]
    have hc : (code : Int) < 4096 := by omega
    clear e1 e2 hlt hcode
    go_enter Tryz.func85, Tryz.ntmps85
    go_wp2
    go_quiet (fail)
    go_wp2
    exact bodyPost_ret (v := .tuple #[.int .i32 ((code : Int) * 16), .int .i32 ((code : Int) * 16 + 16 - 1)]) (by simp [results, Tryz.results85, go_sem]) rfl ⟨rfl, below_drewN ((Below.refl _ _).alloc (Nat.le_refl _) _) _⟩
  · have e1 : (lo code 4 : Int) = (code : Int) := by unfold lo; omega
    have e2 : (hi code 4 : Int) = (code : Int) + 1 - 1 := by unfold hi; omega
    rw [e1, e2]
    have hc : (code : Int) < 65536 := by omega
    clear e1 e2 hlt hcode
    go_enter Tryz.func85, Tryz.ntmps85
    go_wp2
    go_quiet (fail)
    go_wp2
    exact bodyPost_ret (v := .tuple #[.int .i32 ((code : Int)), .int .i32 ((code : Int) + 1 - 1)]) (by simp [results, Tryz.results85, go_sem]) rfl ⟨rfl, below_drewN ((Below.refl _ _).alloc (Nat.le_refl _) _) _⟩
theorem complete_any (code dig : Nat) (w : World) :
    Calls Tryz.prog 86 #[.agg #[.int .i32 code, .int .i64 dig]] w fun e w' => e = .returned (.bool ((dig : Int) == 4)) ∧ Below w.heap.size w w' := by
  go_enter Tryz.func86, Tryz.ntmps86
  go_wp2
  exact bodyPost_ret (v := .bool ((dig : Int) == 4)) (by simp [results, Tryz.results86, go_sem]) rfl ⟨rfl, (Below.refl _ _).alloc (Nat.le_refl _) _⟩
end Go.Proofs.YtodmlgbomhmbpaaGreatDoor
