/-
  What is proved here: what utf8.Valid answers of one to four bytes of an own row (some classes of lead bytes); conditions: the library's two tables hold what is laid, and those that each fact states.
-/
import Derived.Test.YtodmlgbomhmbpaaGreatDoorValid
namespace Go.Proofs.YtodmlgbomhmbpaaGreatDoor
open Go.RowKit Ut Go.Lib

set_option maxHeartbeats 2000000 in
set_option maxRecDepth 1000000 in
theorem valid_2 (g c : Nat) (w : World) (b0 b1 : Nat) (hb0 : b0 < 256) (hb1 : b1 < 256) (hge : 128 ≤ b0) (hf : w.cell? ⟨4, b0, none⟩ = some (.int .u8 ((2 : Nat) : Int))) (h0 : w.cell? ⟨g, 0, none⟩ = some (.int .u8 (b0 : Int))) (h1 : w.cell? ⟨g, 1, none⟩ = some (.int .u8 (b1 : Int)))
    (hl : w.cell? ⟨5, 0, none⟩ = some (.int .u8 128)) (hh : w.cell? ⟨5, 1, none⟩ = some (.int .u8 191)) (hc : 2 ≤ c) (hg : g < w.heap.size) :
    Calls Tryz.prog 82 #[.slice (some ⟨g, 0, none⟩) 2 c] w fun e w' => e = .returned (.bool (decide (128 ≤ b1) && decide (b1 ≤ 191))) ∧ Below w.heap.size w w' := by
  obtain ⟨R, hR⟩ : ∃ R, (decide (128 ≤ b1) && decide (b1 ≤ 191)) = R := ⟨_, rfl⟩
  rw [hR]
  have HR := Lib.hid hR
  clear hR
  go_enter Tryz.func82, Tryz.ntmps82
  go_wp2
  go_loopw [0] (fun p wr => (p = .slice (some ⟨g, 0, none⟩) 2 2 ∧ wr = w) ∨ (∃ A k, p = .slice A 0 k ∧ Below w.heap.size w wr ∧ R = true)) (fun p _ => lenOf p)
  case atStart => exact Or.inl ⟨rfl, rfl⟩
  case round =>
    rcases hrel with ⟨rfl, rfl⟩ | ⟨A, k, rfl, hb, rfl⟩
    · go_wp2
      by_cases k0 : 128 ≤ b1
      rotate_left
      · have d0 : decide ((b1 : Int) < 128) = true := decide_eq_true (by omega)
        have hres : R = false := by rw [← HR.out]; simp [k0]
        subst hres
        go_quiet (fail)
        go_wp2
        go_ret
        exact ⟨rfl, below_drewN ((Below.refl _ _).alloc (Nat.le_refl _) _) _⟩
      have d0 : decide ((b1 : Int) < 128) = false := decide_eq_false (by omega)
      by_cases k1 : b1 ≤ 191
      rotate_left
      · have d1 : decide (191 < (b1 : Int)) = true := decide_eq_true (by omega)
        have hres : R = false := by rw [← HR.out]; simp [k1]
        subst hres
        go_quiet (fail)
        go_wp2
        go_ret
        exact ⟨rfl, below_drewN ((Below.refl _ _).alloc (Nat.le_refl _) _) _⟩
      have d1 : decide (191 < (b1 : Int)) = false := decide_eq_false (by omega)
      have hres : R = true := by rw [← HR.out]; simp [k0, k1]
      subst hres
      go_quiet (fail)
      go_wp2
      go_roundw
      case rel => exact Or.inr ⟨_, _, rfl, below_drewN ((Below.refl _ _).alloc (Nat.le_refl _) _) _, (by first | trivial | rfl)⟩
      case measure => simp [lenOf]
    · go_wp2
      go_ret
      exact ⟨rfl, hb⟩
set_option maxHeartbeats 2000000 in
set_option maxRecDepth 1000000 in
theorem short_2 (g n c : Nat) (w : World) (b0 : Nat) (hb0 : b0 < 256) (hge : 128 ≤ b0) (hn : 1 ≤ n) (hlt : n < 2) (hf : w.cell? ⟨4, b0, none⟩ = some (.int .u8 ((2 : Nat) : Int))) (h0 : w.cell? ⟨g, 0, none⟩ = some (.int .u8 (b0 : Int)))
    (hl : w.cell? ⟨5, 0, none⟩ = some (.int .u8 128)) (hh : w.cell? ⟨5, 1, none⟩ = some (.int .u8 191)) (hc : n ≤ c) :
    Calls Tryz.prog 82 #[.slice (some ⟨g, 0, none⟩) n c] w fun e w' => e = .returned (.bool false) ∧ Below w.heap.size w w' := by
  go_enter Tryz.func82, Tryz.ntmps82
  go_wp2
  go_loopw [0] (fun p wr => (p = .slice (some ⟨g, 0, none⟩) n n ∧ wr = w)) (fun p _ => lenOf p)
  case atStart => exact ⟨rfl, rfl⟩
  case round =>
    obtain ⟨rfl, rfl⟩ := hrel
    have d0 : decide ((n : Int) < 2) = true := decide_eq_true (by omega)
    go_wp2
    go_quiet (fail)
    go_wp2
    go_ret
    exact ⟨rfl, below_drewN ((Below.refl _ _).alloc (Nat.le_refl _) _) _⟩
set_option maxHeartbeats 2000000 in
set_option maxRecDepth 1000000 in
theorem valid_19 (g c : Nat) (w : World) (b0 b1 b2 : Nat) (hb0 : b0 < 256) (hb1 : b1 < 256) (hb2 : b2 < 256) (hge : 128 ≤ b0) (hf : w.cell? ⟨4, b0, none⟩ = some (.int .u8 ((19 : Nat) : Int))) (h0 : w.cell? ⟨g, 0, none⟩ = some (.int .u8 (b0 : Int))) (h1 : w.cell? ⟨g, 1, none⟩ = some (.int .u8 (b1 : Int))) (h2 : w.cell? ⟨g, 2, none⟩ = some (.int .u8 (b2 : Int)))
    (hl : w.cell? ⟨5, 2, none⟩ = some (.int .u8 160)) (hh : w.cell? ⟨5, 3, none⟩ = some (.int .u8 191)) (hc : 3 ≤ c) (hg : g < w.heap.size) :
    Calls Tryz.prog 82 #[.slice (some ⟨g, 0, none⟩) 3 c] w fun e w' => e = .returned (.bool (decide (160 ≤ b1) && decide (b1 ≤ 191) && decide (128 ≤ b2) && decide (b2 ≤ 191))) ∧ Below w.heap.size w w' := by
  obtain ⟨R, hR⟩ : ∃ R, (decide (160 ≤ b1) && decide (b1 ≤ 191) && decide (128 ≤ b2) && decide (b2 ≤ 191)) = R := ⟨_, rfl⟩
  rw [hR]
  have HR := Lib.hid hR
  clear hR
  go_enter Tryz.func82, Tryz.ntmps82
  go_wp2
  go_loopw [0] (fun p wr => (p = .slice (some ⟨g, 0, none⟩) 3 3 ∧ wr = w) ∨ (∃ A k, p = .slice A 0 k ∧ Below w.heap.size w wr ∧ R = true)) (fun p _ => lenOf p)
  case atStart => exact Or.inl ⟨rfl, rfl⟩
  case round =>
    rcases hrel with ⟨rfl, rfl⟩ | ⟨A, k, rfl, hb, rfl⟩
    · go_wp2
      by_cases k0 : 160 ≤ b1
      rotate_left
      · have d0 : decide ((b1 : Int) < 160) = true := decide_eq_true (by omega)
        have hres : R = false := by rw [← HR.out]; simp [k0]
        subst hres
        go_quiet (fail)
        go_wp2
        go_ret
        exact ⟨rfl, below_drewN ((Below.refl _ _).alloc (Nat.le_refl _) _) _⟩
      have d0 : decide ((b1 : Int) < 160) = false := decide_eq_false (by omega)
      by_cases k1 : b1 ≤ 191
      rotate_left
      · have d1 : decide (191 < (b1 : Int)) = true := decide_eq_true (by omega)
        have hres : R = false := by rw [← HR.out]; simp [k1]
        subst hres
        go_quiet (fail)
        go_wp2
        go_ret
        exact ⟨rfl, below_drewN ((Below.refl _ _).alloc (Nat.le_refl _) _) _⟩
      have d1 : decide (191 < (b1 : Int)) = false := decide_eq_false (by omega)
      by_cases k2 : 128 ≤ b2
      rotate_left
      · have d2 : decide ((b2 : Int) < 128) = true := decide_eq_true (by omega)
        have hres : R = false := by rw [← HR.out]; simp [k2]
        subst hres
        go_quiet (fail)
        go_wp2
        go_ret
        exact ⟨rfl, below_drewN ((Below.refl _ _).alloc (Nat.le_refl _) _) _⟩
      have d2 : decide ((b2 : Int) < 128) = false := decide_eq_false (by omega)
      by_cases k3 : b2 ≤ 191
      rotate_left
      · have d3 : decide (191 < (b2 : Int)) = true := decide_eq_true (by omega)
        have hres : R = false := by rw [← HR.out]; simp [k3]
        subst hres
        go_quiet (fail)
        go_wp2
        go_ret
        exact ⟨rfl, below_drewN ((Below.refl _ _).alloc (Nat.le_refl _) _) _⟩
      have d3 : decide (191 < (b2 : Int)) = false := decide_eq_false (by omega)
      have hres : R = true := by rw [← HR.out]; simp [k0, k1, k2, k3]
      subst hres
      go_quiet (fail)
      go_wp2
      go_roundw
      case rel => exact Or.inr ⟨_, _, rfl, below_drewN ((Below.refl _ _).alloc (Nat.le_refl _) _) _, (by first | trivial | rfl)⟩
      case measure => simp [lenOf]
    · go_wp2
      go_ret
      exact ⟨rfl, hb⟩
set_option maxHeartbeats 2000000 in
set_option maxRecDepth 1000000 in
theorem short_19 (g n c : Nat) (w : World) (b0 : Nat) (hb0 : b0 < 256) (hge : 128 ≤ b0) (hn : 1 ≤ n) (hlt : n < 3) (hf : w.cell? ⟨4, b0, none⟩ = some (.int .u8 ((19 : Nat) : Int))) (h0 : w.cell? ⟨g, 0, none⟩ = some (.int .u8 (b0 : Int)))
    (hl : w.cell? ⟨5, 2, none⟩ = some (.int .u8 160)) (hh : w.cell? ⟨5, 3, none⟩ = some (.int .u8 191)) (hc : n ≤ c) :
    Calls Tryz.prog 82 #[.slice (some ⟨g, 0, none⟩) n c] w fun e w' => e = .returned (.bool false) ∧ Below w.heap.size w w' := by
  go_enter Tryz.func82, Tryz.ntmps82
  go_wp2
  go_loopw [0] (fun p wr => (p = .slice (some ⟨g, 0, none⟩) n n ∧ wr = w)) (fun p _ => lenOf p)
  case atStart => exact ⟨rfl, rfl⟩
  case round =>
    obtain ⟨rfl, rfl⟩ := hrel
    have d0 : decide ((n : Int) < 3) = true := decide_eq_true (by omega)
    go_wp2
    go_quiet (fail)
    go_wp2
    go_ret
    exact ⟨rfl, below_drewN ((Below.refl _ _).alloc (Nat.le_refl _) _) _⟩
set_option maxHeartbeats 2000000 in
set_option maxRecDepth 1000000 in
theorem valid_3 (g c : Nat) (w : World) (b0 b1 b2 : Nat) (hb0 : b0 < 256) (hb1 : b1 < 256) (hb2 : b2 < 256) (hge : 128 ≤ b0) (hf : w.cell? ⟨4, b0, none⟩ = some (.int .u8 ((3 : Nat) : Int))) (h0 : w.cell? ⟨g, 0, none⟩ = some (.int .u8 (b0 : Int))) (h1 : w.cell? ⟨g, 1, none⟩ = some (.int .u8 (b1 : Int))) (h2 : w.cell? ⟨g, 2, none⟩ = some (.int .u8 (b2 : Int)))
    (hl : w.cell? ⟨5, 0, none⟩ = some (.int .u8 128)) (hh : w.cell? ⟨5, 1, none⟩ = some (.int .u8 191)) (hc : 3 ≤ c) (hg : g < w.heap.size) :
    Calls Tryz.prog 82 #[.slice (some ⟨g, 0, none⟩) 3 c] w fun e w' => e = .returned (.bool (decide (128 ≤ b1) && decide (b1 ≤ 191) && decide (128 ≤ b2) && decide (b2 ≤ 191))) ∧ Below w.heap.size w w' := by
  obtain ⟨R, hR⟩ : ∃ R, (decide (128 ≤ b1) && decide (b1 ≤ 191) && decide (128 ≤ b2) && decide (b2 ≤ 191)) = R := ⟨_, rfl⟩
  rw [hR]
  have HR := Lib.hid hR
  clear hR
  go_enter Tryz.func82, Tryz.ntmps82
  go_wp2
  go_loopw [0] (fun p wr => (p = .slice (some ⟨g, 0, none⟩) 3 3 ∧ wr = w) ∨ (∃ A k, p = .slice A 0 k ∧ Below w.heap.size w wr ∧ R = true)) (fun p _ => lenOf p)
  case atStart => exact Or.inl ⟨rfl, rfl⟩
  case round =>
    rcases hrel with ⟨rfl, rfl⟩ | ⟨A, k, rfl, hb, rfl⟩
    · go_wp2
      by_cases k0 : 128 ≤ b1
      rotate_left
      · have d0 : decide ((b1 : Int) < 128) = true := decide_eq_true (by omega)
        have hres : R = false := by rw [← HR.out]; simp [k0]
        subst hres
        go_quiet (fail)
        go_wp2
        go_ret
        exact ⟨rfl, below_drewN ((Below.refl _ _).alloc (Nat.le_refl _) _) _⟩
      have d0 : decide ((b1 : Int) < 128) = false := decide_eq_false (by omega)
      by_cases k1 : b1 ≤ 191
      rotate_left
      · have d1 : decide (191 < (b1 : Int)) = true := decide_eq_true (by omega)
        have hres : R = false := by rw [← HR.out]; simp [k1]
        subst hres
        go_quiet (fail)
        go_wp2
        go_ret
        exact ⟨rfl, below_drewN ((Below.refl _ _).alloc (Nat.le_refl _) _) _⟩
      have d1 : decide (191 < (b1 : Int)) = false := decide_eq_false (by omega)
      by_cases k2 : 128 ≤ b2
      rotate_left
      · have d2 : decide ((b2 : Int) < 128) = true := decide_eq_true (by omega)
        have hres : R = false := by rw [← HR.out]; simp [k2]
        subst hres
        go_quiet (fail)
        go_wp2
        go_ret
        exact ⟨rfl, below_drewN ((Below.refl _ _).alloc (Nat.le_refl _) _) _⟩
      have d2 : decide ((b2 : Int) < 128) = false := decide_eq_false (by omega)
      by_cases k3 : b2 ≤ 191
      rotate_left
      · have d3 : decide (191 < (b2 : Int)) = true := decide_eq_true (by omega)
        have hres : R = false := by rw [← HR.out]; simp [k3]
        subst hres
        go_quiet (fail)
        go_wp2
        go_ret
        exact ⟨rfl, below_drewN ((Below.refl _ _).alloc (Nat.le_refl _) _) _⟩
      have d3 : decide (191 < (b2 : Int)) = false := decide_eq_false (by omega)
      have hres : R = true := by rw [← HR.out]; simp [k0, k1, k2, k3]
      subst hres
      go_quiet (fail)
      go_wp2
      go_roundw
      case rel => exact Or.inr ⟨_, _, rfl, below_drewN ((Below.refl _ _).alloc (Nat.le_refl _) _) _, (by first | trivial | rfl)⟩
      case measure => simp [lenOf]
    · go_wp2
      go_ret
      exact ⟨rfl, hb⟩
set_option maxHeartbeats 2000000 in
set_option maxRecDepth 1000000 in
theorem short_3 (g n c : Nat) (w : World) (b0 : Nat) (hb0 : b0 < 256) (hge : 128 ≤ b0) (hn : 1 ≤ n) (hlt : n < 3) (hf : w.cell? ⟨4, b0, none⟩ = some (.int .u8 ((3 : Nat) : Int))) (h0 : w.cell? ⟨g, 0, none⟩ = some (.int .u8 (b0 : Int)))
    (hl : w.cell? ⟨5, 0, none⟩ = some (.int .u8 128)) (hh : w.cell? ⟨5, 1, none⟩ = some (.int .u8 191)) (hc : n ≤ c) :
    Calls Tryz.prog 82 #[.slice (some ⟨g, 0, none⟩) n c] w fun e w' => e = .returned (.bool false) ∧ Below w.heap.size w w' := by
  go_enter Tryz.func82, Tryz.ntmps82
  go_wp2
  go_loopw [0] (fun p wr => (p = .slice (some ⟨g, 0, none⟩) n n ∧ wr = w)) (fun p _ => lenOf p)
  case atStart => exact ⟨rfl, rfl⟩
  case round =>
    obtain ⟨rfl, rfl⟩ := hrel
    have d0 : decide ((n : Int) < 3) = true := decide_eq_true (by omega)
    go_wp2
    go_quiet (fail)
    go_wp2
    go_ret
    exact ⟨rfl, below_drewN ((Below.refl _ _).alloc (Nat.le_refl _) _) _⟩
end Go.Proofs.YtodmlgbomhmbpaaGreatDoor
