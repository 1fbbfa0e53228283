/-
  What is proved here: what utf8.Valid answers of one to four bytes of an own row (some classes of lead bytes); conditions: the library's two tables hold what is laid, and those that each fact states.
-/
import Derived.Test.YtodmlgbomhmbpaaGreatDoorValid
namespace Go.Proofs.YtodmlgbomhmbpaaGreatDoor
open Go.RowKit Ut Go.Lib

set_option maxHeartbeats 2000000 in
set_option maxRecDepth 1000000 in
theorem valid_68 (g c : Nat) (w : World) (b0 b1 b2 b3 : Nat) (hb0 : b0 < 256) (hb1 : b1 < 256) (hb2 : b2 < 256) (hb3 : b3 < 256) (hge : 128 ≤ b0) (hf : w.cell? ⟨4, b0, none⟩ = some (.int .u8 ((68 : Nat) : Int))) (h0 : w.cell? ⟨g, 0, none⟩ = some (.int .u8 (b0 : Int))) (h1 : w.cell? ⟨g, 1, none⟩ = some (.int .u8 (b1 : Int))) (h2 : w.cell? ⟨g, 2, none⟩ = some (.int .u8 (b2 : Int))) (h3 : w.cell? ⟨g, 3, none⟩ = some (.int .u8 (b3 : Int)))
    (hl : w.cell? ⟨5, 8, none⟩ = some (.int .u8 128)) (hh : w.cell? ⟨5, 9, none⟩ = some (.int .u8 143)) (hc : 4 ≤ c) (hg : g < w.heap.size) :
    Calls Tryz.prog 82 #[.slice (some ⟨g, 0, none⟩) 4 c] w fun e w' => e = .returned (.bool (decide (128 ≤ b1) && decide (b1 ≤ 143) && decide (128 ≤ b2) && decide (b2 ≤ 191) && decide (128 ≤ b3) && decide (b3 ≤ 191))) ∧ Below w.heap.size w w' := by
  obtain ⟨R, hR⟩ : ∃ R, (decide (128 ≤ b1) && decide (b1 ≤ 143) && decide (128 ≤ b2) && decide (b2 ≤ 191) && decide (128 ≤ b3) && decide (b3 ≤ 191)) = R := ⟨_, rfl⟩
  rw [hR]
  have HR := Lib.hid hR
  clear hR
  go_enter Tryz.func82, Tryz.ntmps82
  go_wp2
  go_loopw [0] (fun p wr => (p = .slice (some ⟨g, 0, none⟩) 4 4 ∧ wr = w) ∨ (∃ A k, p = .slice A 0 k ∧ Below w.heap.size w wr ∧ R = true)) (fun p _ => lenOf p)
  case atStart => exact Or.inl ⟨rfl, rfl⟩
  case round =>
    rcases hrel with ⟨rfl, rfl⟩ | ⟨A, k, rfl, hb, rfl⟩
    · go_wp2
      by_cases k0 : 128 ≤ b1
      rotate_left
      · have d0 : decide ((b1 : Int) < 128) = true := decide_eq_true (by omega)
        have hres : R = false := by rw [← HR.out]; simp [k0]
        subst hres
        go_quiet (fail)
        go_wp2
        go_ret
        exact ⟨rfl, below_drewN ((Below.refl _ _).alloc (Nat.le_refl _) _) _⟩
      have d0 : decide ((b1 : Int) < 128) = false := decide_eq_false (by omega)
      by_cases k1 : b1 ≤ 143
      rotate_left
      · have d1 : decide (143 < (b1 : Int)) = true := decide_eq_true (by omega)
        have hres : R = false := by rw [← HR.out]; simp [k1]
        subst hres
        go_quiet (fail)
        go_wp2
        go_ret
        exact ⟨rfl, below_drewN ((Below.refl _ _).alloc (Nat.le_refl _) _) _⟩
      have d1 : decide (143 < (b1 : Int)) = false := decide_eq_false (by omega)
      by_cases k2 : 128 ≤ b2
      rotate_left
      · have d2 : decide ((b2 : Int) < 128) = true := decide_eq_true (by omega)
        have hres : R = false := by rw [← HR.out]; simp [k2]
        subst hres
        go_quiet (fail)
        go_wp2
        go_ret
        exact ⟨rfl, below_drewN ((Below.refl _ _).alloc (Nat.le_refl _) _) _⟩
      have d2 : decide ((b2 : Int) < 128) = false := decide_eq_false (by omega)
      by_cases k3 : b2 ≤ 191
      rotate_left
      · have d3 : decide (191 < (b2 : Int)) = true := decide_eq_true (by omega)
        have hres : R = false := by rw [← HR.out]; simp [k3]
        subst hres
        go_quiet (fail)
        go_wp2
        go_ret
        exact ⟨rfl, below_drewN ((Below.refl _ _).alloc (Nat.le_refl _) _) _⟩
      have d3 : decide (191 < (b2 : Int)) = false := decide_eq_false (by omega)
      by_cases k4 : 128 ≤ b3
      rotate_left
      · have d4 : decide ((b3 : Int) < 128) = true := decide_eq_true (by omega)
        have hres : R = false := by rw [← HR.out]; simp [k4]
        subst hres
        go_quiet (fail)
        go_wp2
        go_ret
        exact ⟨rfl, below_drewN ((Below.refl _ _).alloc (Nat.le_refl _) _) _⟩
      have d4 : decide ((b3 : Int) < 128) = false := decide_eq_false (by omega)
      by_cases k5 : b3 ≤ 191
      rotate_left
      · have d5 : decide (191 < (b3 : Int)) = true := decide_eq_true (by omega)
        have hres : R = false := by rw [← HR.out]; simp [k5]
        subst hres
        go_quiet (fail)
        go_wp2
        go_ret
        exact ⟨rfl, below_drewN ((Below.refl _ _).alloc (Nat.le_refl _) _) _⟩
      have d5 : decide (191 < (b3 : Int)) = false := decide_eq_false (by omega)
      have hres : R = true := by rw [← HR.out]; simp [k0, k1, k2, k3, k4, k5]
      subst hres
      go_quiet (fail)
      go_wp2
      go_roundw
      case rel => exact Or.inr ⟨_, _, rfl, below_drewN ((Below.refl _ _).alloc (Nat.le_refl _) _) _, (by first | trivial | rfl)⟩
      case measure => simp [lenOf]
    · go_wp2
      go_ret
      exact ⟨rfl, hb⟩
set_option maxHeartbeats 2000000 in
set_option maxRecDepth 1000000 in
theorem short_68 (g n c : Nat) (w : World) (b0 : Nat) (hb0 : b0 < 256) (hge : 128 ≤ b0) (hn : 1 ≤ n) (hlt : n < 4) (hf : w.cell? ⟨4, b0, none⟩ = some (.int .u8 ((68 : Nat) : Int))) (h0 : w.cell? ⟨g, 0, none⟩ = some (.int .u8 (b0 : Int)))
    (hl : w.cell? ⟨5, 8, none⟩ = some (.int .u8 128)) (hh : w.cell? ⟨5, 9, none⟩ = some (.int .u8 143)) (hc : n ≤ c) :
    Calls Tryz.prog 82 #[.slice (some ⟨g, 0, none⟩) n c] w fun e w' => e = .returned (.bool false) ∧ Below w.heap.size w w' := by
  go_enter Tryz.func82, Tryz.ntmps82
  go_wp2
  go_loopw [0] (fun p wr => (p = .slice (some ⟨g, 0, none⟩) n n ∧ wr = w)) (fun p _ => lenOf p)
  case atStart => exact ⟨rfl, rfl⟩
  case round =>
    obtain ⟨rfl, rfl⟩ := hrel
    have d0 : decide ((n : Int) < 4) = true := decide_eq_true (by omega)
    go_wp2
    go_quiet (fail)
    go_wp2
    go_ret
    exact ⟨rfl, below_drewN ((Below.refl _ _).alloc (Nat.le_refl _) _) _⟩
end Go.Proofs.YtodmlgbomhmbpaaGreatDoor
