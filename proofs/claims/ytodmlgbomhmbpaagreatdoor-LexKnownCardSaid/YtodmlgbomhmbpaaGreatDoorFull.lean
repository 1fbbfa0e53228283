/-
  What is proved here: what utf8.FullRune answers of one to four bytes of an own row; conditions: the library's two tables hold what is laid, and those that each fact states.
-/
import Derived.Test.YtodmlgbomhmbpaaGreatDoorLeaf
namespace Go.Proofs.YtodmlgbomhmbpaaGreatDoor
open Go.RowKit Ut Go.Lib

theorem below_q {B : Nat} {a w : World} (h : Below B a w) (n m : Nat) : Below B a ((w.drewN n).drewN m) := below_drewN (below_drewN h n) m

set_option maxHeartbeats 1000000 in
theorem full_ge (g n c : Nat) (w : World) (b0 F : Nat) (hb0 : b0 < 256) (hn : 1 ≤ n) (hn4 : n ≤ 4) (hF : F = 240 ∨ F = 241 ∨ F = 2 ∨ F = 19 ∨ F = 3 ∨ F = 35 ∨ F = 52 ∨ F = 4 ∨ F = 68) (hle : F % 8 ≤ n)
    (hf : w.cell? ⟨4, b0, none⟩ = some (.int .u8 (F : Int))) (h0 : w.cell? ⟨g, 0, none⟩ = some (.int .u8 (b0 : Int))) :
    Calls Tryz.prog 81 #[.slice (some ⟨g, 0, none⟩) n c] w fun e w' => e = .returned (.bool true) ∧ Below w.heap.size w w' := by
  rcases hF with rfl | rfl | rfl | rfl | rfl | rfl | rfl | rfl | rfl
  all_goals
    simp only [Nat.reduceMod] at hle
    go_enter Tryz.func81, Tryz.ntmps81
    go_wp2
    go_ret
    exact ⟨rfl, Below.refl _ _⟩
set_option maxHeartbeats 1000000 in
theorem full_2_1 (g c : Nat) (w : World) (b0 : Nat) (hb0 : b0 < 256) (hf : w.cell? ⟨4, b0, none⟩ = some (.int .u8 ((2 : Nat) : Int))) (h0 : w.cell? ⟨g, 0, none⟩ = some (.int .u8 (b0 : Int)))
    (hl : w.cell? ⟨5, 0, none⟩ = some (.int .u8 128)) (hh : w.cell? ⟨5, 1, none⟩ = some (.int .u8 191)) (_hg : g < w.heap.size) :
    Calls Tryz.prog 81 #[.slice (some ⟨g, 0, none⟩) 1 c] w fun e w' => e = .returned (.bool (false)) ∧ Below w.heap.size w w' := by
  go_enter Tryz.func81, Tryz.ntmps81
  go_wp2
  go_quiet (fail)
  go_wp2
  go_ret
  exact ⟨rfl, below_drewN ((Below.refl _ _).alloc (Nat.le_refl _) _) _⟩
set_option maxHeartbeats 1000000 in
theorem full_19_1 (g c : Nat) (w : World) (b0 : Nat) (hb0 : b0 < 256) (hf : w.cell? ⟨4, b0, none⟩ = some (.int .u8 ((19 : Nat) : Int))) (h0 : w.cell? ⟨g, 0, none⟩ = some (.int .u8 (b0 : Int)))
    (hl : w.cell? ⟨5, 2, none⟩ = some (.int .u8 160)) (hh : w.cell? ⟨5, 3, none⟩ = some (.int .u8 191)) (_hg : g < w.heap.size) :
    Calls Tryz.prog 81 #[.slice (some ⟨g, 0, none⟩) 1 c] w fun e w' => e = .returned (.bool (false)) ∧ Below w.heap.size w w' := by
  go_enter Tryz.func81, Tryz.ntmps81
  go_wp2
  go_quiet (fail)
  go_wp2
  go_ret
  exact ⟨rfl, below_drewN ((Below.refl _ _).alloc (Nat.le_refl _) _) _⟩
set_option maxHeartbeats 1000000 in
theorem full_19_2 (g c : Nat) (w : World) (b0 b1 : Nat) (hb0 : b0 < 256) (hb1 : b1 < 256) (hf : w.cell? ⟨4, b0, none⟩ = some (.int .u8 ((19 : Nat) : Int))) (h0 : w.cell? ⟨g, 0, none⟩ = some (.int .u8 (b0 : Int))) (h1 : w.cell? ⟨g, 1, none⟩ = some (.int .u8 (b1 : Int)))
    (hl : w.cell? ⟨5, 2, none⟩ = some (.int .u8 160)) (hh : w.cell? ⟨5, 3, none⟩ = some (.int .u8 191)) (hg : g < w.heap.size) :
    Calls Tryz.prog 81 #[.slice (some ⟨g, 0, none⟩) 2 c] w fun e w' => e = .returned (.bool (decide (b1 < 160) || decide (191 < b1))) ∧ Below w.heap.size w w' := by
  by_cases k1 : b1 < 160
  · have d1 : decide ((b1 : Int) < 160) = true := decide_eq_true (by omega)
    have hres : (decide (b1 < 160) || decide (191 < b1)) = true := by simp [k1]
    rw [hres]
    go_enter Tryz.func81, Tryz.ntmps81
    go_wp2
    go_quiet (fail)
    go_wp2
    go_ret
    exact ⟨rfl, below_drewN ((Below.refl _ _).alloc (Nat.le_refl _) _) _⟩
  · have d1 : decide ((b1 : Int) < 160) = false := decide_eq_false (by omega)
    by_cases k2 : 191 < b1
    · have d2 : decide (191 < (b1 : Int)) = true := decide_eq_true (by omega)
      have hres : (decide (b1 < 160) || decide (191 < b1)) = true := by simp [k2]
      rw [hres]
      go_enter Tryz.func81, Tryz.ntmps81
      go_wp2
      go_quiet (fail)
      go_wp2
      go_ret
      exact ⟨rfl, below_drewN ((Below.refl _ _).alloc (Nat.le_refl _) _) _⟩
    · have d2 : decide (191 < (b1 : Int)) = false := decide_eq_false (by omega)
      have hres : (decide (b1 < 160) || decide (191 < b1)) = false := by simp [k1, k2]
      rw [hres]
      go_enter Tryz.func81, Tryz.ntmps81
      go_wp2
      go_quiet (fail)
      go_wp2
      go_ret
      exact ⟨rfl, below_drewN ((Below.refl _ _).alloc (Nat.le_refl _) _) _⟩
set_option maxHeartbeats 1000000 in
theorem full_3_1 (g c : Nat) (w : World) (b0 : Nat) (hb0 : b0 < 256) (hf : w.cell? ⟨4, b0, none⟩ = some (.int .u8 ((3 : Nat) : Int))) (h0 : w.cell? ⟨g, 0, none⟩ = some (.int .u8 (b0 : Int)))
    (hl : w.cell? ⟨5, 0, none⟩ = some (.int .u8 128)) (hh : w.cell? ⟨5, 1, none⟩ = some (.int .u8 191)) (_hg : g < w.heap.size) :
    Calls Tryz.prog 81 #[.slice (some ⟨g, 0, none⟩) 1 c] w fun e w' => e = .returned (.bool (false)) ∧ Below w.heap.size w w' := by
  go_enter Tryz.func81, Tryz.ntmps81
  go_wp2
  go_quiet (fail)
  go_wp2
  go_ret
  exact ⟨rfl, below_drewN ((Below.refl _ _).alloc (Nat.le_refl _) _) _⟩
set_option maxHeartbeats 1000000 in
theorem full_3_2 (g c : Nat) (w : World) (b0 b1 : Nat) (hb0 : b0 < 256) (hb1 : b1 < 256) (hf : w.cell? ⟨4, b0, none⟩ = some (.int .u8 ((3 : Nat) : Int))) (h0 : w.cell? ⟨g, 0, none⟩ = some (.int .u8 (b0 : Int))) (h1 : w.cell? ⟨g, 1, none⟩ = some (.int .u8 (b1 : Int)))
    (hl : w.cell? ⟨5, 0, none⟩ = some (.int .u8 128)) (hh : w.cell? ⟨5, 1, none⟩ = some (.int .u8 191)) (hg : g < w.heap.size) :
    Calls Tryz.prog 81 #[.slice (some ⟨g, 0, none⟩) 2 c] w fun e w' => e = .returned (.bool (decide (b1 < 128) || decide (191 < b1))) ∧ Below w.heap.size w w' := by
  by_cases k1 : b1 < 128
  · have d1 : decide ((b1 : Int) < 128) = true := decide_eq_true (by omega)
    have hres : (decide (b1 < 128) || decide (191 < b1)) = true := by simp [k1]
    rw [hres]
    go_enter Tryz.func81, Tryz.ntmps81
    go_wp2
    go_quiet (fail)
    go_wp2
    go_ret
    exact ⟨rfl, below_drewN ((Below.refl _ _).alloc (Nat.le_refl _) _) _⟩
  · have d1 : decide ((b1 : Int) < 128) = false := decide_eq_false (by omega)
    by_cases k2 : 191 < b1
    · have d2 : decide (191 < (b1 : Int)) = true := decide_eq_true (by omega)
      have hres : (decide (b1 < 128) || decide (191 < b1)) = true := by simp [k2]
      rw [hres]
      go_enter Tryz.func81, Tryz.ntmps81
      go_wp2
      go_quiet (fail)
      go_wp2
      go_ret
      exact ⟨rfl, below_drewN ((Below.refl _ _).alloc (Nat.le_refl _) _) _⟩
    · have d2 : decide (191 < (b1 : Int)) = false := decide_eq_false (by omega)
      have hres : (decide (b1 < 128) || decide (191 < b1)) = false := by simp [k1, k2]
      rw [hres]
      go_enter Tryz.func81, Tryz.ntmps81
      go_wp2
      go_quiet (fail)
      go_wp2
      go_ret
      exact ⟨rfl, below_drewN ((Below.refl _ _).alloc (Nat.le_refl _) _) _⟩
set_option maxHeartbeats 1000000 in
theorem full_35_1 (g c : Nat) (w : World) (b0 : Nat) (hb0 : b0 < 256) (hf : w.cell? ⟨4, b0, none⟩ = some (.int .u8 ((35 : Nat) : Int))) (h0 : w.cell? ⟨g, 0, none⟩ = some (.int .u8 (b0 : Int)))
    (hl : w.cell? ⟨5, 4, none⟩ = some (.int .u8 128)) (hh : w.cell? ⟨5, 5, none⟩ = some (.int .u8 159)) (_hg : g < w.heap.size) :
    Calls Tryz.prog 81 #[.slice (some ⟨g, 0, none⟩) 1 c] w fun e w' => e = .returned (.bool (false)) ∧ Below w.heap.size w w' := by
  go_enter Tryz.func81, Tryz.ntmps81
  go_wp2
  go_quiet (fail)
  go_wp2
  go_ret
  exact ⟨rfl, below_drewN ((Below.refl _ _).alloc (Nat.le_refl _) _) _⟩
set_option maxHeartbeats 1000000 in
theorem full_35_2 (g c : Nat) (w : World) (b0 b1 : Nat) (hb0 : b0 < 256) (hb1 : b1 < 256) (hf : w.cell? ⟨4, b0, none⟩ = some (.int .u8 ((35 : Nat) : Int))) (h0 : w.cell? ⟨g, 0, none⟩ = some (.int .u8 (b0 : Int))) (h1 : w.cell? ⟨g, 1, none⟩ = some (.int .u8 (b1 : Int)))
    (hl : w.cell? ⟨5, 4, none⟩ = some (.int .u8 128)) (hh : w.cell? ⟨5, 5, none⟩ = some (.int .u8 159)) (hg : g < w.heap.size) :
    Calls Tryz.prog 81 #[.slice (some ⟨g, 0, none⟩) 2 c] w fun e w' => e = .returned (.bool (decide (b1 < 128) || decide (159 < b1))) ∧ Below w.heap.size w w' := by
  by_cases k1 : b1 < 128
  · have d1 : decide ((b1 : Int) < 128) = true := decide_eq_true (by omega)
    have hres : (decide (b1 < 128) || decide (159 < b1)) = true := by simp [k1]
    rw [hres]
    go_enter Tryz.func81, Tryz.ntmps81
    go_wp2
    go_quiet (fail)
    go_wp2
    go_ret
    exact ⟨rfl, below_drewN ((Below.refl _ _).alloc (Nat.le_refl _) _) _⟩
  · have d1 : decide ((b1 : Int) < 128) = false := decide_eq_false (by omega)
    by_cases k2 : 159 < b1
    · have d2 : decide (159 < (b1 : Int)) = true := decide_eq_true (by omega)
      have hres : (decide (b1 < 128) || decide (159 < b1)) = true := by simp [k2]
      rw [hres]
      go_enter Tryz.func81, Tryz.ntmps81
      go_wp2
      go_quiet (fail)
      go_wp2
      go_ret
      exact ⟨rfl, below_drewN ((Below.refl _ _).alloc (Nat.le_refl _) _) _⟩
    · have d2 : decide (159 < (b1 : Int)) = false := decide_eq_false (by omega)
      have hres : (decide (b1 < 128) || decide (159 < b1)) = false := by simp [k1, k2]
      rw [hres]
      go_enter Tryz.func81, Tryz.ntmps81
      go_wp2
      go_quiet (fail)
      go_wp2
      go_ret
      exact ⟨rfl, below_drewN ((Below.refl _ _).alloc (Nat.le_refl _) _) _⟩
set_option maxHeartbeats 1000000 in
theorem full_52_1 (g c : Nat) (w : World) (b0 : Nat) (hb0 : b0 < 256) (hf : w.cell? ⟨4, b0, none⟩ = some (.int .u8 ((52 : Nat) : Int))) (h0 : w.cell? ⟨g, 0, none⟩ = some (.int .u8 (b0 : Int)))
    (hl : w.cell? ⟨5, 6, none⟩ = some (.int .u8 144)) (hh : w.cell? ⟨5, 7, none⟩ = some (.int .u8 191)) (_hg : g < w.heap.size) :
    Calls Tryz.prog 81 #[.slice (some ⟨g, 0, none⟩) 1 c] w fun e w' => e = .returned (.bool (false)) ∧ Below w.heap.size w w' := by
  go_enter Tryz.func81, Tryz.ntmps81
  go_wp2
  go_quiet (fail)
  go_wp2
  go_ret
  exact ⟨rfl, below_drewN ((Below.refl _ _).alloc (Nat.le_refl _) _) _⟩
set_option maxHeartbeats 1000000 in
theorem full_52_2 (g c : Nat) (w : World) (b0 b1 : Nat) (hb0 : b0 < 256) (hb1 : b1 < 256) (hf : w.cell? ⟨4, b0, none⟩ = some (.int .u8 ((52 : Nat) : Int))) (h0 : w.cell? ⟨g, 0, none⟩ = some (.int .u8 (b0 : Int))) (h1 : w.cell? ⟨g, 1, none⟩ = some (.int .u8 (b1 : Int)))
    (hl : w.cell? ⟨5, 6, none⟩ = some (.int .u8 144)) (hh : w.cell? ⟨5, 7, none⟩ = some (.int .u8 191)) (hg : g < w.heap.size) :
    Calls Tryz.prog 81 #[.slice (some ⟨g, 0, none⟩) 2 c] w fun e w' => e = .returned (.bool (decide (b1 < 144) || decide (191 < b1))) ∧ Below w.heap.size w w' := by
  by_cases k1 : b1 < 144
  · have d1 : decide ((b1 : Int) < 144) = true := decide_eq_true (by omega)
    have hres : (decide (b1 < 144) || decide (191 < b1)) = true := by simp [k1]
    rw [hres]
    go_enter Tryz.func81, Tryz.ntmps81
    go_wp2
    go_quiet (fail)
    go_wp2
    go_ret
    exact ⟨rfl, below_drewN ((Below.refl _ _).alloc (Nat.le_refl _) _) _⟩
  · have d1 : decide ((b1 : Int) < 144) = false := decide_eq_false (by omega)
    by_cases k2 : 191 < b1
    · have d2 : decide (191 < (b1 : Int)) = true := decide_eq_true (by omega)
      have hres : (decide (b1 < 144) || decide (191 < b1)) = true := by simp [k2]
      rw [hres]
      go_enter Tryz.func81, Tryz.ntmps81
      go_wp2
      go_quiet (fail)
      go_wp2
      go_ret
      exact ⟨rfl, below_drewN ((Below.refl _ _).alloc (Nat.le_refl _) _) _⟩
    · have d2 : decide (191 < (b1 : Int)) = false := decide_eq_false (by omega)
      have hres : (decide (b1 < 144) || decide (191 < b1)) = false := by simp [k1, k2]
      rw [hres]
      go_enter Tryz.func81, Tryz.ntmps81
      go_wp2
      go_quiet (fail)
      go_wp2
      go_ret
      exact ⟨rfl, below_drewN ((Below.refl _ _).alloc (Nat.le_refl _) _) _⟩
set_option maxHeartbeats 1000000 in
theorem full_52_3 (g c : Nat) (w : World) (b0 b1 b2 : Nat) (hb0 : b0 < 256) (hb1 : b1 < 256) (hb2 : b2 < 256) (hf : w.cell? ⟨4, b0, none⟩ = some (.int .u8 ((52 : Nat) : Int))) (h0 : w.cell? ⟨g, 0, none⟩ = some (.int .u8 (b0 : Int))) (h1 : w.cell? ⟨g, 1, none⟩ = some (.int .u8 (b1 : Int))) (h2 : w.cell? ⟨g, 2, none⟩ = some (.int .u8 (b2 : Int)))
    (hl : w.cell? ⟨5, 6, none⟩ = some (.int .u8 144)) (hh : w.cell? ⟨5, 7, none⟩ = some (.int .u8 191)) (hg : g < w.heap.size) :
    Calls Tryz.prog 81 #[.slice (some ⟨g, 0, none⟩) 3 c] w fun e w' => e = .returned (.bool ((decide (b1 < 144) || decide (191 < b1)) || (decide (b2 < 128) || decide (191 < b2)))) ∧ Below w.heap.size w w' := by
  by_cases k1 : b1 < 144
  · have d1 : decide ((b1 : Int) < 144) = true := decide_eq_true (by omega)
    have hres : ((decide (b1 < 144) || decide (191 < b1)) || (decide (b2 < 128) || decide (191 < b2))) = true := by simp [k1]
    rw [hres]
    go_enter Tryz.func81, Tryz.ntmps81
    go_wp2
    go_quiet (fail)
    go_wp2
    go_ret
    exact ⟨rfl, below_drewN ((Below.refl _ _).alloc (Nat.le_refl _) _) _⟩
  · have d1 : decide ((b1 : Int) < 144) = false := decide_eq_false (by omega)
    by_cases k2 : 191 < b1
    · have d2 : decide (191 < (b1 : Int)) = true := decide_eq_true (by omega)
      have hres : ((decide (b1 < 144) || decide (191 < b1)) || (decide (b2 < 128) || decide (191 < b2))) = true := by simp [k2]
      rw [hres]
      go_enter Tryz.func81, Tryz.ntmps81
      go_wp2
      go_quiet (fail)
      go_wp2
      go_ret
      exact ⟨rfl, below_drewN ((Below.refl _ _).alloc (Nat.le_refl _) _) _⟩
    · have d2 : decide (191 < (b1 : Int)) = false := decide_eq_false (by omega)
      by_cases k3 : b2 < 128
      · have d3 : decide ((b2 : Int) < 128) = true := decide_eq_true (by omega)
        have hres : ((decide (b1 < 144) || decide (191 < b1)) || (decide (b2 < 128) || decide (191 < b2))) = true := by simp [k3]
        rw [hres]
        go_enter Tryz.func81, Tryz.ntmps81
        go_wp2
        go_quiet (fail)
        go_wp2
        go_ret
        exact ⟨rfl, below_drewN ((Below.refl _ _).alloc (Nat.le_refl _) _) _⟩
      · have d3 : decide ((b2 : Int) < 128) = false := decide_eq_false (by omega)
        by_cases k4 : 191 < b2
        · have d4 : decide (191 < (b2 : Int)) = true := decide_eq_true (by omega)
          have hres : ((decide (b1 < 144) || decide (191 < b1)) || (decide (b2 < 128) || decide (191 < b2))) = true := by simp [k4]
          rw [hres]
          go_enter Tryz.func81, Tryz.ntmps81
          go_wp2
          go_quiet (fail)
          go_wp2
          go_ret
          exact ⟨rfl, below_drewN ((Below.refl _ _).alloc (Nat.le_refl _) _) _⟩
        · have d4 : decide (191 < (b2 : Int)) = false := decide_eq_false (by omega)
          have hres : ((decide (b1 < 144) || decide (191 < b1)) || (decide (b2 < 128) || decide (191 < b2))) = false := by simp [k1, k2, k3, k4]
          rw [hres]
          go_enter Tryz.func81, Tryz.ntmps81
          go_wp2
          go_quiet (fail)
          go_wp2
          go_ret
          exact ⟨rfl, below_drewN ((Below.refl _ _).alloc (Nat.le_refl _) _) _⟩
set_option maxHeartbeats 1000000 in
theorem full_4_1 (g c : Nat) (w : World) (b0 : Nat) (hb0 : b0 < 256) (hf : w.cell? ⟨4, b0, none⟩ = some (.int .u8 ((4 : Nat) : Int))) (h0 : w.cell? ⟨g, 0, none⟩ = some (.int .u8 (b0 : Int)))
    (hl : w.cell? ⟨5, 0, none⟩ = some (.int .u8 128)) (hh : w.cell? ⟨5, 1, none⟩ = some (.int .u8 191)) (_hg : g < w.heap.size) :
    Calls Tryz.prog 81 #[.slice (some ⟨g, 0, none⟩) 1 c] w fun e w' => e = .returned (.bool (false)) ∧ Below w.heap.size w w' := by
  go_enter Tryz.func81, Tryz.ntmps81
  go_wp2
  go_quiet (fail)
  go_wp2
  go_ret
  exact ⟨rfl, below_drewN ((Below.refl _ _).alloc (Nat.le_refl _) _) _⟩
set_option maxHeartbeats 1000000 in
theorem full_4_2 (g c : Nat) (w : World) (b0 b1 : Nat) (hb0 : b0 < 256) (hb1 : b1 < 256) (hf : w.cell? ⟨4, b0, none⟩ = some (.int .u8 ((4 : Nat) : Int))) (h0 : w.cell? ⟨g, 0, none⟩ = some (.int .u8 (b0 : Int))) (h1 : w.cell? ⟨g, 1, none⟩ = some (.int .u8 (b1 : Int)))
    (hl : w.cell? ⟨5, 0, none⟩ = some (.int .u8 128)) (hh : w.cell? ⟨5, 1, none⟩ = some (.int .u8 191)) (hg : g < w.heap.size) :
    Calls Tryz.prog 81 #[.slice (some ⟨g, 0, none⟩) 2 c] w fun e w' => e = .returned (.bool (decide (b1 < 128) || decide (191 < b1))) ∧ Below w.heap.size w w' := by
  by_cases k1 : b1 < 128
  · have d1 : decide ((b1 : Int) < 128) = true := decide_eq_true (by omega)
    have hres : (decide (b1 < 128) || decide (191 < b1)) = true := by simp [k1]
    rw [hres]
    go_enter Tryz.func81, Tryz.ntmps81
    go_wp2
    go_quiet (fail)
    go_wp2
    go_ret
    exact ⟨rfl, below_drewN ((Below.refl _ _).alloc (Nat.le_refl _) _) _⟩
  · have d1 : decide ((b1 : Int) < 128) = false := decide_eq_false (by omega)
    by_cases k2 : 191 < b1
    · have d2 : decide (191 < (b1 : Int)) = true := decide_eq_true (by omega)
      have hres : (decide (b1 < 128) || decide (191 < b1)) = true := by simp [k2]
      rw [hres]
      go_enter Tryz.func81, Tryz.ntmps81
      go_wp2
      go_quiet (fail)
      go_wp2
      go_ret
      exact ⟨rfl, below_drewN ((Below.refl _ _).alloc (Nat.le_refl _) _) _⟩
    · have d2 : decide (191 < (b1 : Int)) = false := decide_eq_false (by omega)
      have hres : (decide (b1 < 128) || decide (191 < b1)) = false := by simp [k1, k2]
      rw [hres]
      go_enter Tryz.func81, Tryz.ntmps81
      go_wp2
      go_quiet (fail)
      go_wp2
      go_ret
      exact ⟨rfl, below_drewN ((Below.refl _ _).alloc (Nat.le_refl _) _) _⟩
set_option maxHeartbeats 1000000 in
theorem full_4_3 (g c : Nat) (w : World) (b0 b1 b2 : Nat) (hb0 : b0 < 256) (hb1 : b1 < 256) (hb2 : b2 < 256) (hf : w.cell? ⟨4, b0, none⟩ = some (.int .u8 ((4 : Nat) : Int))) (h0 : w.cell? ⟨g, 0, none⟩ = some (.int .u8 (b0 : Int))) (h1 : w.cell? ⟨g, 1, none⟩ = some (.int .u8 (b1 : Int))) (h2 : w.cell? ⟨g, 2, none⟩ = some (.int .u8 (b2 : Int)))
    (hl : w.cell? ⟨5, 0, none⟩ = some (.int .u8 128)) (hh : w.cell? ⟨5, 1, none⟩ = some (.int .u8 191)) (hg : g < w.heap.size) :
    Calls Tryz.prog 81 #[.slice (some ⟨g, 0, none⟩) 3 c] w fun e w' => e = .returned (.bool ((decide (b1 < 128) || decide (191 < b1)) || (decide (b2 < 128) || decide (191 < b2)))) ∧ Below w.heap.size w w' := by
  by_cases k1 : b1 < 128
  · have d1 : decide ((b1 : Int) < 128) = true := decide_eq_true (by omega)
    have hres : ((decide (b1 < 128) || decide (191 < b1)) || (decide (b2 < 128) || decide (191 < b2))) = true := by simp [k1]
    rw [hres]
    go_enter Tryz.func81, Tryz.ntmps81
    go_wp2
    go_quiet (fail)
    go_wp2
    go_ret
    exact ⟨rfl, below_drewN ((Below.refl _ _).alloc (Nat.le_refl _) _) _⟩
  · have d1 : decide ((b1 : Int) < 128) = false := decide_eq_false (by omega)
    by_cases k2 : 191 < b1
    · have d2 : decide (191 < (b1 : Int)) = true := decide_eq_true (by omega)
      have hres : ((decide (b1 < 128) || decide (191 < b1)) || (decide (b2 < 128) || decide (191 < b2))) = true := by simp [k2]
      rw [hres]
      go_enter Tryz.func81, Tryz.ntmps81
      go_wp2
      go_quiet (fail)
      go_wp2
      go_ret
      exact ⟨rfl, below_drewN ((Below.refl _ _).alloc (Nat.le_refl _) _) _⟩
    · have d2 : decide (191 < (b1 : Int)) = false := decide_eq_false (by omega)
      by_cases k3 : b2 < 128
      · have d3 : decide ((b2 : Int) < 128) = true := decide_eq_true (by omega)
        have hres : ((decide (b1 < 128) || decide (191 < b1)) || (decide (b2 < 128) || decide (191 < b2))) = true := by simp [k3]
        rw [hres]
        go_enter Tryz.func81, Tryz.ntmps81
        go_wp2
        go_quiet (fail)
        go_wp2
        go_ret
        exact ⟨rfl, below_drewN ((Below.refl _ _).alloc (Nat.le_refl _) _) _⟩
      · have d3 : decide ((b2 : Int) < 128) = false := decide_eq_false (by omega)
        by_cases k4 : 191 < b2
        · have d4 : decide (191 < (b2 : Int)) = true := decide_eq_true (by omega)
          have hres : ((decide (b1 < 128) || decide (191 < b1)) || (decide (b2 < 128) || decide (191 < b2))) = true := by simp [k4]
          rw [hres]
          go_enter Tryz.func81, Tryz.ntmps81
          go_wp2
          go_quiet (fail)
          go_wp2
          go_ret
          exact ⟨rfl, below_drewN ((Below.refl _ _).alloc (Nat.le_refl _) _) _⟩
        · have d4 : decide (191 < (b2 : Int)) = false := decide_eq_false (by omega)
          have hres : ((decide (b1 < 128) || decide (191 < b1)) || (decide (b2 < 128) || decide (191 < b2))) = false := by simp [k1, k2, k3, k4]
          rw [hres]
          go_enter Tryz.func81, Tryz.ntmps81
          go_wp2
          go_quiet (fail)
          go_wp2
          go_ret
          exact ⟨rfl, below_drewN ((Below.refl _ _).alloc (Nat.le_refl _) _) _⟩
set_option maxHeartbeats 1000000 in
theorem full_68_1 (g c : Nat) (w : World) (b0 : Nat) (hb0 : b0 < 256) (hf : w.cell? ⟨4, b0, none⟩ = some (.int .u8 ((68 : Nat) : Int))) (h0 : w.cell? ⟨g, 0, none⟩ = some (.int .u8 (b0 : Int)))
    (hl : w.cell? ⟨5, 8, none⟩ = some (.int .u8 128)) (hh : w.cell? ⟨5, 9, none⟩ = some (.int .u8 143)) (_hg : g < w.heap.size) :
    Calls Tryz.prog 81 #[.slice (some ⟨g, 0, none⟩) 1 c] w fun e w' => e = .returned (.bool (false)) ∧ Below w.heap.size w w' := by
  go_enter Tryz.func81, Tryz.ntmps81
  go_wp2
  go_quiet (fail)
  go_wp2
  go_ret
  exact ⟨rfl, below_drewN ((Below.refl _ _).alloc (Nat.le_refl _) _) _⟩
set_option maxHeartbeats 1000000 in
theorem full_68_2 (g c : Nat) (w : World) (b0 b1 : Nat) (hb0 : b0 < 256) (hb1 : b1 < 256) (hf : w.cell? ⟨4, b0, none⟩ = some (.int .u8 ((68 : Nat) : Int))) (h0 : w.cell? ⟨g, 0, none⟩ = some (.int .u8 (b0 : Int))) (h1 : w.cell? ⟨g, 1, none⟩ = some (.int .u8 (b1 : Int)))
    (hl : w.cell? ⟨5, 8, none⟩ = some (.int .u8 128)) (hh : w.cell? ⟨5, 9, none⟩ = some (.int .u8 143)) (hg : g < w.heap.size) :
    Calls Tryz.prog 81 #[.slice (some ⟨g, 0, none⟩) 2 c] w fun e w' => e = .returned (.bool (decide (b1 < 128) || decide (143 < b1))) ∧ Below w.heap.size w w' := by
  by_cases k1 : b1 < 128
  · have d1 : decide ((b1 : Int) < 128) = true := decide_eq_true (by omega)
    have hres : (decide (b1 < 128) || decide (143 < b1)) = true := by simp [k1]
    rw [hres]
    go_enter Tryz.func81, Tryz.ntmps81
    go_wp2
    go_quiet (fail)
    go_wp2
    go_ret
    exact ⟨rfl, below_drewN ((Below.refl _ _).alloc (Nat.le_refl _) _) _⟩
  · have d1 : decide ((b1 : Int) < 128) = false := decide_eq_false (by omega)
    by_cases k2 : 143 < b1
    · have d2 : decide (143 < (b1 : Int)) = true := decide_eq_true (by omega)
      have hres : (decide (b1 < 128) || decide (143 < b1)) = true := by simp [k2]
      rw [hres]
      go_enter Tryz.func81, Tryz.ntmps81
      go_wp2
      go_quiet (fail)
      go_wp2
      go_ret
      exact ⟨rfl, below_drewN ((Below.refl _ _).alloc (Nat.le_refl _) _) _⟩
    · have d2 : decide (143 < (b1 : Int)) = false := decide_eq_false (by omega)
      have hres : (decide (b1 < 128) || decide (143 < b1)) = false := by simp [k1, k2]
      rw [hres]
      go_enter Tryz.func81, Tryz.ntmps81
      go_wp2
      go_quiet (fail)
      go_wp2
      go_ret
      exact ⟨rfl, below_drewN ((Below.refl _ _).alloc (Nat.le_refl _) _) _⟩
set_option maxHeartbeats 1000000 in
theorem full_68_3 (g c : Nat) (w : World) (b0 b1 b2 : Nat) (hb0 : b0 < 256) (hb1 : b1 < 256) (hb2 : b2 < 256) (hf : w.cell? ⟨4, b0, none⟩ = some (.int .u8 ((68 : Nat) : Int))) (h0 : w.cell? ⟨g, 0, none⟩ = some (.int .u8 (b0 : Int))) (h1 : w.cell? ⟨g, 1, none⟩ = some (.int .u8 (b1 : Int))) (h2 : w.cell? ⟨g, 2, none⟩ = some (.int .u8 (b2 : Int)))
    (hl : w.cell? ⟨5, 8, none⟩ = some (.int .u8 128)) (hh : w.cell? ⟨5, 9, none⟩ = some (.int .u8 143)) (hg : g < w.heap.size) :
    Calls Tryz.prog 81 #[.slice (some ⟨g, 0, none⟩) 3 c] w fun e w' => e = .returned (.bool ((decide (b1 < 128) || decide (143 < b1)) || (decide (b2 < 128) || decide (191 < b2)))) ∧ Below w.heap.size w w' := by
  by_cases k1 : b1 < 128
  · have d1 : decide ((b1 : Int) < 128) = true := decide_eq_true (by omega)
    have hres : ((decide (b1 < 128) || decide (143 < b1)) || (decide (b2 < 128) || decide (191 < b2))) = true := by simp [k1]
    rw [hres]
    go_enter Tryz.func81, Tryz.ntmps81
    go_wp2
    go_quiet (fail)
    go_wp2
    go_ret
    exact ⟨rfl, below_drewN ((Below.refl _ _).alloc (Nat.le_refl _) _) _⟩
  · have d1 : decide ((b1 : Int) < 128) = false := decide_eq_false (by omega)
    by_cases k2 : 143 < b1
    · have d2 : decide (143 < (b1 : Int)) = true := decide_eq_true (by omega)
      have hres : ((decide (b1 < 128) || decide (143 < b1)) || (decide (b2 < 128) || decide (191 < b2))) = true := by simp [k2]
      rw [hres]
      go_enter Tryz.func81, Tryz.ntmps81
      go_wp2
      go_quiet (fail)
      go_wp2
      go_ret
      exact ⟨rfl, below_drewN ((Below.refl _ _).alloc (Nat.le_refl _) _) _⟩
    · have d2 : decide (143 < (b1 : Int)) = false := decide_eq_false (by omega)
      by_cases k3 : b2 < 128
      · have d3 : decide ((b2 : Int) < 128) = true := decide_eq_true (by omega)
        have hres : ((decide (b1 < 128) || decide (143 < b1)) || (decide (b2 < 128) || decide (191 < b2))) = true := by simp [k3]
        rw [hres]
        go_enter Tryz.func81, Tryz.ntmps81
        go_wp2
        go_quiet (fail)
        go_wp2
        go_ret
        exact ⟨rfl, below_drewN ((Below.refl _ _).alloc (Nat.le_refl _) _) _⟩
      · have d3 : decide ((b2 : Int) < 128) = false := decide_eq_false (by omega)
        by_cases k4 : 191 < b2
        · have d4 : decide (191 < (b2 : Int)) = true := decide_eq_true (by omega)
          have hres : ((decide (b1 < 128) || decide (143 < b1)) || (decide (b2 < 128) || decide (191 < b2))) = true := by simp [k4]
          rw [hres]
          go_enter Tryz.func81, Tryz.ntmps81
          go_wp2
          go_quiet (fail)
          go_wp2
          go_ret
          exact ⟨rfl, below_drewN ((Below.refl _ _).alloc (Nat.le_refl _) _) _⟩
        · have d4 : decide (191 < (b2 : Int)) = false := decide_eq_false (by omega)
          have hres : ((decide (b1 < 128) || decide (143 < b1)) || (decide (b2 < 128) || decide (191 < b2))) = false := by simp [k1, k2, k3, k4]
          rw [hres]
          go_enter Tryz.func81, Tryz.ntmps81
          go_wp2
          go_quiet (fail)
          go_wp2
          go_ret
          exact ⟨rfl, below_drewN ((Below.refl _ _).alloc (Nat.le_refl _) _) _⟩
theorem fullRune_1 (g c : Nat) (w : World) (b0 : Nat) (hb0 : b0 < 256) (hT : Utf8Tabs 4 5 w) (h0 : w.cell? ⟨g, 0, none⟩ = some (.int .u8 (b0 : Int))) (hg : g < w.heap.size) :
    Calls Tryz.prog 81 #[.slice (some ⟨g, 0, none⟩) 1 c] w fun e w' => e = .returned (.bool (fullN 1 b0 0 0)) ∧ Below w.heap.size w w' := by
  have hf := hT.1 b0 hb0
  by_cases hge : firstT b0 % 8 ≤ 1
  · have hres : fullN 1 b0 0 0 = true := by unfold fullN; rw [decide_eq_true hge]; rfl
    rw [hres]
    exact full_ge g 1 c w b0 _ hb0 (by omega) (by omega) (by have := firstT_cases b0; omega) hge hf h0
  · have hF : firstT b0 = 2 ∨ firstT b0 = 19 ∨ firstT b0 = 3 ∨ firstT b0 = 35 ∨ firstT b0 = 52 ∨ firstT b0 = 4 ∨ firstT b0 = 68 := by
      rcases firstT_cases b0 with h | h | h | h | h | h | h | h | h <;> rw [h] at hge <;> simp at hge <;> simp [h]
    rcases hF with h | h | h | h | h | h | h
    · have hA := hT.2 0 (by omega)
      rw [h] at hf
      have hres : fullN 1 b0 0 0 = (false) := by unfold fullN; rw [h]; simp [accLo, accHi]
      rw [hres]
      exact full_2_1 g c w b0 hb0 hf h0 hA.1 hA.2 hg
    · have hA := hT.2 1 (by omega)
      rw [h] at hf
      have hres : fullN 1 b0 0 0 = (false) := by unfold fullN; rw [h]; simp [accLo, accHi]
      rw [hres]
      exact full_19_1 g c w b0 hb0 hf h0 hA.1 hA.2 hg
    · have hA := hT.2 0 (by omega)
      rw [h] at hf
      have hres : fullN 1 b0 0 0 = (false) := by unfold fullN; rw [h]; simp [accLo, accHi]
      rw [hres]
      exact full_3_1 g c w b0 hb0 hf h0 hA.1 hA.2 hg
    · have hA := hT.2 2 (by omega)
      rw [h] at hf
      have hres : fullN 1 b0 0 0 = (false) := by unfold fullN; rw [h]; simp [accLo, accHi]
      rw [hres]
      exact full_35_1 g c w b0 hb0 hf h0 hA.1 hA.2 hg
    · have hA := hT.2 3 (by omega)
      rw [h] at hf
      have hres : fullN 1 b0 0 0 = (false) := by unfold fullN; rw [h]; simp [accLo, accHi]
      rw [hres]
      exact full_52_1 g c w b0 hb0 hf h0 hA.1 hA.2 hg
    · have hA := hT.2 0 (by omega)
      rw [h] at hf
      have hres : fullN 1 b0 0 0 = (false) := by unfold fullN; rw [h]; simp [accLo, accHi]
      rw [hres]
      exact full_4_1 g c w b0 hb0 hf h0 hA.1 hA.2 hg
    · have hA := hT.2 4 (by omega)
      rw [h] at hf
      have hres : fullN 1 b0 0 0 = (false) := by unfold fullN; rw [h]; simp [accLo, accHi]
      rw [hres]
      exact full_68_1 g c w b0 hb0 hf h0 hA.1 hA.2 hg
theorem fullRune_2 (g c : Nat) (w : World) (b0 b1 : Nat) (hb0 : b0 < 256) (hb1 : b1 < 256) (hT : Utf8Tabs 4 5 w) (h0 : w.cell? ⟨g, 0, none⟩ = some (.int .u8 (b0 : Int))) (h1 : w.cell? ⟨g, 1, none⟩ = some (.int .u8 (b1 : Int))) (hg : g < w.heap.size) :
    Calls Tryz.prog 81 #[.slice (some ⟨g, 0, none⟩) 2 c] w fun e w' => e = .returned (.bool (fullN 2 b0 b1 0)) ∧ Below w.heap.size w w' := by
  have hf := hT.1 b0 hb0
  by_cases hge : firstT b0 % 8 ≤ 2
  · have hres : fullN 2 b0 b1 0 = true := by unfold fullN; rw [decide_eq_true hge]; rfl
    rw [hres]
    exact full_ge g 2 c w b0 _ hb0 (by omega) (by omega) (by have := firstT_cases b0; omega) hge hf h0
  · have hF : firstT b0 = 19 ∨ firstT b0 = 3 ∨ firstT b0 = 35 ∨ firstT b0 = 52 ∨ firstT b0 = 4 ∨ firstT b0 = 68 := by
      rcases firstT_cases b0 with h | h | h | h | h | h | h | h | h <;> rw [h] at hge <;> simp at hge <;> simp [h]
    rcases hF with h | h | h | h | h | h
    · have hA := hT.2 1 (by omega)
      rw [h] at hf
      have hres : fullN 2 b0 b1 0 = (decide (b1 < 160) || decide (191 < b1)) := by unfold fullN; rw [h]; simp [accLo, accHi]
      rw [hres]
      exact full_19_2 g c w b0 b1 hb0 hb1 hf h0 h1 hA.1 hA.2 hg
    · have hA := hT.2 0 (by omega)
      rw [h] at hf
      have hres : fullN 2 b0 b1 0 = (decide (b1 < 128) || decide (191 < b1)) := by unfold fullN; rw [h]; simp [accLo, accHi]
      rw [hres]
      exact full_3_2 g c w b0 b1 hb0 hb1 hf h0 h1 hA.1 hA.2 hg
    · have hA := hT.2 2 (by omega)
      rw [h] at hf
      have hres : fullN 2 b0 b1 0 = (decide (b1 < 128) || decide (159 < b1)) := by unfold fullN; rw [h]; simp [accLo, accHi]
      rw [hres]
      exact full_35_2 g c w b0 b1 hb0 hb1 hf h0 h1 hA.1 hA.2 hg
    · have hA := hT.2 3 (by omega)
      rw [h] at hf
      have hres : fullN 2 b0 b1 0 = (decide (b1 < 144) || decide (191 < b1)) := by unfold fullN; rw [h]; simp [accLo, accHi]
      rw [hres]
      exact full_52_2 g c w b0 b1 hb0 hb1 hf h0 h1 hA.1 hA.2 hg
    · have hA := hT.2 0 (by omega)
      rw [h] at hf
      have hres : fullN 2 b0 b1 0 = (decide (b1 < 128) || decide (191 < b1)) := by unfold fullN; rw [h]; simp [accLo, accHi]
      rw [hres]
      exact full_4_2 g c w b0 b1 hb0 hb1 hf h0 h1 hA.1 hA.2 hg
    · have hA := hT.2 4 (by omega)
      rw [h] at hf
      have hres : fullN 2 b0 b1 0 = (decide (b1 < 128) || decide (143 < b1)) := by unfold fullN; rw [h]; simp [accLo, accHi]
      rw [hres]
      exact full_68_2 g c w b0 b1 hb0 hb1 hf h0 h1 hA.1 hA.2 hg
theorem fullRune_3 (g c : Nat) (w : World) (b0 b1 b2 : Nat) (hb0 : b0 < 256) (hb1 : b1 < 256) (hb2 : b2 < 256) (hT : Utf8Tabs 4 5 w) (h0 : w.cell? ⟨g, 0, none⟩ = some (.int .u8 (b0 : Int))) (h1 : w.cell? ⟨g, 1, none⟩ = some (.int .u8 (b1 : Int))) (h2 : w.cell? ⟨g, 2, none⟩ = some (.int .u8 (b2 : Int))) (hg : g < w.heap.size) :
    Calls Tryz.prog 81 #[.slice (some ⟨g, 0, none⟩) 3 c] w fun e w' => e = .returned (.bool (fullN 3 b0 b1 b2)) ∧ Below w.heap.size w w' := by
  have hf := hT.1 b0 hb0
  by_cases hge : firstT b0 % 8 ≤ 3
  · have hres : fullN 3 b0 b1 b2 = true := by unfold fullN; rw [decide_eq_true hge]; rfl
    rw [hres]
    exact full_ge g 3 c w b0 _ hb0 (by omega) (by omega) (by have := firstT_cases b0; omega) hge hf h0
  · have hF : firstT b0 = 52 ∨ firstT b0 = 4 ∨ firstT b0 = 68 := by
      rcases firstT_cases b0 with h | h | h | h | h | h | h | h | h <;> rw [h] at hge <;> simp at hge <;> simp [h]
    rcases hF with h | h | h
    · have hA := hT.2 3 (by omega)
      rw [h] at hf
      have hres : fullN 3 b0 b1 b2 = ((decide (b1 < 144) || decide (191 < b1)) || (decide (b2 < 128) || decide (191 < b2))) := by unfold fullN; rw [h]; simp [accLo, accHi]
      rw [hres]
      exact full_52_3 g c w b0 b1 b2 hb0 hb1 hb2 hf h0 h1 h2 hA.1 hA.2 hg
    · have hA := hT.2 0 (by omega)
      rw [h] at hf
      have hres : fullN 3 b0 b1 b2 = ((decide (b1 < 128) || decide (191 < b1)) || (decide (b2 < 128) || decide (191 < b2))) := by unfold fullN; rw [h]; simp [accLo, accHi]
      rw [hres]
      exact full_4_3 g c w b0 b1 b2 hb0 hb1 hb2 hf h0 h1 h2 hA.1 hA.2 hg
    · have hA := hT.2 4 (by omega)
      rw [h] at hf
      have hres : fullN 3 b0 b1 b2 = ((decide (b1 < 128) || decide (143 < b1)) || (decide (b2 < 128) || decide (191 < b2))) := by unfold fullN; rw [h]; simp [accLo, accHi]
      rw [hres]
      exact full_68_3 g c w b0 b1 b2 hb0 hb1 hb2 hf h0 h1 h2 hA.1 hA.2 hg
theorem fullRune_4 (g c : Nat) (w : World) (b0 b1 b2 b3 : Nat) (hb0 : b0 < 256) (_hb1 : b1 < 256) (_hb2 : b2 < 256) (_hb3 : b3 < 256) (hT : Utf8Tabs 4 5 w) (h0 : w.cell? ⟨g, 0, none⟩ = some (.int .u8 (b0 : Int))) (_h1 : w.cell? ⟨g, 1, none⟩ = some (.int .u8 (b1 : Int))) (_h2 : w.cell? ⟨g, 2, none⟩ = some (.int .u8 (b2 : Int))) (_h3 : w.cell? ⟨g, 3, none⟩ = some (.int .u8 (b3 : Int))) (_hg : g < w.heap.size) :
    Calls Tryz.prog 81 #[.slice (some ⟨g, 0, none⟩) 4 c] w fun e w' => e = .returned (.bool (fullN 4 b0 b1 b2)) ∧ Below w.heap.size w w' := by
  have hf := hT.1 b0 hb0
  by_cases hge : firstT b0 % 8 ≤ 4
  · have hres : fullN 4 b0 b1 b2 = true := by unfold fullN; rw [decide_eq_true hge]; rfl
    rw [hres]
    exact full_ge g 4 c w b0 _ hb0 (by omega) (by omega) (by have := firstT_cases b0; omega) hge hf h0
  · exfalso
    have := firstT_le b0
    omega

theorem fullRune_any (g c : Nat) (l : List UInt8) (w : World) (h1 : 1 ≤ l.length) (h4 : l.length ≤ 4) (hT : Utf8Tabs 4 5 w) (hc : ∀ j, j < l.length → w.cell? ⟨g, j, none⟩ = some (.int .u8 ((l.getD j 0).toNat : Int))) (hg : g < w.heap.size) :
    Calls Tryz.prog 81 #[.slice (some ⟨g, 0, none⟩) l.length c] w fun e w' => e = .returned (.bool (full l)) ∧ Below w.heap.size w w' := by
  have hres : full l = fullN l.length (l.getD 0 0).toNat (l.getD 1 0).toNat (l.getD 2 0).toNat := by unfold full; rw [decide_eq_true (show 0 < l.length by omega)]; rfl
  rw [hres]
  have hb : ∀ j, (l.getD j 0).toNat < 256 := fun j => (l.getD j 0).toNat_lt
  match l, h1, h4, hc, hb with
  | [x], _, _, hc, hb => exact fullRune_1 g c w _ (hb 0) hT (hc 0 (by simp)) hg
  | [x, y], _, _, hc, hb => exact fullRune_2 g c w _ _ (hb 0) (hb 1) hT (hc 0 (by simp)) (hc 1 (by simp)) hg
  | [x, y, z], _, _, hc, hb => exact fullRune_3 g c w _ _ _ (hb 0) (hb 1) (hb 2) hT (hc 0 (by simp)) (hc 1 (by simp)) (hc 2 (by simp)) hg
  | [x, y, z, u], _, _, hc, hb => exact fullRune_4 g c w _ _ _ _ (hb 0) (hb 1) (hb 2) (hb 3) hT (hc 0 (by simp)) (hc 1 (by simp)) (hc 2 (by simp)) (hc 3 (by simp)) hg
  | _ :: _ :: _ :: _ :: _ :: _, _, h4, _, _ => simp at h4
end Go.Proofs.YtodmlgbomhmbpaaGreatDoor
