/-
  What is proved here: what utf8.Valid answers of one to four bytes of an own row (some classes of lead bytes); conditions: the library's two tables hold what is laid, and those that each fact states; and: what utf8.Valid answers of one to four bytes of an own row (some classes of lead bytes); conditions: the library's two tables hold what is laid, and those that each fact states; and: what utf8.Valid answers of one to four bytes of an own row (some classes of lead bytes); conditions: the library's two tables hold what is laid, and those that each fact states; and: utf8.Valid answers of one to four bytes of an own row as the plain function val says, where the bytes are no more than the first byte asks for; conditions: the library's two tables hold what is laid, and those that each fact states.
-/
import Derived.Test.YtjnfilbdokppiaaGreatDoorUValidB
namespace Go.Proofs.YtjnfilbdokppiaaGreatDoor.U
open Go.RowKit Ut Go.Lib

set_option maxHeartbeats 2000000 in
set_option maxRecDepth 1000000 in
theorem valid_35 (g c : Nat) (w : World) (b0 b1 b2 : Nat) (hb0 : b0 < 256) (hb1 : b1 < 256) (hb2 : b2 < 256) (hge : 128 ≤ b0) (hf : w.cell? ⟨2, b0, none⟩ = some (.int .u8 ((35 : Nat) : Int))) (h0 : w.cell? ⟨g, 0, none⟩ = some (.int .u8 (b0 : Int))) (h1 : w.cell? ⟨g, 1, none⟩ = some (.int .u8 (b1 : Int))) (h2 : w.cell? ⟨g, 2, none⟩ = some (.int .u8 (b2 : Int)))
    (hl : w.cell? ⟨3, 4, none⟩ = some (.int .u8 128)) (hh : w.cell? ⟨3, 5, none⟩ = some (.int .u8 159)) (hc : 3 ≤ c) (hg : g < w.heap.size) :
    Calls Tryz.prog 138 #[.slice (some ⟨g, 0, none⟩) 3 c] w fun e w' => e = .returned (.bool (decide (128 ≤ b1) && decide (b1 ≤ 159) && decide (128 ≤ b2) && decide (b2 ≤ 191))) ∧ Below w.heap.size w w' := by
  obtain ⟨R, hR⟩ : ∃ R, (decide (128 ≤ b1) && decide (b1 ≤ 159) && decide (128 ≤ b2) && decide (b2 ≤ 191)) = R := ⟨_, rfl⟩
  rw [hR]
  have HR := Lib.hid hR
  clear hR
  go_enter Tryz.func138, Tryz.ntmps138
  go_wp2
  go_loopw [0] (fun p wr => (p = .slice (some ⟨g, 0, none⟩) 3 3 ∧ wr = w) ∨ (∃ A k, p = .slice A 0 k ∧ Below w.heap.size w wr ∧ R = true)) (fun p _ => lenOf p)
  case atStart => exact Or.inl ⟨rfl, rfl⟩
  case round =>
    rcases hrel with ⟨rfl, rfl⟩ | ⟨A, k, rfl, hb, rfl⟩
    · go_wp2
      by_cases k0 : 128 ≤ b1
      rotate_left
      · have d0 : decide ((b1 : Int) < 128) = true := decide_eq_true (by omega)
        have hres : R = false := by rw [← HR.out]; simp [k0]
        subst hres
        go_quiet (fail)
        go_wp2
        go_ret
        exact ⟨rfl, below_drewN ((Below.refl _ _).alloc (Nat.le_refl _) _) _⟩
      have d0 : decide ((b1 : Int) < 128) = false := decide_eq_false (by omega)
      by_cases k1 : b1 ≤ 159
      rotate_left
      · have d1 : decide (159 < (b1 : Int)) = true := decide_eq_true (by omega)
        have hres : R = false := by rw [← HR.out]; simp [k1]
        subst hres
        go_quiet (fail)
        go_wp2
        go_ret
        exact ⟨rfl, below_drewN ((Below.refl _ _).alloc (Nat.le_refl _) _) _⟩
      have d1 : decide (159 < (b1 : Int)) = false := decide_eq_false (by omega)
      by_cases k2 : 128 ≤ b2
      rotate_left
      · have d2 : decide ((b2 : Int) < 128) = true := decide_eq_true (by omega)
        have hres : R = false := by rw [← HR.out]; simp [k2]
        subst hres
        go_quiet (fail)
        go_wp2
        go_ret
        exact ⟨rfl, below_drewN ((Below.refl _ _).alloc (Nat.le_refl _) _) _⟩
      have d2 : decide ((b2 : Int) < 128) = false := decide_eq_false (by omega)
      by_cases k3 : b2 ≤ 191
      rotate_left
      · have d3 : decide (191 < (b2 : Int)) = true := decide_eq_true (by omega)
        have hres : R = false := by rw [← HR.out]; simp [k3]
        subst hres
        go_quiet (fail)
        go_wp2
        go_ret
        exact ⟨rfl, below_drewN ((Below.refl _ _).alloc (Nat.le_refl _) _) _⟩
      have d3 : decide (191 < (b2 : Int)) = false := decide_eq_false (by omega)
      have hres : R = true := by rw [← HR.out]; simp [k0, k1, k2, k3]
      subst hres
      go_quiet (fail)
      go_wp2
      go_roundw
      case rel => exact Or.inr ⟨_, _, rfl, below_drewN ((Below.refl _ _).alloc (Nat.le_refl _) _) _, (by first | trivial | rfl)⟩
      case measure => simp [lenOf]
    · go_wp2
      go_ret
      exact ⟨rfl, hb⟩
set_option maxHeartbeats 2000000 in
set_option maxRecDepth 1000000 in
theorem short_35 (g n c : Nat) (w : World) (b0 : Nat) (hb0 : b0 < 256) (hge : 128 ≤ b0) (hn : 1 ≤ n) (hlt : n < 3) (hf : w.cell? ⟨2, b0, none⟩ = some (.int .u8 ((35 : Nat) : Int))) (h0 : w.cell? ⟨g, 0, none⟩ = some (.int .u8 (b0 : Int)))
    (hl : w.cell? ⟨3, 4, none⟩ = some (.int .u8 128)) (hh : w.cell? ⟨3, 5, none⟩ = some (.int .u8 159)) (hc : n ≤ c) :
    Calls Tryz.prog 138 #[.slice (some ⟨g, 0, none⟩) n c] w fun e w' => e = .returned (.bool false) ∧ Below w.heap.size w w' := by
  go_enter Tryz.func138, Tryz.ntmps138
  go_wp2
  go_loopw [0] (fun p wr => (p = .slice (some ⟨g, 0, none⟩) n n ∧ wr = w)) (fun p _ => lenOf p)
  case atStart => exact ⟨rfl, rfl⟩
  case round =>
    obtain ⟨rfl, rfl⟩ := hrel
    have d0 : decide ((n : Int) < 3) = true := decide_eq_true (by omega)
    go_wp2
    go_quiet (fail)
    go_wp2
    go_ret
    exact ⟨rfl, below_drewN ((Below.refl _ _).alloc (Nat.le_refl _) _) _⟩
set_option maxHeartbeats 2000000 in
set_option maxRecDepth 1000000 in
theorem valid_52 (g c : Nat) (w : World) (b0 b1 b2 b3 : Nat) (hb0 : b0 < 256) (hb1 : b1 < 256) (hb2 : b2 < 256) (hb3 : b3 < 256) (hge : 128 ≤ b0) (hf : w.cell? ⟨2, b0, none⟩ = some (.int .u8 ((52 : Nat) : Int))) (h0 : w.cell? ⟨g, 0, none⟩ = some (.int .u8 (b0 : Int))) (h1 : w.cell? ⟨g, 1, none⟩ = some (.int .u8 (b1 : Int))) (h2 : w.cell? ⟨g, 2, none⟩ = some (.int .u8 (b2 : Int))) (h3 : w.cell? ⟨g, 3, none⟩ = some (.int .u8 (b3 : Int)))
    (hl : w.cell? ⟨3, 6, none⟩ = some (.int .u8 144)) (hh : w.cell? ⟨3, 7, none⟩ = some (.int .u8 191)) (hc : 4 ≤ c) (hg : g < w.heap.size) :
    Calls Tryz.prog 138 #[.slice (some ⟨g, 0, none⟩) 4 c] w fun e w' => e = .returned (.bool (decide (144 ≤ b1) && decide (b1 ≤ 191) && decide (128 ≤ b2) && decide (b2 ≤ 191) && decide (128 ≤ b3) && decide (b3 ≤ 191))) ∧ Below w.heap.size w w' := by
  obtain ⟨R, hR⟩ : ∃ R, (decide (144 ≤ b1) && decide (b1 ≤ 191) && decide (128 ≤ b2) && decide (b2 ≤ 191) && decide (128 ≤ b3) && decide (b3 ≤ 191)) = R := ⟨_, rfl⟩
  rw [hR]
  have HR := Lib.hid hR
  clear hR
  go_enter Tryz.func138, Tryz.ntmps138
  go_wp2
  go_loopw [0] (fun p wr => (p = .slice (some ⟨g, 0, none⟩) 4 4 ∧ wr = w) ∨ (∃ A k, p = .slice A 0 k ∧ Below w.heap.size w wr ∧ R = true)) (fun p _ => lenOf p)
  case atStart => exact Or.inl ⟨rfl, rfl⟩
  case round =>
    rcases hrel with ⟨rfl, rfl⟩ | ⟨A, k, rfl, hb, rfl⟩
    · go_wp2
      by_cases k0 : 144 ≤ b1
      rotate_left
      · have d0 : decide ((b1 : Int) < 144) = true := decide_eq_true (by omega)
        have hres : R = false := by rw [← HR.out]; simp [k0]
        subst hres
        go_quiet (fail)
        go_wp2
        go_ret
        exact ⟨rfl, below_drewN ((Below.refl _ _).alloc (Nat.le_refl _) _) _⟩
      have d0 : decide ((b1 : Int) < 144) = false := decide_eq_false (by omega)
      by_cases k1 : b1 ≤ 191
      rotate_left
      · have d1 : decide (191 < (b1 : Int)) = true := decide_eq_true (by omega)
        have hres : R = false := by rw [← HR.out]; simp [k1]
        subst hres
        go_quiet (fail)
        go_wp2
        go_ret
        exact ⟨rfl, below_drewN ((Below.refl _ _).alloc (Nat.le_refl _) _) _⟩
      have d1 : decide (191 < (b1 : Int)) = false := decide_eq_false (by omega)
      by_cases k2 : 128 ≤ b2
      rotate_left
      · have d2 : decide ((b2 : Int) < 128) = true := decide_eq_true (by omega)
        have hres : R = false := by rw [← HR.out]; simp [k2]
        subst hres
        go_quiet (fail)
        go_wp2
        go_ret
        exact ⟨rfl, below_drewN ((Below.refl _ _).alloc (Nat.le_refl _) _) _⟩
      have d2 : decide ((b2 : Int) < 128) = false := decide_eq_false (by omega)
      by_cases k3 : b2 ≤ 191
      rotate_left
      · have d3 : decide (191 < (b2 : Int)) = true := decide_eq_true (by omega)
        have hres : R = false := by rw [← HR.out]; simp [k3]
        subst hres
        go_quiet (fail)
        go_wp2
        go_ret
        exact ⟨rfl, below_drewN ((Below.refl _ _).alloc (Nat.le_refl _) _) _⟩
      have d3 : decide (191 < (b2 : Int)) = false := decide_eq_false (by omega)
      by_cases k4 : 128 ≤ b3
      rotate_left
      · have d4 : decide ((b3 : Int) < 128) = true := decide_eq_true (by omega)
        have hres : R = false := by rw [← HR.out]; simp [k4]
        subst hres
        go_quiet (fail)
        go_wp2
        go_ret
        exact ⟨rfl, below_drewN ((Below.refl _ _).alloc (Nat.le_refl _) _) _⟩
      have d4 : decide ((b3 : Int) < 128) = false := decide_eq_false (by omega)
      by_cases k5 : b3 ≤ 191
      rotate_left
      · have d5 : decide (191 < (b3 : Int)) = true := decide_eq_true (by omega)
        have hres : R = false := by rw [← HR.out]; simp [k5]
        subst hres
        go_quiet (fail)
        go_wp2
        go_ret
        exact ⟨rfl, below_drewN ((Below.refl _ _).alloc (Nat.le_refl _) _) _⟩
      have d5 : decide (191 < (b3 : Int)) = false := decide_eq_false (by omega)
      have hres : R = true := by rw [← HR.out]; simp [k0, k1, k2, k3, k4, k5]
      subst hres
      go_quiet (fail)
      go_wp2
      go_roundw
      case rel => exact Or.inr ⟨_, _, rfl, below_drewN ((Below.refl _ _).alloc (Nat.le_refl _) _) _, (by first | trivial | rfl)⟩
      case measure => simp [lenOf]
    · go_wp2
      go_ret
      exact ⟨rfl, hb⟩
set_option maxHeartbeats 2000000 in
set_option maxRecDepth 1000000 in
theorem short_52 (g n c : Nat) (w : World) (b0 : Nat) (hb0 : b0 < 256) (hge : 128 ≤ b0) (hn : 1 ≤ n) (hlt : n < 4) (hf : w.cell? ⟨2, b0, none⟩ = some (.int .u8 ((52 : Nat) : Int))) (h0 : w.cell? ⟨g, 0, none⟩ = some (.int .u8 (b0 : Int)))
    (hl : w.cell? ⟨3, 6, none⟩ = some (.int .u8 144)) (hh : w.cell? ⟨3, 7, none⟩ = some (.int .u8 191)) (hc : n ≤ c) :
    Calls Tryz.prog 138 #[.slice (some ⟨g, 0, none⟩) n c] w fun e w' => e = .returned (.bool false) ∧ Below w.heap.size w w' := by
  go_enter Tryz.func138, Tryz.ntmps138
  go_wp2
  go_loopw [0] (fun p wr => (p = .slice (some ⟨g, 0, none⟩) n n ∧ wr = w)) (fun p _ => lenOf p)
  case atStart => exact ⟨rfl, rfl⟩
  case round =>
    obtain ⟨rfl, rfl⟩ := hrel
    have d0 : decide ((n : Int) < 4) = true := decide_eq_true (by omega)
    go_wp2
    go_quiet (fail)
    go_wp2
    go_ret
    exact ⟨rfl, below_drewN ((Below.refl _ _).alloc (Nat.le_refl _) _) _⟩
end Go.Proofs.YtjnfilbdokppiaaGreatDoor.U
namespace Go.Proofs.YtjnfilbdokppiaaGreatDoor.U
open Go.RowKit Ut Go.Lib

set_option maxHeartbeats 2000000 in
set_option maxRecDepth 1000000 in
theorem valid_68 (g c : Nat) (w : World) (b0 b1 b2 b3 : Nat) (hb0 : b0 < 256) (hb1 : b1 < 256) (hb2 : b2 < 256) (hb3 : b3 < 256) (hge : 128 ≤ b0) (hf : w.cell? ⟨2, b0, none⟩ = some (.int .u8 ((68 : Nat) : Int))) (h0 : w.cell? ⟨g, 0, none⟩ = some (.int .u8 (b0 : Int))) (h1 : w.cell? ⟨g, 1, none⟩ = some (.int .u8 (b1 : Int))) (h2 : w.cell? ⟨g, 2, none⟩ = some (.int .u8 (b2 : Int))) (h3 : w.cell? ⟨g, 3, none⟩ = some (.int .u8 (b3 : Int)))
    (hl : w.cell? ⟨3, 8, none⟩ = some (.int .u8 128)) (hh : w.cell? ⟨3, 9, none⟩ = some (.int .u8 143)) (hc : 4 ≤ c) (hg : g < w.heap.size) :
    Calls Tryz.prog 138 #[.slice (some ⟨g, 0, none⟩) 4 c] w fun e w' => e = .returned (.bool (decide (128 ≤ b1) && decide (b1 ≤ 143) && decide (128 ≤ b2) && decide (b2 ≤ 191) && decide (128 ≤ b3) && decide (b3 ≤ 191))) ∧ Below w.heap.size w w' := by
  obtain ⟨R, hR⟩ : ∃ R, (decide (128 ≤ b1) && decide (b1 ≤ 143) && decide (128 ≤ b2) && decide (b2 ≤ 191) && decide (128 ≤ b3) && decide (b3 ≤ 191)) = R := ⟨_, rfl⟩
  rw [hR]
  have HR := Lib.hid hR
  clear hR
  go_enter Tryz.func138, Tryz.ntmps138
  go_wp2
  go_loopw [0] (fun p wr => (p = .slice (some ⟨g, 0, none⟩) 4 4 ∧ wr = w) ∨ (∃ A k, p = .slice A 0 k ∧ Below w.heap.size w wr ∧ R = true)) (fun p _ => lenOf p)
  case atStart => exact Or.inl ⟨rfl, rfl⟩
  case round =>
    rcases hrel with ⟨rfl, rfl⟩ | ⟨A, k, rfl, hb, rfl⟩
    · go_wp2
      by_cases k0 : 128 ≤ b1
      rotate_left
      · have d0 : decide ((b1 : Int) < 128) = true := decide_eq_true (by omega)
        have hres : R = false := by rw [← HR.out]; simp [k0]
        subst hres
        go_quiet (fail)
        go_wp2
        go_ret
        exact ⟨rfl, below_drewN ((Below.refl _ _).alloc (Nat.le_refl _) _) _⟩
      have d0 : decide ((b1 : Int) < 128) = false := decide_eq_false (by omega)
      by_cases k1 : b1 ≤ 143
      rotate_left
      · have d1 : decide (143 < (b1 : Int)) = true := decide_eq_true (by omega)
        have hres : R = false := by rw [← HR.out]; simp [k1]
        subst hres
        go_quiet (fail)
        go_wp2
        go_ret
        exact ⟨rfl, below_drewN ((Below.refl _ _).alloc (Nat.le_refl _) _) _⟩
      have d1 : decide (143 < (b1 : Int)) = false := decide_eq_false (by omega)
      by_cases k2 : 128 ≤ b2
      rotate_left
      · have d2 : decide ((b2 : Int) < 128) = true := decide_eq_true (by omega)
        have hres : R = false := by rw [← HR.out]; simp [k2]
        subst hres
        go_quiet (fail)
        go_wp2
        go_ret
        exact ⟨rfl, below_drewN ((Below.refl _ _).alloc (Nat.le_refl _) _) _⟩
      have d2 : decide ((b2 : Int) < 128) = false := decide_eq_false (by omega)
      by_cases k3 : b2 ≤ 191
      rotate_left
      · have d3 : decide (191 < (b2 : Int)) = true := decide_eq_true (by omega)
        have hres : R = false := by rw [← HR.out]; simp [k3]
        subst hres
        go_quiet (fail)
        go_wp2
        go_ret
        exact ⟨rfl, below_drewN ((Below.refl _ _).alloc (Nat.le_refl _) _) _⟩
      have d3 : decide (191 < (b2 : Int)) = false := decide_eq_false (by omega)
      by_cases k4 : 128 ≤ b3
      rotate_left
      · have d4 : decide ((b3 : Int) < 128) = true := decide_eq_true (by omega)
        have hres : R = false := by rw [← HR.out]; simp [k4]
        subst hres
        go_quiet (fail)
        go_wp2
        go_ret
        exact ⟨rfl, below_drewN ((Below.refl _ _).alloc (Nat.le_refl _) _) _⟩
      have d4 : decide ((b3 : Int) < 128) = false := decide_eq_false (by omega)
      by_cases k5 : b3 ≤ 191
      rotate_left
      · have d5 : decide (191 < (b3 : Int)) = true := decide_eq_true (by omega)
        have hres : R = false := by rw [← HR.out]; simp [k5]
        subst hres
        go_quiet (fail)
        go_wp2
        go_ret
        exact ⟨rfl, below_drewN ((Below.refl _ _).alloc (Nat.le_refl _) _) _⟩
      have d5 : decide (191 < (b3 : Int)) = false := decide_eq_false (by omega)
      have hres : R = true := by rw [← HR.out]; simp [k0, k1, k2, k3, k4, k5]
      subst hres
      go_quiet (fail)
      go_wp2
      go_roundw
      case rel => exact Or.inr ⟨_, _, rfl, below_drewN ((Below.refl _ _).alloc (Nat.le_refl _) _) _, (by first | trivial | rfl)⟩
      case measure => simp [lenOf]
    · go_wp2
      go_ret
      exact ⟨rfl, hb⟩
set_option maxHeartbeats 2000000 in
set_option maxRecDepth 1000000 in
theorem short_68 (g n c : Nat) (w : World) (b0 : Nat) (hb0 : b0 < 256) (hge : 128 ≤ b0) (hn : 1 ≤ n) (hlt : n < 4) (hf : w.cell? ⟨2, b0, none⟩ = some (.int .u8 ((68 : Nat) : Int))) (h0 : w.cell? ⟨g, 0, none⟩ = some (.int .u8 (b0 : Int)))
    (hl : w.cell? ⟨3, 8, none⟩ = some (.int .u8 128)) (hh : w.cell? ⟨3, 9, none⟩ = some (.int .u8 143)) (hc : n ≤ c) :
    Calls Tryz.prog 138 #[.slice (some ⟨g, 0, none⟩) n c] w fun e w' => e = .returned (.bool false) ∧ Below w.heap.size w w' := by
  go_enter Tryz.func138, Tryz.ntmps138
  go_wp2
  go_loopw [0] (fun p wr => (p = .slice (some ⟨g, 0, none⟩) n n ∧ wr = w)) (fun p _ => lenOf p)
  case atStart => exact ⟨rfl, rfl⟩
  case round =>
    obtain ⟨rfl, rfl⟩ := hrel
    have d0 : decide ((n : Int) < 4) = true := decide_eq_true (by omega)
    go_wp2
    go_quiet (fail)
    go_wp2
    go_ret
    exact ⟨rfl, below_drewN ((Below.refl _ _).alloc (Nat.le_refl _) _) _⟩
end Go.Proofs.YtjnfilbdokppiaaGreatDoor.U
namespace Go.Proofs.YtjnfilbdokppiaaGreatDoor.U
open Go.RowKit Ut Go.Lib

set_option maxHeartbeats 2000000 in
set_option maxRecDepth 1000000 in
theorem valid_4 (g c : Nat) (w : World) (b0 b1 b2 b3 : Nat) (hb0 : b0 < 256) (hb1 : b1 < 256) (hb2 : b2 < 256) (hb3 : b3 < 256) (hge : 128 ≤ b0) (hf : w.cell? ⟨2, b0, none⟩ = some (.int .u8 ((4 : Nat) : Int))) (h0 : w.cell? ⟨g, 0, none⟩ = some (.int .u8 (b0 : Int))) (h1 : w.cell? ⟨g, 1, none⟩ = some (.int .u8 (b1 : Int))) (h2 : w.cell? ⟨g, 2, none⟩ = some (.int .u8 (b2 : Int))) (h3 : w.cell? ⟨g, 3, none⟩ = some (.int .u8 (b3 : Int)))
    (hl : w.cell? ⟨3, 0, none⟩ = some (.int .u8 128)) (hh : w.cell? ⟨3, 1, none⟩ = some (.int .u8 191)) (hc : 4 ≤ c) (hg : g < w.heap.size) :
    Calls Tryz.prog 138 #[.slice (some ⟨g, 0, none⟩) 4 c] w fun e w' => e = .returned (.bool (decide (128 ≤ b1) && decide (b1 ≤ 191) && decide (128 ≤ b2) && decide (b2 ≤ 191) && decide (128 ≤ b3) && decide (b3 ≤ 191))) ∧ Below w.heap.size w w' := by
  obtain ⟨R, hR⟩ : ∃ R, (decide (128 ≤ b1) && decide (b1 ≤ 191) && decide (128 ≤ b2) && decide (b2 ≤ 191) && decide (128 ≤ b3) && decide (b3 ≤ 191)) = R := ⟨_, rfl⟩
  rw [hR]
  have HR := Lib.hid hR
  clear hR
  go_enter Tryz.func138, Tryz.ntmps138
  go_wp2
  go_loopw [0] (fun p wr => (p = .slice (some ⟨g, 0, none⟩) 4 4 ∧ wr = w) ∨ (∃ A k, p = .slice A 0 k ∧ Below w.heap.size w wr ∧ R = true)) (fun p _ => lenOf p)
  case atStart => exact Or.inl ⟨rfl, rfl⟩
  case round =>
    rcases hrel with ⟨rfl, rfl⟩ | ⟨A, k, rfl, hb, rfl⟩
    · go_wp2
      by_cases k0 : 128 ≤ b1
      rotate_left
      · have d0 : decide ((b1 : Int) < 128) = true := decide_eq_true (by omega)
        have hres : R = false := by rw [← HR.out]; simp [k0]
        subst hres
        go_quiet (fail)
        go_wp2
        go_ret
        exact ⟨rfl, below_drewN ((Below.refl _ _).alloc (Nat.le_refl _) _) _⟩
      have d0 : decide ((b1 : Int) < 128) = false := decide_eq_false (by omega)
      by_cases k1 : b1 ≤ 191
      rotate_left
      · have d1 : decide (191 < (b1 : Int)) = true := decide_eq_true (by omega)
        have hres : R = false := by rw [← HR.out]; simp [k1]
        subst hres
        go_quiet (fail)
        go_wp2
        go_ret
        exact ⟨rfl, below_drewN ((Below.refl _ _).alloc (Nat.le_refl _) _) _⟩
      have d1 : decide (191 < (b1 : Int)) = false := decide_eq_false (by omega)
      by_cases k2 : 128 ≤ b2
      rotate_left
      · have d2 : decide ((b2 : Int) < 128) = true := decide_eq_true (by omega)
        have hres : R = false := by rw [← HR.out]; simp [k2]
        subst hres
        go_quiet (fail)
        go_wp2
        go_ret
        exact ⟨rfl, below_drewN ((Below.refl _ _).alloc (Nat.le_refl _) _) _⟩
      have d2 : decide ((b2 : Int) < 128) = false := decide_eq_false (by omega)
      by_cases k3 : b2 ≤ 191
      rotate_left
      · have d3 : decide (191 < (b2 : Int)) = true := decide_eq_true (by omega)
        have hres : R = false := by rw [← HR.out]; simp [k3]
        subst hres
        go_quiet (fail)
        go_wp2
        go_ret
        exact ⟨rfl, below_drewN ((Below.refl _ _).alloc (Nat.le_refl _) _) _⟩
      have d3 : decide (191 < (b2 : Int)) = false := decide_eq_false (by omega)
      by_cases k4 : 128 ≤ b3
      rotate_left
      · have d4 : decide ((b3 : Int) < 128) = true := decide_eq_true (by omega)
        have hres : R = false := by rw [← HR.out]; simp [k4]
        subst hres
        go_quiet (fail)
        go_wp2
        go_ret
        exact ⟨rfl, below_drewN ((Below.refl _ _).alloc (Nat.le_refl _) _) _⟩
      have d4 : decide ((b3 : Int) < 128) = false := decide_eq_false (by omega)
      by_cases k5 : b3 ≤ 191
      rotate_left
      · have d5 : decide (191 < (b3 : Int)) = true := decide_eq_true (by omega)
        have hres : R = false := by rw [← HR.out]; simp [k5]
        subst hres
        go_quiet (fail)
        go_wp2
        go_ret
        exact ⟨rfl, below_drewN ((Below.refl _ _).alloc (Nat.le_refl _) _) _⟩
      have d5 : decide (191 < (b3 : Int)) = false := decide_eq_false (by omega)
      have hres : R = true := by rw [← HR.out]; simp [k0, k1, k2, k3, k4, k5]
      subst hres
      go_quiet (fail)
      go_wp2
      go_roundw
      case rel => exact Or.inr ⟨_, _, rfl, below_drewN ((Below.refl _ _).alloc (Nat.le_refl _) _) _, (by first | trivial | rfl)⟩
      case measure => simp [lenOf]
    · go_wp2
      go_ret
      exact ⟨rfl, hb⟩
set_option maxHeartbeats 2000000 in
set_option maxRecDepth 1000000 in
theorem short_4 (g n c : Nat) (w : World) (b0 : Nat) (hb0 : b0 < 256) (hge : 128 ≤ b0) (hn : 1 ≤ n) (hlt : n < 4) (hf : w.cell? ⟨2, b0, none⟩ = some (.int .u8 ((4 : Nat) : Int))) (h0 : w.cell? ⟨g, 0, none⟩ = some (.int .u8 (b0 : Int)))
    (hl : w.cell? ⟨3, 0, none⟩ = some (.int .u8 128)) (hh : w.cell? ⟨3, 1, none⟩ = some (.int .u8 191)) (hc : n ≤ c) :
    Calls Tryz.prog 138 #[.slice (some ⟨g, 0, none⟩) n c] w fun e w' => e = .returned (.bool false) ∧ Below w.heap.size w w' := by
  go_enter Tryz.func138, Tryz.ntmps138
  go_wp2
  go_loopw [0] (fun p wr => (p = .slice (some ⟨g, 0, none⟩) n n ∧ wr = w)) (fun p _ => lenOf p)
  case atStart => exact ⟨rfl, rfl⟩
  case round =>
    obtain ⟨rfl, rfl⟩ := hrel
    have d0 : decide ((n : Int) < 4) = true := decide_eq_true (by omega)
    go_wp2
    go_quiet (fail)
    go_wp2
    go_ret
    exact ⟨rfl, below_drewN ((Below.refl _ _).alloc (Nat.le_refl _) _) _⟩
end Go.Proofs.YtjnfilbdokppiaaGreatDoor.U
namespace Go.Proofs.YtjnfilbdokppiaaGreatDoor.U
open Go.RowKit Ut Go.Lib

def VE (w : World) (b : Bool) (e : Ending) (w' : World) : Prop := e = .returned (.bool b) ∧ Below w.heap.size w w'
theorem val_ascii {n b0 b1 b2 b3 : Nat} (h : b0 < 128) : valN n b0 b1 b2 b3 = true := by unfold valN; rw [decide_eq_true h]; rfl
theorem val_few {n b0 b1 b2 b3 : Nat} (h : 128 ≤ b0) (h1 : firstT b0 % 8 ≤ 1 ∨ n < firstT b0 % 8) : valN n b0 b1 b2 b3 = false := by
  unfold valN
  rw [decide_eq_false (show ¬ b0 < 128 by omega)]
  rcases h1 with h1 | h1
  · rw [decide_eq_false (show ¬ 1 < firstT b0 % 8 by omega)]; rfl
  · rw [decide_eq_false (show ¬ firstT b0 % 8 ≤ n by omega)]; simp
theorem val_2 {b0 b1 b2 b3 : Nat} (h : 128 ≤ b0) (hF : firstT b0 = 2) : valN 2 b0 b1 b2 b3 = (decide (128 ≤ b1) && decide (b1 ≤ 191)) := by
  unfold valN
  rw [decide_eq_false (show ¬ b0 < 128 by omega), hF]
  simp [accLo, accHi]
theorem val_19 {b0 b1 b2 b3 : Nat} (h : 128 ≤ b0) (hF : firstT b0 = 19) : valN 3 b0 b1 b2 b3 = (decide (160 ≤ b1) && decide (b1 ≤ 191) && decide (128 ≤ b2) && decide (b2 ≤ 191)) := by
  unfold valN
  rw [decide_eq_false (show ¬ b0 < 128 by omega), hF]
  simp [accLo, accHi, Bool.and_assoc]
theorem val_3 {b0 b1 b2 b3 : Nat} (h : 128 ≤ b0) (hF : firstT b0 = 3) : valN 3 b0 b1 b2 b3 = (decide (128 ≤ b1) && decide (b1 ≤ 191) && decide (128 ≤ b2) && decide (b2 ≤ 191)) := by
  unfold valN
  rw [decide_eq_false (show ¬ b0 < 128 by omega), hF]
  simp [accLo, accHi, Bool.and_assoc]
theorem val_35 {b0 b1 b2 b3 : Nat} (h : 128 ≤ b0) (hF : firstT b0 = 35) : valN 3 b0 b1 b2 b3 = (decide (128 ≤ b1) && decide (b1 ≤ 159) && decide (128 ≤ b2) && decide (b2 ≤ 191)) := by
  unfold valN
  rw [decide_eq_false (show ¬ b0 < 128 by omega), hF]
  simp [accLo, accHi, Bool.and_assoc]
theorem val_52 {b0 b1 b2 b3 : Nat} (h : 128 ≤ b0) (hF : firstT b0 = 52) : valN 4 b0 b1 b2 b3 = (decide (144 ≤ b1) && decide (b1 ≤ 191) && decide (128 ≤ b2) && decide (b2 ≤ 191) && decide (128 ≤ b3) && decide (b3 ≤ 191)) := by
  unfold valN
  rw [decide_eq_false (show ¬ b0 < 128 by omega), hF]
  simp [accLo, accHi, Bool.and_assoc]
theorem val_4 {b0 b1 b2 b3 : Nat} (h : 128 ≤ b0) (hF : firstT b0 = 4) : valN 4 b0 b1 b2 b3 = (decide (128 ≤ b1) && decide (b1 ≤ 191) && decide (128 ≤ b2) && decide (b2 ≤ 191) && decide (128 ≤ b3) && decide (b3 ≤ 191)) := by
  unfold valN
  rw [decide_eq_false (show ¬ b0 < 128 by omega), hF]
  simp [accLo, accHi, Bool.and_assoc]
theorem val_68 {b0 b1 b2 b3 : Nat} (h : 128 ≤ b0) (hF : firstT b0 = 68) : valN 4 b0 b1 b2 b3 = (decide (128 ≤ b1) && decide (b1 ≤ 143) && decide (128 ≤ b2) && decide (b2 ≤ 191) && decide (128 ≤ b3) && decide (b3 ≤ 191)) := by
  unfold valN
  rw [decide_eq_false (show ¬ b0 < 128 by omega), hF]
  simp [accLo, accHi, Bool.and_assoc]

theorem valid_n (g c n : Nat) (l : List UInt8) (w : World) (hn : l.length = n) (h1 : 0 < n) (h4 : n ≤ 4) (ha : (l.getD 0 0).toNat < 128 → n = 1) (hx : 1 < firstT (l.getD 0 0).toNat % 8 → n ≤ firstT (l.getD 0 0).toNat % 8)
    (hT : Utf8Tabs 2 3 w) (hc : ∀ j, j < l.length → w.cell? ⟨g, j, none⟩ = some (.int .u8 ((l.getD j 0).toNat : Int))) (hg : g < w.heap.size) (hnc : n ≤ c) :
    Calls Tryz.prog 138 #[.slice (some ⟨g, 0, none⟩) n c] w (VE w (val l)) := by
  have hb : ∀ j, (l.getD j 0).toNat < 256 := fun j => (l.getD j 0).toNat_lt
  have h0 := hc 0 (by omega)
  have hf := hT.1 _ (hb 0)
  have hv : val l = valN n (l.getD 0 0).toNat (l.getD 1 0).toNat (l.getD 2 0).toNat (l.getD 3 0).toNat := by unfold val; rw [hn]
  rw [hv]
  by_cases h128 : (l.getD 0 0).toNat < 128
  · obtain rfl : n = 1 := ha h128
    rw [val_ascii h128]
    exact valid_ascii g c w _ h128 h0 hnc
  · by_cases hge : firstT (l.getD 0 0).toNat % 8 ≤ 1 ∨ n < firstT (l.getD 0 0).toNat % 8
    · rw [val_few (by omega) hge]
      have hF := firstT_cases (l.getD 0 0).toNat
      have h240 : firstT (l.getD 0 0).toNat ≠ 240 := by
        intro he
        unfold firstT at he
        repeat' split at he
        all_goals omega
      rcases hF with h | h | h | h | h | h | h | h | h
      · exact absurd h h240
      · rw [h] at hf
        have hA := hT.2 15 (by omega)
        exact valid_xx g n c w _ (hb 0) (by omega) (by omega) h4 hf h0 hA.1 hA.2 hnc
      · rw [h] at hf hge
        have hA := hT.2 0 (by omega)
        exact short_2 g n c w _ (hb 0) (by omega) h1 (by omega) hf h0 hA.1 hA.2 hnc
      · rw [h] at hf hge
        have hA := hT.2 1 (by omega)
        exact short_19 g n c w _ (hb 0) (by omega) h1 (by omega) hf h0 hA.1 hA.2 hnc
      · rw [h] at hf hge
        have hA := hT.2 0 (by omega)
        exact short_3 g n c w _ (hb 0) (by omega) h1 (by omega) hf h0 hA.1 hA.2 hnc
      · rw [h] at hf hge
        have hA := hT.2 2 (by omega)
        exact short_35 g n c w _ (hb 0) (by omega) h1 (by omega) hf h0 hA.1 hA.2 hnc
      · rw [h] at hf hge
        have hA := hT.2 3 (by omega)
        exact short_52 g n c w _ (hb 0) (by omega) h1 (by omega) hf h0 hA.1 hA.2 hnc
      · rw [h] at hf hge
        have hA := hT.2 0 (by omega)
        exact short_4 g n c w _ (hb 0) (by omega) h1 (by omega) hf h0 hA.1 hA.2 hnc
      · rw [h] at hf hge
        have hA := hT.2 4 (by omega)
        exact short_68 g n c w _ (hb 0) (by omega) h1 (by omega) hf h0 hA.1 hA.2 hnc
    · have hF := firstT_cases (l.getD 0 0).toNat
      have hxx := hx (by omega)
      have hsz : n = firstT (l.getD 0 0).toNat % 8 := by omega
      rcases hF with h | h | h | h | h | h | h | h | h
      · exfalso; rw [h] at hge; omega
      · exfalso; rw [h] at hge; omega
      · obtain rfl : n = 2 := by rw [h] at hsz; omega
        rw [h] at hf
        have hA := hT.2 0 (by omega)
        rw [val_2 (by omega) h]
        exact valid_2 g c w _ _ (hb 0) (hb 1) (by omega) hf (hc 0 (by omega)) (hc 1 (by omega)) hA.1 hA.2 hnc hg
      · obtain rfl : n = 3 := by rw [h] at hsz; omega
        rw [h] at hf
        have hA := hT.2 1 (by omega)
        rw [val_19 (by omega) h]
        exact valid_19 g c w _ _ _ (hb 0) (hb 1) (hb 2) (by omega) hf (hc 0 (by omega)) (hc 1 (by omega)) (hc 2 (by omega)) hA.1 hA.2 hnc hg
      · obtain rfl : n = 3 := by rw [h] at hsz; omega
        rw [h] at hf
        have hA := hT.2 0 (by omega)
        rw [val_3 (by omega) h]
        exact valid_3 g c w _ _ _ (hb 0) (hb 1) (hb 2) (by omega) hf (hc 0 (by omega)) (hc 1 (by omega)) (hc 2 (by omega)) hA.1 hA.2 hnc hg
      · obtain rfl : n = 3 := by rw [h] at hsz; omega
        rw [h] at hf
        have hA := hT.2 2 (by omega)
        rw [val_35 (by omega) h]
        exact valid_35 g c w _ _ _ (hb 0) (hb 1) (hb 2) (by omega) hf (hc 0 (by omega)) (hc 1 (by omega)) (hc 2 (by omega)) hA.1 hA.2 hnc hg
      · obtain rfl : n = 4 := by rw [h] at hsz; omega
        rw [h] at hf
        have hA := hT.2 3 (by omega)
        rw [val_52 (by omega) h]
        exact valid_52 g c w _ _ _ _ (hb 0) (hb 1) (hb 2) (hb 3) (by omega) hf (hc 0 (by omega)) (hc 1 (by omega)) (hc 2 (by omega)) (hc 3 (by omega)) hA.1 hA.2 hnc hg
      · obtain rfl : n = 4 := by rw [h] at hsz; omega
        rw [h] at hf
        have hA := hT.2 0 (by omega)
        rw [val_4 (by omega) h]
        exact valid_4 g c w _ _ _ _ (hb 0) (hb 1) (hb 2) (hb 3) (by omega) hf (hc 0 (by omega)) (hc 1 (by omega)) (hc 2 (by omega)) (hc 3 (by omega)) hA.1 hA.2 hnc hg
      · obtain rfl : n = 4 := by rw [h] at hsz; omega
        rw [h] at hf
        have hA := hT.2 4 (by omega)
        rw [val_68 (by omega) h]
        exact valid_68 g c w _ _ _ _ (hb 0) (hb 1) (hb 2) (hb 3) (by omega) hf (hc 0 (by omega)) (hc 1 (by omega)) (hc 2 (by omega)) (hc 3 (by omega)) hA.1 hA.2 hnc hg
end Go.Proofs.YtjnfilbdokppiaaGreatDoor.U
