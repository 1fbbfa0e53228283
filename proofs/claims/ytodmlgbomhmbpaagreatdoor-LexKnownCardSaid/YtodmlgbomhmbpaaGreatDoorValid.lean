/-
  What is proved here: what utf8.Valid answers of one to four bytes of an own row (ASCII, no lead byte); conditions: the library's two tables hold what is laid, and those that each fact states.
-/
import Derived.Test.YtodmlgbomhmbpaaGreatDoorLeaf
namespace Go.Proofs.YtodmlgbomhmbpaaGreatDoor
open Go.RowKit Ut Go.Lib

def lenOf : Value → Nat
  | .slice _ n _ => n
  | _ => 0
set_option maxHeartbeats 2000000 in
set_option maxRecDepth 1000000 in
theorem valid_ascii (g c : Nat) (w : World) (b0 : Nat) (hb0 : b0 < 128) (h0 : w.cell? ⟨g, 0, none⟩ = some (.int .u8 (b0 : Int))) (hc : 1 ≤ c) :
    Calls Tryz.prog 82 #[.slice (some ⟨g, 0, none⟩) 1 c] w fun e w' => e = .returned (.bool true) ∧ Below w.heap.size w w' := by
  go_enter Tryz.func82, Tryz.ntmps82
  go_wp2
  go_loopw [0] (fun p wr => (p = .slice (some ⟨g, 0, none⟩) 1 1 ∧ wr = w) ∨ (∃ A k, p = .slice A 0 k ∧ Below w.heap.size w wr)) (fun p _ => lenOf p)
  case atStart => exact Or.inl ⟨rfl, rfl⟩
  case round =>
    rcases hrel with ⟨rfl, rfl⟩ | ⟨A, k, rfl, hb⟩
    · go_wp2
      go_roundw
      case rel => exact Or.inr ⟨_, _, rfl, Below.refl _ _⟩
      case measure => simp [lenOf]
    · go_wp2
      go_ret
      exact ⟨rfl, hb⟩
set_option maxHeartbeats 2000000 in
set_option maxRecDepth 1000000 in
theorem valid_xx (g n c : Nat) (w : World) (b0 : Nat) (hb0 : b0 < 256) (hge : 128 ≤ b0) (hn : 1 ≤ n) (hn4 : n ≤ 4) (hf : w.cell? ⟨4, b0, none⟩ = some (.int .u8 ((241 : Nat) : Int))) (h0 : w.cell? ⟨g, 0, none⟩ = some (.int .u8 (b0 : Int)))
    (hl : w.cell? ⟨5, 30, none⟩ = some (.int .u8 0)) (hh : w.cell? ⟨5, 31, none⟩ = some (.int .u8 0)) (hc : n ≤ c) :
    Calls Tryz.prog 82 #[.slice (some ⟨g, 0, none⟩) n c] w fun e w' => e = .returned (.bool false) ∧ Below w.heap.size w w' := by
  go_enter Tryz.func82, Tryz.ntmps82
  go_wp2
  go_loopw [0] (fun p wr => (p = .slice (some ⟨g, 0, none⟩) n n ∧ wr = w)) (fun p _ => lenOf p)
  case atStart => exact ⟨rfl, rfl⟩
  case round =>
    obtain ⟨rfl, rfl⟩ := hrel
    go_wp2
    go_ret
    exact ⟨rfl, (Below.refl _ _).alloc (Nat.le_refl _) _⟩
end Go.Proofs.YtodmlgbomhmbpaaGreatDoor
