/-
  What is proved here: contracts of the reference implementation of layer 2 (Legal, Inline, Pack, Unpack, Elem, Typed): its results are those that the specification gives; condition: the byte is a byte.
-/
import Derived.Test.YtocdmjbmeindgaaDoorPack
namespace Go.Proofs.YtocdmjbmeindgaaDoor
open Go.RowKit Tg

theorem rlegal_any (t : Int) (w : World) :
    Calls Tryd.prog 20 #[.int .i64 t] w fun e w' => e = .returned (.bool (legal t)) ∧ w = w' := by
  rcases in_or (t := t) with h | ⟨k, rfl, hk⟩
  · have e0 : legal t = false := by
      simp [legal, cls, prop_out h]
    simp only [e0]
    have b0 : (t == 0) = false := by simp; omega
    have b1 : (t == 1) = false := by simp; omega
    have b2 : (t == 2) = false := by simp; omega
    have b4 : (t == 4) = false := by simp; omega
    have b5 : (t == 5) = false := by simp; omega
    have b6 : (t == 6) = false := by simp; omega
    have b7 : (t == 7) = false := by simp; omega
    have b9 : (t == 9) = false := by simp; omega
    have b10 : (t == 10) = false := by simp; omega
    have b11 : (t == 11) = false := by simp; omega
    have b12 : (t == 12) = false := by simp; omega
    have b14 : (t == 14) = false := by simp; omega
    have b16 : (t == 16) = false := by simp; omega
    have b17 : (t == 17) = false := by simp; omega
    have b19 : (t == 19) = false := by simp; omega
    have b20 : (t == 20) = false := by simp; omega
    have b22 : (t == 22) = false := by simp; omega
    have b23 : (t == 23) = false := by simp; omega
    have b25 : (t == 25) = false := by simp; omega
    have b26 : (t == 26) = false := by simp; omega
    have b36 : (t == 36) = false := by simp; omega
    clear h e0
    go_enter Tryd.func20, Tryd.ntmps20
    go_wp2
    go_ret
    exact ⟨rfl, rfl⟩
  · rcases (show k = 0 ∨ k = 1 ∨ k = 2 ∨ k = 3 ∨ k = 4 ∨ k = 5 ∨ k = 6 ∨ k = 7 ∨ k = 8 ∨ k = 9 ∨ k = 10 ∨ k = 11 ∨ k = 12 ∨ k = 13 ∨ k = 14 ∨ k = 15 ∨ k = 16 ∨ k = 17 ∨ k = 18 ∨ k = 19 ∨ k = 20 ∨ k = 21 ∨ k = 22 ∨ k = 23 ∨ k = 24 ∨ k = 25 ∨ k = 26 ∨ k = 27 ∨ k = 28 ∨ k = 29 ∨ k = 30 ∨ k = 31 ∨ k = 32 ∨ k = 33 ∨ k = 34 ∨ k = 35 ∨ k = 36 by omega) with rfl | rfl | rfl | rfl | rfl | rfl | rfl | rfl | rfl | rfl | rfl | rfl | rfl | rfl | rfl | rfl | rfl | rfl | rfl | rfl | rfl | rfl | rfl | rfl | rfl | rfl | rfl | rfl | rfl | rfl | rfl | rfl | rfl | rfl | rfl | rfl | rfl
    all_goals
      clear hk
      go_enter Tryd.func20, Tryd.ntmps20
      go_wp2
      go_ret
      exact ⟨rfl, rfl⟩

theorem rinline_any (t : Int) (w : World) :
    Calls Tryd.prog 22 #[.int .i64 t] w fun e w' => e = .returned (.bool (inl t)) ∧ w = w' := by
  rcases in_or (t := t) with h | ⟨k, rfl, hk⟩
  · have e0 : inl t = false := by
      simp [inl, cls, prop_out h]
    simp only [e0]
    have b0 : (t == 0) = false := by simp; omega
    have b1 : (t == 1) = false := by simp; omega
    have b2 : (t == 2) = false := by simp; omega
    have b26 : (t == 26) = false := by simp; omega
    clear h e0
    go_enter Tryd.func22, Tryd.ntmps22
    go_wp2
    go_ret
    exact ⟨rfl, rfl⟩
  · rcases (show k = 0 ∨ k = 1 ∨ k = 2 ∨ k = 3 ∨ k = 4 ∨ k = 5 ∨ k = 6 ∨ k = 7 ∨ k = 8 ∨ k = 9 ∨ k = 10 ∨ k = 11 ∨ k = 12 ∨ k = 13 ∨ k = 14 ∨ k = 15 ∨ k = 16 ∨ k = 17 ∨ k = 18 ∨ k = 19 ∨ k = 20 ∨ k = 21 ∨ k = 22 ∨ k = 23 ∨ k = 24 ∨ k = 25 ∨ k = 26 ∨ k = 27 ∨ k = 28 ∨ k = 29 ∨ k = 30 ∨ k = 31 ∨ k = 32 ∨ k = 33 ∨ k = 34 ∨ k = 35 ∨ k = 36 by omega) with rfl | rfl | rfl | rfl | rfl | rfl | rfl | rfl | rfl | rfl | rfl | rfl | rfl | rfl | rfl | rfl | rfl | rfl | rfl | rfl | rfl | rfl | rfl | rfl | rfl | rfl | rfl | rfl | rfl | rfl | rfl | rfl | rfl | rfl | rfl | rfl | rfl
    all_goals
      clear hk
      go_enter Tryd.func22, Tryd.ntmps22
      go_wp2
      go_ret
      exact ⟨rfl, rfl⟩

theorem relem_any (t : Int) (w : World) :
    Calls Tryd.prog 16 #[.int .i64 t] w fun e w' => e = .returned (.tuple #[.int .i64 (elm t), .int .i64 (mny t), .bool (isV t)]) ∧ w = w' := by
  rcases in_or (t := t) with h | ⟨k, rfl, hk⟩
  · have e0 : elm t = 0 ∧ mny t = 0 ∧ isV t = false := by
      simp [isV, cls, elm, mny, prop_out h]
    simp only [e0]
    have b11 : (t == 11) = false := by simp; omega
    have b12 : (t == 12) = false := by simp; omega
    have b14 : (t == 14) = false := by simp; omega
    have b36 : (t == 36) = false := by simp; omega
    have b16 : (t == 16) = false := by simp; omega
    have b19 : (t == 19) = false := by simp; omega
    have b22 : (t == 22) = false := by simp; omega
    have b17 : (t == 17) = false := by simp; omega
    have b20 : (t == 20) = false := by simp; omega
    have b23 : (t == 23) = false := by simp; omega
    clear h e0
    go_enter Tryd.func16, Tryd.ntmps16
    go_wp2
    go_ret3
    exact ⟨rfl, rfl⟩
  · rcases (show k = 0 ∨ k = 1 ∨ k = 2 ∨ k = 3 ∨ k = 4 ∨ k = 5 ∨ k = 6 ∨ k = 7 ∨ k = 8 ∨ k = 9 ∨ k = 10 ∨ k = 11 ∨ k = 12 ∨ k = 13 ∨ k = 14 ∨ k = 15 ∨ k = 16 ∨ k = 17 ∨ k = 18 ∨ k = 19 ∨ k = 20 ∨ k = 21 ∨ k = 22 ∨ k = 23 ∨ k = 24 ∨ k = 25 ∨ k = 26 ∨ k = 27 ∨ k = 28 ∨ k = 29 ∨ k = 30 ∨ k = 31 ∨ k = 32 ∨ k = 33 ∨ k = 34 ∨ k = 35 ∨ k = 36 by omega) with rfl | rfl | rfl | rfl | rfl | rfl | rfl | rfl | rfl | rfl | rfl | rfl | rfl | rfl | rfl | rfl | rfl | rfl | rfl | rfl | rfl | rfl | rfl | rfl | rfl | rfl | rfl | rfl | rfl | rfl | rfl | rfl | rfl | rfl | rfl | rfl | rfl
    all_goals
      clear hk
      go_enter Tryd.func16, Tryd.ntmps16
      go_wp2
      go_ret3
      exact ⟨rfl, rfl⟩

theorem rwidth_any (k : Int) (w : World) (h : k = 0 ∨ k = 1 ∨ k = 2 ∨ k = 3) :
    Calls Tryd.prog 24 #[.int .i64 k] w fun e w' => e = .returned (.int .i64 (wid k)) ∧ w = w' := by
  rcases h with rfl | rfl | rfl | rfl
  all_goals
    go_enter Tryd.func24, Tryd.ntmps24
    go_wp2
    go_ret
    exact ⟨rfl, rfl⟩
end Go.Proofs.YtocdmjbmeindgaaDoor
