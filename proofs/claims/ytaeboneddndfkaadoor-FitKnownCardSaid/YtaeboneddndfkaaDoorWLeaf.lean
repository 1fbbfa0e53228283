/-
  What is proved here: contracts of width.widthOf, width.least at its test, and width.Of; conditions: the numbers are in the range of their types where stated.
-/
import Derived.Test.YtaeboneddndfkaaDoorTab
import Derived.Test.YtaeboneddndfkaaDoorWMath
namespace Go.Proofs.YtaeboneddndfkaaDoor.Wd
open Go.RowKit
theorem ret_int {k : IntKind} {a b : Int} (h : a = b) : Ending.returned (.int k a) = .returned (.int k b) := by rw [h]

theorem hmf (fn : Fn) (first cap : Array Value) (w : World) : (Instr.makeFunc fn first cap).run Tryd.prog w = .ok (.func fn first cap) w := rfl

theorem widthOf_any (k : Nat) (w : World) (hk : k ≤ 3) : Calls Tryd.prog 46 #[.int .i64 (k : Int)] w fun e w' => e = .returned (.int .i64 ((2 ^ k : Nat) : Int)) ∧ w = w' := by
  have h : k = 0 ∨ k = 1 ∨ k = 2 ∨ k = 3 := by omega
  rcases h with rfl | rfl | rfl | rfl
  all_goals
    go_enter Tryd.func46, Tryd.ntmps46
    go_wp2
    go_ret
    exact ⟨rfl, rfl⟩


theorem ofT_any (u : Int) (g k : Nat) (w : World) (hc : w.cell? ⟨g, 0, none⟩ = some (.int .u64 u)) (hk : k ≤ 2) :
    Calls Tryd.prog 48 #[.int .i64 ((8 * 2 ^ k : Nat) : Int), .pointer (some ⟨g, 0, none⟩)] w fun e w' => e = .returned (.bool (shU u k)) ∧ w = w' := by
  have h : k = 0 ∨ k = 1 ∨ k = 2 := by omega
  rcases h with rfl | rfl | rfl
  all_goals
    go_enter Tryd.func48, Tryd.ntmps48
    go_wp2
    all_goals
      go_ret
      exact ⟨ret_bool (by first | rfl | (unfold shU; simp_all)), rfl⟩

theorem ofL_any (u : Int) (g : Nat) (w : World) (hc : w.cell? ⟨g, 0, none⟩ = some (.int .u64 u)) (h0 : 0 ≤ u) :
    Calls Tryd.prog 47 #[.func (.func 48) #[] #[.pointer (some ⟨g, 0, none⟩)]] w fun e w' => e = .returned (.int .i64 (mU u)) ∧ w = w' := by
  have HC := Lib.hid hc
  clear hc
  go_enter Tryd.func47, Tryd.ntmps47
  go_wp2
  go_loop [5] (fun i => ∃ k : Nat, k ≤ 3 ∧ i = .int .i64 k ∧ Hid (∀ j, j < k → shU u j = false)) (fun i => 3 - (intOf i).toNat)
  case atStart => exact ⟨0, Nat.zero_le _, rfl, fun j hj => absurd hj (by omega)⟩
  case round =>
    obtain ⟨k, hk, rfl, HJ⟩ := hrel
    by_cases hlt : k < 3
    · have hp : (2 : Nat) ^ k ≤ 4 := by
        have h : k = 0 ∨ k = 1 ∨ k = 2 := by omega
        rcases h with rfl | rfl | rfl <;> decide
      have e8 : ((8 * 2 ^ k : Nat) : Int) = 8 * ((2 ^ k : Nat) : Int) := by omega
      have hT := ofT_any u g k w HC.out (by omega)
      rw [e8] at hT
      clear e8
      have HP := Lib.hid hp
      cases hs : shU u k with
      | true =>
        rw [hs] at hT
        have HT := Lib.hid hT
        have HS := Lib.hid hs
        clear hs hT
        obtain ⟨p, hpk⟩ : ∃ p, p = 2 ^ k := ⟨_, rfl⟩
        have hw := widthOf_any k w hk
        rw [← hpk] at hw hp
        rw [← hpk] at HT
        have HW := Lib.hid hw
        have HPK := Lib.hid hpk
        clear hw hpk HP
        go_wp2_with (first
          | (go_at_call 46; refine HW.out.mono ?_; rintro e w' ⟨rfl, rfl⟩)
          | (go_at_call 48; refine HT.out.mono ?_; rintro e w' ⟨rfl, rfl⟩))
        go_ret
        refine ⟨ret_int ?_, rfl⟩
        have e := of_hit h0 HJ.out HS.out (by omega)
        rw [e, ← HPK.out]
      | false =>
        rw [hs] at hT
        have HT := Lib.hid hT
        have HS := Lib.hid hs
        clear hs hT
        obtain ⟨p, hpk⟩ : ∃ p, p = 2 ^ k := ⟨_, rfl⟩
        have hw := widthOf_any k w hk
        rw [← hpk] at hw hp
        rw [← hpk] at HT
        have HW := Lib.hid hw
        clear hw hpk HP
        go_wp2_with (first
          | (go_at_call 46; refine HW.out.mono ?_; rintro e w' ⟨rfl, rfl⟩)
          | (go_at_call 48; refine HT.out.mono ?_; rintro e w' ⟨rfl, rfl⟩))
        go_round
        case rel =>
          refine ⟨k + 1, by omega, by go_num, fun j hj => ?_⟩
          by_cases h : j < k
          · exact HJ.out j h
          · obtain rfl : j = k := by omega
            exact HS.out
        case measure => simp [intOf]; omega
    · obtain rfl : k = 3 := by omega
      have hw := widthOf_any 3 w (by omega)
      have HW := Lib.hid hw
      clear hw
      go_wp2_with (go_at_call 46; refine HW.out.mono ?_; rintro e w' ⟨rfl, rfl⟩)
      go_ret
      exact ⟨ret_int (of_miss h0 HJ.out).symm, rfl⟩

theorem of_any (u : Int) (w : World) (h0 : 0 ≤ u) : Calls Tryd.prog 45 #[.int .u64 u] w fun e w' => e = .returned (.int .i64 (mU u)) ∧ Below w.heap.size w w' := by
  have hb : Below w.heap.size w (w.alloc (.cells #[.int .u64 u] 22)) := (Below.refl _ _).alloc (Nat.le_refl _) _
  have hc : (w.alloc (.cells #[.int .u64 u] 22)).cell? ⟨w.heap.size, 0, none⟩ = some (.int .u64 u) := by rw [World.cell?_alloc_new]; rfl
  have HB := Lib.hid hb
  have HL := Lib.hid (ofL_any u w.heap.size _ hc h0)
  clear hb hc
  go_enter Tryd.func45, Tryd.ntmps45
  go_wp2_with (go_at_call 47; refine HL.out.mono ?_; rintro e w' ⟨rfl, rfl⟩)
  go_ret
  exact ⟨rfl, HB.out⟩
end Go.Proofs.YtaeboneddndfkaaDoor.Wd
