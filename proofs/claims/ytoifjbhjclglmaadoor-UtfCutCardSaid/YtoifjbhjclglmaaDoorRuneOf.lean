/-
  What is proved here: the contracts of accordionref00.Bring at the number of scalar values, of accordionlaw04.runeOf and textOf; conditions: those that each fact states.
-/
import Derived.Test.YtoifjbhjclglmaaDoorPlace
namespace Go.Proofs.YtoifjbhjclglmaaDoor
open Go.RowKit Ut Go.Lib

/-- A slice value that reads as a list of numbers. -/
def RdI (w : World) (v : Value) (xs : List Int) : Prop :=
  ∃ A n c, v = .slice A n c ∧ xs.length = n ∧ n ≤ 9223372036854775807 ∧ (0 < n → ∃ b off, A = some ⟨b, off, none⟩ ∧ b < w.heap.size ∧ ∀ j x, xs[j]? = some x → w.cell? ⟨b, off + j, none⟩ = some (.int .i64 x))
theorem RdI.below {w w' : World} {v : Value} {xs : List Int} (h : RdI w v xs) (hb : Below w.heap.size w w') : RdI w' v xs := by
  obtain ⟨A, n, c, rfl, h1, h2, h3⟩ := h
  refine ⟨A, n, c, rfl, h1, h2, fun hn => ?_⟩
  obtain ⟨b, off, rfl, hlt, hc⟩ := h3 hn
  exact ⟨b, off, rfl, Nat.lt_of_lt_of_le hlt hb.size, fun j x hx => (hb.cell (p := ⟨b, off + j, none⟩) hlt).trans (hc j x hx)⟩

theorem w64 {x : Int} (h0 : -9223372036854775808 ≤ x) (h1 : x ≤ 9223372036854775807) : wrap64 x = x := by unfold wrap64; omega
theorem w32 {x : Int} (h0 : -2147483648 ≤ x) (h1 : x ≤ 2147483647) : wrap32 x = x := by unfold wrap32; omega

/-- The scalar value that a number stands for. -/
def brg (i : Int) : Nat := (i % 1112064).toNat
def rn (i : Int) : Nat := if brg i < 55296 then brg i else brg i + 2048
theorem brg_lt (i : Int) : brg i < 1112064 := by unfold brg; omega
theorem rn_scal (i : Int) : scal (rn i) := by
  have := brg_lt i
  unfold scal rn
  split <;> omega
theorem brg_tmod (i : Int) : (i.tmod 1112064 < 0 ∧ ((brg i : Nat) : Int) = i.tmod 1112064 + 1112064) ∨ (¬ i.tmod 1112064 < 0 ∧ ((brg i : Nat) : Int) = i.tmod 1112064) := by
  have h := Int.tmod_eq_emod (a := i) (b := 1112064)
  unfold brg
  rw [h]
  split <;> omega

set_option maxHeartbeats 1000000 in
set_option maxRecDepth 1000000 in
theorem bring_neg (i : Int) (w : World) (h : decide (i.tmod 1112064 < 0) = true) (hb : wrap64 (i.tmod 1112064 + 1112064) = (brg i : Int)) :
    Calls Tryd.prog 26 #[.int .i64 i, .int .i64 1112064] w fun e w' => e = .returned (.int .i64 (brg i : Int)) ∧ w = w' := by
  have HB := Lib.hid hb
  clear hb
  go_enter Tryd.func26, Tryd.ntmps26
  go_wp2
  go_ret
  rw [← HB.out]
  exact ⟨rfl, rfl⟩
set_option maxHeartbeats 1000000 in
set_option maxRecDepth 1000000 in
theorem bring_pos (i : Int) (w : World) (h : decide (i.tmod 1112064 < 0) = false) (hb : i.tmod 1112064 = (brg i : Int)) :
    Calls Tryd.prog 26 #[.int .i64 i, .int .i64 1112064] w fun e w' => e = .returned (.int .i64 (brg i : Int)) ∧ w = w' := by
  have HB := Lib.hid hb
  clear hb
  go_enter Tryd.func26, Tryd.ntmps26
  go_wp2
  go_ret
  rw [← HB.out]
  exact ⟨rfl, rfl⟩
theorem bring_rune (i : Int) (w : World) : Calls Tryd.prog 26 #[.int .i64 i, .int .i64 1112064] w fun e w' => e = .returned (.int .i64 (brg i : Int)) ∧ w = w' := by
  have hl := brg_lt i
  rcases brg_tmod i with ⟨h1, h2⟩ | ⟨h1, h2⟩
  · exact bring_neg i w (decide_eq_true h1) (by rw [← h2]; exact w64 (by omega) (by omega))
  · exact bring_pos i w (decide_eq_false h1) h2.symm
set_option maxHeartbeats 1000000 in
set_option maxRecDepth 1000000 in
theorem runeOf_any (i : Int) (w : World) : Calls Tryd.prog 28 #[.int .i64 i] w fun e w' => e = .returned (.int .i32 (rn i : Int)) ∧ w = w' := by
  have HC := Lib.hid (bring_rune i w)
  have hl := brg_lt i
  unfold rn
  obtain ⟨b, hb⟩ : ∃ b, brg i = b := ⟨_, rfl⟩
  rw [hb] at HC hl ⊢
  by_cases h : b < 55296
  · rw [if_pos h]
    have d1 : decide (55296 ≤ (b : Int)) = false := decide_eq_false (by omega)
    have HW := Lib.hid (w32 (x := (b : Int)) (by omega) (by omega))
    clear h hl hb
    go_enter Tryd.func28, Tryd.ntmps28
    go_wp2_with (go_at_call 26; refine HC.out.mono ?_; rintro e w1 ⟨rfl, rfl⟩)
    go_ret
    first
      | exact ⟨rfl, rfl⟩
      | exact ⟨by show Ending.returned (Value.int .i32 (wrap32 (b : Int))) = _; rw [HW.out], rfl⟩
  · rw [if_neg h]
    have d1 : decide (55296 ≤ (b : Int)) = true := decide_eq_true (by omega)
    have HW := Lib.hid (show wrap32 (wrap64 ((b : Int) + 2048)) = ((b + 2048 : Nat) : Int) by rw [w64 (by omega) (by omega), w32 (by omega) (by omega)]; rfl)
    clear h hl hb
    go_enter Tryd.func28, Tryd.ntmps28
    go_wp2_with (go_at_call 26; refine HC.out.mono ?_; rintro e w1 ⟨rfl, rfl⟩)
    go_ret
    rw [← HW.out]
    exact ⟨rfl, rfl⟩

/-- The text of the first numbers. -/
def txt (l : List Int) : List UInt8 := l.flatMap fun i => enc (rn i)
theorem txt_len (l : List Int) : (txt l).length ≤ 4 * l.length := by
  induction l with
  | nil => simp [txt]
  | cons a r ih =>
    have := enc_len (rn a)
    unfold txt at ih ⊢
    rw [List.flatMap_cons, List.length_append, List.length_cons]
    omega
theorem put_S {w0 w : World} (r : Nat) (h : scal r) (hS : St w0 w) : Calls Tryd.prog 14 #[.int .i32 (r : Int)] w (SE w0 (.tuple #[.string (str (enc r)), .bool true])) := by
  refine (put_yes r w h).mono ?_
  rintro e w' ⟨rfl, rfl⟩
  exact ⟨rfl, hS⟩
set_option maxHeartbeats 1000000 in
set_option maxRecDepth 1000000 in
theorem textOf_any (v : Value) (xs : List Int) (w : World) (h : RdI w v xs) :
    Calls Tryd.prog 23 #[v] w fun e w' => e = .returned (.string (str (txt (xs.take 60)))) ∧ w = w' := by
  obtain ⟨A, n, c, rfl, h1, h2, h3⟩ := h
  go_enter Tryd.func23, Tryd.ntmps23
  go_wp2
  go_loop [3, 4] (fun s i => ∃ k : Nat, k ≤ n ∧ k ≤ 60 ∧ i = .int .i64 k ∧ s = .string (str (txt (xs.take k)))) (fun _ i => 61 - (RowKit.intOf i).toNat)
  case atStart => exact ⟨0, Nat.zero_le _, Nat.zero_le _, rfl, rfl⟩
  case round =>
    obtain ⟨k, hk, hk60, rfl, rfl⟩ := hrel
    have htl := txt_len (xs.take k)
    rw [List.length_take] at htl
    have hsz : (str (txt (xs.take k))).size ≤ 240 := by rw [str_size]; omega
    by_cases hlt : k < n
    · by_cases h60 : k < 60
      · obtain ⟨b, off, rfl, hb, hc⟩ := h3 (by omega)
        have hx : xs[k]? = some (xs[k]'(by omega)) := List.getElem?_eq_getElem (by omega)
        have hck := hc k _ hx
        obtain ⟨x, hxe⟩ : ∃ x, xs[k]'(by omega) = x := ⟨_, rfl⟩
        rw [hxe] at hck hx
        have htk : txt (xs.take (k + 1)) = txt (xs.take k) ++ enc (rn x) := by
          rw [List.take_add_one, hx]
          simp [txt]
        have hes : (str (enc (rn x))).size ≤ 4 := by rw [str_size]; exact (enc_len _).2
        have HT := Lib.hid htk
        have HSC := Lib.hid (rn_scal x)
        have HA := Lib.hid (str_app (txt (xs.take k)) (enc (rn x)))
        clear hc hx hxe htk htl h3
        go_wp2_with (first
          | (go_at_call 28; refine (runeOf_any _ _).mono ?_; rintro e w1 ⟨rfl, rfl⟩)
          | (go_at_call 14; refine (put_yes _ _ HSC.out).mono ?_; rintro e w1 ⟨rfl, rfl⟩))
        go_round
        case rel => exact ⟨k + 1, by omega, by omega, by go_num, by rw [HT.out, ← HA.out]⟩
        case measure => simp [RowKit.intOf]; omega
      · have hk : k = 60 := by omega
        subst hk
        clear h3
        go_wp2
        go_ret
        exact ⟨rfl, rfl⟩
    · have hkn : k = n := by omega
      subst hkn
      have he : xs.take k = xs.take 60 := by rw [List.take_of_length_le (by omega), List.take_of_length_le (by omega)]
      have HE := Lib.hid he
      clear he h3
      go_wp2
      go_ret
      exact ⟨by rw [← HE.out]; rfl, rfl⟩
end Go.Proofs.YtoifjbhjclglmaaDoor
