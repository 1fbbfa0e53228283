/-
  What is proved here: contracts of the reference's Rune, tail and Put; conditions: those that each fact states.
-/
import Derived.Test.YtoifjbhjclglmaaDoorWorks
namespace Go.Proofs.YtoifjbhjclglmaaDoor
open Go.RowKit Ut Go.Lib

theorem conv_new (w : World) (cs : Array Value) (ys : List UInt8) (n : Nat) (hcs : cs = (bv ys).toArray) (hn : n = ys.length) :
    (convert 48 9 (.slice (some ⟨w.heap.size, 0, none⟩) n n)).run Tryd.prog (w.alloc (.cells cs 5)) = .ok (.string (str ys)) (w.alloc (.cells cs 5)) := by
  subst hcs; subst hn
  rw [run_convert_bytes_string _ 48 9 5 _ _ _ Tryd.underlying48 Tryd.underlying5 Tryd.underlying9]
  have hl := run_loadCells_list (P := Tryd.prog) (w := w.alloc (.cells (bv ys).toArray 5)) ⟨w.heap.size, 0, none⟩ (bv ys) src_new
  have e : (bv ys) = (ys.map (fun b : UInt8 => (b.toNat : Int))).map (Value.int .u8) := by simp [bv]
  rw [bv_length] at hl
  have hl2 := hl.trans (by rw [e] : _ = Result.ok ((ys.map (fun b : UInt8 => (b.toNat : Int))).map (Value.int .u8)).toArray (w.alloc (.cells (bv ys).toArray 5)))
  rw [run_bytesToString _ ⟨w.heap.size, 0, none⟩ _ _ _ hl2, fold_push]
  simp [str]

theorem rune_yes (r : Nat) (w : World) (h : scal r) : Calls Tryd.prog 33 #[.int .i64 (r : Int)] w fun e w' => e = .returned (.bool true) ∧ w = w' := by
  unfold scal at h
  have d0 : decide (0 ≤ (r : Int)) = true := decide_eq_true (by omega)
  have d1 : decide ((r : Int) ≤ 1114111) = true := decide_eq_true (by omega)
  rcases h with ⟨h1, h2 | h2⟩
  · have d2 : decide ((r : Int) < 55296) = true := decide_eq_true (by omega)
    clear h1 h2
    go_enter Tryd.func33, Tryd.ntmps33
    go_wp2
    go_ret
    exact ⟨rfl, rfl⟩
  · have d2 : decide ((r : Int) < 55296) = false := decide_eq_false (by omega)
    have d3 : decide (57343 < (r : Int)) = true := decide_eq_true (by omega)
    clear h1 h2
    go_enter Tryd.func33, Tryd.ntmps33
    go_wp2
    go_ret
    exact ⟨rfl, rfl⟩
theorem tail_any (n : Int) (w : World) (hn : 0 ≤ n) : Calls Tryd.prog 34 #[.int .i64 n] w fun e w' => e = .returned (.int .u8 (128 + n % 64)) ∧ w = w' := by
  go_enter Tryd.func34, Tryd.ntmps34
  go_wp2
  go_ret
  exact ⟨rfl, rfl⟩
set_option maxHeartbeats 1000000 in
set_option maxRecDepth 1000000 in
theorem refPut_one (r : Nat) (w : World) (h : r < 128) : Calls Tryd.prog 15 #[.int .i32 (r : Int)] w fun e w' => e = .returned (.tuple #[.string (str (enc r)), .bool true]) ∧ Below w.heap.size w w' := by
  have HR := Lib.hid (fun W => rune_yes r W (by unfold scal; omega))
  have d1 : decide ((r : Int) < 128) = true := decide_eq_true (by omega)
  have hbv := bv_ascii h
  have hcv : ∀ W : World, _ := fun W => conv_new W _ (enc r) 1 rfl (by have := congrArg List.length hbv; rw [bv_length] at this; exact this.symm)
  rw [hbv] at hcv
  clear hbv
  go_enter Tryd.func15, Tryd.ntmps15
  go_wp2_with (first
    | (go_at_call 33; (with_reducible refine (HR.out _).mono ?_); rintro e w1 ⟨rfl, rfl⟩)
    | (go_at_call 34; (with_reducible refine (tail_any _ _ (by omega)).mono ?_); rintro e w1 ⟨rfl, rfl⟩))
  go_ret2
  exact ⟨rfl, (Below.refl _ _).alloc (Nat.le_refl _) _⟩
set_option maxHeartbeats 1000000 in
set_option maxRecDepth 1000000 in
theorem refPut_two (r : Nat) (w : World) (h : 128 ≤ r ∧ r < 2048) : Calls Tryd.prog 15 #[.int .i32 (r : Int)] w fun e w' => e = .returned (.tuple #[.string (str (enc r)), .bool true]) ∧ Below w.heap.size w w' := by
  have HR := Lib.hid (fun W => rune_yes r W (by unfold scal; omega))
  have d1 : decide ((r : Int) < 128) = false := decide_eq_false (by omega)
  have d2 : decide ((r : Int) < 2048) = true := decide_eq_true (by omega)
  have q1 : (r : Int) / 64 < 32 := by omega
  have hbv := bv_two h
  have hcv : ∀ W : World, _ := fun W => conv_new W _ (enc r) 2 rfl (by have := congrArg List.length hbv; rw [bv_length] at this; exact this.symm)
  rw [hbv] at hcv
  clear hbv
  go_enter Tryd.func15, Tryd.ntmps15
  go_wp2_with (first
    | (go_at_call 33; (with_reducible refine (HR.out _).mono ?_); rintro e w1 ⟨rfl, rfl⟩)
    | (go_at_call 34; (with_reducible refine (tail_any _ _ (by omega)).mono ?_); rintro e w1 ⟨rfl, rfl⟩))
  go_ret2
  exact ⟨rfl, (Below.refl _ _).alloc (Nat.le_refl _) _⟩
set_option maxHeartbeats 1000000 in
set_option maxRecDepth 1000000 in
theorem refPut_three (r : Nat) (w : World) (h : 2048 ≤ r ∧ r < 55296 ∨ 57343 < r ∧ r < 65536) : Calls Tryd.prog 15 #[.int .i32 (r : Int)] w fun e w' => e = .returned (.tuple #[.string (str (enc r)), .bool true]) ∧ Below w.heap.size w w' := by
  have HR := Lib.hid (fun W => rune_yes r W (by unfold scal; omega))
  have d1 : decide ((r : Int) < 128) = false := decide_eq_false (by omega)
  have d2 : decide ((r : Int) < 2048) = false := decide_eq_false (by omega)
  have d3 : decide ((r : Int) < 65536) = true := decide_eq_true (by omega)
  have q1 : (r : Int) / 4096 < 16 := by omega
  have q2 : 0 ≤ (r : Int) / 4096 := by omega
  have q3 : 0 ≤ (r : Int) / 64 := by omega
  have hbv := bv_three h
  have hcv : ∀ W : World, _ := fun W => conv_new W _ (enc r) 3 rfl (by have := congrArg List.length hbv; rw [bv_length] at this; exact this.symm)
  rw [hbv] at hcv
  clear hbv h
  go_enter Tryd.func15, Tryd.ntmps15
  go_wp2_with (first
    | (go_at_call 33; (with_reducible refine (HR.out _).mono ?_); rintro e w1 ⟨rfl, rfl⟩)
    | (go_at_call 34; (with_reducible refine (tail_any _ _ (by omega)).mono ?_); rintro e w1 ⟨rfl, rfl⟩))
  go_ret2
  exact ⟨rfl, (Below.refl _ _).alloc (Nat.le_refl _) _⟩
set_option maxHeartbeats 1000000 in
set_option maxRecDepth 1000000 in
theorem refPut_four (r : Nat) (w : World) (h : 65536 ≤ r ∧ r ≤ 1114111) : Calls Tryd.prog 15 #[.int .i32 (r : Int)] w fun e w' => e = .returned (.tuple #[.string (str (enc r)), .bool true]) ∧ Below w.heap.size w w' := by
  have HR := Lib.hid (fun W => rune_yes r W (by unfold scal; omega))
  have d1 : decide ((r : Int) < 128) = false := decide_eq_false (by omega)
  have d2 : decide ((r : Int) < 2048) = false := decide_eq_false (by omega)
  have d3 : decide ((r : Int) < 65536) = false := decide_eq_false (by omega)
  have q1 : (r : Int) / 262144 < 5 := by omega
  have q2 : 0 ≤ (r : Int) / 262144 := by omega
  have q3 : 0 ≤ (r : Int) / 4096 := by omega
  have q4 : 0 ≤ (r : Int) / 64 := by omega
  have hbv := bv_four h
  have hcv : ∀ W : World, _ := fun W => conv_new W _ (enc r) 4 rfl (by have := congrArg List.length hbv; rw [bv_length] at this; exact this.symm)
  rw [hbv] at hcv
  clear hbv h
  go_enter Tryd.func15, Tryd.ntmps15
  go_wp2_with (first
    | (go_at_call 33; (with_reducible refine (HR.out _).mono ?_); rintro e w1 ⟨rfl, rfl⟩)
    | (go_at_call 34; (with_reducible refine (tail_any _ _ (by omega)).mono ?_); rintro e w1 ⟨rfl, rfl⟩))
  go_ret2
  exact ⟨rfl, (Below.refl _ _).alloc (Nat.le_refl _) _⟩
end Go.Proofs.YtoifjbhjclglmaaDoor
