/-
  What is proved here: contracts of the reference's Rune, tail and Put; conditions: those that each fact states; and: contracts of the reference's Put at what is no scalar value, of long and Next; conditions: those that each fact states.
-/
import Derived.Test.YtodmlgbomhmbpaaGreatDoorWorks
import Derived.Test.YtodmlgbomhmbpaaGreatDoorRunes
namespace Go.Proofs.YtodmlgbomhmbpaaGreatDoor
open Go.RowKit Ut Go.Lib

theorem conv_new (w : World) (cs : Array Value) (ys : List UInt8) (n : Nat) (hcs : cs = (bv ys).toArray) (hn : n = ys.length) :
    (convert 23 9 (.slice (some ⟨w.heap.size, 0, none⟩) n n)).run Tryz.prog (w.alloc (.cells cs 5)) = .ok (.string (str ys)) (w.alloc (.cells cs 5)) := by
  subst hcs; subst hn
  rw [run_convert_bytes_string _ 23 9 5 _ _ _ Tryz.underlying23 Tryz.underlying5 Tryz.underlying9]
  have hl := run_loadCells_list (P := Tryz.prog) (w := w.alloc (.cells (bv ys).toArray 5)) ⟨w.heap.size, 0, none⟩ (bv ys) src_new
  have e : (bv ys) = (ys.map (fun b : UInt8 => (b.toNat : Int))).map (Value.int .u8) := by simp [bv]
  rw [bv_length] at hl
  have hl2 := hl.trans (by rw [e] : _ = Result.ok ((ys.map (fun b : UInt8 => (b.toNat : Int))).map (Value.int .u8)).toArray (w.alloc (.cells (bv ys).toArray 5)))
  rw [run_bytesToString _ ⟨w.heap.size, 0, none⟩ _ _ _ hl2, fold_push]
  simp [str]

theorem rune_yes (r : Nat) (w : World) (h : scal r) : Calls Tryz.prog 57 #[.int .i64 (r : Int)] w fun e w' => e = .returned (.bool true) ∧ w = w' := by
  unfold scal at h
  have d0 : decide (0 ≤ (r : Int)) = true := decide_eq_true (by omega)
  have d1 : decide ((r : Int) ≤ 1114111) = true := decide_eq_true (by omega)
  rcases h with ⟨h1, h2 | h2⟩
  · have d2 : decide ((r : Int) < 55296) = true := decide_eq_true (by omega)
    clear h1 h2
    go_enter Tryz.func57, Tryz.ntmps57
    go_wp2
    go_ret
    exact ⟨rfl, rfl⟩
  · have d2 : decide ((r : Int) < 55296) = false := decide_eq_false (by omega)
    have d3 : decide (57343 < (r : Int)) = true := decide_eq_true (by omega)
    clear h1 h2
    go_enter Tryz.func57, Tryz.ntmps57
    go_wp2
    go_ret
    exact ⟨rfl, rfl⟩
theorem tail_any (n : Int) (w : World) (hn : 0 ≤ n) : Calls Tryz.prog 58 #[.int .i64 n] w fun e w' => e = .returned (.int .u8 (128 + n % 64)) ∧ w = w' := by
  go_enter Tryz.func58, Tryz.ntmps58
  go_wp2
  go_ret
  exact ⟨rfl, rfl⟩
set_option maxHeartbeats 1000000 in
set_option maxRecDepth 1000000 in
theorem refPut_one (r : Nat) (w : World) (h : r < 128) : Calls Tryz.prog 49 #[.int .i32 (r : Int)] w fun e w' => e = .returned (.tuple #[.string (str (enc r)), .bool true]) ∧ Below w.heap.size w w' := by
  have HR := Lib.hid (fun W => rune_yes r W (by unfold scal; omega))
  have d1 : decide ((r : Int) < 128) = true := decide_eq_true (by omega)
  have hbv := bv_ascii h
  have hcv : ∀ W : World, _ := fun W => conv_new W _ (enc r) 1 rfl (by have := congrArg List.length hbv; rw [bv_length] at this; exact this.symm)
  rw [hbv] at hcv
  clear hbv
  go_enter Tryz.func49, Tryz.ntmps49
  go_wp2_with (first
    | (go_at_call 57; (with_reducible refine (HR.out _).mono ?_); rintro e w1 ⟨rfl, rfl⟩)
    | (go_at_call 58; (with_reducible refine (tail_any _ _ (by omega)).mono ?_); rintro e w1 ⟨rfl, rfl⟩))
  go_ret2
  exact ⟨rfl, (Below.refl _ _).alloc (Nat.le_refl _) _⟩
set_option maxHeartbeats 1000000 in
set_option maxRecDepth 1000000 in
theorem refPut_two (r : Nat) (w : World) (h : 128 ≤ r ∧ r < 2048) : Calls Tryz.prog 49 #[.int .i32 (r : Int)] w fun e w' => e = .returned (.tuple #[.string (str (enc r)), .bool true]) ∧ Below w.heap.size w w' := by
  have HR := Lib.hid (fun W => rune_yes r W (by unfold scal; omega))
  have d1 : decide ((r : Int) < 128) = false := decide_eq_false (by omega)
  have d2 : decide ((r : Int) < 2048) = true := decide_eq_true (by omega)
  have q1 : (r : Int) / 64 < 32 := by omega
  have hbv := bv_two h
  have hcv : ∀ W : World, _ := fun W => conv_new W _ (enc r) 2 rfl (by have := congrArg List.length hbv; rw [bv_length] at this; exact this.symm)
  rw [hbv] at hcv
  clear hbv
  go_enter Tryz.func49, Tryz.ntmps49
  go_wp2_with (first
    | (go_at_call 57; (with_reducible refine (HR.out _).mono ?_); rintro e w1 ⟨rfl, rfl⟩)
    | (go_at_call 58; (with_reducible refine (tail_any _ _ (by omega)).mono ?_); rintro e w1 ⟨rfl, rfl⟩))
  go_ret2
  exact ⟨rfl, (Below.refl _ _).alloc (Nat.le_refl _) _⟩
set_option maxHeartbeats 1000000 in
set_option maxRecDepth 1000000 in
theorem refPut_three (r : Nat) (w : World) (h : 2048 ≤ r ∧ r < 55296 ∨ 57343 < r ∧ r < 65536) : Calls Tryz.prog 49 #[.int .i32 (r : Int)] w fun e w' => e = .returned (.tuple #[.string (str (enc r)), .bool true]) ∧ Below w.heap.size w w' := by
  have HR := Lib.hid (fun W => rune_yes r W (by unfold scal; omega))
  have d1 : decide ((r : Int) < 128) = false := decide_eq_false (by omega)
  have d2 : decide ((r : Int) < 2048) = false := decide_eq_false (by omega)
  have d3 : decide ((r : Int) < 65536) = true := decide_eq_true (by omega)
  have q1 : (r : Int) / 4096 < 16 := by omega
  have q2 : 0 ≤ (r : Int) / 4096 := by omega
  have q3 : 0 ≤ (r : Int) / 64 := by omega
  have hbv := bv_three h
  have hcv : ∀ W : World, _ := fun W => conv_new W _ (enc r) 3 rfl (by have := congrArg List.length hbv; rw [bv_length] at this; exact this.symm)
  rw [hbv] at hcv
  clear hbv h
  go_enter Tryz.func49, Tryz.ntmps49
  go_wp2_with (first
    | (go_at_call 57; (with_reducible refine (HR.out _).mono ?_); rintro e w1 ⟨rfl, rfl⟩)
    | (go_at_call 58; (with_reducible refine (tail_any _ _ (by omega)).mono ?_); rintro e w1 ⟨rfl, rfl⟩))
  go_ret2
  exact ⟨rfl, (Below.refl _ _).alloc (Nat.le_refl _) _⟩
set_option maxHeartbeats 1000000 in
set_option maxRecDepth 1000000 in
theorem refPut_four (r : Nat) (w : World) (h : 65536 ≤ r ∧ r ≤ 1114111) : Calls Tryz.prog 49 #[.int .i32 (r : Int)] w fun e w' => e = .returned (.tuple #[.string (str (enc r)), .bool true]) ∧ Below w.heap.size w w' := by
  have HR := Lib.hid (fun W => rune_yes r W (by unfold scal; omega))
  have d1 : decide ((r : Int) < 128) = false := decide_eq_false (by omega)
  have d2 : decide ((r : Int) < 2048) = false := decide_eq_false (by omega)
  have d3 : decide ((r : Int) < 65536) = false := decide_eq_false (by omega)
  have q1 : (r : Int) / 262144 < 5 := by omega
  have q2 : 0 ≤ (r : Int) / 262144 := by omega
  have q3 : 0 ≤ (r : Int) / 4096 := by omega
  have q4 : 0 ≤ (r : Int) / 64 := by omega
  have hbv := bv_four h
  have hcv : ∀ W : World, _ := fun W => conv_new W _ (enc r) 4 rfl (by have := congrArg List.length hbv; rw [bv_length] at this; exact this.symm)
  rw [hbv] at hcv
  clear hbv h
  go_enter Tryz.func49, Tryz.ntmps49
  go_wp2_with (first
    | (go_at_call 57; (with_reducible refine (HR.out _).mono ?_); rintro e w1 ⟨rfl, rfl⟩)
    | (go_at_call 58; (with_reducible refine (tail_any _ _ (by omega)).mono ?_); rintro e w1 ⟨rfl, rfl⟩))
  go_ret2
  exact ⟨rfl, (Below.refl _ _).alloc (Nat.le_refl _) _⟩
end Go.Proofs.YtodmlgbomhmbpaaGreatDoor
namespace Go.Proofs.YtodmlgbomhmbpaaGreatDoor
open Go.RowKit Ut Go.Lib

set_option maxHeartbeats 1000000 in
set_option maxRecDepth 1000000 in
theorem rune_no (r : Int) (w : World) (h : Lib.validRune r = false) : Calls Tryz.prog 57 #[.int .i64 r] w fun e w' => e = .returned (.bool false) ∧ w = w' := by
  unfold Lib.validRune at h
  simp at h
  by_cases h0 : r < 0
  · have d0 : decide (0 ≤ r) = false := decide_eq_false (by omega)
    clear h h0
    go_enter Tryz.func57, Tryz.ntmps57
    go_wp2
    go_ret
    exact ⟨rfl, rfl⟩
  · have d0 : decide (0 ≤ r) = true := decide_eq_true (by omega)
    by_cases h1 : 1114111 < r
    · have d1 : decide (r ≤ 1114111) = false := decide_eq_false (by omega)
      clear h h0 h1
      go_enter Tryz.func57, Tryz.ntmps57
      go_wp2
      go_ret
      exact ⟨rfl, rfl⟩
    · have d1 : decide (r ≤ 1114111) = true := decide_eq_true (by omega)
      have d2 : decide (r < 55296) = false := decide_eq_false (by omega)
      have d3 : decide (57343 < r) = false := decide_eq_false (by omega)
      clear h h0 h1
      go_enter Tryz.func57, Tryz.ntmps57
      go_wp2
      go_ret
      exact ⟨rfl, rfl⟩
set_option maxHeartbeats 1000000 in
set_option maxRecDepth 1000000 in
theorem refPut_no (r : Int) (w : World) (h : Lib.validRune r = false) (hw : wrap64 r = r) : Calls Tryz.prog 49 #[.int .i32 r] w fun e w' => e = .returned (.tuple #[.string ⟨#[]⟩, .bool false]) ∧ Below w.heap.size w w' := by
  have HR := Lib.hid (fun W => rune_no r W h)
  clear h
  go_enter Tryz.func49, Tryz.ntmps49
  go_wp2_with (go_at_call 57; (with_reducible refine (HR.out _).mono ?_); rintro e w1 ⟨rfl, rfl⟩)
  go_ret2
  exact ⟨rfl, Below.refl _ _⟩
theorem refPut_yes (r : Nat) (w : World) (h : scal r) : Calls Tryz.prog 49 #[.int .i32 (r : Int)] w fun e w' => e = .returned (.tuple #[.string (str (enc r)), .bool true]) ∧ Below w.heap.size w w' := by
  unfold scal at h
  by_cases h1 : r < 128
  · exact refPut_one r w h1
  · by_cases h2 : r < 2048
    · exact refPut_two r w ⟨by omega, h2⟩
    · by_cases h3 : r < 65536
      · exact refPut_three r w (by omega)
      · exact refPut_four r w ⟨by omega, h.1⟩

def lg (c : Nat) : Nat := if c < 128 then 1 else if 194 ≤ c ∧ c < 224 then 2 else if 224 ≤ c ∧ c < 240 then 3 else if 240 ≤ c ∧ c < 245 then 4 else 0
set_option maxHeartbeats 1000000 in
set_option maxRecDepth 1000000 in
theorem long_any (c : Nat) (w : World) (hc : c < 256) : Calls Tryz.prog 50 #[.int .u8 (c : Int)] w fun e w' => e = .returned (.int .i64 (lg c : Int)) ∧ w = w' := by
  unfold lg
  by_cases h1 : c < 128
  · rw [if_pos h1]
    go_enter Tryz.func50, Tryz.ntmps50
    go_wp2
    go_ret
    exact ⟨rfl, rfl⟩
  rw [if_neg h1]
  by_cases h2 : 194 ≤ c ∧ c < 224
  · rw [if_pos h2]
    obtain ⟨h2, h3⟩ := h2
    go_enter Tryz.func50, Tryz.ntmps50
    go_wp2
    go_ret
    exact ⟨rfl, rfl⟩
  rw [if_neg h2]
  by_cases h3 : 224 ≤ c ∧ c < 240
  · rw [if_pos h3]
    obtain ⟨h3, h4⟩ := h3
    have h5 : ¬ c < 224 := by omega
    clear h2
    go_enter Tryz.func50, Tryz.ntmps50
    go_wp2
    go_ret
    exact ⟨rfl, rfl⟩
  rw [if_neg h3]
  by_cases h4 : 240 ≤ c ∧ c < 245
  · rw [if_pos h4]
    obtain ⟨h4, h5⟩ := h4
    have h6 : ¬ c < 224 := by omega
    have h7 : ¬ c < 240 := by omega
    clear h2 h3
    go_enter Tryz.func50, Tryz.ntmps50
    go_wp2
    go_ret
    exact ⟨rfl, rfl⟩
  rw [if_neg h4]
  rcases (show c < 194 ∨ 245 ≤ c by omega) with h5 | h5
  · have h6 : ¬ 194 ≤ c := by omega
    have h7 : ¬ 224 ≤ c := by omega
    have h8 : ¬ 240 ≤ c := by omega
    clear h2 h3 h4
    go_enter Tryz.func50, Tryz.ntmps50
    go_wp2
    go_ret
    exact ⟨rfl, rfl⟩
  · have h6 : ¬ c < 224 := by omega
    have h7 : ¬ c < 240 := by omega
    have h8 : ¬ c < 245 := by omega
    clear h2 h3 h4
    go_enter Tryz.func50, Tryz.ntmps50
    go_wp2
    go_ret
    exact ⟨rfl, rfl⟩

/-- The value of the first bytes, as the reference reckons it. -/
def hd (n : Nat) : Nat := if n = 2 then 192 else if n = 3 then 224 else if n = 4 then 240 else 0
def vp (l : List UInt8) (n : Nat) : Nat → Nat
  | 0 => 0
  | 1 => (l.getD 0 0).toNat - hd n
  | k + 2 => 64 * vp l n (k + 1) + (l.getD (k + 1) 0).toNat % 64
instance scal_dec (r : Nat) : Decidable (scal r) := by unfold scal; infer_instance
def rnx (l : List UInt8) : Nat × Nat × Bool :=
  if l = [] then (0, 0, false) else if lg (l.getD 0 0).toNat = 0 ∨ l.length < lg (l.getD 0 0).toNat then (0, 0, false)
  else if scal (vp l (lg (l.getD 0 0).toNat) (lg (l.getD 0 0).toNat)) ∧ enc (vp l (lg (l.getD 0 0).toNat) (lg (l.getD 0 0).toNat)) = l.take (lg (l.getD 0 0).toNat) then (vp l (lg (l.getD 0 0).toNat) (lg (l.getD 0 0).toNat), lg (l.getD 0 0).toNat, true) else (0, 0, false)

theorem lg_enc {r : Nat} (hs : scal r) (t : List UInt8) : lg ((enc r ++ t).getD 0 0).toNat = (enc r).length ∧ vp (enc r ++ t) (enc r).length (enc r).length = r := by
  unfold scal at hs
  have hsh := enc_shape r
  revert hsh
  generalize enc r = l
  intro hsh
  cases hsh with
  | one h =>
    simp only [List.cons_append, List.nil_append, List.getD_cons_zero, List.length_cons, List.length_nil, vp, hd]
    rw [ofNat_toNat (by omega)]
    unfold lg
    rw [if_pos h]
    simp
  | two h h2 =>
    simp only [List.cons_append, List.nil_append, List.getD_cons_zero, List.getD_cons_succ, List.length_cons, List.length_nil, vp, hd]
    rw [ofNat_toNat (by omega), ofNat_toNat (by omega)]
    unfold lg
    rw [if_neg (by omega), if_pos (by omega)]
    simp
    omega
  | three h h2 =>
    simp only [List.cons_append, List.nil_append, List.getD_cons_zero, List.getD_cons_succ, List.length_cons, List.length_nil, vp, hd]
    rw [ofNat_toNat (by omega), ofNat_toNat (by omega), ofNat_toNat (by omega)]
    unfold lg
    rw [if_neg (by omega), if_neg (by omega), if_pos (by omega)]
    simp
    omega
  | four h =>
    simp only [List.cons_append, List.nil_append, List.getD_cons_zero, List.getD_cons_succ, List.length_cons, List.length_nil, vp, hd]
    rw [ofNat_toNat (by omega), ofNat_toNat (by omega), ofNat_toNat (by omega), ofNat_toNat (by omega)]
    unfold lg
    rw [if_neg (by omega), if_neg (by omega), if_neg (by omega), if_pos (by omega)]
    simp
    omega
theorem nx_nil : nx [] = (0, 0, false) := by decide
/-- The reference's reading of a first encoding is the library's. -/
theorem rnx_nx (l : List UInt8) : rnx l = nx l := by
  unfold rnx
  by_cases hne : l = []
  · subst hne; rw [if_pos rfl, nx_nil]
  rw [if_neg hne]
  have hd : dec l = decodeL l := by unfold dec; rw [if_neg hne]
  have hw := decodeL_width l
  by_cases hv : (decodeL l).1 = 65533 ∧ (decodeL l).2 = 1
  · -- no encoding
    have hn : nx l = (0, 0, false) := by unfold nx; rw [hd, if_pos ⟨hv.1, by omega⟩]
    rw [hn]
    by_cases h1 : lg (l.getD 0 0).toNat = 0 ∨ l.length < lg (l.getD 0 0).toNat
    · rw [if_pos h1]
    · rw [if_neg h1]
      split
      · rename_i h2
        exfalso
        obtain ⟨h3, h4⟩ := h2
        have h5 : l = enc (vp l (lg (l.getD 0 0).toNat) (lg (l.getD 0 0).toNat)) ++ l.drop (lg (l.getD 0 0).toNat) := by rw [h4, List.take_append_drop]
        have h6 := decode_enc h3 (l.drop (lg (l.getD 0 0).toNat))
        rw [← h5] at h6
        rw [h6] at hv
        have h7 := hv.1
        have h8 := hv.2
        dsimp only at h7 h8
        rw [h7] at h8
        revert h8
        decide
      · rfl
  · obtain ⟨hsc, henc, hle, _⟩ := valid_head hne hv
    have h5 : l = enc (decodeL l).1 ++ l.drop (decodeL l).2 := by rw [henc, List.take_append_drop]
    have hlen : (enc (decodeL l).1).length = (decodeL l).2 := by rw [henc, List.length_take]; omega
    obtain ⟨h6, h7⟩ := lg_enc hsc (l.drop (decodeL l).2)
    rw [← h5] at h6 h7
    rw [h6, h7, hlen]
    rw [if_neg (by omega), if_pos ⟨hsc, henc⟩]
    have h8 := nx_enc hsc (l.drop (decodeL l).2)
    rw [← h5, hlen] at h8
    exact h8.symm
end Go.Proofs.YtodmlgbomhmbpaaGreatDoor
