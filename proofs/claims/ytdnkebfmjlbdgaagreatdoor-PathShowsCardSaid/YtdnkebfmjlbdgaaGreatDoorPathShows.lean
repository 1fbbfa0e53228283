/-
  What is proved here: the byte order of encodings is the order of the numbers; no program in this text; no condition; and: the walk of accordionlaw04.UtfRunes; conditions: the library's two tables hold what is laid; and: contracts of the reference's Rune, tail and Put; conditions: those that each fact states; and: contracts of the reference's Put at what is no scalar value, of long and Next; conditions: those that each fact states; and: the contract of the reference's Next; conditions: those that each fact states; and: the contract of the reference's Valid; conditions: those that each fact states; and: the contract of the reference's Quote; condition: a string of at most 60000 bytes; and: contracts of the reference's Zero, part, Leaf, such; conditions: at most 100000 children; and: the contract of the law's cut: the path's first 70 steps with keys of at most 40 bytes, in memory of the call's own; condition: the argument reads as a path; and: contracts of the reference's digits and Show; conditions: the lengths that each states; and: the walk of PathShows: true for every path; conditions: the tables hold what is laid, the argument reads as a path; and: accordionlaw08.PathShows returns true for all paths and leaves its arguments as they were; condition: the tables of package tree and of the library hold when the call begins what their initialisers lay (tied to the program's text by the card).
-/
import Derived.Test.YtdnkebfmjlbdgaaGreatDoorUEnc
import Derived.Test.YtdnkebfmjlbdgaaGreatDoorUBack
import Derived.Test.YtdnkebfmjlbdgaaGreatDoorUPlace
import Derived.Deep.RegionLaw
import Derived.Deep.RegionHeld3
import Derived.BigQuiet
import Derived.Deep.QuietTactic
import Derived.Test.YtdnkebfmjlbdgaaGreatDoorRefA
import Derived.Test.YtdnkebfmjlbdgaaGreatDoorKeys
import Derived.Test.YtdnkebfmjlbdgaaGreatDoorPy
import Derived.Test.YtdnkebfmjlbdgaaGreatDoorPsh
import Derived.Test.YtdnkebfmjlbdgaaGreatDoorPwM
import Derived.Test.YtdnkebfmjlbdgaaGreatDoorProw
namespace Go.Proofs.YtdnkebfmjlbdgaaGreatDoor.U
namespace Ut
open Go.Lib

theorem less_head {a b : Nat} (ha : a < 256) (hb : b < 256) (s t : List UInt8) : Op.bytesLess (UInt8.ofNat a :: s) (UInt8.ofNat b :: t) = (decide (a < b) || (decide (a = b) && Op.bytesLess s t)) := by
  have h1 := ofNat_toNat ha
  have h2 := ofNat_toNat hb
  show (decide (UInt8.ofNat a < UInt8.ofNat b) || (UInt8.ofNat a == UInt8.ofNat b && Op.bytesLess s t)) = _
  by_cases h : a < b
  · have : UInt8.ofNat a < UInt8.ofNat b := by rw [UInt8.lt_iff_toNat_lt]; omega
    simp [this, h]
  · by_cases he : a = b
    · subst he
      simp
    · have h3 : ¬ (UInt8.ofNat a < UInt8.ofNat b) := by rw [UInt8.lt_iff_toNat_lt]; omega
      have h5 : UInt8.ofNat a ≠ UInt8.ofNat b := by intro h6; rw [h6] at h1; omega
      simp [h3, h5, h, he]
theorem less_nil (t : List UInt8) : Op.bytesLess [] t = !t.isEmpty := by cases t <;> simp [Op.bytesLess]
theorem less_enc (a b : Nat) (ha : a ≤ 1114111) (hb : b ≤ 1114111) : Op.bytesLess (enc a) (enc b) = decide (a < b) := by
  have h1 := enc_shape a
  have h2 := enc_shape b
  revert h1 h2
  generalize enc a = s
  generalize enc b = t
  intro h1 h2
  cases h1 <;> cases h2
  all_goals
    repeat rw [less_head (by omega) (by omega)]
    try rw [less_nil]
    rw [Bool.eq_iff_iff]
    simp <;> omega
end Ut
end Go.Proofs.YtdnkebfmjlbdgaaGreatDoor.U
namespace Go.Proofs.YtdnkebfmjlbdgaaGreatDoor.U
open Go.RowKit Ut Go.Lib

theorem nx_enc {r : Nat} (hs : scal r) (t : List UInt8) : nx (enc r ++ t) = (r, (enc r).length, true) := by
  have hl := enc_len r
  have hne : enc r ++ t ≠ [] := by intro h0; have := congrArg List.length h0; rw [List.length_append, List.length_nil] at this; omega
  have hd : dec (enc r ++ t) = (r, (enc r).length) := by unfold dec; rw [if_neg hne, decode_enc hs]
  unfold nx
  rw [hd, if_neg ?_]
  intro h1
  dsimp only at h1
  obtain ⟨h2, h3⟩ := h1
  subst h2
  revert h3
  decide
def lastS (ys : List Int) : Nat → ByteArray
  | 0 => ⟨#[]⟩
  | k + 1 => str (enc (rn (ys.getD k 0)))
theorem lastS_one {ys : List Int} {k : Nat} {x : Int} {r : Nat} {E : ByteArray} (hx : ys[k]? = some x) (hr : rn x = r) (hE : str (enc r) = E) : lastS ys (k + 1) = E := by
  show str (enc (rn (ys.getD k 0))) = _
  rw [List.getD_eq_getElem?_getD, hx]
  show str (enc (rn x)) = _
  rw [hr, hE]
def UR (w : World) (ys : List Int) (s last i : Value) (wr : World) : Prop :=
  ∃ k : Nat, k ≤ ys.length ∧ i = .int .i64 k ∧ s = .string (str (txt (ys.drop k))) ∧ last = .string (lastS ys k) ∧ Hid (St w wr)
theorem cut_from (a b : List UInt8) (n m : Nat) (hn : a.length = n) (hm : (a ++ b).length = m) : (str (a ++ b)).extract n m = str b := by
  subst hn; subst hm
  unfold str
  apply ByteArray.ext
  simp

end Go.Proofs.YtdnkebfmjlbdgaaGreatDoor.U
namespace Go.Proofs.YtdnkebfmjlbdgaaGreatDoor.U
open Go.RowKit Ut Go.Lib

theorem conv_new (w : World) (cs : Array Value) (ys : List UInt8) (n : Nat) (hcs : cs = (bv ys).toArray) (hn : n = ys.length) :
    (convert 61 9 (.slice (some ⟨w.heap.size, 0, none⟩) n n)).run Tryz.prog (w.alloc (.cells cs 5)) = .ok (.string (str ys)) (w.alloc (.cells cs 5)) := by
  subst hcs; subst hn
  rw [run_convert_bytes_string _ 61 9 5 _ _ _ Tryz.underlying61 Tryz.underlying5 Tryz.underlying9]
  have hl := run_loadCells_list (P := Tryz.prog) (w := w.alloc (.cells (bv ys).toArray 5)) ⟨w.heap.size, 0, none⟩ (bv ys) src_new
  have e : (bv ys) = (ys.map (fun b : UInt8 => (b.toNat : Int))).map (Value.int .u8) := by simp [bv]
  rw [bv_length] at hl
  have hl2 := hl.trans (by rw [e] : _ = Result.ok ((ys.map (fun b : UInt8 => (b.toNat : Int))).map (Value.int .u8)).toArray (w.alloc (.cells (bv ys).toArray 5)))
  rw [run_bytesToString _ ⟨w.heap.size, 0, none⟩ _ _ _ hl2, fold_push]
  simp [str]

theorem rune_yes (r : Nat) (w : World) (h : scal r) : Calls Tryz.prog 154 #[.int .i64 (r : Int)] w fun e w' => e = .returned (.bool true) ∧ w = w' := by
  unfold scal at h
  have d0 : decide (0 ≤ (r : Int)) = true := decide_eq_true (by omega)
  have d1 : decide ((r : Int) ≤ 1114111) = true := decide_eq_true (by omega)
  rcases h with ⟨h1, h2 | h2⟩
  · have d2 : decide ((r : Int) < 55296) = true := decide_eq_true (by omega)
    clear h1 h2
    go_enter Tryz.func154, Tryz.ntmps154
    go_wp2
    go_ret
    exact ⟨rfl, rfl⟩
  · have d2 : decide ((r : Int) < 55296) = false := decide_eq_false (by omega)
    have d3 : decide (57343 < (r : Int)) = true := decide_eq_true (by omega)
    clear h1 h2
    go_enter Tryz.func154, Tryz.ntmps154
    go_wp2
    go_ret
    exact ⟨rfl, rfl⟩
theorem tail_any (n : Int) (w : World) (hn : 0 ≤ n) : Calls Tryz.prog 155 #[.int .i64 n] w fun e w' => e = .returned (.int .u8 (128 + n % 64)) ∧ w = w' := by
  go_enter Tryz.func155, Tryz.ntmps155
  go_wp2
  go_ret
  exact ⟨rfl, rfl⟩
set_option maxHeartbeats 1000000 in
set_option maxRecDepth 1000000 in
theorem refPut_one (r : Nat) (w : World) (h : r < 128) : Calls Tryz.prog 134 #[.int .i32 (r : Int)] w fun e w' => e = .returned (.tuple #[.string (str (enc r)), .bool true]) ∧ Below w.heap.size w w' := by
  have HR := Lib.hid (fun W => rune_yes r W (by unfold scal; omega))
  have d1 : decide ((r : Int) < 128) = true := decide_eq_true (by omega)
  have hbv := bv_ascii h
  have hcv : ∀ W : World, _ := fun W => conv_new W _ (enc r) 1 rfl (by have := congrArg List.length hbv; rw [bv_length] at this; exact this.symm)
  rw [hbv] at hcv
  clear hbv
  go_enter Tryz.func134, Tryz.ntmps134
  go_wp2_with (first
    | (go_at_call 154; (with_reducible refine (HR.out _).mono ?_); rintro e w1 ⟨rfl, rfl⟩)
    | (go_at_call 155; (with_reducible refine (tail_any _ _ (by omega)).mono ?_); rintro e w1 ⟨rfl, rfl⟩))
  go_ret2
  exact ⟨rfl, (Below.refl _ _).alloc (Nat.le_refl _) _⟩
set_option maxHeartbeats 1000000 in
set_option maxRecDepth 1000000 in
theorem refPut_two (r : Nat) (w : World) (h : 128 ≤ r ∧ r < 2048) : Calls Tryz.prog 134 #[.int .i32 (r : Int)] w fun e w' => e = .returned (.tuple #[.string (str (enc r)), .bool true]) ∧ Below w.heap.size w w' := by
  have HR := Lib.hid (fun W => rune_yes r W (by unfold scal; omega))
  have d1 : decide ((r : Int) < 128) = false := decide_eq_false (by omega)
  have d2 : decide ((r : Int) < 2048) = true := decide_eq_true (by omega)
  have q1 : (r : Int) / 64 < 32 := by omega
  have hbv := bv_two h
  have hcv : ∀ W : World, _ := fun W => conv_new W _ (enc r) 2 rfl (by have := congrArg List.length hbv; rw [bv_length] at this; exact this.symm)
  rw [hbv] at hcv
  clear hbv
  go_enter Tryz.func134, Tryz.ntmps134
  go_wp2_with (first
    | (go_at_call 154; (with_reducible refine (HR.out _).mono ?_); rintro e w1 ⟨rfl, rfl⟩)
    | (go_at_call 155; (with_reducible refine (tail_any _ _ (by omega)).mono ?_); rintro e w1 ⟨rfl, rfl⟩))
  go_ret2
  exact ⟨rfl, (Below.refl _ _).alloc (Nat.le_refl _) _⟩
set_option maxHeartbeats 1000000 in
set_option maxRecDepth 1000000 in
theorem refPut_three (r : Nat) (w : World) (h : 2048 ≤ r ∧ r < 55296 ∨ 57343 < r ∧ r < 65536) : Calls Tryz.prog 134 #[.int .i32 (r : Int)] w fun e w' => e = .returned (.tuple #[.string (str (enc r)), .bool true]) ∧ Below w.heap.size w w' := by
  have HR := Lib.hid (fun W => rune_yes r W (by unfold scal; omega))
  have d1 : decide ((r : Int) < 128) = false := decide_eq_false (by omega)
  have d2 : decide ((r : Int) < 2048) = false := decide_eq_false (by omega)
  have d3 : decide ((r : Int) < 65536) = true := decide_eq_true (by omega)
  have q1 : (r : Int) / 4096 < 16 := by omega
  have q2 : 0 ≤ (r : Int) / 4096 := by omega
  have q3 : 0 ≤ (r : Int) / 64 := by omega
  have hbv := bv_three h
  have hcv : ∀ W : World, _ := fun W => conv_new W _ (enc r) 3 rfl (by have := congrArg List.length hbv; rw [bv_length] at this; exact this.symm)
  rw [hbv] at hcv
  clear hbv h
  go_enter Tryz.func134, Tryz.ntmps134
  go_wp2_with (first
    | (go_at_call 154; (with_reducible refine (HR.out _).mono ?_); rintro e w1 ⟨rfl, rfl⟩)
    | (go_at_call 155; (with_reducible refine (tail_any _ _ (by omega)).mono ?_); rintro e w1 ⟨rfl, rfl⟩))
  go_ret2
  exact ⟨rfl, (Below.refl _ _).alloc (Nat.le_refl _) _⟩
set_option maxHeartbeats 1000000 in
set_option maxRecDepth 1000000 in
theorem refPut_four (r : Nat) (w : World) (h : 65536 ≤ r ∧ r ≤ 1114111) : Calls Tryz.prog 134 #[.int .i32 (r : Int)] w fun e w' => e = .returned (.tuple #[.string (str (enc r)), .bool true]) ∧ Below w.heap.size w w' := by
  have HR := Lib.hid (fun W => rune_yes r W (by unfold scal; omega))
  have d1 : decide ((r : Int) < 128) = false := decide_eq_false (by omega)
  have d2 : decide ((r : Int) < 2048) = false := decide_eq_false (by omega)
  have d3 : decide ((r : Int) < 65536) = false := decide_eq_false (by omega)
  have q1 : (r : Int) / 262144 < 5 := by omega
  have q2 : 0 ≤ (r : Int) / 262144 := by omega
  have q3 : 0 ≤ (r : Int) / 4096 := by omega
  have q4 : 0 ≤ (r : Int) / 64 := by omega
  have hbv := bv_four h
  have hcv : ∀ W : World, _ := fun W => conv_new W _ (enc r) 4 rfl (by have := congrArg List.length hbv; rw [bv_length] at this; exact this.symm)
  rw [hbv] at hcv
  clear hbv h
  go_enter Tryz.func134, Tryz.ntmps134
  go_wp2_with (first
    | (go_at_call 154; (with_reducible refine (HR.out _).mono ?_); rintro e w1 ⟨rfl, rfl⟩)
    | (go_at_call 155; (with_reducible refine (tail_any _ _ (by omega)).mono ?_); rintro e w1 ⟨rfl, rfl⟩))
  go_ret2
  exact ⟨rfl, (Below.refl _ _).alloc (Nat.le_refl _) _⟩
end Go.Proofs.YtdnkebfmjlbdgaaGreatDoor.U
namespace Go.Proofs.YtdnkebfmjlbdgaaGreatDoor.U
open Go.RowKit Ut Go.Lib

set_option maxHeartbeats 1000000 in
set_option maxRecDepth 1000000 in
theorem rune_no (r : Int) (w : World) (h : Lib.validRune r = false) : Calls Tryz.prog 154 #[.int .i64 r] w fun e w' => e = .returned (.bool false) ∧ w = w' := by
  unfold Lib.validRune at h
  simp at h
  by_cases h0 : r < 0
  · have d0 : decide (0 ≤ r) = false := decide_eq_false (by omega)
    clear h h0
    go_enter Tryz.func154, Tryz.ntmps154
    go_wp2
    go_ret
    exact ⟨rfl, rfl⟩
  · have d0 : decide (0 ≤ r) = true := decide_eq_true (by omega)
    by_cases h1 : 1114111 < r
    · have d1 : decide (r ≤ 1114111) = false := decide_eq_false (by omega)
      clear h h0 h1
      go_enter Tryz.func154, Tryz.ntmps154
      go_wp2
      go_ret
      exact ⟨rfl, rfl⟩
    · have d1 : decide (r ≤ 1114111) = true := decide_eq_true (by omega)
      have d2 : decide (r < 55296) = false := decide_eq_false (by omega)
      have d3 : decide (57343 < r) = false := decide_eq_false (by omega)
      clear h h0 h1
      go_enter Tryz.func154, Tryz.ntmps154
      go_wp2
      go_ret
      exact ⟨rfl, rfl⟩
set_option maxHeartbeats 1000000 in
set_option maxRecDepth 1000000 in
theorem refPut_no (r : Int) (w : World) (h : Lib.validRune r = false) (hw : wrap64 r = r) : Calls Tryz.prog 134 #[.int .i32 r] w fun e w' => e = .returned (.tuple #[.string ⟨#[]⟩, .bool false]) ∧ Below w.heap.size w w' := by
  have HR := Lib.hid (fun W => rune_no r W h)
  clear h
  go_enter Tryz.func134, Tryz.ntmps134
  go_wp2_with (go_at_call 154; (with_reducible refine (HR.out _).mono ?_); rintro e w1 ⟨rfl, rfl⟩)
  go_ret2
  exact ⟨rfl, Below.refl _ _⟩
theorem refPut_yes (r : Nat) (w : World) (h : scal r) : Calls Tryz.prog 134 #[.int .i32 (r : Int)] w fun e w' => e = .returned (.tuple #[.string (str (enc r)), .bool true]) ∧ Below w.heap.size w w' := by
  unfold scal at h
  by_cases h1 : r < 128
  · exact refPut_one r w h1
  · by_cases h2 : r < 2048
    · exact refPut_two r w ⟨by omega, h2⟩
    · by_cases h3 : r < 65536
      · exact refPut_three r w (by omega)
      · exact refPut_four r w ⟨by omega, h.1⟩

def lg (c : Nat) : Nat := if c < 128 then 1 else if 194 ≤ c ∧ c < 224 then 2 else if 224 ≤ c ∧ c < 240 then 3 else if 240 ≤ c ∧ c < 245 then 4 else 0
set_option maxHeartbeats 1000000 in
set_option maxRecDepth 1000000 in
theorem long_any (c : Nat) (w : World) (hc : c < 256) : Calls Tryz.prog 133 #[.int .u8 (c : Int)] w fun e w' => e = .returned (.int .i64 (lg c : Int)) ∧ w = w' := by
  unfold lg
  by_cases h1 : c < 128
  · rw [if_pos h1]
    go_enter Tryz.func133, Tryz.ntmps133
    go_wp2
    go_ret
    exact ⟨rfl, rfl⟩
  rw [if_neg h1]
  by_cases h2 : 194 ≤ c ∧ c < 224
  · rw [if_pos h2]
    obtain ⟨h2, h3⟩ := h2
    go_enter Tryz.func133, Tryz.ntmps133
    go_wp2
    go_ret
    exact ⟨rfl, rfl⟩
  rw [if_neg h2]
  by_cases h3 : 224 ≤ c ∧ c < 240
  · rw [if_pos h3]
    obtain ⟨h3, h4⟩ := h3
    have h5 : ¬ c < 224 := by omega
    clear h2
    go_enter Tryz.func133, Tryz.ntmps133
    go_wp2
    go_ret
    exact ⟨rfl, rfl⟩
  rw [if_neg h3]
  by_cases h4 : 240 ≤ c ∧ c < 245
  · rw [if_pos h4]
    obtain ⟨h4, h5⟩ := h4
    have h6 : ¬ c < 224 := by omega
    have h7 : ¬ c < 240 := by omega
    clear h2 h3
    go_enter Tryz.func133, Tryz.ntmps133
    go_wp2
    go_ret
    exact ⟨rfl, rfl⟩
  rw [if_neg h4]
  rcases (show c < 194 ∨ 245 ≤ c by omega) with h5 | h5
  · have h6 : ¬ 194 ≤ c := by omega
    have h7 : ¬ 224 ≤ c := by omega
    have h8 : ¬ 240 ≤ c := by omega
    clear h2 h3 h4
    go_enter Tryz.func133, Tryz.ntmps133
    go_wp2
    go_ret
    exact ⟨rfl, rfl⟩
  · have h6 : ¬ c < 224 := by omega
    have h7 : ¬ c < 240 := by omega
    have h8 : ¬ c < 245 := by omega
    clear h2 h3 h4
    go_enter Tryz.func133, Tryz.ntmps133
    go_wp2
    go_ret
    exact ⟨rfl, rfl⟩

/-- The value of the first bytes, as the reference reckons it. -/
def hd (n : Nat) : Nat := if n = 2 then 192 else if n = 3 then 224 else if n = 4 then 240 else 0
def vp (l : List UInt8) (n : Nat) : Nat → Nat
  | 0 => 0
  | 1 => (l.getD 0 0).toNat - hd n
  | k + 2 => 64 * vp l n (k + 1) + (l.getD (k + 1) 0).toNat % 64
instance scal_dec (r : Nat) : Decidable (scal r) := by unfold scal; infer_instance
def rnx (l : List UInt8) : Nat × Nat × Bool :=
  if l = [] then (0, 0, false) else if lg (l.getD 0 0).toNat = 0 ∨ l.length < lg (l.getD 0 0).toNat then (0, 0, false)
  else if scal (vp l (lg (l.getD 0 0).toNat) (lg (l.getD 0 0).toNat)) ∧ enc (vp l (lg (l.getD 0 0).toNat) (lg (l.getD 0 0).toNat)) = l.take (lg (l.getD 0 0).toNat) then (vp l (lg (l.getD 0 0).toNat) (lg (l.getD 0 0).toNat), lg (l.getD 0 0).toNat, true) else (0, 0, false)

theorem lg_enc {r : Nat} (hs : scal r) (t : List UInt8) : lg ((enc r ++ t).getD 0 0).toNat = (enc r).length ∧ vp (enc r ++ t) (enc r).length (enc r).length = r := by
  unfold scal at hs
  have hsh := enc_shape r
  revert hsh
  generalize enc r = l
  intro hsh
  cases hsh with
  | one h =>
    simp only [List.cons_append, List.nil_append, List.getD_cons_zero, List.length_cons, List.length_nil, vp, hd]
    rw [ofNat_toNat (by omega)]
    unfold lg
    rw [if_pos h]
    simp
  | two h h2 =>
    simp only [List.cons_append, List.nil_append, List.getD_cons_zero, List.getD_cons_succ, List.length_cons, List.length_nil, vp, hd]
    rw [ofNat_toNat (by omega), ofNat_toNat (by omega)]
    unfold lg
    rw [if_neg (by omega), if_pos (by omega)]
    simp
    omega
  | three h h2 =>
    simp only [List.cons_append, List.nil_append, List.getD_cons_zero, List.getD_cons_succ, List.length_cons, List.length_nil, vp, hd]
    rw [ofNat_toNat (by omega), ofNat_toNat (by omega), ofNat_toNat (by omega)]
    unfold lg
    rw [if_neg (by omega), if_neg (by omega), if_pos (by omega)]
    simp
    omega
  | four h =>
    simp only [List.cons_append, List.nil_append, List.getD_cons_zero, List.getD_cons_succ, List.length_cons, List.length_nil, vp, hd]
    rw [ofNat_toNat (by omega), ofNat_toNat (by omega), ofNat_toNat (by omega), ofNat_toNat (by omega)]
    unfold lg
    rw [if_neg (by omega), if_neg (by omega), if_neg (by omega), if_pos (by omega)]
    simp
    omega
theorem nx_nil : nx [] = (0, 0, false) := by decide
/-- The reference's reading of a first encoding is the library's. -/
theorem rnx_nx (l : List UInt8) : rnx l = nx l := by
  unfold rnx
  by_cases hne : l = []
  · subst hne; rw [if_pos rfl, nx_nil]
  rw [if_neg hne]
  have hd : dec l = decodeL l := by unfold dec; rw [if_neg hne]
  have hw := decodeL_width l
  by_cases hv : (decodeL l).1 = 65533 ∧ (decodeL l).2 = 1
  · -- no encoding
    have hn : nx l = (0, 0, false) := by unfold nx; rw [hd, if_pos ⟨hv.1, by omega⟩]
    rw [hn]
    by_cases h1 : lg (l.getD 0 0).toNat = 0 ∨ l.length < lg (l.getD 0 0).toNat
    · rw [if_pos h1]
    · rw [if_neg h1]
      split
      · rename_i h2
        exfalso
        obtain ⟨h3, h4⟩ := h2
        have h5 : l = enc (vp l (lg (l.getD 0 0).toNat) (lg (l.getD 0 0).toNat)) ++ l.drop (lg (l.getD 0 0).toNat) := by rw [h4, List.take_append_drop]
        have h6 := decode_enc h3 (l.drop (lg (l.getD 0 0).toNat))
        rw [← h5] at h6
        rw [h6] at hv
        have h7 := hv.1
        have h8 := hv.2
        dsimp only at h7 h8
        rw [h7] at h8
        revert h8
        decide
      · rfl
  · obtain ⟨hsc, henc, hle, _⟩ := valid_head hne hv
    have h5 : l = enc (decodeL l).1 ++ l.drop (decodeL l).2 := by rw [henc, List.take_append_drop]
    have hlen : (enc (decodeL l).1).length = (decodeL l).2 := by rw [henc, List.length_take]; omega
    obtain ⟨h6, h7⟩ := lg_enc hsc (l.drop (decodeL l).2)
    rw [← h5] at h6 h7
    rw [h6, h7, hlen]
    rw [if_neg (by omega), if_pos ⟨hsc, henc⟩]
    have h8 := nx_enc hsc (l.drop (decodeL l).2)
    rw [← h5, hlen] at h8
    exact h8.symm
end Go.Proofs.YtdnkebfmjlbdgaaGreatDoor.U
namespace Go.Proofs.YtdnkebfmjlbdgaaGreatDoor.U
open Go.RowKit Ut Go.Lib

theorem long_u (x : UInt8) (n : Nat) (h : lg x.toNat = n) (w : World) : Calls Tryz.prog 133 #[.int .u8 (x.toNat : Int)] w fun e w' => e = .returned (.int .i64 (n : Int)) ∧ w = w' := by
  subst h
  exact long_any x.toNat w x.toNat_lt
theorem st_val (v y : Nat) (hv : v < 33554432) (hy : y < 256) : wrap64 (wrap64 (64 * (v : Int)) + (wrap64 (y : Int)).tmod 64) = ((64 * v + y % 64 : Nat) : Int) := by
  have e1 : wrap64 (y : Int) = (y : Int) := by unfold wrap64; omega
  have e2 : wrap64 (64 * (v : Int)) = 64 * (v : Int) := by unfold wrap64; omega
  have e3 : ((y : Int)).tmod 64 = ((y % 64 : Nat) : Int) := rfl
  rw [e1, e2, e3]
  unfold wrap64
  omega
theorem first_val (x b : Nat) (hx : x < 256) (hb : b ≤ x) : wrap64 (wrap64 (x : Int) - (b : Int)) = ((x - b : Nat) : Int) := by
  unfold wrap64; omega
theorem w32_val (v : Nat) (h : v < 33554432) : wrap32 (v : Int) = (v : Int) := by unfold wrap32; omega
theorem getD_at (s : ByteArray) (l : List UInt8) (hsl : s.data.toList = l) (j : Nat) (hj : j < s.size) : l.getD j 0 = s[j]'hj := by
  subst hsl
  rw [List.getD_eq_getElem?_getD, List.getElem?_eq_getElem (by simpa using hj)]
  rfl
theorem ext_take (s : ByteArray) (l : List UInt8) (hsl : s.data.toList = l) (n : Nat) : (s.extract 0 n).toList = l.take n := by
  subst hsl
  rw [Lib.toList_data]
  simp
theorem strL_list (l : List UInt8) : (str l).toList = l := by
  rw [Lib.toList_data]
  simp [str]
theorem rnx_at {l : List UInt8} {n V : Nat} (hn : 0 < n) (hl : lg (l.getD 0 0).toNat = n) (hlen : n ≤ l.length) (hV : vp l n n = V) :
    rnx l = if scal V ∧ enc V = l.take n then (V, n, true) else (0, 0, false) := by
  unfold rnx
  have : l ≠ [] := by intro h; subst h; simp at hlen; omega
  rw [if_neg this, hl, if_neg (by omega), hV]
/-- What the reference's Put answers. -/
def puR (r : Nat) : Value := .tuple #[.string (str (if scal r then enc r else [])), .bool (decide (scal r))]
theorem refPut_nat (r : Nat) (w : World) (h : r < 33554432) : Calls Tryz.prog 134 #[.int .i32 (r : Int)] w fun e w' => e = .returned (puR r) ∧ Below w.heap.size w w' := by
  by_cases hs : scal r
  · unfold puR
    rw [if_pos hs, decide_eq_true hs]
    exact refPut_yes r w hs
  · unfold puR
    rw [if_neg hs, decide_eq_false hs]
    refine refPut_no (r : Int) w ?_ (by unfold wrap64; omega)
    unfold scal at hs
    unfold Lib.validRune
    grind
theorem vp_lt (l : List UInt8) (n k : Nat) (h : (l.getD 0 0).toNat - hd n < 128) (hk : k ≤ 4) : vp l n k < 2 * 64 ^ k := by
  induction k with
  | zero => simp [vp]
  | succ k ih =>
    cases k with
    | zero => simp [vp]; exact h
    | succ k =>
      have := ih (by omega)
      unfold vp
      rw [Nat.pow_succ]
      omega
theorem lg_rng {c n : Nat} (h : lg c = n) (hc : c < 256) : (n = 0) ∨ (n = 1 ∧ c < 128) ∨ (n = 2 ∧ 194 ≤ c ∧ c < 224) ∨ (n = 3 ∧ 224 ≤ c ∧ c < 240) ∨ (n = 4 ∧ 240 ≤ c ∧ c < 245) := by
  unfold lg at h
  split at h
  · omega
  · split at h
    · omega
    · split at h
      · omega
      · split at h <;> omega
theorem size_pos_hd (s : ByteArray) (x : UInt8) (l : List UInt8) (hsl : s.data.toList = l) (h : 0 < s.size) (hx : s[0]'h = x) : l.getD 0 0 = x := by
  rw [getD_at s l hsl 0 h, hx]
set_option maxHeartbeats 2000000 in
set_option maxRecDepth 1000000 in
theorem refNext_1 (s : ByteArray) (w : World) (x : UInt8) (h2 : 1 ≤ s.size) (hx : s[0]'(by omega) = x) (hl : lg x.toNat = 1) (hb : 0 ≤ x.toNat ∧ x.toNat - 0 < 128)
    (l : List UInt8) (hsl : s.data.toList = l) (hl0 : (l.getD 0 0) = x) :
    Calls Tryz.prog 106 #[.string s] w fun e w' => e = .returned (nxR (rnx s.data.toList)) ∧ Below w.heap.size w w' := by
  have HL := Lib.hid (fun W => long_u x 1 hl W)
  have d1 : decide ((s.size : Int) < 1) = false := decide_eq_false (by omega)
  have hsz : 0 < s.size := by omega
  have hv1 : wrap64 (wrap64 (x.toNat : Int)) = ((vp l 1 1 : Nat) : Int) := by
    have e : vp l 1 1 = x.toNat - 0 := by unfold vp hd; rw [hl0]; rfl
    rw [e]
    have := x.toNat_lt
    unfold wrap64
    omega
  have HV1 := Lib.hid hv1
  have hvl : ∀ k, k ≤ 4 → vp l 1 k < 2 * 64 ^ k := fun k hk => vp_lt l 1 k (by rw [hl0]; exact hb.2) hk
  have HVL := Lib.hid hvl
  have HX := Lib.hid hb
  clear hv1 hvl hb
  go_enter Tryz.func106, Tryz.ntmps106
  go_wp2_with (go_at_call 133; (with_reducible refine (HL.out _).mono ?_); rintro e w1 ⟨rfl, rfl⟩)
  go_region
  rw [HV1.out]
  go_wp2
  go_loop [6, 7] (fun v i => ∃ k : Nat, 1 ≤ k ∧ k ≤ 1 ∧ i = .int .i64 k ∧ v = .int .i64 (vp l 1 k)) (fun _ i => 2 - (RowKit.intOf i).toNat)
  case atStart => exact ⟨1, by omega, by omega, rfl, rfl⟩
  case round =>
    obtain ⟨k, hk1, hk2, rfl, rfl⟩ := hrel
    have hvk := HVL.out k (by omega)
    have h64 : (64 : Nat) ^ k ≤ 64 ^ 4 := Nat.pow_le_pow_right (by omega) (by omega)
    have hvb : vp l 1 k < 33554432 := by omega
    have HVB := Lib.hid hvb
    clear hvk h64 hvb
    by_cases hlt : k < 1
    · omega
    · have hkn : k = 1 := by omega
      subst hkn
      clear hlt hk1 hk2
      obtain ⟨V, hV⟩ : ∃ V, vp l 1 1 = V := ⟨_, rfl⟩
      rw [hV] at HVB ⊢
      have HW := Lib.hid (w32_val V HVB.out)
      have HPU := Lib.hid (fun W => refPut_nat V W HVB.out)
      have hlen : 1 ≤ l.length := by rw [← hsl]; simpa using h2
      have hrx := rnx_at (by omega) (by rw [hl0]; exact hl) hlen hV
      have HEX := Lib.hid (ext_take s l hsl 1)
      rw [← hsl] at hrx
      have HRX := Lib.hid hrx
      clear hrx hlen
      by_cases hs : scal V
      · have hpu : puR V = .tuple #[.string (str (enc V)), .bool true] := by unfold puR; rw [if_pos hs, decide_eq_true hs]
        rw [hpu] at HPU
        clear hpu
        go_wp2_with (go_at_call 134; rw [HW.out]; (with_reducible refine (HPU.out _).mono ?_); rintro e w1 ⟨rfl, hb⟩; have HB := Lib.hid hb; clear hb)
        · rename_i hq
          rw [strL_list, HEX.out] at hq
          have hne : ¬ (scal V ∧ enc V = l.take 1) := by rintro ⟨_, h⟩; rw [h] at hq; simp at hq
          have hr := HRX.out
          rw [hsl] at hr
          rw [if_neg hne] at hr
          have HR := Lib.hid hr
          clear hr hq hne
          go_ret3
          exact ⟨by rw [hsl, HR.out]; rfl, ((Below.refl _ _).alloc (Nat.le_refl _) _).drew.trans (HB.out.mono (by simp))⟩
        · rename_i hq
          rw [strL_list, HEX.out] at hq
          have hne : (scal V ∧ enc V = l.take 1) := ⟨hs, by simpa using hq⟩
          have hr := HRX.out
          rw [hsl] at hr
          rw [if_pos hne] at hr
          have HR := Lib.hid hr
          clear hr hq hne
          rw [HW.out]
          go_ret3
          exact ⟨by rw [hsl, HR.out]; rfl, ((Below.refl _ _).alloc (Nat.le_refl _) _).drew.trans (HB.out.mono (by simp))⟩
      · have hpu : puR V = .tuple #[.string (str []), .bool false] := by unfold puR; rw [if_neg hs, decide_eq_false hs]
        rw [hpu] at HPU
        clear hpu
        go_wp2_with (go_at_call 134; rw [HW.out]; (with_reducible refine (HPU.out _).mono ?_); rintro e w1 ⟨rfl, hb⟩; have HB := Lib.hid hb; clear hb)
        have hne : ¬ (scal V ∧ enc V = l.take 1) := by rintro ⟨h, _⟩; exact hs h
        have hr := HRX.out
        rw [hsl] at hr
        rw [if_neg hne] at hr
        have HR := Lib.hid hr
        clear hr hne
        go_ret3
        exact ⟨by rw [hsl, HR.out]; rfl, ((Below.refl _ _).alloc (Nat.le_refl _) _).drew.trans (HB.out.mono (by simp))⟩
set_option maxHeartbeats 2000000 in
set_option maxRecDepth 1000000 in
theorem refNext_2 (s : ByteArray) (w : World) (x : UInt8) (h2 : 2 ≤ s.size) (hx : s[0]'(by omega) = x) (hl : lg x.toNat = 2) (hb : 192 ≤ x.toNat ∧ x.toNat - 192 < 128)
    (l : List UInt8) (hsl : s.data.toList = l) (hl0 : (l.getD 0 0) = x) :
    Calls Tryz.prog 106 #[.string s] w fun e w' => e = .returned (nxR (rnx s.data.toList)) ∧ Below w.heap.size w w' := by
  have HL := Lib.hid (fun W => long_u x 2 hl W)
  have d1 : decide ((s.size : Int) < 2) = false := decide_eq_false (by omega)
  have hsz : 0 < s.size := by omega
  have hv1 : wrap64 (wrap64 (x.toNat : Int) - 192) = ((vp l 2 1 : Nat) : Int) := by
    have e : vp l 2 1 = x.toNat - 192 := by unfold vp hd; rw [hl0]; rfl
    rw [e]
    exact first_val _ 192 x.toNat_lt hb.1
  have HV1 := Lib.hid hv1
  have hvl : ∀ k, k ≤ 4 → vp l 2 k < 2 * 64 ^ k := fun k hk => vp_lt l 2 k (by rw [hl0]; exact hb.2) hk
  have HVL := Lib.hid hvl
  have HX := Lib.hid hb
  clear hv1 hvl hb
  go_enter Tryz.func106, Tryz.ntmps106
  go_wp2_with (go_at_call 133; (with_reducible refine (HL.out _).mono ?_); rintro e w1 ⟨rfl, rfl⟩)
  go_region
  rw [HV1.out]
  go_wp2
  go_loop [6, 7] (fun v i => ∃ k : Nat, 1 ≤ k ∧ k ≤ 2 ∧ i = .int .i64 k ∧ v = .int .i64 (vp l 2 k)) (fun _ i => 3 - (RowKit.intOf i).toNat)
  case atStart => exact ⟨1, by omega, by omega, rfl, rfl⟩
  case round =>
    obtain ⟨k, hk1, hk2, rfl, rfl⟩ := hrel
    have hvk := HVL.out k (by omega)
    have h64 : (64 : Nat) ^ k ≤ 64 ^ 4 := Nat.pow_le_pow_right (by omega) (by omega)
    have hvb : vp l 2 k < 33554432 := by omega
    have HVB := Lib.hid hvb
    clear hvk h64 hvb
    by_cases hlt : k < 2
    · obtain ⟨y, hy⟩ : ∃ y, s[k]'(by omega) = y := ⟨_, rfl⟩
      have hyn : vp l 2 (k + 1) = 64 * vp l 2 k + y.toNat % 64 := by
        obtain ⟨j, rfl⟩ : ∃ j, k = j + 1 := ⟨k - 1, by omega⟩
        show 64 * vp l 2 (j + 1) + (l.getD (j + 1) 0).toNat % 64 = _
        rw [getD_at s l hsl (j + 1) (by omega), hy]
      have hst : wrap64 (wrap64 (64 * (vp l 2 k : Int)) + (wrap64 (y.toNat : Int)).tmod 64) = ((vp l 2 (k + 1) : Nat) : Int) := by
        rw [hyn]
        exact st_val _ _ HVB.out y.toNat_lt
      have HST := Lib.hid hst
      clear hst hyn
      go_wp2
      go_round
      case rel => 
        exact ⟨k + 1, by omega, by omega, by go_num, by rw [HST.out]⟩
      case measure => simp [RowKit.intOf]; omega
    · have hkn : k = 2 := by omega
      subst hkn
      clear hlt hk1 hk2
      obtain ⟨V, hV⟩ : ∃ V, vp l 2 2 = V := ⟨_, rfl⟩
      rw [hV] at HVB ⊢
      have HW := Lib.hid (w32_val V HVB.out)
      have HPU := Lib.hid (fun W => refPut_nat V W HVB.out)
      have hlen : 2 ≤ l.length := by rw [← hsl]; simpa using h2
      have hrx := rnx_at (by omega) (by rw [hl0]; exact hl) hlen hV
      have HEX := Lib.hid (ext_take s l hsl 2)
      rw [← hsl] at hrx
      have HRX := Lib.hid hrx
      clear hrx hlen
      by_cases hs : scal V
      · have hpu : puR V = .tuple #[.string (str (enc V)), .bool true] := by unfold puR; rw [if_pos hs, decide_eq_true hs]
        rw [hpu] at HPU
        clear hpu
        go_wp2_with (go_at_call 134; rw [HW.out]; (with_reducible refine (HPU.out _).mono ?_); rintro e w1 ⟨rfl, hb⟩; have HB := Lib.hid hb; clear hb)
        · rename_i hq
          rw [strL_list, HEX.out] at hq
          have hne : ¬ (scal V ∧ enc V = l.take 2) := by rintro ⟨_, h⟩; rw [h] at hq; simp at hq
          have hr := HRX.out
          rw [hsl] at hr
          rw [if_neg hne] at hr
          have HR := Lib.hid hr
          clear hr hq hne
          go_ret3
          exact ⟨by rw [hsl, HR.out]; rfl, ((Below.refl _ _).alloc (Nat.le_refl _) _).drew.trans (HB.out.mono (by simp))⟩
        · rename_i hq
          rw [strL_list, HEX.out] at hq
          have hne : (scal V ∧ enc V = l.take 2) := ⟨hs, by simpa using hq⟩
          have hr := HRX.out
          rw [hsl] at hr
          rw [if_pos hne] at hr
          have HR := Lib.hid hr
          clear hr hq hne
          rw [HW.out]
          go_ret3
          exact ⟨by rw [hsl, HR.out]; rfl, ((Below.refl _ _).alloc (Nat.le_refl _) _).drew.trans (HB.out.mono (by simp))⟩
      · have hpu : puR V = .tuple #[.string (str []), .bool false] := by unfold puR; rw [if_neg hs, decide_eq_false hs]
        rw [hpu] at HPU
        clear hpu
        go_wp2_with (go_at_call 134; rw [HW.out]; (with_reducible refine (HPU.out _).mono ?_); rintro e w1 ⟨rfl, hb⟩; have HB := Lib.hid hb; clear hb)
        have hne : ¬ (scal V ∧ enc V = l.take 2) := by rintro ⟨h, _⟩; exact hs h
        have hr := HRX.out
        rw [hsl] at hr
        rw [if_neg hne] at hr
        have HR := Lib.hid hr
        clear hr hne
        go_ret3
        exact ⟨by rw [hsl, HR.out]; rfl, ((Below.refl _ _).alloc (Nat.le_refl _) _).drew.trans (HB.out.mono (by simp))⟩
set_option maxHeartbeats 2000000 in
set_option maxRecDepth 1000000 in
theorem refNext_3 (s : ByteArray) (w : World) (x : UInt8) (h2 : 3 ≤ s.size) (hx : s[0]'(by omega) = x) (hl : lg x.toNat = 3) (hb : 224 ≤ x.toNat ∧ x.toNat - 224 < 128)
    (l : List UInt8) (hsl : s.data.toList = l) (hl0 : (l.getD 0 0) = x) :
    Calls Tryz.prog 106 #[.string s] w fun e w' => e = .returned (nxR (rnx s.data.toList)) ∧ Below w.heap.size w w' := by
  have HL := Lib.hid (fun W => long_u x 3 hl W)
  have d1 : decide ((s.size : Int) < 3) = false := decide_eq_false (by omega)
  have hsz : 0 < s.size := by omega
  have hv1 : wrap64 (wrap64 (x.toNat : Int) - 224) = ((vp l 3 1 : Nat) : Int) := by
    have e : vp l 3 1 = x.toNat - 224 := by unfold vp hd; rw [hl0]; rfl
    rw [e]
    exact first_val _ 224 x.toNat_lt hb.1
  have HV1 := Lib.hid hv1
  have hvl : ∀ k, k ≤ 4 → vp l 3 k < 2 * 64 ^ k := fun k hk => vp_lt l 3 k (by rw [hl0]; exact hb.2) hk
  have HVL := Lib.hid hvl
  have HX := Lib.hid hb
  clear hv1 hvl hb
  go_enter Tryz.func106, Tryz.ntmps106
  go_wp2_with (go_at_call 133; (with_reducible refine (HL.out _).mono ?_); rintro e w1 ⟨rfl, rfl⟩)
  go_region
  rw [HV1.out]
  go_wp2
  go_loop [6, 7] (fun v i => ∃ k : Nat, 1 ≤ k ∧ k ≤ 3 ∧ i = .int .i64 k ∧ v = .int .i64 (vp l 3 k)) (fun _ i => 4 - (RowKit.intOf i).toNat)
  case atStart => exact ⟨1, by omega, by omega, rfl, rfl⟩
  case round =>
    obtain ⟨k, hk1, hk2, rfl, rfl⟩ := hrel
    have hvk := HVL.out k (by omega)
    have h64 : (64 : Nat) ^ k ≤ 64 ^ 4 := Nat.pow_le_pow_right (by omega) (by omega)
    have hvb : vp l 3 k < 33554432 := by omega
    have HVB := Lib.hid hvb
    clear hvk h64 hvb
    by_cases hlt : k < 3
    · obtain ⟨y, hy⟩ : ∃ y, s[k]'(by omega) = y := ⟨_, rfl⟩
      have hyn : vp l 3 (k + 1) = 64 * vp l 3 k + y.toNat % 64 := by
        obtain ⟨j, rfl⟩ : ∃ j, k = j + 1 := ⟨k - 1, by omega⟩
        show 64 * vp l 3 (j + 1) + (l.getD (j + 1) 0).toNat % 64 = _
        rw [getD_at s l hsl (j + 1) (by omega), hy]
      have hst : wrap64 (wrap64 (64 * (vp l 3 k : Int)) + (wrap64 (y.toNat : Int)).tmod 64) = ((vp l 3 (k + 1) : Nat) : Int) := by
        rw [hyn]
        exact st_val _ _ HVB.out y.toNat_lt
      have HST := Lib.hid hst
      clear hst hyn
      go_wp2
      go_round
      case rel => 
        exact ⟨k + 1, by omega, by omega, by go_num, by rw [HST.out]⟩
      case measure => simp [RowKit.intOf]; omega
    · have hkn : k = 3 := by omega
      subst hkn
      clear hlt hk1 hk2
      obtain ⟨V, hV⟩ : ∃ V, vp l 3 3 = V := ⟨_, rfl⟩
      rw [hV] at HVB ⊢
      have HW := Lib.hid (w32_val V HVB.out)
      have HPU := Lib.hid (fun W => refPut_nat V W HVB.out)
      have hlen : 3 ≤ l.length := by rw [← hsl]; simpa using h2
      have hrx := rnx_at (by omega) (by rw [hl0]; exact hl) hlen hV
      have HEX := Lib.hid (ext_take s l hsl 3)
      rw [← hsl] at hrx
      have HRX := Lib.hid hrx
      clear hrx hlen
      by_cases hs : scal V
      · have hpu : puR V = .tuple #[.string (str (enc V)), .bool true] := by unfold puR; rw [if_pos hs, decide_eq_true hs]
        rw [hpu] at HPU
        clear hpu
        go_wp2_with (go_at_call 134; rw [HW.out]; (with_reducible refine (HPU.out _).mono ?_); rintro e w1 ⟨rfl, hb⟩; have HB := Lib.hid hb; clear hb)
        · rename_i hq
          rw [strL_list, HEX.out] at hq
          have hne : ¬ (scal V ∧ enc V = l.take 3) := by rintro ⟨_, h⟩; rw [h] at hq; simp at hq
          have hr := HRX.out
          rw [hsl] at hr
          rw [if_neg hne] at hr
          have HR := Lib.hid hr
          clear hr hq hne
          go_ret3
          exact ⟨by rw [hsl, HR.out]; rfl, ((Below.refl _ _).alloc (Nat.le_refl _) _).drew.trans (HB.out.mono (by simp))⟩
        · rename_i hq
          rw [strL_list, HEX.out] at hq
          have hne : (scal V ∧ enc V = l.take 3) := ⟨hs, by simpa using hq⟩
          have hr := HRX.out
          rw [hsl] at hr
          rw [if_pos hne] at hr
          have HR := Lib.hid hr
          clear hr hq hne
          rw [HW.out]
          go_ret3
          exact ⟨by rw [hsl, HR.out]; rfl, ((Below.refl _ _).alloc (Nat.le_refl _) _).drew.trans (HB.out.mono (by simp))⟩
      · have hpu : puR V = .tuple #[.string (str []), .bool false] := by unfold puR; rw [if_neg hs, decide_eq_false hs]
        rw [hpu] at HPU
        clear hpu
        go_wp2_with (go_at_call 134; rw [HW.out]; (with_reducible refine (HPU.out _).mono ?_); rintro e w1 ⟨rfl, hb⟩; have HB := Lib.hid hb; clear hb)
        have hne : ¬ (scal V ∧ enc V = l.take 3) := by rintro ⟨h, _⟩; exact hs h
        have hr := HRX.out
        rw [hsl] at hr
        rw [if_neg hne] at hr
        have HR := Lib.hid hr
        clear hr hne
        go_ret3
        exact ⟨by rw [hsl, HR.out]; rfl, ((Below.refl _ _).alloc (Nat.le_refl _) _).drew.trans (HB.out.mono (by simp))⟩
set_option maxHeartbeats 2000000 in
set_option maxRecDepth 1000000 in
theorem refNext_4 (s : ByteArray) (w : World) (x : UInt8) (h2 : 4 ≤ s.size) (hx : s[0]'(by omega) = x) (hl : lg x.toNat = 4) (hb : 240 ≤ x.toNat ∧ x.toNat - 240 < 128)
    (l : List UInt8) (hsl : s.data.toList = l) (hl0 : (l.getD 0 0) = x) :
    Calls Tryz.prog 106 #[.string s] w fun e w' => e = .returned (nxR (rnx s.data.toList)) ∧ Below w.heap.size w w' := by
  have HL := Lib.hid (fun W => long_u x 4 hl W)
  have d1 : decide ((s.size : Int) < 4) = false := decide_eq_false (by omega)
  have hsz : 0 < s.size := by omega
  have hv1 : wrap64 (wrap64 (x.toNat : Int) - 240) = ((vp l 4 1 : Nat) : Int) := by
    have e : vp l 4 1 = x.toNat - 240 := by unfold vp hd; rw [hl0]; rfl
    rw [e]
    exact first_val _ 240 x.toNat_lt hb.1
  have HV1 := Lib.hid hv1
  have hvl : ∀ k, k ≤ 4 → vp l 4 k < 2 * 64 ^ k := fun k hk => vp_lt l 4 k (by rw [hl0]; exact hb.2) hk
  have HVL := Lib.hid hvl
  have HX := Lib.hid hb
  clear hv1 hvl hb
  go_enter Tryz.func106, Tryz.ntmps106
  go_wp2_with (go_at_call 133; (with_reducible refine (HL.out _).mono ?_); rintro e w1 ⟨rfl, rfl⟩)
  go_region
  rw [HV1.out]
  go_wp2
  go_loop [6, 7] (fun v i => ∃ k : Nat, 1 ≤ k ∧ k ≤ 4 ∧ i = .int .i64 k ∧ v = .int .i64 (vp l 4 k)) (fun _ i => 5 - (RowKit.intOf i).toNat)
  case atStart => exact ⟨1, by omega, by omega, rfl, rfl⟩
  case round =>
    obtain ⟨k, hk1, hk2, rfl, rfl⟩ := hrel
    have hvk := HVL.out k (by omega)
    have h64 : (64 : Nat) ^ k ≤ 64 ^ 4 := Nat.pow_le_pow_right (by omega) (by omega)
    have hvb : vp l 4 k < 33554432 := by omega
    have HVB := Lib.hid hvb
    clear hvk h64 hvb
    by_cases hlt : k < 4
    · obtain ⟨y, hy⟩ : ∃ y, s[k]'(by omega) = y := ⟨_, rfl⟩
      have hyn : vp l 4 (k + 1) = 64 * vp l 4 k + y.toNat % 64 := by
        obtain ⟨j, rfl⟩ : ∃ j, k = j + 1 := ⟨k - 1, by omega⟩
        show 64 * vp l 4 (j + 1) + (l.getD (j + 1) 0).toNat % 64 = _
        rw [getD_at s l hsl (j + 1) (by omega), hy]
      have hst : wrap64 (wrap64 (64 * (vp l 4 k : Int)) + (wrap64 (y.toNat : Int)).tmod 64) = ((vp l 4 (k + 1) : Nat) : Int) := by
        rw [hyn]
        exact st_val _ _ HVB.out y.toNat_lt
      have HST := Lib.hid hst
      clear hst hyn
      go_wp2
      go_round
      case rel => 
        exact ⟨k + 1, by omega, by omega, by go_num, by rw [HST.out]⟩
      case measure => simp [RowKit.intOf]; omega
    · have hkn : k = 4 := by omega
      subst hkn
      clear hlt hk1 hk2
      obtain ⟨V, hV⟩ : ∃ V, vp l 4 4 = V := ⟨_, rfl⟩
      rw [hV] at HVB ⊢
      have HW := Lib.hid (w32_val V HVB.out)
      have HPU := Lib.hid (fun W => refPut_nat V W HVB.out)
      have hlen : 4 ≤ l.length := by rw [← hsl]; simpa using h2
      have hrx := rnx_at (by omega) (by rw [hl0]; exact hl) hlen hV
      have HEX := Lib.hid (ext_take s l hsl 4)
      rw [← hsl] at hrx
      have HRX := Lib.hid hrx
      clear hrx hlen
      by_cases hs : scal V
      · have hpu : puR V = .tuple #[.string (str (enc V)), .bool true] := by unfold puR; rw [if_pos hs, decide_eq_true hs]
        rw [hpu] at HPU
        clear hpu
        go_wp2_with (go_at_call 134; rw [HW.out]; (with_reducible refine (HPU.out _).mono ?_); rintro e w1 ⟨rfl, hb⟩; have HB := Lib.hid hb; clear hb)
        · rename_i hq
          rw [strL_list, HEX.out] at hq
          have hne : ¬ (scal V ∧ enc V = l.take 4) := by rintro ⟨_, h⟩; rw [h] at hq; simp at hq
          have hr := HRX.out
          rw [hsl] at hr
          rw [if_neg hne] at hr
          have HR := Lib.hid hr
          clear hr hq hne
          go_ret3
          exact ⟨by rw [hsl, HR.out]; rfl, ((Below.refl _ _).alloc (Nat.le_refl _) _).drew.trans (HB.out.mono (by simp))⟩
        · rename_i hq
          rw [strL_list, HEX.out] at hq
          have hne : (scal V ∧ enc V = l.take 4) := ⟨hs, by simpa using hq⟩
          have hr := HRX.out
          rw [hsl] at hr
          rw [if_pos hne] at hr
          have HR := Lib.hid hr
          clear hr hq hne
          rw [HW.out]
          go_ret3
          exact ⟨by rw [hsl, HR.out]; rfl, ((Below.refl _ _).alloc (Nat.le_refl _) _).drew.trans (HB.out.mono (by simp))⟩
      · have hpu : puR V = .tuple #[.string (str []), .bool false] := by unfold puR; rw [if_neg hs, decide_eq_false hs]
        rw [hpu] at HPU
        clear hpu
        go_wp2_with (go_at_call 134; rw [HW.out]; (with_reducible refine (HPU.out _).mono ?_); rintro e w1 ⟨rfl, hb⟩; have HB := Lib.hid hb; clear hb)
        have hne : ¬ (scal V ∧ enc V = l.take 4) := by rintro ⟨h, _⟩; exact hs h
        have hr := HRX.out
        rw [hsl] at hr
        rw [if_neg hne] at hr
        have HR := Lib.hid hr
        clear hr hne
        go_ret3
        exact ⟨by rw [hsl, HR.out]; rfl, ((Below.refl _ _).alloc (Nat.le_refl _) _).drew.trans (HB.out.mono (by simp))⟩
set_option maxHeartbeats 2000000 in
set_option maxRecDepth 1000000 in
theorem refNext_any (s : ByteArray) (w : World) :
    Calls Tryz.prog 106 #[.string s] w fun e w' => e = .returned (nxR (nx s.data.toList)) ∧ Below w.heap.size w w' := by
  rw [← rnx_nx]
  by_cases h0 : s.size = 0
  · have hl : s.data.toList = [] := by
      have : s.data.toList.length = 0 := by simpa using h0
      exact List.length_eq_zero_iff.mp this
    have hr : rnx s.data.toList = (0, 0, false) := by rw [hl]; rfl
    have HR := Lib.hid hr
    clear hr hl
    go_enter Tryz.func106, Tryz.ntmps106
    go_wp2
    go_ret3
    exact ⟨by rw [HR.out]; rfl, Below.refl _ _⟩
  have hp : 0 < s.size := by omega
  obtain ⟨x, hx⟩ : ∃ x, s[0]'hp = x := ⟨_, rfl⟩
  obtain ⟨l, hsl⟩ : ∃ l, s.data.toList = l := ⟨_, rfl⟩
  have hl0 := size_pos_hd s x l hsl hp hx
  obtain ⟨n, hn⟩ : ∃ n, lg x.toNat = n := ⟨_, rfl⟩
  have hxl := x.toNat_lt
  have hlen : l.length = s.size := by rw [← hsl]; simp
  by_cases hbad : n = 0 ∨ s.size < n
  · have hr : rnx l = (0, 0, false) := by
      unfold rnx
      rw [if_neg (by intro h; subst h; simp at hlen; omega), hl0, hn, if_pos (by rw [hlen]; exact hbad)]
    have HR := Lib.hid hr
    have HL := Lib.hid (fun W => long_u x n hn W)
    have HSL := Lib.hid hsl
    clear hr hlen hn hl0 hsl hxl
    by_cases hn0 : n = 0
    · subst hn0
      clear hbad h0
      go_enter Tryz.func106, Tryz.ntmps106
      go_wp2_with (go_at_call 133; (with_reducible refine (HL.out _).mono ?_); rintro e w1 ⟨rfl, rfl⟩)
      go_ret3
      exact ⟨by rw [HSL.out, HR.out]; rfl, Below.refl _ _⟩
    · have hlt : s.size < n := by omega
      have d1 : decide ((s.size : Int) < (n : Int)) = true := decide_eq_true (by omega)
      have d2 : ((n : Int) == 0) = false := by simp; omega
      clear hbad h0 d1 hn0
      go_enter Tryz.func106, Tryz.ntmps106
      go_wp2_with (go_at_call 133; (with_reducible refine (HL.out _).mono ?_); rintro e w1 ⟨rfl, rfl⟩)
      go_ret3
      exact ⟨by rw [HSL.out, HR.out]; rfl, Below.refl _ _⟩
  have hg := lg_rng hn hxl
  rcases hg with h | ⟨h, h1⟩ | ⟨h, h1⟩ | ⟨h, h1⟩ | ⟨h, h1⟩
  · omega
  · subst h; exact refNext_1 s w x (by omega) hx hn (by omega) l hsl hl0
  · subst h; exact refNext_2 s w x (by omega) hx hn (by omega) l hsl hl0
  · subst h; exact refNext_3 s w x (by omega) hx hn (by omega) l hsl hl0
  · subst h; exact refNext_4 s w x (by omega) hx hn (by omega) l hsl hl0
end Go.Proofs.YtdnkebfmjlbdgaaGreatDoor.U
namespace Go.Proofs.YtdnkebfmjlbdgaaGreatDoor.U
open Go.RowKit Ut Go.Lib

theorem nx_valid {l : List UInt8} (hne : l ≠ []) : (nx l = (0, 0, false) ∧ validD l = false) ∨ (∃ r n : Nat, nx l = (r, n, true) ∧ 0 < n ∧ n ≤ l.length ∧ validD l = validD (l.drop n)) := by
  have hd : dec l = decodeL l := by unfold dec; rw [if_neg hne]
  have hw := decodeL_width l
  by_cases hv : (decodeL l).1 = 65533 ∧ (decodeL l).2 = 1
  · exact Or.inl ⟨by unfold nx; rw [hd, if_pos ⟨hv.1, by omega⟩], by rw [validD_step l hne, if_pos hv]⟩
  · obtain ⟨hsc, henc, hle, h1⟩ := valid_head hne hv
    refine Or.inr ⟨(decodeL l).1, (decodeL l).2, ?_, by omega, hle, by rw [validD_step l hne, if_neg hv]⟩
    have h5 : l = enc (decodeL l).1 ++ l.drop (decodeL l).2 := by rw [henc, List.take_append_drop]
    have hlen : (enc (decodeL l).1).length = (decodeL l).2 := by rw [henc, List.length_take]; omega
    have h8 := nx_enc hsc (l.drop (decodeL l).2)
    rw [← h5, hlen] at h8
    exact h8
theorem cut_at (l : List UInt8) (k n m : Nat) (hn : k + n ≤ l.length) (hm : (l.drop k).length = m) : (str (l.drop k)).extract n m = str (l.drop (k + n)) := by
  have h : l.drop k = (l.drop k).take n ++ l.drop (k + n) := by
    rw [← List.drop_drop, List.take_append_drop]
  have h2 := cut_from ((l.drop k).take n) (l.drop (k + n)) n m (by rw [List.length_take, List.length_drop]; omega) (by rw [← h]; exact hm)
  rw [← h] at h2
  exact h2
def VH (w : World) (l : List UInt8) (v : Value) (wr : World) : Prop := ∃ k, k ≤ l.length ∧ v = .string (str (l.drop k)) ∧ Hid (validD (l.drop k) = validD l) ∧ Hid (Below w.heap.size w wr)
set_option maxHeartbeats 2000000 in
set_option maxRecDepth 1000000 in
theorem refValid_any (s : ByteArray) (w : World) :
    Calls Tryz.prog 77 #[.string s] w fun e w' => e = .returned (.bool (validD s.data.toList)) ∧ Below w.heap.size w w' := by
  obtain ⟨l, hl⟩ : ∃ l, s.data.toList = l := ⟨_, rfl⟩
  have hs : s = str l := by subst hl; exact (str_list s).symm
  rw [hl]
  subst hs
  clear hl
  go_enter Tryz.func77, Tryz.ntmps77
  go_wp2
  go_loopw [0] (fun v wr => VH w l v wr) (fun v _ => match v with | .string t => t.size | _ => 0)
  case atStart => exact ⟨0, by omega, rfl, rfl, Below.refl _ _⟩
  case round =>
    obtain ⟨k, hk, rfl, HV, HB⟩ := hrel
    have hsz : (str (l.drop k)).size = l.length - k := by rw [str_size, List.length_drop]
    by_cases hend : k = l.length
    · subst hend
      have h0 : (str (l.drop l.length)).size = 0 := by rw [hsz]; omega
      have hv := HV.out
      rw [List.drop_length, validD_nil] at hv
      have HV2 := Lib.hid hv.symm
      clear hsz hv HV
      go_wp2
      go_ret
      exact ⟨by rw [HV2.out]; rfl, HB.out⟩
    · have hne : l.drop k ≠ [] := by intro h; have := congrArg List.length h; simp at this; omega
      obtain ⟨z, hz⟩ : ∃ z, str (l.drop k) = z := ⟨_, rfl⟩
      have hzs : z.size = l.length - k := by rw [← hz]; exact hsz
      have C : ∀ W, _ := fun W => refNext_any z W
      have hzd : z.data.toList = l.drop k := by rw [← hz, str_data]
      have hzp : 0 < z.size := by omega
      rcases nx_valid hne with ⟨hx, hf⟩ | ⟨r, n, hx, hn0, hn, hf⟩
      · simp only [hzd, hx, nxR] at C
        have HC := Lib.hid C
        have hv := HV.out
        rw [hf] at hv
        have HV2 := Lib.hid hv.symm
        rw [hz]
        clear C hx hf hne hsz hk hend hzd hz hzs HV hv
        go_wp2_with (go_at_call 106; (with_reducible refine (HC.out _).mono ?_); rintro e w1 ⟨rfl, hb⟩; have HB1 := Lib.hid hb; clear hb)
        go_ret
        exact ⟨by rw [HV2.out]; rfl, HB.out.trans (HB1.out.mono HB.out.size)⟩
      · simp only [hzd, hx, nxR] at C
        have HC := Lib.hid C
        have hv := HV.out
        rw [hf, List.drop_drop] at hv
        have HV2 := Lib.hid hv
        rw [List.length_drop] at hn
        have hcut : z.extract n z.size = str (l.drop (k + n)) := by rw [← hz]; exact cut_at l k n _ (by omega) (by rw [str_size])
        have HCUT := Lib.hid hcut
        have HN := Lib.hid (show k + n ≤ l.length by omega)
        have hnz : n ≤ z.size := by omega
        rw [hz]
        have HZS := Lib.hid hzs
        have HN0 := Lib.hid hn0
        clear C hx hf hne hsz hk hend hzd hz hzs HV hv hcut hn hn0
        go_wp2_with (go_at_call 106; (with_reducible refine (HC.out _).mono ?_); rintro e w1 ⟨rfl, hb⟩; have HB1 := Lib.hid hb; clear hb)
        go_round
        case rel =>
          rw [HCUT.out]
          exact ⟨k + n, HN.out, rfl, HV2.out, HB.out.trans (HB1.out.mono HB.out.size)⟩
        case measure =>
          have := HN.out
          have := HZS.out
          have := HN0.out
          rw [HCUT.out]
          simp [str_size]
          omega
  all_goals trace_state
end Go.Proofs.YtdnkebfmjlbdgaaGreatDoor.U
namespace Go.Proofs.YtdnkebfmjlbdgaaGreatDoor.U
open Go.RowKit Ut Go.Lib

def mtS : ByteArray := ⟨#[34, 92, 47, 8, 12, 10, 13, 9]⟩
def mkS : ByteArray := ⟨#[34, 92, 47, 98, 102, 110, 114, 116]⟩
def hxS : ByteArray := ⟨#[48, 49, 50, 51, 52, 53, 54, 55, 56, 57, 97, 98, 99, 100, 101, 102]⟩
def mtL : List UInt8 := [34, 92, 47, 8, 12, 10, 13, 9]
def mkL : List UInt8 := [34, 92, 47, 98, 102, 110, 114, 116]
theorem mt_at (j : Nat) (h8 : j < 8) (h : j < mtS.size) : mtS[j]'h = mtL.getD j 0 := by
  rw [List.getD_eq_getElem?_getD, List.getElem?_eq_getElem (by exact h8)]
  rfl
theorem mk_at (j : Nat) (h8 : j < 8) (h : j < mkS.size) : mkS[j]'h = mkL.getD j 0 := by
  rw [List.getD_eq_getElem?_getD, List.getElem?_eq_getElem (by exact h8)]
  rfl
theorem mk_cut : ∀ m : Fin 8, mkS.extract m.val (m.val + 1) = str [mkL.getD m.val 0] := by decide +kernel
theorem hx_cut : ∀ m : Fin 16, hxS.extract m.val (m.val + 1) = str [hexB m.val] := by decide +kernel
/-- The last short spelling of the byte among the first j. -/
def shV (c : UInt8) : Nat → Int
  | 0 => -1
  | j + 1 => if mtL.getD j 0 = c ∧ mkL.getD j 0 ≠ 47 then (j : Int) else shV c j
def itB (c : UInt8) : Bool :=
  (decide (0 ≤ shV c 8) && decide (shV c 8 < 8) && (itemN c.toNat == [92, mkL.getD (shV c 8).toNat 0])) ||
  (shV c 8 == -1 && decide (c.toNat < 32) && itemN c.toNat == [92, 117, 48, 48, hexB (c.toNat / 16), hexB (c.toNat % 16)]) ||
  (shV c 8 == -1 && decide (32 ≤ c.toNat) && itemN c.toNat == [c])
theorem itB_all : ∀ n : Fin 256, itB (UInt8.ofNat n.val) = true := by decide +kernel
theorem itB_any (c : UInt8) : (∃ m : Nat, m < 8 ∧ shV c 8 = (m : Int) ∧ itemN c.toNat = [92, mkL.getD m 0]) ∨
    (shV c 8 = -1 ∧ c.toNat < 32 ∧ itemN c.toNat = [92, 117, 48, 48, hexB (c.toNat / 16), hexB (c.toNat % 16)]) ∨ (shV c 8 = -1 ∧ 32 ≤ c.toNat ∧ itemN c.toNat = [c]) := by
  have h := itB_all ⟨c.toNat, c.toNat_lt⟩
  rw [UInt8.ofNat_toNat] at h
  unfold itB at h
  simp only [Bool.or_eq_true, Bool.and_eq_true, decide_eq_true_eq, beq_iff_eq] at h
  rcases h with (⟨⟨h1, h2⟩, h3⟩ | ⟨⟨h1, h2⟩, h3⟩) | ⟨⟨h1, h2⟩, h3⟩
  · refine .inl ⟨(shV c 8).toNat, by omega, by omega, h3⟩
  · exact .inr (.inl ⟨h1, h2, h3⟩)
  · exact .inr (.inr ⟨h1, h2, h3⟩)
theorem str_cat (a b : List UInt8) : str a ++ str b = str (a ++ b) := by
  unfold str
  apply ByteArray.ext
  simp
theorem take_item {l : List UInt8} {k : Nat} {c : UInt8} (h : l[k]? = some c) : (l.take (k + 1)).flatMap (fun b => itemN b.toNat) = (l.take k).flatMap (fun b => itemN b.toNat) ++ itemN c.toNat := by
  rw [List.take_add_one, h]
  simp
theorem byteQ {s : ByteArray} {l : List UInt8} {k : Nat} {c : UInt8} (hl : s.data.toList = l) (hc : l[k]? = some c) (hk : k < s.size) : s[k]'hk = c := by
  subst hl
  rw [List.getElem?_eq_some_iff] at hc
  obtain ⟨_, h⟩ := hc
  exact h
theorem cut_one {s : ByteArray} {l : List UInt8} {k : Nat} {c : UInt8} (hl : s.data.toList = l) (hc : l[k]? = some c) : s.extract k (k + 1) = str [c] := by
  subst hl
  have h : (s.extract k (k + 1)).data.toList = [c] := by
    rw [ByteArray.data_extract, Array.toList_extract, List.extract_eq_take_drop, show k + 1 - k = 1 by omega]
    rw [List.getElem?_eq_some_iff] at hc
    obtain ⟨hk, h⟩ := hc
    rw [List.drop_eq_getElem_cons hk, h]
    rfl
  rw [← str_list (s.extract k (k + 1)), h]
theorem u8B {a b : UInt8} (h : a ≠ b) : ((a.toNat : Int) == (b.toNat : Int)) = false := by
  rw [Bool.eq_false_iff, ne_eq, beq_iff_eq]
  intro h2
  exact h (UInt8.toNat_inj.1 (by omega))
theorem u8K {a : UInt8} {n : Nat} (h : a.toNat ≠ n) : ((a.toNat : Int) == (n : Int)) = false ∧ ((a.toNat : Int) != (n : Int)) = true := by
  have : (a.toNat : Int) ≠ (n : Int) := by omega
  simp [this]
theorem u8Y {a : UInt8} {n : Nat} (h : a.toNat = n) : ((a.toNat : Int) == (n : Int)) = true ∧ ((a.toNat : Int) != (n : Int)) = false := by
  have : (a.toNat : Int) = (n : Int) := by omega
  simp [this]
def quS (l : List UInt8) (k : Nat) : List UInt8 := 34 :: (l.take k).flatMap fun b => itemN b.toNat
theorem quS_len (l : List UInt8) (k : Nat) : (quS l k).length ≤ 6 * k + 1 := by
  unfold quS
  have := items_len (l.take k)
  have h2 := List.length_take_le k l
  rw [List.length_cons]
  omega
set_option maxHeartbeats 4000000 in
set_option maxRecDepth 1000000 in
theorem refQuote_no (s : ByteArray) (l : List UInt8) (hl : s.data.toList = l) (hv : validD l = false) (w : World) :
    Calls Tryz.prog 43 #[.string s] w fun e w' => e = .returned (quR l) ∧ Below w.heap.size w w' := by
  have C := refValid_any s w
  rw [hl, hv] at C
  have HC := Lib.hid C
  have HQ := Lib.hid (show quR l = .tuple #[.string ⟨#[]⟩, .int .i64 40] by unfold quR; rw [if_neg (by rw [hv]; decide)])
  clear C hv hl
  go_enter Tryz.func43, Tryz.ntmps43
  go_wp2_with (go_at_call 77; (with_reducible refine HC.out.mono ?_); rintro e w1 ⟨rfl, hb⟩; have HB1 := Lib.hid hb; clear hb)
  go_ret2
  exact ⟨by rw [HQ.out]; rfl, HB1.out⟩
set_option maxHeartbeats 8000000 in
set_option maxRecDepth 1000000 in
theorem refQuote_yes (s : ByteArray) (l : List UInt8) (hl : s.data.toList = l) (hs : s.size ≤ 60000) (hv : validD l = true) (w : World) :
    Calls Tryz.prog 43 #[.string s] w fun e w' => e = .returned (quR l) ∧ Below w.heap.size w w' := by
  have C := refValid_any s w
  rw [hl, hv] at C
  have HC := Lib.hid C
  have HQ := Lib.hid (show quR l = .tuple #[.string (str (quo l)), .int .i64 0] by unfold quR; rw [if_pos hv])
  have HSZ := Lib.hid (show s.size = l.length by rw [Lib.size_eq, hl])
  have HL := Lib.hid hl
  clear C hv hl
  go_enter Tryz.func43, Tryz.ntmps43
  go_wp2_with (go_at_call 77; (with_reducible refine HC.out.mono ?_); rintro e w1 ⟨rfl, hb⟩; have HB1 := Lib.hid hb; clear hb)
  go_loopw [4, 5] (fun o i wr => ∃ (k : Nat) (u : ByteArray), k ≤ s.size ∧ i = .int .i64 k ∧ o = .string u ∧ u.size ≤ 6 * k + 1 ∧ Hid (u = str (quS l k)) ∧ Hid (Below w.heap.size w wr)) (fun _ i _ => s.size + 1 - (RowKit.intOf i).toNat)
  case atStart => exact ⟨0, _, Nat.zero_le _, rfl, rfl, by decide, rfl, HB1⟩
  case round =>
    clear HB1 HC
    obtain ⟨k, u, hk, rfl, rfl, hu, HU, HB⟩ := hrel
    by_cases hlt : k < s.size
    · obtain ⟨c, hc⟩ : ∃ c, l[k]? = some c := ⟨_, List.getElem?_eq_getElem (by rw [← HSZ.out]; exact hlt)⟩
      have hx : s[k] = c := byteQ HL.out hc hlt
      have HCC := Lib.hid hc
      have d1 : decide ((k : Int) < (s.size : Int)) = true := decide_eq_true (by omega)
      have d2 : decide (k < s.size) = true := decide_eq_true (by omega)
      clear hc
      go_wp2
      go_loopw [6, 7] (fun a i wq => ∃ j : Nat, j ≤ 8 ∧ i = .int .i64 j ∧ a = .int .i64 (shV c j) ∧ Hid (Below w.heap.size w wq)) (fun _ i _ => 9 - (RowKit.intOf i).toNat)
      case atStart => exact ⟨0, by omega, rfl, rfl, HB⟩
      case round =>
        clear HB
        obtain ⟨j, hj, rfl, rfl, HB⟩ := hrel
        obtain ⟨S, hS⟩ : ∃ S, shV c j = S := ⟨_, rfl⟩
        have HS := Lib.hid hS
        rw [hS]
        by_cases hj8 : j < 8
        · have e1 : decide ((j : Int) < 8) = true := decide_eq_true (by omega)
          have i1 : (0 : Int) ≤ (j : Int) := by omega
          have i2 : (j : Int) < 8 := by omega
          have i3 : (0 : Int) ≤ (k : Int) := by omega
          have i4 : (k : Int) < (s.size : Int) := by omega
          obtain ⟨M, hM⟩ : ∃ M, mtL.getD j 0 = M := ⟨_, rfl⟩
          obtain ⟨K, hK⟩ : ∃ K, mkL.getD j 0 = K := ⟨_, rfl⟩
          have hm : ∀ h, (⟨#[34, 92, 47, 8, 12, 10, 13, 9]⟩ : ByteArray)[j]'h = M := fun h => (mt_at j hj8 h).trans hM
          have hk2 : ∀ h, (⟨#[34, 92, 47, 98, 102, 110, 114, 116]⟩ : ByteArray)[j]'h = K := fun h => (mk_at j hj8 h).trans hK
          have HST := Lib.hid (show shV c (j + 1) = if M = c ∧ K ≠ 47 then (j : Int) else S by rw [← hM, ← hK, ← hS]; rfl)
          clear hM hK hS
          by_cases hMc : M = c
          · have q1 : ((M.toNat : Int) == (c.toNat : Int)) = true := by rw [hMc]; exact beq_self_eq_true _
            by_cases hK47 : K = 47
            · obtain ⟨q2, q3⟩ := u8Y (a := K) (n := 47) (by rw [hK47]; rfl)
              have HR := Lib.hid (show shV c (j + 1) = S by rw [HST.out, if_neg (fun h => h.2 hK47)])
              clear hMc hK47
              go_wp2
              go_quiet (fail)
              go_wp2
              go_roundw
              case rel => exact ⟨j + 1, by omega, by go_num, by rw [HR.out], below_drewN HB.out _⟩
              case measure => simp [RowKit.intOf]; omega
            · obtain ⟨q2, q3⟩ := u8K (a := K) (n := 47) (fun h => hK47 (UInt8.toNat_inj.1 h))
              have HR := Lib.hid (show shV c (j + 1) = (j : Int) by rw [HST.out, if_pos ⟨hMc, hK47⟩])
              clear hMc hK47
              go_wp2
              go_quiet (fail)
              go_wp2
              go_roundw
              case rel => exact ⟨j + 1, by omega, by go_num, by rw [HR.out], below_drewN HB.out _⟩
              case measure => simp [RowKit.intOf]; omega
          · have q1 := u8B hMc
            have HR := Lib.hid (show shV c (j + 1) = S by rw [HST.out, if_neg (fun h => hMc h.1)])
            clear hMc
            go_wp2
            go_quiet (fail)
            go_wp2
            go_roundw
            case rel => exact ⟨j + 1, by omega, by go_num, by rw [HR.out], below_drewN HB.out _⟩
            case measure => simp [RowKit.intOf]; omega
        · have hj' : j = 8 := by omega
          have e1 : decide ((j : Int) < 8) = false := decide_eq_false (by omega)
          have hS8 := HS.out
          rw [hj'] at hS8
          clear hj8 hj' hj HS
          have hk1 : (0 : Int) ≤ (k : Int) := by omega
          have hk2 : (k : Int) < (s.size : Int) := by omega
          have hk3 : k + 1 ≤ s.size := hlt
          have hk4 : (k : Int) + 1 ≤ (s.size : Int) := by omega
          have hc256 := c.toNat_lt
          rcases itB_any c with ⟨m, hm8, hm, hit⟩ | ⟨hm, h32, hit⟩ | ⟨hm, h32, hit⟩
          · rw [hm] at hS8
            subst hS8
            have f1 : decide ((0 : Int) ≤ (m : Int)) = true := decide_eq_true (by omega)
            have f2 : (m : Int) + 1 ≤ 8 := by omega
            have f3 : (0 : Int) ≤ (m : Int) := by omega
            have HMK := Lib.hid (show (⟨#[34, 92, 47, 98, 102, 110, 114, 116]⟩ : ByteArray).extract m (m + 1) = str [mkL.getD m 0] from mk_cut ⟨m, hm8⟩)
            have HIT := Lib.hid hit
            have hmz : ((⟨#[34, 92, 47, 98, 102, 110, 114, 116]⟩ : ByteArray).extract m (m + 1)).size ≤ 1 := by rw [HMK.out, str_size]; simp
            clear hm hit
            go_wp2
            go_roundw
            case rel => 
              have hU := HU.out
              refine ⟨k + 1, _, by omega, by go_num, rfl, ?_, ?_, HB.out⟩
              · rw [ByteArray.size_append, ByteArray.size_append]
                have : (⟨#[92]⟩ : ByteArray).size = 1 := rfl
                omega
              · show u ++ str [92] ++ (⟨#[34, 92, 47, 98, 102, 110, 114, 116]⟩ : ByteArray).extract m (m + 1) = str (quS l (k + 1))
                rw [HMK.out, hU, str_cat, str_cat]
                unfold quS
                rw [take_item HCC.out, HIT.out]
                simp
            case measure => simp [RowKit.intOf]; omega
          · rw [hm] at hS8
            subst hS8
            have f1 : decide ((32 : Int) ≤ (c.toNat : Int)) = false := decide_eq_false (by omega)
            have f2 : decide ((c.toNat : Int) < 32) = true := decide_eq_true (by omega)
            have HIT := Lib.hid hit
            clear hm hit
            go_wp2
            go_quiet (fail)
            go_wp2
            have hU := HU.out
            have h1 : (⟨#[48, 49, 50, 51, 52, 53, 54, 55, 56, 57, 97, 98, 99, 100, 101, 102]⟩ : ByteArray).extract (c.toNat / 16) (c.toNat / 16 + 1) = str [hexB (c.toNat / 16)] := hx_cut ⟨c.toNat / 16, by omega⟩
            have h2 : (⟨#[48, 49, 50, 51, 52, 53, 54, 55, 56, 57, 97, 98, 99, 100, 101, 102]⟩ : ByteArray).extract (c.toNat % 16) (c.toNat % 16 + 1) = str [hexB (c.toNat % 16)] := hx_cut ⟨c.toNat % 16, by omega⟩
            refine ⟨⟨k + 1, _, by omega, by go_num, rfl, ?_, ?_, below_drewN HB.out _⟩, ?_⟩
            · rw [h1, h2, ByteArray.size_append, ByteArray.size_append, ByteArray.size_append, str_size, str_size]
              have : (⟨#[92, 117, 48, 48]⟩ : ByteArray).size = 4 := rfl
              simp only [List.length_cons, List.length_nil]
              omega
            · show u ++ str [92, 117, 48, 48] ++ (⟨#[48, 49, 50, 51, 52, 53, 54, 55, 56, 57, 97, 98, 99, 100, 101, 102]⟩ : ByteArray).extract (c.toNat / 16) (c.toNat / 16 + 1) ++ (⟨#[48, 49, 50, 51, 52, 53, 54, 55, 56, 57, 97, 98, 99, 100, 101, 102]⟩ : ByteArray).extract (c.toNat % 16) (c.toNat % 16 + 1) = str (quS l (k + 1))
              rw [h1, h2, hU, str_cat, str_cat, str_cat]
              unfold quS
              rw [take_item HCC.out, HIT.out]
              simp
            · simp [RowKit.intOf]; omega
          · rw [hm] at hS8
            subst hS8
            have f2 : decide ((c.toNat : Int) < 32) = false := decide_eq_false (by omega)
            have HIT := Lib.hid hit
            have hex : s.extract k (k + 1) = str [c] := cut_one HL.out HCC.out
            have HEX := Lib.hid hex
            have hez : (s.extract k (k + 1)).size ≤ 1 := by rw [hex, str_size]; simp
            clear hm hit hex
            go_wp2
            go_roundw
            case rel => 
              have hU := HU.out
              refine ⟨k + 1, _, by omega, by go_num, rfl, ?_, ?_, HB.out⟩
              · rw [ByteArray.size_append]
                omega
              · show u ++ s.extract k (k + 1) = str (quS l (k + 1))
                rw [HEX.out, hU, str_cat]
                unfold quS
                rw [take_item HCC.out, HIT.out]
                simp
            case measure => simp [RowKit.intOf]; omega
    · have hks : k = s.size := by omega
      have d1 : decide ((k : Int) < (s.size : Int)) = false := decide_eq_false (by omega)
      have d2 : decide (k < s.size) = false := decide_eq_false (by omega)
      have hU := HU.out
      unfold quS at hU
      rw [List.take_of_length_le (by rw [hks, HSZ.out]; exact Nat.le_refl _)] at hU
      have HU2 := Lib.hid hU
      clear hU hks hlt
      go_wp2
      go_ret2
      refine ⟨?_, HB.out⟩
      rw [HQ.out]
      have : str (quo l) = u ++ (⟨#[34]⟩ : ByteArray) := by
        rw [HU2.out]
        show _ = _ ++ str [34]
        rw [str_cat]
        rfl
      rw [this]
      rfl
theorem refQuote_any (s : ByteArray) (l : List UInt8) (hl : s.data.toList = l) (hs : s.size ≤ 60000) (w : World) :
    Calls Tryz.prog 43 #[.string s] w fun e w' => e = .returned (quR l) ∧ Below w.heap.size w w' := by
  rcases hv : validD l with _ | _
  · exact refQuote_no s l hl hv w
  · exact refQuote_yes s l hl hs hv w
end Go.Proofs.YtdnkebfmjlbdgaaGreatDoor.U
namespace Go.Proofs.YtdnkebfmjlbdgaaGreatDoor
open Go.RowKit

theorem hasZ_drop (s : ByteArray) (j : Nat) (c : UInt8) (h : s.data.toList[j]? = some c) (h0 : (s.data.toList.take j).any (fun c => c == 0) = false) (hc : (c == 0) = false) : (s.data.toList.take (j + 1)).any (fun c => c == 0) = false := by
  rw [List.take_add_one, h, List.any_append, h0]
  simp [hc]
set_option maxRecDepth 100000 in
set_option maxHeartbeats 1000000 in
theorem refZero_any (s : ByteArray) (w : World) (hs : s.size ≤ maxLen) : Calls Tryz.prog 44 #[.string s] w fun e w' => e = .returned (.bool (hasZ s)) ∧ Below w.heap.size w w' := by
  have hm : s.size ≤ 9223372036854775807 := hs
  go_enter Tryz.func44, Tryz.ntmps44
  go_wp2_with fail
  go_loopw [3] (fun i wr => ∃ j : Nat, j ≤ s.size ∧ i = .int .i64 (j : Int) ∧ Hid ((s.data.toList.take j).any (fun c => c == 0) = false) ∧ Hid (Below w.heap.size w wr)) (fun i wr => s.size - (intOf i).toNat)
  case atStart => exact ⟨0, Nat.zero_le _, rfl, by simp [Hid], Below.refl _ _⟩
  case round =>
    obtain ⟨j, hj, rfl, HA, HB⟩ := hrel
    by_cases hlt : j < s.size
    · have hx : s.data.toList[j]? = some s[j] := by
        rw [List.getElem?_eq_getElem (by simpa using hlt)]
        rfl
      have HX : Hid ((((s[j].toNat : Nat) : Int) == 0) = false → (s.data.toList.take (j + 1)).any (fun c => c == 0) = false) := Lib.hid fun e => hasZ_drop s j _ hx HA.out (by
        have h0 : ¬ ((s[j].toNat : Nat) : Int) = 0 := by simpa using e
        rw [beq_eq_false_iff_ne]
        intro h1
        rw [h1] at h0
        exact h0 rfl)
      have HY : Hid ((((s[j].toNat : Nat) : Int) == 0) = true → hasZ s = true) := Lib.hid fun e => by
        have h0 : ((s[j].toNat : Nat) : Int) = 0 := by simpa using e
        unfold hasZ
        rw [List.any_eq_true]
        refine ⟨s[j], List.mem_of_getElem? hx, ?_⟩
        have h1 : s[j].toNat = 0 := by omega
        have : s[j] = 0 := UInt8.toNat_inj.1 (by rw [h1]; rfl)
        rw [this]; rfl
      clear hx
      go_wp2_with fail
      · rename_i h
        go_ret
        exact ⟨by rw [HY.out h]; rfl, HB.out⟩
      · rename_i h
        have HN := Lib.hid (HX.out h)
        refine ⟨⟨j + 1, by omega, by simp, HN, HB⟩, ?_⟩
        simp [intOf]
        omega
    · go_wp2_with fail
      go_ret
      obtain rfl : j = s.size := by omega
      have := HA.out
      rw [List.take_of_length_le (by simp)] at this
      refine ⟨?_, HB.out⟩
      unfold hasZ
      rw [this]
      rfl

set_option maxRecDepth 100000 in
set_option maxHeartbeats 4000000 in
theorem part_any (k : Int) (w : World) : Calls Tryz.prog 146 #[.int .i64 k] w fun e w' => e = .returned (.int .i64 (partK k)) ∧ w' = w := by
  go_enter Tryz.func146, Tryz.ntmps146
  go_wp2
  all_goals
    go_ret
    refine ⟨?_, rfl⟩
    simp_all [partK]
theorem refLeaf_any (k : Int) (w : World) : Calls Tryz.prog 145 #[.int .i64 k] w fun e w' => e = .returned (.bool (decide (1 ≤ k) && decide (k ≤ 9))) ∧ w' = w := by
  go_enter Tryz.func145, Tryz.ntmps145
  go_wp2
  · rename_i h
    go_ret
    exact ⟨by rw [decide_eq_true h]; rfl, rfl⟩
  · rename_i h
    go_ret
    exact ⟨by rw [decide_eq_false (by omega : ¬ 1 ≤ k)]; rfl, rfl⟩

/-- The box of the node, and what is old. -/
def OB (w : World) (v0 v1 v2 v3 v4 v5 : Value) (W : World) : Prop := Below w.heap.size w W ∧ w.heap.size < W.heap.size ∧ Bx W w.heap.size v0 v1 v2 v3 v4 v5
theorem OB.below {w W W2 : World} {v0 v1 v2 v3 v4 v5 : Value} (h : OB w v0 v1 v2 v3 v4 v5 W) (hb : Below W.heap.size W W2) : OB w v0 v1 v2 v3 v4 v5 W2 :=
  ⟨h.1.trans (hb.mono h.1.size), Nat.lt_of_lt_of_le h.2.1 hb.size, Blk.below h.2.2 hb h.2.1⟩
theorem OB.new (w : World) (v0 v1 v2 v3 v4 v5 : Value) : OB w v0 v1 v2 v3 v4 v5 (w.alloc (.cells #[v0, v1, v2, v3, v4, v5] 38)) := ⟨(Below.refl _ w).alloc (Nat.le_refl _) _, by simp, Blk.new _ _ _⟩
/-- What the definition asks of a node of kind k, its kinds of children apart. -/
def preS (k n u : Int) (sz ksl ll : Nat) : Bool := decide (1 ≤ k) && decide (k ≤ 17) && (decide (k = 2 ∨ k = 3 ∨ k = 8) || decide (n = 0)) && (decide (k = 4 ∨ k = 9) || decide (u = 0)) && (decide (k = 5 ∨ k = 6 ∨ k = 7) || decide (sz = 0)) &&
      (decide (k = 17) || decide (ksl = 0)) && (!(decide (1 ≤ k) && decide (k ≤ 9)) || decide (ll = 0)) && (!decide (k = 2) || decide (n = 0) || decide (n = 1)) && (!decide (k = 17) || decide (ksl = ll)) &&
      (!decide (k = 15 ∨ k = 16) || (decide (2 ≤ ll) && decide (ll ≤ 4)))
theorem such_pre (k n u : Int) (s : ByteArray) (ks : List ByteArray) (l : List T) : suchT (.mk k n u s ks l) = (preS k n u s.size ks.length l.length && (decide (partK k ≤ 0) || l.all fun t => decide (t.k = partK k))) := rfl

end Go.Proofs.YtdnkebfmjlbdgaaGreatDoor
namespace Go.Proofs.YtdnkebfmjlbdgaaGreatDoor
open Go.RowKit U U.Ut

def sh40 (s : Stp) : Stp := ⟨str (s.k.data.toList.take 40), s.a, s.b⟩
def cut8 (ps : List Stp) : List Stp := (ps.take 70).map sh40
theorem str_size (l : List UInt8) : (str l).size = l.length := by
  rw [Lib.size_eq]
  rfl
theorem sh40_size (s : Stp) : (sh40 s).k.size ≤ 40 := by
  show (str (s.k.data.toList.take 40)).size ≤ 40
  rw [str_size, List.length_take]
  omega
theorem sh40_ok {s : Stp} (h : okR s) : okR (sh40 s) := ⟨by have := sh40_size s; unfold maxLen; omega, h.2⟩
theorem cut8_ok {ps : List Stp} (h : ∀ s ∈ ps, okR s) : ∀ s ∈ cut8 ps, okR s := by
  intro s hs
  obtain ⟨x, hx, rfl⟩ := List.mem_map.1 hs
  exact sh40_ok (h x (List.mem_of_mem_take hx))
theorem cut8_len (ps : List Stp) : (cut8 ps).length ≤ 70 := by
  unfold cut8
  rw [List.length_map, List.length_take]
  omega
theorem cut8_small (ps : List Stp) : ∀ s ∈ cut8 ps, s.k.size ≤ 40 := by
  intro s hs
  obtain ⟨x, _, rfl⟩ := List.mem_map.1 hs
  exact sh40_size x
theorem short40 (s : ByteArray) (w : World) (hs : s.size ≤ maxLen) :
    Calls Tryz.prog 18 #[.string s, .int .i64 40] w fun e w' => e = .returned (.string (str (s.data.toList.take 40))) ∧ w = w' := U.short_any s 40 w hs
theorem take_row {ps : List Stp} {j : Nat} {x : Stp} (h : ps[j]? = some x) : pv ((ps.take (j + 1)).map sh40) = pv ((ps.take j).map sh40) ++ [.string (str (x.k.data.toList.take 40)), .int .i64 x.a, .bool x.b] := by
  rw [List.take_add_one, h, Option.toList_some, List.map_append, pv_app]
  rfl

set_option maxRecDepth 100000 in
set_option maxHeartbeats 2000000 in
theorem cut8_any (ps : List Stp) (v : Value) (w : World) (h : RdP w v ps) :
    Calls Tryz.prog 13 #[v] w fun e w' => (∃ v', e = .returned v' ∧ w'.ownsRow w.heap.size 51 3 v' (cut8 ps).length (pv (cut8 ps))) ∧ Below w.heap.size w w' := by
  obtain ⟨A, n, c, rfl, hn, hnc, hc, hok, hA⟩ := h.at
  have hmx : n ≤ 9223372036854775807 := Nat.le_trans hnc hc
  obtain ⟨i0, hi, hz0, hz1, hz2⟩ := info_parts infoSt
  go_enter Tryz.func13, Tryz.ntmps13
  go_wp2
  go_loopw [3, 4] (fun v i wr => ∃ j : Nat, j ≤ n ∧ j ≤ 70 ∧ i = .int .i64 (j : Int) ∧ Hid (wr.ownsRow w.heap.size 51 3 v j (pv ((ps.take j).map sh40))) ∧ Hid (Below w.heap.size w wr)) (fun v i _ => 70 - (intOf i).toNat)
  case atStart => exact ⟨0, Nat.zero_le _, Nat.zero_le _, rfl, World.ownsRow_nil _ _ _ _, Below.refl _ _⟩
  case round =>
    obtain ⟨j, hj, hj70, rfl, HO, HB⟩ := hrel
    by_cases hjn : j < n
    · by_cases hj7 : j < 70
      · obtain ⟨x, hx⟩ : ∃ x, ps[j]? = some x := ⟨_, List.getElem?_eq_getElem (by omega)⟩
        obtain ⟨b1, off1, rfl, _, hc1⟩ := hA (by omega)
        obtain ⟨c0, c1, c2⟩ := hc1 wr HB.out j x hx
        have hxs := (hok x (List.mem_of_getElem? hx)).1
        have HT := Lib.hid (take_row hx)
        have HSZ : Hid (w.heap.size ≤ wr.heap.size) := Lib.hid HB.out.size
        clear hc1 hx
        go_wp2_with (first
          | (go_at_call 18; refine (short40 x.k _ hxs).mono ?_; rintro e w2 ⟨rfl, rfl⟩)
          | (at_builtin; refine wpList_append_own_at _ rfl _ _ 22 rfl w.heap.size 51 i0 _ 3 32 Tryz.underlying22 hi hz0 hz1 hz2 rfl (by decide) _ j (pv ((ps.take j).map sh40)) rfl ((HO.out.alloc _).alloc _) ⟨wr.heap.size + 1, 0, none⟩ 1 1 [.string (str (x.k.data.toList.take 40)), .int .i64 x.a, .bool x.b] rfl rfl ?q1 ?q2 ?q3 ?q4 ?q5 ?_; rotate_left 5; intro v' w3 hown3 hgrow3 _ _))
        · have HB3 : Below w.heap.size w w3 := ((HB.out.alloc HSZ.out _).alloc (by rw [World.size_alloc]; have := HSZ.out; omega) _).grown hgrow3 (by rw [World.size_alloc, World.size_alloc]; have := HSZ.out; omega) (fun k hk => (HO.out.lt k hk).1)
          have HO3 : Hid (w3.ownsRow w.heap.size 51 3 v' (j + 1) (pv ((ps.take (j + 1)).map sh40))) := Lib.hid (by rw [HT.out]; exact hown3)
          go_roundw
          case rel => exact ⟨j + 1, by omega, by omega, by simp, HO3, Lib.hid HB3⟩
          case measure => simp [intOf]; omega
        case q1 => rw [← World.size_alloc wr]; exact cells_new _ _ _
        case q2 =>
          intro u hu
          simp only [List.mem_cons, List.not_mem_nil, or_false] at hu
          rcases hu with rfl | rfl | rfl <;> rfl
        case q3 => unfold maxLen; omega
        case q4 => omega
        case q5 => rw [World.size_alloc, World.size_alloc]; have := HSZ.out; omega
      · have HE : Hid ((ps.take j).map sh40 = cut8 ps) := Lib.hid (by unfold cut8; rw [show j = 70 by omega])
        have HLN : Hid ((cut8 ps).length = j) := Lib.hid (by rw [← HE.out, List.length_map, List.length_take]; omega)
        go_wp2
        go_ret
        exact ⟨⟨_, rfl, by rw [HLN.out, ← HE.out]; exact HO.out⟩, HB.out⟩
    · have HE : Hid ((ps.take j).map sh40 = cut8 ps) := Lib.hid (by unfold cut8; rw [List.take_of_length_le (by omega), List.take_of_length_le (by omega)])
      have HLN : Hid ((cut8 ps).length = j) := Lib.hid (by rw [← HE.out, List.length_map, List.length_take]; omega)
      go_wp2
      go_ret
      exact ⟨⟨_, rfl, by rw [HLN.out, ← HE.out]; exact HO.out⟩, HB.out⟩
end Go.Proofs.YtdnkebfmjlbdgaaGreatDoor
namespace Go.Proofs.YtdnkebfmjlbdgaaGreatDoor
open Go.RowKit U U.Ut

theorem dig_sub {m : Nat} (h : m < 10) : (⟨#[48, 49, 50, 51, 52, 53, 54, 55, 56, 57]⟩ : ByteArray).extract m (m + 1) = str [UInt8.ofNat (48 + m)] := by
  have : m = 0 ∨ m = 1 ∨ m = 2 ∨ m = 3 ∨ m = 4 ∨ m = 5 ∨ m = 6 ∨ m = 7 ∨ m = 8 ∨ m = 9 := by omega
  rcases this with rfl | rfl | rfl | rfl | rfl | rfl | rfl | rfl | rfl | rfl <;> decide +kernel
theorem dec_rec {u : Nat} (h : ¬ u < 10) : Lib.decDigits u = Lib.decDigits (u / 10) ++ [UInt8.ofNat (48 + u % 10)] := by
  rw [Lib.decDigits, dif_neg h]
set_option maxRecDepth 100000 in
theorem digits_any (u : Nat) : u ≤ 999999999 → ∀ (w : World), Calls Tryz.prog 42 #[.int .i64 (u : Int)] w fun e w' => e = .returned (.string (str (Lib.decDigits u))) ∧ Below w.heap.size w w' := by
  induction u using Nat.strongRecOn with
  | ind u ih =>
    intro hu w
    have hd := dig_sub (m := u % 10) (by omega)
    by_cases h : u < 10
    · have HD : Hid ((⟨#[48, 49, 50, 51, 52, 53, 54, 55, 56, 57]⟩ : ByteArray).extract (u % 10) (u % 10 + 1) = str (Lib.decDigits u)) := Lib.hid (by
        rw [hd, Lib.decDigits_one h, Nat.mod_eq_of_lt h])
      have d0 : decide ((u : Int) < 10) = true := decide_eq_true (by omega)
      clear hd ih
      go_enter Tryz.func42, Tryz.ntmps42
      go_wp2
      all_goals first
        | (go_ret; exact ⟨congrArg (fun x => Ending.returned (.string x)) HD.out, Below.refl _ _⟩)
        | (exfalso; omega)
    · have HIH := Lib.hid (fun W => by have := ih (u / 10) (by omega) (by omega) W; rw [show ((u / 10 : Nat) : Int) = (u : Int) / 10 by omega] at this; exact this)
      have HD : Hid (str (Lib.decDigits (u / 10)) ++ (⟨#[48, 49, 50, 51, 52, 53, 54, 55, 56, 57]⟩ : ByteArray).extract (u % 10) (u % 10 + 1) = str (Lib.decDigits u)) := Lib.hid (by
        rw [hd, dec_rec h, str_app])
      have HSZ : Hid ((str (Lib.decDigits (u / 10))).size ≤ 9) := Lib.hid (by rw [Lib.size_eq]; exact dD_len (by omega))
      have d0 : decide ((u : Int) < 10) = false := decide_eq_false (by omega)
      clear hd ih
      go_enter Tryz.func42, Tryz.ntmps42
      go_wp2_with (go_at_call 42; refine (HIH.out _).mono ?_; rintro e w1 ⟨rfl, hb⟩)
      · exfalso
        have := HSZ.out
        omega
      · go_ret
        exact ⟨congrArg (fun x => Ending.returned (.string x)) HD.out, hb⟩

theorem take_txt {ps : List Stp} {j : Nat} {x : Stp} (h : ps[j]? = some x) : (ps.take (j + 1)).flatMap txtS = (ps.take j).flatMap txtS ++ txtS x := by
  rw [List.take_add_one, h, Option.toList_some, List.flatMap_append]
  simp
theorem take_ok {ps : List Stp} {j : Nat} {x : Stp} (h : ps[j]? = some x) (h1 : (ps.take j).all okS = true) (h2 : okS x = true) : (ps.take (j + 1)).all okS = true := by
  rw [List.take_add_one, h, Option.toList_some, List.all_append, h1]
  simp [h2]
theorem not_ok {ps : List Stp} {j : Nat} {x : Stp} (h : ps[j]? = some x) (h2 : okS x = false) (h6 : ¬ 64 < ps.length) : showR ps = ([], 2) := by
  unfold showR
  rw [if_neg h6, if_neg]
  intro ha
  have := List.all_eq_true.1 ha x (List.mem_of_getElem? h)
  rw [h2] at this
  cases this
theorem txt_l {s : Stp} (ho : okS s = true) (hk : s.k.size ≤ 40) : (txtS s).length ≤ 300 := by
  unfold txtS okS at *
  rw [List.length_cons, List.length_append]
  split at ho
  · rename_i h
    rw [if_pos h]
    have := quo_len s.k.data.toList
    rw [Lib.size_eq] at hk
    simp only [List.length_cons, List.length_nil]
    omega
  · rename_i h
    rw [if_neg h]
    simp only [Bool.and_eq_true, decide_eq_true_eq] at ho
    have := dD_len (u := s.a.toNat) (by omega)
    simp only [List.length_cons, List.length_nil]
    omega
theorem str_sz (l : List UInt8) : (str l).size = l.length := by rw [Lib.size_eq]; rfl
theorem cat3 (A D : List UInt8) : str A ++ (⟨#[91]⟩ : ByteArray) ++ str D ++ (⟨#[93]⟩ : ByteArray) = str (A ++ 91 :: (D ++ [93])) := by
  show str A ++ str [91] ++ str D ++ str [93] = _
  rw [str_app, str_app, str_app]
  congr 1
  simp
theorem okS_i (k : ByteArray) (a : Int) : okS ⟨k, a, false⟩ = (decide (k.size = 0) && (decide (0 ≤ a) && decide (a ≤ 999999999))) := rfl
theorem okS_k (k : ByteArray) (a : Int) : okS ⟨k, a, true⟩ = (decide (a = 0) && (Lib.validD k.data.toList && !hasZ k)) := rfl
set_option maxRecDepth 100000 in
set_option maxHeartbeats 2000000 in
theorem refShow_any (ps : List Stp) (v : Value) (w : World) (h : RdP w v ps) (hk : ∀ s ∈ ps, s.k.size ≤ 40) :
    Calls Tryz.prog 15 #[v] w fun e w' => e = .returned (.tuple #[.string (str (showR ps).1), .int .i64 ((showR ps).2 : Nat)]) ∧ Below w.heap.size w w' := by
  obtain ⟨A, n, c, rfl, hn, hnc, hc, hok, hA⟩ := h.at
  have hmx : n ≤ 9223372036854775807 := Nat.le_trans hnc hc
  obtain ⟨R, hR⟩ : ∃ R, showR ps = R := ⟨_, rfl⟩
  rw [hR]
  by_cases h6 : 64 < n
  · have e : R = ([], 5) := by rw [← hR]; unfold showR; rw [if_pos (by omega)]
    subst e
    clear hR hA hok
    go_enter Tryz.func15, Tryz.ntmps15
    go_wp2
    go_ret2
    exact ⟨rfl, Below.refl _ _⟩
  · have HR := Lib.hid hR
    clear hR
    go_enter Tryz.func15, Tryz.ntmps15
    go_wp2
    go_loopw [4, 5] (fun o i wr => ∃ j : Nat, j ≤ n ∧ i = .int .i64 (j : Int) ∧ o = .string (str ((ps.take j).flatMap txtS)) ∧ Hid ((ps.take j).all okS = true ∧ ((ps.take j).flatMap txtS).length ≤ 300 * j) ∧ Hid (Below w.heap.size w wr)) (fun o i _ => n - (intOf i).toNat)
    case atStart => exact ⟨0, Nat.zero_le _, rfl, rfl, Lib.hid ⟨rfl, Nat.le_refl _⟩, Below.refl _ _⟩
    case round =>
      obtain ⟨j, hj, rfl, rfl, HO, HB⟩ := hrel
      by_cases hjn : j < n
      · obtain ⟨x, hx⟩ : ∃ x, ps[j]? = some x := ⟨_, List.getElem?_eq_getElem (by omega)⟩
        obtain ⟨b1, off1, rfl, _, hc1⟩ := hA (by omega)
        obtain ⟨c0, c1, c2⟩ := hc1 wr HB.out j x hx
        have hks := hk x (List.mem_of_getElem? hx)
        have HX := Lib.hid hx
        have HB1 : Hid (Below w.heap.size w (wr.alloc (.cells #[.string x.k, .int .i64 x.a, .bool x.b] 51))) := Lib.hid (HB.out.alloc HB.out.size _)
        have hls : (str ((ps.take j).flatMap txtS)).size ≤ 20000 := by rw [str_sz]; have := HO.out.2; omega
        have HBAD : Hid (okS x = false → R = ([], 2)) := Lib.hid fun hf => by rw [← HR.out]; exact not_ok hx hf (by omega)
        have HOKX : Hid (okS x = true → (ps.take (j + 1)).all okS = true ∧ ((ps.take (j + 1)).flatMap txtS).length ≤ 300 * (j + 1)) := Lib.hid fun ho => ⟨take_ok hx HO.out.1 ho, by
          rw [take_txt hx, List.length_append]
          have := txt_l ho hks
          have := HO.out.2
          omega⟩
        have HT := Lib.hid (take_txt hx)
        clear hx hc1 hA
        obtain ⟨k, a, b⟩ := x
        cases b with
        | false =>
          by_cases hkz : k.size = 0
          · have hke : k = ⟨#[]⟩ := by
              cases k with
              | mk d =>
                have : d = #[] := Array.eq_empty_of_size_eq_zero hkz
                rw [this]
            subst hke
            by_cases h0 : 0 ≤ a
            · by_cases h9 : a ≤ 999999999
              · obtain ⟨u, rfl⟩ : ∃ u : Nat, a = (u : Int) := ⟨a.toNat, by omega⟩
                have HOX := Lib.hid (HOKX.out (by rw [okS_i, decide_eq_true (show (⟨#[]⟩ : ByteArray).size = 0 from rfl), decide_eq_true h0, decide_eq_true h9]; rfl))
                have HDG := Lib.hid (fun W => digits_any u (by omega) W)
                have hds : (str (Lib.decDigits u)).size ≤ 9 := by rw [str_sz]; exact dD_len (by omega)
                have HTX : Hid (txtS ⟨⟨#[]⟩, (u : Int), false⟩ = 91 :: (Lib.decDigits u ++ [93])) := Lib.hid rfl
                have hu := h9
                clear h0 h9
                go_wp2_with (go_at_call 42; refine (HDG.out _).mono ?_; rintro e w2 ⟨rfl, hb2⟩; have HB2 := Lib.hid (HB1.out.trans (hb2.mono HB1.out.size)); clear hb2)
                refine ⟨⟨j + 1, by omega, by simp, ?_, Lib.hid HOX.out, Lib.hid HB2.out⟩, by simp [intOf]; omega⟩
                rw [HT.out, HTX.out, ← cat3]
              · have HN := Lib.hid (HBAD.out (by rw [okS_i, decide_eq_false h9]; simp))
                go_wp2_with fail
                go_ret2
                rw [HN.out]
                exact ⟨rfl, HB1.out⟩
            · have HN := Lib.hid (HBAD.out (by rw [okS_i, decide_eq_false h0]; simp))
              go_wp2_with fail
              go_ret2
              rw [HN.out]
              exact ⟨rfl, HB1.out⟩
          · have HN := Lib.hid (HBAD.out (by rw [okS_i, decide_eq_false hkz]; simp))
            have hke : k ≠ ⟨#[]⟩ := fun e => hkz (by rw [e]; rfl)
            have h1 : ¬ k.toList = [] := by rw [Lib.toList_data]; intro e; apply hkz; rw [Lib.size_eq, e]; rfl
            have h2 : k.toList.isEmpty = false := by rw [List.isEmpty_eq_false_iff]; exact h1
            go_wp2_with fail
            go_ret2
            rw [HN.out]
            exact ⟨rfl, HB1.out⟩
        | true =>
          obtain ⟨V, hV⟩ : ∃ V, Lib.validD k.data.toList = V := ⟨_, rfl⟩
          have HQ := Lib.hid (fun W => refQuote_any k k.data.toList rfl (by have : k.size ≤ 40 := hks; omega) W)
          have hqs : (str (quo k.data.toList)).size ≤ 300 := by
            rw [str_sz]
            have := quo_len k.data.toList
            have h4 : k.size ≤ 40 := hks
            rw [Lib.size_eq] at h4
            omega
          unfold quR at HQ
          rw [hV] at HQ
          cases V with
          | false =>
            have HN := Lib.hid (HBAD.out (by rw [okS_k, hV]; simp))
            rw [if_neg (by decide)] at HQ
            go_wp2_with (go_at_call 43; refine (HQ.out _).mono ?_; rintro e w2 ⟨rfl, hb2⟩; have HB2 := Lib.hid (HB1.out.trans (hb2.mono HB1.out.size)); clear hb2)
            go_ret2
            rw [HN.out]
            exact ⟨rfl, HB2.out⟩
          | true =>
            rw [if_pos (by decide)] at HQ
            have HZ := Lib.hid (fun W => refZero_any k W (by have : k.size ≤ 40 := hks; unfold maxLen; omega))
            by_cases ha : a = 0
            · subst ha
              cases hz : hasZ k with
              | true =>
                have HN := Lib.hid (HBAD.out (by rw [okS_k, hV, hz]; simp))
                rw [hz] at HZ
                go_wp2_with (first
                  | (go_at_call 43; refine (HQ.out _).mono ?_; rintro e w2 ⟨rfl, hb2⟩; have HB2 := Lib.hid (HB1.out.trans (hb2.mono HB1.out.size)); have hc2 := (Blk.new wr 51 #[.string k, .int .i64 0, .bool true]).below hb2 (Blk.new _ _ _).lt; have g0 := hc2.cell 0; have g1 := hc2.cell 1; have g2 := hc2.cell 2; clear hb2 hc2)
                  | (go_at_call 44; refine (HZ.out _).mono ?_; rintro e w3 ⟨rfl, hb3⟩; have HB3 := Lib.hid (HB2.out.trans (hb3.mono HB2.out.size)); clear hb3))
                go_ret2
                rw [HN.out]
                exact ⟨rfl, HB3.out⟩
              | false =>
                have HOX := Lib.hid (HOKX.out (by rw [okS_k, hV, hz]; simp))
                rw [hz] at HZ
                have HTX : Hid (txtS ⟨k, 0, true⟩ = 91 :: (quo k.data.toList ++ [93])) := Lib.hid rfl
                go_wp2_with (first
                  | (go_at_call 43; refine (HQ.out _).mono ?_; rintro e w2 ⟨rfl, hb2⟩; have HB2 := Lib.hid (HB1.out.trans (hb2.mono HB1.out.size)); have hc2 := (Blk.new wr 51 #[.string k, .int .i64 0, .bool true]).below hb2 (Blk.new _ _ _).lt; have g0 := hc2.cell 0; have g1 := hc2.cell 1; have g2 := hc2.cell 2; clear hb2 hc2)
                  | (go_at_call 44; refine (HZ.out _).mono ?_; rintro e w3 ⟨rfl, hb3⟩; have HB3 := Lib.hid (HB2.out.trans (hb3.mono HB2.out.size)); clear hb3))
                refine ⟨⟨j + 1, by omega, by simp, ?_, Lib.hid HOX.out, Lib.hid HB3.out⟩, by simp [intOf]; omega⟩
                rw [HT.out, HTX.out, ← cat3]
            · have HN := Lib.hid (HBAD.out (by rw [okS_k]; simp [ha]))
              have hab : (a == 0) = false := by simpa using ha
              go_wp2_with (go_at_call 43; refine (HQ.out _).mono ?_; rintro e w2 ⟨rfl, hb2⟩; have HB2 := Lib.hid (HB1.out.trans (hb2.mono HB1.out.size)); have hc2 := (Blk.new wr 51 #[.string k, .int .i64 a, .bool true]).below hb2 (Blk.new _ _ _).lt; have g0 := hc2.cell 0; have g1 := hc2.cell 1; have g2 := hc2.cell 2; clear hb2 hc2)
              go_ret2
              rw [HN.out]
              exact ⟨rfl, HB2.out⟩
      · obtain rfl : j = n := by omega
        have HE : Hid (R = ((ps.take j).flatMap txtS, 0)) := Lib.hid (by
          have ht : ps.take j = ps := List.take_of_length_le (by omega)
          have := HO.out.1
          rw [ht] at this
          rw [← HR.out, ht]
          unfold showR
          rw [if_neg (by omega), if_pos this])
        go_wp2
        go_ret2
        rw [HE.out]
        exact ⟨rfl, HB.out⟩
end Go.Proofs.YtdnkebfmjlbdgaaGreatDoor
namespace Go.Proofs.YtdnkebfmjlbdgaaGreatDoor
open Go.RowKit U U.Ut

set_option maxRecDepth 100000 in
set_option maxHeartbeats 2000000 in
theorem pathShows_walk (ps : List Stp) (v : Value) (w : World) (hL : LP w.heap.size w) (h : RdP w v ps) :
    Calls Tryz.prog 3 #[v] w fun e w' => e = .returned (.bool true) ∧ Below w.heap.size w w' := by
  have hok : ∀ s ∈ ps, okR s := by obtain ⟨A, n, c, -, -, -, -, h4, -⟩ := h; exact h4
  have HOK := Lib.hid (cut8_ok hok)
  have HLE := Lib.hid (cut8_len ps)
  have HSM := Lib.hid (cut8_small ps)
  have HW := Lib.hid (fun W (hS : SP w W) => works_any W hS.lp)
  have HC := Lib.hid (fun W (hS : SP w W) => cut8_any ps v W (h.below hS.bl))
  have HS0 := Lib.hid (SP.start hL)
  obtain ⟨A, n, c, rfl, -, -, -, -, -⟩ := id h
  obtain ⟨qs, hqs⟩ : ∃ qs, cut8 ps = qs := ⟨_, rfl⟩
  rw [hqs] at HOK HLE HSM HC
  obtain ⟨S, hS⟩ : ∃ S, str (showR qs).1 = S := ⟨_, rfl⟩
  obtain ⟨E, hE⟩ : ∃ E : Int, (((showR qs).2 : Nat) : Int) = E := ⟨_, rfl⟩
  have HSH : Hid (∀ v' W, SP w W → RdP W v' qs → Calls Tryz.prog 14 #[v'] W fun e w' => e = .returned (.tuple #[.string S, .int .i64 E]) ∧ Below W.heap.size W w') := Lib.hid fun v' W hS' hp => by
    have := show_any qs v' W hS'.lp hp (fun s hs => by have := HSM.out s hs; omega) (by have := HLE.out; omega)
    rw [hS, hE] at this
    exact this
  have HRS : Hid (∀ v' W, RdP W v' qs → Calls Tryz.prog 15 #[v'] W fun e w' => e = .returned (.tuple #[.string S, .int .i64 E]) ∧ Below W.heap.size W w') := Lib.hid fun v' W hp => by
    have := refShow_any qs v' W hp HSM.out
    rw [hS, hE] at this
    exact this
  have HEQ : Hid (∀ a b W, RdP W a qs → RdP W b qs → Calls Tryz.prog 16 #[a, b] W fun e w' => e = .returned (.bool true) ∧ Below W.heap.size W w') := Lib.hid fun a b W ha hb => by
    refine (eqSteps_any qs qs a b W ha hb (by have := HLE.out; omega)).mono ?_
    rintro e w' ⟨⟨β, rfl, hβ⟩, hb⟩
    rw [hβ.2 rfl]
    exact ⟨rfl, hb⟩
  clear hqs h hok hL hS hE HSM HLE
  go_enter Tryz.func3, Tryz.ntmps3
  go_wp2_with (first
    | (go_at_call 13; (with_reducible refine (HC.out _ HS4.out).mono ?_); rintro e w5 ⟨⟨v5, rfl, ho⟩, hb5⟩; have HO5 := Lib.hid (own_rdp ho HOK.out); have HQ5 := Lib.hid (HO4.out.below hb5); have HS5 := Lib.hid (HS4.out.step hb5); clear ho hb5)
    | (go_at_call 13; (with_reducible refine (HC.out _ HS0.out).mono ?_); rintro e w2 ⟨⟨v', rfl, ho⟩, hb2⟩; have HO2 := Lib.hid (own_rdp ho HOK.out); have HS2 := Lib.hid (HS0.out.step hb2); clear ho hb2)
    | (go_at_call 14; (with_reducible refine (HSH.out _ _ HS2.out HO2.out).mono ?_); rintro e w3 ⟨rfl, hb3⟩; have HO3 := Lib.hid (HO2.out.below hb3); have HS3 := Lib.hid (HS2.out.step hb3); clear hb3)
    | (go_at_call 15; (with_reducible refine (HRS.out _ _ HO3.out).mono ?_); rintro e w4 ⟨rfl, hb4⟩; have HO4 := Lib.hid (HO3.out.below hb4); have HS4 := Lib.hid (HS3.out.step hb4); clear hb4)
    | (go_at_call 16; (with_reducible refine (HEQ.out _ _ _ HQ5.out HO5.out).mono ?_); rintro e w6 ⟨rfl, hb6⟩; have HS6 := Lib.hid (HS5.out.step hb6); clear hb6)
    | (go_at_call 17; (with_reducible refine (HW.out _ HS6.out).mono ?_); rintro e w7 ⟨rfl, hS7⟩; have HS7 := Lib.hid (HS6.out.step hS7.bl); clear hS7))
  go_ret
  exact ⟨rfl, HS7.out.bl⟩
end Go.Proofs.YtdnkebfmjlbdgaaGreatDoor
namespace Go.Proofs.YtdnkebfmjlbdgaaGreatDoor
open Go.ChangeShapes Go.WideShapes Go.ChangeAt Go.WideMaps Go.WideElems Go.RowKit Go.ChangeMaps

set_option maxRecDepth 100000 in
theorem pathShows_lifted (os : Os) (started : os.Started) (H : Type) (enc : TypeId × Value → H) :
    ReturnsInHanded {} Tryz.checked os 3 .any (fun w args => (Rows.pathShowsSpec.pre enc Tryz.prog Tryz.f3 [] false w args ∧ laidMetH Tryz.prog laidL w) ∧ sizedMet enc Tryz.prog Tryz.f3 (OpenSpec.ofChange Rows.pathShowsSpec) false w args)
      (Rows.pathShowsSpec.post enc Tryz.prog Tryz.f3 false true false false) := by
  refine returnsInHanded_of_change_and (C := Tryz.checked) (X := fun w _ => laidMetH Tryz.prog laidL w) (fun _ _ _ hh h => h.of_heap hh) ownK started (by kernel_rfl) Tryz.func3
    (ChangeSpec.witness_shaped (enc := enc) (C := Tryz.checked) (os := os) (X := fun w _ => laidMetH Tryz.prog laidL w) false (World.laidAll Tryz.prog os laidL) #[.slice none 0 0] 8 (World.laidAll_os _ _ _) (World.shaped_of_ZipB (by kernel_rfl) (by kernel_rfl)) (by kernel_rfl) (by kernel_rfl) (by kernel_rfl) (lay_met os _)) ?_
  intro W base args ds gs before hval0 hW _ _ hL _
  have hval : ∀ (j : Nat) t v, Tryz.f3.params[j]? = some t → args[j]? = some v → Value.okWide Tryz.prog W .any base t v := hval0
  have hW' := hW
  obtain ⟨p, q, hA0, hV, rfl, hfz, hnd⟩ := hW
  have hA : DataW.TrodAll enc Tryz.prog W 0 (fun _ => true) true Tryz.f3.params.toList args.toList ds p := hA0
  rw [Tryz.params3] at hA hval
  obtain ⟨v0, vs0, d0, ds0, p0, q0, hargs, rfl, rfl, h0, r0⟩ := trodAll_cons hA
  obtain ⟨rfl, rfl, rfl⟩ := trodAll_nil r0
  obtain rfl : args = #[v0] := by cases args; simp_all
  obtain ⟨rfl, rfl⟩ := trodVars_none hV
  obtain ⟨l0, n0⟩ := open_path (hval 0 22 v0 rfl rfl) h0
  refine (pathShows_walk l0 v0 W (tab_of_laid hL) n0).mono fun e W' ⟨he, hb⟩ => ?_
  subst he
  exact ⟨_, rfl, law_post (by rw [Tryz.params3]; decide +kernel) rfl rfl rfl rfl rfl hW' hb⟩

theorem pathShows_row : Rows.PathShowsSaid :=
  OpenClaim.holds_of_wide 3 Tryz.f3 rfl rfl rfl rfl rfl rfl rfl ⟨rfl, rfl, rfl, rfl, rfl⟩ rfl rfl rfl rfl rfl (by kernel_rfl) Tryz.func3 (by kernel_rfl)
    (of_decide_eq_true (by kernel_rfl)) (by unfold Func.isWrapper; first | (rw [if_pos (by decide +kernel)]; kernel_rfl) | (rw [if_neg (by decide +kernel)]; exact ⟨rfl, rfl⟩))
    (fun os started H enc _ => pathShows_lifted os started H enc)

theorem pathShows_holds : Rows.PathShowsCardSaid :=
  Claim7.holds_tied_plain_at .later [] [.data, .data, .data, .data, .sentinel, .sentinel, .data, .pinned] true Rows.pathShowsCard.stood.harness true
    pathShows_row (fun _ h => by cases h) (by kernel_rfl) (fun _ h => by cases h) pathShows_row_tie rfl ⟨rfl, rfl⟩ (by kernel_rfl) rfl
    (fun f fn hf hfn => by
      obtain rfl : f = 3 := Option.some.inj ((show Tryz.prog.funcNamed "accordion/accordionlaw08.PathShows" = some 3 by kernel_rfl).symm.trans hf) |>.symm
      obtain rfl : fn = Tryz.f3 := (Option.some.inj (Tryz.func3.symm.trans hfn)).symm
      exact ⟨by kernel_rfl, fun j t ht => by
        rw [Tryz.params3] at ht
        have hm : t ∈ [22] := by simpa using Array.mem_of_getElem? ht
        have hall : ([22].all fun u => !Tryz.prog.wantsStandIn u) = true := by kernel_rfl
        exact (show Tryz.prog.wantsStandIn t = false by simpa using List.all_eq_true.1 hall t hm)⟩)
    (by kernel_rfl)
end Go.Proofs.YtdnkebfmjlbdgaaGreatDoor
