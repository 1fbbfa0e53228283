/-
  What is proved here: the walk of LexKnown; condition: the tables that package lex and its library read hold what is laid.
-/
import Derived.Test.YtodmlgbomhmbpaaGreatDoorLPlaceW
import Derived.Test.YtodmlgbomhmbpaaGreatDoorRep
import Derived.Laws.BytesString
namespace Go.Proofs.YtodmlgbomhmbpaaGreatDoor
namespace Kn
open Go.RowKit Ut Lx Go.Maps Go.Lib

theorem rep_32 (c : Nat) : Lib.repeatL (ByteArray.mk #[32]).data.toList c = List.replicate c 32 := by
  induction c with
  | zero => rfl
  | succ c ih => rw [Lib.repeatL, ih, List.replicate_succ]; rfl
theorem cnt_rep (n : Nat) : cnt wsL (List.replicate n (32 : UInt8)) = n := by
  induction n with
  | zero => rfl
  | succ n ih =>
    rw [List.replicate_succ]
    unfold cnt
    rw [if_pos (by decide), ih]
theorem alls_rep (n : Nat) : alls (List.replicate n (32 : UInt8)) = ([], 0, 0) := by
  have ht : tok (List.replicate n (32 : UInt8)) 0 = ⟨0, n, n, 0, 0, [], 0⟩ := by
    unfold tok
    rw [List.drop_zero, cnt_rep, if_pos (by rw [List.length_replicate]; omega), Nat.zero_add]
  exact toks_end0 (by rw [ht]) (by rw [ht])

def headL : List (List UInt8) := [[], [32], [45], [48], [45, 48], [49], [49, 50], [49, 46], [49, 46, 53], [49, 101], [49, 69, 43], [49, 101, 45, 55], [110], [110, 117, 108], [110, 117, 108, 108], [102], [102, 97, 108, 115], [116], [116, 114], [116, 114, 117, 101], [34], [34, 97], [34, 92], [34, 92, 117, 48, 48, 101], [123], [91, 49], [44], [45, 57, 50, 50, 51, 51, 55, 50, 48, 51, 54, 56, 53, 52, 55, 55, 53, 56, 48, 56], [45, 57, 50, 50, 51, 51, 55, 50, 48, 51, 54, 56, 53, 52, 55, 55, 53, 56, 48, 57], [57, 50, 50, 51, 51, 55, 50, 48, 51, 54, 56, 53, 52, 55, 55, 53, 56, 48, 55], [57, 50, 50, 51, 51, 55, 50, 48, 51, 54, 56, 53, 52, 55, 55, 53, 56, 48, 56], [49, 56, 52, 52, 54, 55, 52, 52, 48, 55, 51, 55, 48, 57, 53, 53, 49, 54, 49], [48, 48]]
def hdS (j : Nat) : ByteArray := ⟨(headL.getD j []).toArray⟩
theorem head_at (j : Nat) (h : j < 33) : (headL.map fun l => Value.string ⟨l.toArray⟩).toArray[j]? = some (.string (hdS j)) := by
  have : j < headL.length := h
  simp [hdS, List.getD, List.getElem?_eq_getElem this]
theorem head_len (j : Nat) : (hdS j).size ≤ 20 := by
  have e : (hdS j).size = (headL.getD j []).length := by unfold hdS; simp [ByteArray.size]
  rw [e]
  rcases Nat.lt_or_ge j 33 with h | h
  · have : ∀ i : Fin 33, (headL.getD i.val []).length ≤ 20 := by decide +kernel
    exact this ⟨j, h⟩
  · rw [List.getD_eq_getElem?_getD, List.getElem?_eq_none (by exact h)]
    decide
def endL : List Int := [-9223372036854775808, -1, 0, 1, 2, 3, 4, 5, 9223372036854775807]
theorem end_at (j : Nat) (h : j < 9) : (endL.map fun z => Value.int .i64 z).toArray[j]? = some (.int .i64 (endL.getD j 0)) := by
  have : j < endL.length := h
  simp [List.getD, List.getElem?_eq_getElem this]
/-- Between two calls: the first world's blocks stay, and block g reads as f. -/
def PK (w0 : World) (g : Nat) (f : Nat → Value) (n : Nat) (w : World) : Prop := Below w0.heap.size w0 w ∧ g < w.heap.size ∧ ∀ j, j < n → w.cell? ⟨g, j, none⟩ = some (f j)
theorem PK.step {w0 w w' : World} {g n : Nat} {f : Nat → Value} (h : PK w0 g f n w) (hb : Below w.heap.size w w') : PK w0 g f n w' :=
  ⟨h.1.trans (hb.mono h.1.size), Nat.lt_of_lt_of_le h.2.1 hb.size, fun j hj => (hb.cell (p := ⟨g, j, none⟩) h.2.1).trans (h.2.2 j hj)⟩
def hcell (j : Nat) : Value := .string (hdS j)
def ecell (j : Nat) : Value := .int .i64 (endL.getD j 0)
/-- A call that returns v and leaves what lay there. -/
def CK (f : Nat) (args : Array Value) (w : World) (v : Value) : Prop := Calls Tryz.prog f args w fun e w' => e = .returned v ∧ Below w.heap.size w w'
theorem CK.step {w0 w : World} {g n f : Nat} {h : Nat → Value} {args : Array Value} {v : Value} (hc : CK f args w v) (hk : PK w0 g h n w) : Calls Tryz.prog f args w fun e w' => e = .returned v ∧ PK w0 g h n w' :=
  Calls.mono hc fun _ _ ⟨h1, h2⟩ => ⟨h1, hk.step h2⟩
theorem lit_one (w : World) (c : Nat) (hc : c < 256) : (convert 23 9 (.slice (some ⟨w.heap.size, 0, none⟩) 1 1)).run Tryz.prog (w.alloc (.cells #[.int .u8 (c : Int)] 5)) = .ok (.string ⟨#[UInt8.ofNat c]⟩) (w.alloc (.cells #[.int .u8 (c : Int)] 5)) :=
  run_convert_bytes_back _ 23 9 5 ⟨w.heap.size, 0, none⟩ 1 [UInt8.ofNat c] Tryz.underlying23 Tryz.underlying5 Tryz.underlying9 (fun j hj => by
    obtain rfl : j = 0 := by simpa using hj
    have e : ((UInt8.ofNat c).toNat : Int) = c := by rw [UInt8.toNat_ofNat']; omega
    show _ = some (Value.int .u8 ((UInt8.ofNat c).toNat : Int))
    rw [e]
    exact (Blk.new w 5 #[.int .u8 (c : Int)]).cell 0)
set_option maxHeartbeats 8000000 in
set_option maxRecDepth 1000000 in
theorem known_core (w : World) (S1 S2 : ByteArray)
    (hN : ∀ (a : ByteArray) (t : Int) (W : World), Below w.heap.size w W → a.size ≤ 1000 → CK 4 #[.string a, .int .i64 t] W (.bool true))
    (hA : ∀ (a : ByteArray) (W : World), Below w.heap.size w W → a.size ≤ 1000 → CK 5 #[.string a] W (.bool true))
    (hP : ∀ (a b : ByteArray) (W : World), Below w.heap.size w W → a.size ≤ 1000 → b.size ≤ 1000 → CK 6 #[.string a, .string b] W (.bool true))
    (hW : ∀ (W : World), Below w.heap.size w W → CK 9 #[] W (.bool true))
    (hR1 : ∀ (W : World), Below w.heap.size w W → CK 8 #[.string ⟨#[32]⟩, .int .i64 1048577] W (.string S1))
    (hR2 : ∀ (W : World), Below w.heap.size w W → CK 8 #[.string ⟨#[32]⟩, .int .i64 1048576] W (.string S2))
    (hB : ∀ (W : World), Below w.heap.size w W → CK 7 #[.string S1] W (.tuple #[.slice none 0 0, .int .i64 0, .int .i64 5]))
    (hS : ∀ (W : World), Below w.heap.size w W → Calls Tryz.prog 7 #[.string S2] W fun e w' => ∃ A c, e = .returned (.tuple #[.slice A 0 c, .int .i64 0, .int .i64 0]) ∧ Below W.heap.size W w') :
    Calls Tryz.prog 3 #[] w fun e w' => e = .returned (.bool true) ∧ Below w.heap.size w w' := by
  have HN : Hid (∀ (a : ByteArray) (t : Int) (W : World) (g : Nat) (f : Nat → Value) (n : Nat), a.size ≤ 1000 → PK w g f n W → Calls Tryz.prog 4 #[.string a, .int .i64 t] W fun e w' => e = .returned (.bool true) ∧ PK w g f n w') := Lib.hid fun a t W g f n ha h => (hN a t W h.1 ha).step h
  have HA : Hid (∀ (a : ByteArray) (W : World) (g : Nat) (f : Nat → Value) (n : Nat), a.size ≤ 1000 → PK w g f n W → Calls Tryz.prog 5 #[.string a] W fun e w' => e = .returned (.bool true) ∧ PK w g f n w') := Lib.hid fun a W g f n ha h => (hA a W h.1 ha).step h
  have HP : Hid (∀ (a b : ByteArray) (W : World) (g : Nat) (f : Nat → Value) (n : Nat), a.size ≤ 1000 → b.size ≤ 1000 → PK w g f n W → Calls Tryz.prog 6 #[.string a, .string b] W fun e w' => e = .returned (.bool true) ∧ PK w g f n w') := Lib.hid fun a b W g f n ha hb h => (hP a b W h.1 ha hb).step h
  have HW : Hid (∀ (W : World), Below w.heap.size w W → Calls Tryz.prog 9 #[] W fun e w' => e = .returned (.bool true) ∧ Below W.heap.size W w') := Lib.hid hW
  have HR1 : Hid (∀ (W : World), Below w.heap.size w W → Calls Tryz.prog 8 #[.string ⟨#[32]⟩, .int .i64 1048577] W fun e w' => e = .returned (.string S1) ∧ Below W.heap.size W w') := Lib.hid hR1
  have HR2 : Hid (∀ (W : World), Below w.heap.size w W → Calls Tryz.prog 8 #[.string ⟨#[32]⟩, .int .i64 1048576] W fun e w' => e = .returned (.string S2) ∧ Below W.heap.size W w') := Lib.hid hR2
  have HB : Hid (∀ (W : World), Below w.heap.size w W → Calls Tryz.prog 7 #[.string S1] W fun e w' => e = .returned (.tuple #[.slice none 0 0, .int .i64 0, .int .i64 5]) ∧ Below W.heap.size W w') := Lib.hid hB
  have HS : Hid (∀ (W : World), Below w.heap.size w W → Calls Tryz.prog 7 #[.string S2] W fun e w' => ∃ A c, e = .returned (.tuple #[.slice A 0 c, .int .i64 0, .int .i64 0]) ∧ Below W.heap.size W w') := Lib.hid hS
  clear hN hA hP hW hR1 hR2 hB hS
  have hP0 : PK w w.heap.size hcell 33 (w.alloc (.cells #[.string ⟨#[]⟩, .string ⟨#[32]⟩, .string ⟨#[45]⟩, .string ⟨#[48]⟩, .string ⟨#[45, 48]⟩, .string ⟨#[49]⟩, .string ⟨#[49, 50]⟩, .string ⟨#[49, 46]⟩, .string ⟨#[49, 46, 53]⟩, .string ⟨#[49, 101]⟩, .string ⟨#[49, 69, 43]⟩, .string ⟨#[49, 101, 45, 55]⟩, .string ⟨#[110]⟩, .string ⟨#[110, 117, 108]⟩, .string ⟨#[110, 117, 108, 108]⟩, .string ⟨#[102]⟩, .string ⟨#[102, 97, 108, 115]⟩, .string ⟨#[116]⟩, .string ⟨#[116, 114]⟩, .string ⟨#[116, 114, 117, 101]⟩, .string ⟨#[34]⟩, .string ⟨#[34, 97]⟩, .string ⟨#[34, 92]⟩, .string ⟨#[34, 92, 117, 48, 48, 101]⟩, .string ⟨#[123]⟩, .string ⟨#[91, 49]⟩, .string ⟨#[44]⟩, .string ⟨#[45, 57, 50, 50, 51, 51, 55, 50, 48, 51, 54, 56, 53, 52, 55, 55, 53, 56, 48, 56]⟩, .string ⟨#[45, 57, 50, 50, 51, 51, 55, 50, 48, 51, 54, 56, 53, 52, 55, 55, 53, 56, 48, 57]⟩, .string ⟨#[57, 50, 50, 51, 51, 55, 50, 48, 51, 54, 56, 53, 52, 55, 55, 53, 56, 48, 55]⟩, .string ⟨#[57, 50, 50, 51, 51, 55, 50, 48, 51, 54, 56, 53, 52, 55, 55, 53, 56, 48, 56]⟩, .string ⟨#[49, 56, 52, 52, 54, 55, 52, 52, 48, 55, 51, 55, 48, 57, 53, 53, 49, 54, 49]⟩, .string ⟨#[48, 48]⟩] 9)) := by
    refine ⟨(Below.refl _ _).alloc (Nat.le_refl _) _, by simp, fun j hj => ?_⟩
    rw [(Blk.new w 9 _).cell j]
    exact head_at j hj
  have HP0 := Lib.hid hP0
  clear hP0
  go_enter Tryz.func3, Tryz.ntmps3
  go_wp2_with fail
  go_loopw [2] (fun i wr => ∃ c : Nat, c ≤ 256 ∧ i = .int .i64 c ∧ Hid (PK w w.heap.size hcell 33 wr)) (fun i _ => 257 - (RowKit.intOf i).toNat)
  case atStart => exact ⟨0, by omega, rfl, HP0⟩
  case round =>
    obtain ⟨c, hc, rfl, HPR⟩ := hrel
    by_cases hlt : c < 256
    · have d1 : decide ((c : Int) < 256) = true := decide_eq_true (by omega)
      have hst := lit_one wr c hlt
      obtain ⟨bs, hbs⟩ : ∃ bs, (⟨#[UInt8.ofNat c]⟩ : ByteArray) = bs := ⟨_, rfl⟩
      have hbz : bs.size = 1 := by rw [← hbs]; rfl
      rw [hbs] at hst
      have HP1 := Lib.hid (HPR.out.step ((Below.refl wr.heap.size wr).alloc (Nat.le_refl _) (.cells #[.int .u8 (c : Int)] 5)))
      clear hbs
      go_wp2_with fail
      clear hst
      go_loopw [4] (fun i wq => ∃ j : Nat, j ≤ 33 ∧ i = .int .i64 j ∧ Hid (PK w w.heap.size hcell 33 wq)) (fun i _ => 34 - (RowKit.intOf i).toNat)
      case atStart => exact ⟨0, by omega, rfl, HP1⟩
      case round =>
        clear HP1
        obtain ⟨j, hj, rfl, HQ⟩ := hrel
        by_cases hj14 : j < 33
        · have e1 : decide ((j : Int) < 33) = true := decide_eq_true (by omega)
          obtain ⟨y, hy⟩ : ∃ y, hdS j = y := ⟨_, rfl⟩
          have hys : y.size ≤ 20 := by rw [← hy]; exact head_len j
          have HCE := Lib.hid (show ∀ W, PK w w.heap.size hcell 33 W → W.cell? ⟨w.heap.size, j, none⟩ = some (.string y) from fun W h => by rw [← hy]; exact h.2.2 j hj14)
          have hcell := HCE.out _ HQ.out
          have hQ := HQ.out
          have z2 : (⟨#[49, 34]⟩ : ByteArray).size = 2 := rfl
          have s1 : (y ++ bs).size ≤ 21 := by rw [ByteArray.size_append]; omega
          have s2 : (y ++ bs ++ (⟨#[49, 34]⟩ : ByteArray)).size ≤ 23 := by rw [ByteArray.size_append]; omega
          have HS1 := Lib.hid (show (y ++ bs).size ≤ 1000 by omega)
          have HS2 := Lib.hid (show (y ++ bs ++ (⟨#[49, 34]⟩ : ByteArray)).size ≤ 1000 by omega)
          have HS3 := Lib.hid (show (⟨#[48]⟩ : ByteArray).size ≤ 1000 by decide)
          clear hy z2
          go_wp2_with (first
            | (go_at_call 4; (with_reducible refine (HN.out _ _ _ _ _ _ HS1.out (by assumption)).mono ?_); rintro e w2 ⟨rfl, hP2⟩; have hcell2 := HCE.out _ hP2)
            | (go_at_call 4; (with_reducible refine (HN.out _ _ _ _ _ _ HS2.out (by assumption)).mono ?_); rintro e w2 ⟨rfl, hP2⟩; have hcell2 := HCE.out _ hP2)
            | (go_at_call 5; (with_reducible refine (HA.out _ _ _ _ _ HS1.out (by assumption)).mono ?_); rintro e w2 ⟨rfl, hP2⟩; have hcell2 := HCE.out _ hP2)
            | (go_at_call 6; (with_reducible refine (HP.out _ _ _ _ _ _ HS1.out HS3.out (by assumption)).mono ?_); rintro e w2 ⟨rfl, hP2⟩; have hcell2 := HCE.out _ hP2))
          go_roundw
          case rel => exact ⟨j + 1, by omega, by go_num, by assumption⟩
          case measure => simp [RowKit.intOf]; omega
        · have e1 : decide ((j : Int) < 33) = false := decide_eq_false (by omega)
          go_wp2_with fail
          go_roundw
          case rel => exact ⟨c + 1, by omega, by go_num, HQ.out⟩
          case measure => simp [RowKit.intOf]; omega
    · have d1 : decide ((c : Int) < 256) = false := decide_eq_false (by omega)
      have hP1 : PK w wr.heap.size ecell 9 (wr.alloc (.cells #[.int .i64 (-9223372036854775808), .int .i64 (-1), .int .i64 0, .int .i64 1, .int .i64 2, .int .i64 3, .int .i64 4, .int .i64 5, .int .i64 9223372036854775807] 3)) := by
        refine ⟨HPR.out.1.trans (((Below.refl wr.heap.size wr).alloc (Nat.le_refl _) _).mono HPR.out.1.size), by simp, fun j hj => ?_⟩
        rw [(Blk.new wr 3 _).cell j]
        exact end_at j hj
      have HP1 := Lib.hid hP1
      clear hP1
      go_wp2_with fail
      go_loopw [6] (fun i wq => ∃ j : Nat, j ≤ 9 ∧ i = .int .i64 j ∧ Hid (PK w wr.heap.size ecell 9 wq)) (fun i _ => 10 - (RowKit.intOf i).toNat)
      case atStart => exact ⟨0, by omega, rfl, HP1⟩
      case round =>
        clear HP1
        obtain ⟨j, hj, rfl, HQ⟩ := hrel
        by_cases hj16 : j < 9
        · have e1 : decide ((j : Int) < 9) = true := decide_eq_true (by omega)
          obtain ⟨z, hz⟩ : ∃ z, endL.getD j 0 = z := ⟨_, rfl⟩
          have HCE := Lib.hid (show ∀ (g : Nat) (W : World), PK w g ecell 9 W → W.cell? ⟨g, j, none⟩ = some (.int .i64 z) from fun g W h => by rw [← hz]; exact h.2.2 j hj16)
          have hcell := HCE.out _ _ HQ.out
          have hQ := HQ.out
          have HS0 := Lib.hid (show (⟨#[]⟩ : ByteArray).size ≤ 1000 by decide)
          have HS4 := Lib.hid (show (⟨#[91, 32, 49, 50]⟩ : ByteArray).size ≤ 1000 by decide)
          clear hz
          go_wp2_with (first
            | (go_at_call 4; (with_reducible refine (HN.out _ _ _ _ _ _ HS0.out (by assumption)).mono ?_); rintro e w2 ⟨rfl, hP2⟩; have hcell2 := HCE.out _ _ hP2)
            | (go_at_call 4; (with_reducible refine (HN.out _ _ _ _ _ _ HS4.out (by assumption)).mono ?_); rintro e w2 ⟨rfl, hP2⟩; have hcell2 := HCE.out _ _ hP2))
          go_roundw
          case rel => exact ⟨j + 1, by omega, by go_num, by assumption⟩
          case measure => simp [RowKit.intOf]; omega
        · have e1 : decide ((j : Int) < 9) = false := decide_eq_false (by omega)
          have HQ1 := Lib.hid HQ.out.1
          clear HQ HP0
          go_wp2_with (first
            | (go_at_call 8; (with_reducible refine (HR1.out _ HQ1.out).mono ?_); rintro e w3 ⟨rfl, hb⟩; have HQ3 := Lib.hid (HQ1.out.trans (hb.mono HQ1.out.size)); clear hb)
            | (go_at_call 7; (with_reducible refine (HB.out _ HQ3.out).mono ?_); rintro e w4 ⟨rfl, hb⟩; have HQ4 := Lib.hid (HQ3.out.trans (hb.mono HQ3.out.size)); clear hb)
            | (go_at_call 8; (with_reducible refine (HR2.out _ HQ4.out).mono ?_); rintro e w5 ⟨rfl, hb⟩; have HQ5 := Lib.hid (HQ4.out.trans (hb.mono HQ4.out.size)); clear hb)
            | (go_at_call 7; (with_reducible refine (HS.out _ HQ5.out).mono ?_); rintro e w6 ⟨A5, c5, rfl, hb⟩; have HQ6 := Lib.hid (HQ5.out.trans (hb.mono HQ5.out.size)); clear hb)
            | (go_at_call 9; (with_reducible refine (HW.out _ HQ6.out).mono ?_); rintro e w7 ⟨rfl, hb⟩; have HQ7 := Lib.hid (HQ6.out.trans (hb.mono HQ6.out.size)); clear hb))
          go_ret
          exact ⟨rfl, HQ7.out⟩

theorem repS (n : Nat) (i : Int) (hi : i = (n : Int)) (hn : n ≤ 1048577) (w : World) : CK 8 #[.string ⟨#[32]⟩, .int .i64 i] w (.string (str (List.replicate n 32))) := by
  subst hi
  have := Tryz.strings_Repeat ⟨#[32]⟩ n w (by omega) (by show 1 * n ≤ _; omega)
  rw [rep_32] at this
  exact this
theorem bigS (n : Nat) (hn : 1048576 < n) (W : World) : CK 7 #[.string (str (List.replicate n 32))] W (.tuple #[.slice none 0 0, .int .i64 0, .int .i64 5]) := by
  refine (All_big _ W (by rw [str_size, List.length_replicate]; exact hn)).mono ?_
  rintro e w' ⟨rfl, rfl⟩
  exact ⟨rfl, Below.refl _ _⟩
theorem smallS (n : Nat) (hn : n ≤ 1048576) (W : World) (hL : LB W.heap.size W) : Calls Tryz.prog 7 #[.string (str (List.replicate n 32))] W fun e w' => ∃ A c, e = .returned (.tuple #[.slice A 0 c, .int .i64 0, .int .i64 0]) ∧ Below W.heap.size W w' := by
  have hd : (str (List.replicate n 32)).data.toList = List.replicate n (32 : UInt8) := by simp [str]
  have hc : (str (List.replicate n 32)).size = n := by rw [str_size, List.length_replicate]
  refine (All_any _ _ W hd (by rw [hc]; exact hn) (.inr (by rw [hc, cnt_rep]; exact Nat.le_refl _)) hL).mono ?_
  rintro e w' ⟨v, rfl, hb, ho⟩
  rw [alls_rep] at ho ⊢
  obtain ⟨A, c, rfl, _⟩ := OwnT.rd ho
  exact ⟨A, c, rfl, hb⟩
theorem lexKnown_walk (w : World) (hL : LB w.heap.size w) : Calls Tryz.prog 3 #[] w fun e w' => e = .returned (.bool true) ∧ Below w.heap.size w w' := by
  have hl : ∀ W, Below w.heap.size w W → LB W.heap.size W := fun W h => ((SL.start hL).step h).lb
  obtain ⟨n1, hn1⟩ : ∃ n : Nat, n = 1048577 := ⟨_, rfl⟩
  obtain ⟨n2, hn2⟩ : ∃ n : Nat, n = 1048576 := ⟨_, rfl⟩
  exact known_core w (str (List.replicate n1 32)) (str (List.replicate n2 32))
    (fun a t W h ha => lexNexts_walk a t W (hl W h) (by omega))
    (fun a W h ha => lexAlls_walk a W (hl W h) (by omega))
    (fun a b W h ha hb => lexPlace_walk a b W (hl W h) (by omega) (by omega))
    (fun W h => (works_S (SL.start (hl W h))).mono fun _ _ ⟨h1, h2⟩ => ⟨h1, h2.2⟩)
    (fun W _ => repS n1 _ (by rw [hn1]; rfl) (by omega) W)
    (fun W _ => repS n2 _ (by rw [hn2]; rfl) (by omega) W)
    (fun W _ => bigS n1 (by omega) W)
    (fun W h => smallS n2 (by omega) W (hl W h))
end Kn
end Go.Proofs.YtodmlgbomhmbpaaGreatDoor
