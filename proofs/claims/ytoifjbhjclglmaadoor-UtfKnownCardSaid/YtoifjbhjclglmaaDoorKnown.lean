/-
  What is proved here: the walk of accordionlaw04.UtfKnown; conditions: the library's two tables hold what is laid.
-/
import Derived.Test.YtoifjbhjclglmaaDoorReads
import Derived.Test.YtoifjbhjclglmaaDoorTells
namespace Go.Proofs.YtoifjbhjclglmaaDoor
open Go.RowKit Ut Go.Lib

def headL : List (List UInt8) := [[], [97], [193], [194], [224], [224, 159], [224, 160], [236, 128], [237], [237, 159], [238, 128], [240], [240, 143], [240, 144], [240, 144, 128], [244], [244, 143], [244, 143, 191], [245], [92], [92, 117], [92, 117, 48], [92, 117, 100], [92, 117, 68], [92, 117, 100, 56], [92, 117, 100, 98], [92, 117, 100, 56, 102], [92, 117, 100, 56, 51, 100], [92, 117, 100, 56, 51, 100, 92], [92, 117, 100, 56, 51, 100, 92, 117], [92, 117, 100, 56, 51, 100, 92, 117, 100], [92, 117, 100, 56, 51, 100, 92, 117, 100, 99], [92, 117, 100, 56, 51, 100, 92, 117, 100, 102, 48]]
def hdS (j : Nat) : ByteArray := str (headL.getD j [])
theorem head_at (j : Nat) (h : j < 33) : (headL.map fun l => Value.string (str l)).toArray[j]? = some (.string (hdS j)) := by
  have : j < headL.length := h
  simp [hdS, List.getD, List.getElem?_eq_getElem this]
theorem head_len (j : Nat) : (hdS j).size ≤ 11 := by
  unfold hdS
  rw [str_size]
  rcases Nat.lt_or_ge j 33 with h | h
  · have : ∀ i : Fin 33, (headL.getD i.val []).length ≤ 11 := by decide +kernel
    exact this ⟨j, h⟩
  · rw [List.getD_eq_getElem?_getD, List.getElem?_eq_none (by exact h)]
    decide
def endL : List Int := [-2147483648, -1, 0, 127, 128, 2047, 2048, 55295, 55296, 57343, 57344, 65535, 65536, 1114111, 1114112, 2147483647]
theorem end_at (j : Nat) (h : j < 16) : (endL.map fun z => Value.int .i32 z).toArray[j]? = some (.int .i32 (endL.getD j 0)) := by
  have : j < endL.length := h
  simp [List.getD, List.getElem?_eq_getElem this]
theorem end_rng (j : Nat) : -2147483648 ≤ endL.getD j 0 ∧ endL.getD j 0 ≤ 2147483647 := by
  rcases Nat.lt_or_ge j 16 with h | h
  · have : ∀ i : Fin 16, -2147483648 ≤ endL.getD i.val 0 ∧ endL.getD i.val 0 ≤ 2147483647 := by decide +kernel
    exact this ⟨j, h⟩
  · rw [List.getD_eq_getElem?_getD, List.getElem?_eq_none (by exact h)]
    decide
/-- Between two calls. -/
def PK (w0 : World) (g : Nat) (f : Nat → Value) (n : Nat) (w : World) : Prop := St w0 w ∧ g < w.heap.size ∧ ∀ j, j < n → w.cell? ⟨g, j, none⟩ = some (f j)
theorem PK.step {w0 w w' : World} {g n : Nat} {f : Nat → Value} (h : PK w0 g f n w) (hb : Below w.heap.size w w') : PK w0 g f n w' :=
  ⟨h.1.step hb, Nat.lt_of_lt_of_le h.2.1 hb.size, fun j hj => (hb.cell (p := ⟨g, j, none⟩) h.2.1).trans (h.2.2 j hj)⟩
def KE (w0 : World) (g : Nat) (f : Nat → Value) (n : Nat) (e : Ending) (w : World) : Prop := e = .returned (.bool true) ∧ PK w0 g f n w
theorem reads_K {w0 w : World} {g n : Nat} {f : Nat → Value} (a : ByteArray) (ha : a.size ≤ 9223372036854775807) (h : PK w0 g f n w) : Calls Tryd.prog 4 #[.string a] w (KE w0 g f n) :=
  (utfReads_walk a w h.1.tb ha).mono fun _ _ ⟨he, hb⟩ => ⟨he, h.step hb⟩
theorem tells_K {w0 w : World} {g n : Nat} {f : Nat → Value} (a : ByteArray) (r : Int) (ha : a.size ≤ 9223372036854775807) (hr : -2147483648 ≤ r ∧ r ≤ 2147483647) (h : PK w0 g f n w) : Calls Tryd.prog 3 #[.string a, .int .i32 r] w (KE w0 g f n) :=
  (utfTells_walk a r w h.1.tb ha hr).mono fun _ _ ⟨he, hb⟩ => ⟨he, h.step hb⟩
theorem encode_fits (i : Int) : (Utf8.encode i).size ≤ 9223372036854775807 := by
  have h : (Utf8.encode i).size ≤ 4 := by
    unfold Utf8.encode
    dsimp only
    repeat' split
    all_goals exact Nat.le_of_ble_eq_true rfl
  omega
def hcell (j : Nat) : Value := .string (hdS j)
def ecell (j : Nat) : Value := .int .i32 (endL.getD j 0)
theorem lit_one (w : World) (c : Nat) (hc : c < 256) : (convert 48 9 (.slice (some ⟨w.heap.size, 0, none⟩) 1 1)).run Tryd.prog (w.alloc (.cells #[.int .u8 (c : Int)] 5)) = .ok (.string (str [UInt8.ofNat c])) (w.alloc (.cells #[.int .u8 (c : Int)] 5)) :=
  conv_new w _ [UInt8.ofNat c] 1 (by simp only [bv, List.map_cons, List.map_nil]; rw [ofNat_toNat hc]) rfl
set_option maxHeartbeats 8000000 in
set_option maxRecDepth 1000000 in
theorem utfKnown_walk (w : World) (hT : TB w.heap.size w) : Calls Tryd.prog 10 #[] w fun e w' => e = .returned (.bool true) ∧ Below w.heap.size w w' := by
  have hP0 : PK w w.heap.size hcell 33 (w.alloc (.cells #[.string ⟨#[]⟩, .string ⟨#[97]⟩, .string ⟨#[193]⟩, .string ⟨#[194]⟩, .string ⟨#[224]⟩, .string ⟨#[224, 159]⟩, .string ⟨#[224, 160]⟩, .string ⟨#[236, 128]⟩, .string ⟨#[237]⟩, .string ⟨#[237, 159]⟩, .string ⟨#[238, 128]⟩, .string ⟨#[240]⟩, .string ⟨#[240, 143]⟩, .string ⟨#[240, 144]⟩, .string ⟨#[240, 144, 128]⟩, .string ⟨#[244]⟩, .string ⟨#[244, 143]⟩, .string ⟨#[244, 143, 191]⟩, .string ⟨#[245]⟩, .string ⟨#[92]⟩, .string ⟨#[92, 117]⟩, .string ⟨#[92, 117, 48]⟩, .string ⟨#[92, 117, 100]⟩, .string ⟨#[92, 117, 68]⟩, .string ⟨#[92, 117, 100, 56]⟩, .string ⟨#[92, 117, 100, 98]⟩, .string ⟨#[92, 117, 100, 56, 102]⟩, .string ⟨#[92, 117, 100, 56, 51, 100]⟩, .string ⟨#[92, 117, 100, 56, 51, 100, 92]⟩, .string ⟨#[92, 117, 100, 56, 51, 100, 92, 117]⟩, .string ⟨#[92, 117, 100, 56, 51, 100, 92, 117, 100]⟩, .string ⟨#[92, 117, 100, 56, 51, 100, 92, 117, 100, 99]⟩, .string ⟨#[92, 117, 100, 56, 51, 100, 92, 117, 100, 102, 48]⟩] 9)) := by
    refine ⟨(St.start hT).step ((Below.refl _ _).alloc (Nat.le_refl _) _), by simp, fun j hj => ?_⟩
    rw [(Blk.new w 9 _).cell j]
    exact head_at j hj
  have HP0 := Lib.hid hP0
  clear hP0
  go_enter Tryd.func10, Tryd.ntmps10
  go_wp2_with fail
  go_loopw [2] (fun i wr => ∃ c : Nat, c ≤ 256 ∧ i = .int .i64 c ∧ Hid (PK w w.heap.size hcell 33 wr)) (fun i _ => 257 - (RowKit.intOf i).toNat)
  case atStart => exact ⟨0, by omega, rfl, HP0⟩
  case round =>
    obtain ⟨c, hc, rfl, HP⟩ := hrel
    by_cases hlt : c < 256
    · have d1 : decide ((c : Int) < 256) = true := decide_eq_true (by omega)
      have hst := lit_one wr c hlt
      obtain ⟨bs, hbs⟩ : ∃ bs, str [UInt8.ofNat c] = bs := ⟨_, rfl⟩
      have hbz : bs.size ≤ 1 := by rw [← hbs, str_size]; simp
      rw [hbs] at hst
      have HP1 := Lib.hid (HP.out.step ((Below.refl wr.heap.size wr).alloc (Nat.le_refl _) (.cells #[.int .u8 (c : Int)] 5)))
      clear hbs
      go_wp2_with fail
      clear hst
      go_loopw [4] (fun i wq => ∃ j : Nat, j ≤ 33 ∧ i = .int .i64 j ∧ Hid (PK w w.heap.size hcell 33 wq)) (fun i _ => 34 - (RowKit.intOf i).toNat)
      case atStart => exact ⟨0, by omega, rfl, HP1⟩
      case round =>
        clear HP1
        obtain ⟨j, hj, rfl, HQ⟩ := hrel
        by_cases hj14 : j < 33
        · have e1 : decide ((j : Int) < 33) = true := decide_eq_true (by omega)
          obtain ⟨y, hy⟩ : ∃ y, hdS j = y := ⟨_, rfl⟩
          have hys : y.size ≤ 11 := by rw [← hy]; exact head_len j
          have HCE := Lib.hid (show ∀ W, PK w w.heap.size hcell 33 W → W.cell? ⟨w.heap.size, j, none⟩ = some (.string y) from fun W h => by rw [← hy]; exact h.2.2 j hj14)
          have hcell := HCE.out _ HQ.out
          have hQ := HQ.out
          have z1 : (⟨#[34]⟩ : ByteArray).size = 1 := rfl
          have z4 : (⟨#[48, 48, 48, 34]⟩ : ByteArray).size = 4 := rfl
          have z2 : (⟨#[191, 191]⟩ : ByteArray).size = 2 := rfl
          have z3 : (⟨#[128]⟩ : ByteArray).size = 1 := rfl
          have s1 : ((⟨#[34]⟩ : ByteArray) ++ y).size ≤ 12 := by rw [ByteArray.size_append]; omega
          have s2 : ((⟨#[34]⟩ : ByteArray) ++ y ++ bs).size ≤ 13 := by rw [ByteArray.size_append]; omega
          have s3 : ((⟨#[34]⟩ : ByteArray) ++ y ++ bs ++ (⟨#[34]⟩ : ByteArray)).size ≤ 14 := by rw [ByteArray.size_append]; omega
          have s4 : ((⟨#[34]⟩ : ByteArray) ++ y ++ bs ++ (⟨#[48, 48, 48, 34]⟩ : ByteArray)).size ≤ 17 := by rw [ByteArray.size_append]; omega
          have s5 : (y ++ bs).size ≤ 12 := by rw [ByteArray.size_append]; omega
          have s6 : (y ++ bs ++ (⟨#[128]⟩ : ByteArray)).size ≤ 13 := by rw [ByteArray.size_append]; omega
          have s7 : (y ++ bs ++ (⟨#[191, 191]⟩ : ByteArray)).size ≤ 14 := by rw [ByteArray.size_append]; omega
          have HS2 := Lib.hid (show ((⟨#[34]⟩ : ByteArray) ++ y ++ bs).size ≤ 9223372036854775807 by omega)
          have HS3 := Lib.hid (show ((⟨#[34]⟩ : ByteArray) ++ y ++ bs ++ (⟨#[34]⟩ : ByteArray)).size ≤ 9223372036854775807 by omega)
          have HS4 := Lib.hid (show ((⟨#[34]⟩ : ByteArray) ++ y ++ bs ++ (⟨#[48, 48, 48, 34]⟩ : ByteArray)).size ≤ 9223372036854775807 by omega)
          have HS5 := Lib.hid (show (y ++ bs).size ≤ 9223372036854775807 by omega)
          have HS6 := Lib.hid (show (y ++ bs ++ (⟨#[128]⟩ : ByteArray)).size ≤ 9223372036854775807 by omega)
          have HS7 := Lib.hid (show (y ++ bs ++ (⟨#[191, 191]⟩ : ByteArray)).size ≤ 9223372036854775807 by omega)
          have HR1 := Lib.hid (show -2147483648 ≤ (c : Int) ∧ (c : Int) ≤ 2147483647 by omega)
          have HR2 := Lib.hid (show -2147483648 ≤ 55280 + (c : Int) ∧ 55280 + (c : Int) ≤ 2147483647 by omega)
          have HR3 := Lib.hid (show -2147483648 ≤ 1113984 + (c : Int) ∧ 1113984 + (c : Int) ≤ 2147483647 by omega)
          clear hy z1 z2 z3 z4
          go_wp2_with (first
            | (go_at_call 4; (with_reducible refine (reads_K _ HS2.out (by assumption)).mono ?_); rintro e w2 ⟨rfl, hP2⟩; have hcell2 := HCE.out _ hP2)
            | (go_at_call 4; (with_reducible refine (reads_K _ HS3.out (by assumption)).mono ?_); rintro e w2 ⟨rfl, hP2⟩; have hcell2 := HCE.out _ hP2)
            | (go_at_call 4; (with_reducible refine (reads_K _ HS4.out (by assumption)).mono ?_); rintro e w2 ⟨rfl, hP2⟩; have hcell2 := HCE.out _ hP2)
            | (go_at_call 3; (with_reducible refine (tells_K _ _ HS5.out HR1.out (by assumption)).mono ?_); rintro e w2 ⟨rfl, hP2⟩; have hcell2 := HCE.out _ hP2)
            | (go_at_call 3; (with_reducible refine (tells_K _ _ HS6.out HR2.out (by assumption)).mono ?_); rintro e w2 ⟨rfl, hP2⟩; have hcell2 := HCE.out _ hP2)
            | (go_at_call 3; (with_reducible refine (tells_K _ _ HS7.out HR3.out (by assumption)).mono ?_); rintro e w2 ⟨rfl, hP2⟩; have hcell2 := HCE.out _ hP2))
          go_roundw
          case rel => exact ⟨j + 1, by omega, by go_num, by assumption⟩
          case measure => simp [RowKit.intOf]; omega
        · have e1 : decide ((j : Int) < 33) = false := decide_eq_false (by omega)
          go_wp2_with fail
          go_roundw
          case rel => exact ⟨c + 1, by omega, by go_num, HQ.out⟩
          case measure => simp [RowKit.intOf]; omega
    · have d1 : decide ((c : Int) < 256) = false := decide_eq_false (by omega)
      have hP1 : PK w wr.heap.size ecell 16 (wr.alloc (.cells #[.int .i32 (-2147483648), .int .i32 (-1), .int .i32 0, .int .i32 127, .int .i32 128, .int .i32 2047, .int .i32 2048, .int .i32 55295, .int .i32 55296, .int .i32 57343, .int .i32 57344, .int .i32 65535, .int .i32 65536, .int .i32 1114111, .int .i32 1114112, .int .i32 2147483647] 21)) := by
        refine ⟨HP.out.1.step ((Below.refl _ _).alloc (Nat.le_refl _) _), by simp, fun j hj => ?_⟩
        rw [(Blk.new wr 21 _).cell j]
        exact end_at j hj
      have HP1 := Lib.hid hP1
      clear hP1
      go_wp2_with fail
      go_loopw [6] (fun i wq => ∃ j : Nat, j ≤ 16 ∧ i = .int .i64 j ∧ Hid (PK w wr.heap.size ecell 16 wq)) (fun i _ => 17 - (RowKit.intOf i).toNat)
      case atStart => exact ⟨0, by omega, rfl, HP1⟩
      case round =>
        clear HP1
        obtain ⟨j, hj, rfl, HQ⟩ := hrel
        by_cases hj16 : j < 16
        · have e1 : decide ((j : Int) < 16) = true := decide_eq_true (by omega)
          obtain ⟨z, hz⟩ : ∃ z, endL.getD j 0 = z := ⟨_, rfl⟩
          have HZR := Lib.hid (show -2147483648 ≤ z ∧ z ≤ 2147483647 by rw [← hz]; exact end_rng j)
          have HCE := Lib.hid (show ∀ (g : Nat) (W : World), PK w g ecell 16 W → W.cell? ⟨g, j, none⟩ = some (.int .i32 z) from fun g W h => by rw [← hz]; exact h.2.2 j hj16)
          have hcell := HCE.out _ _ HQ.out
          have hQ := HQ.out
          have HS0 := Lib.hid (show (⟨#[]⟩ : ByteArray).size ≤ 9223372036854775807 by decide)
          clear hz
          go_wp2_with (go_at_call 3; (with_reducible refine (tells_K _ _ HS0.out HZR.out (by assumption)).mono ?_); rintro e w2 ⟨rfl, hP2⟩; have hcell2 := HCE.out _ _ hP2)
          have HEN := Lib.hid (encode_fits z)
          go_wp2_with (go_at_call 4; (with_reducible refine (reads_K _ HEN.out (by assumption)).mono ?_); rintro e w3 ⟨rfl, hP3⟩)
          go_roundw
          case rel => exact ⟨j + 1, by omega, by go_num, hP3⟩
          case measure => simp [RowKit.intOf]; omega
        · have e1 : decide ((j : Int) < 16) = false := decide_eq_false (by omega)
          have hS := HQ.out.1
          go_wp2_with (go_at_call 20; refine (works_S (w0 := w) (by assumption)).mono ?_; rintro e w10 ⟨rfl, hS10⟩)
          go_ret
          exact ⟨rfl, hS10.2⟩
end Go.Proofs.YtoifjbhjclglmaaDoor
