/-
  What is proved here: the walk of accordionlaw05.B64Known; no condition.
-/
import Derived.Test.YtddgmpmfdgfcdaaWPlace
import Derived.Test.YtddgmpmfdgfcdaaWGets
import Derived.Test.YtddgmpmfdgfcdaaWPuts
namespace Go.Proofs.Ytddgmpmfdgfcdaa
open Go.RowKit Bs

/-- The heads. -/
def headL : List (List UInt8) := [[], [90], [90, 103], [90, 104], [90, 109, 57], [90, 109, 56], [90, 103, 61], [90, 109, 56, 61], [90, 103, 61, 61], [90, 109, 57, 118, 90, 109, 56], [90, 43], [47, 119], [47, 119, 61], [61]]
def hdS (j : Nat) : ByteArray := str (headL.getD j [])
theorem head_at (j : Nat) (h : j < 14) : (headL.map fun l => Value.string (str l)).toArray[j]? = some (.string (hdS j)) := by
  have : j < headL.length := h
  simp [hdS, List.getD, List.getElem?_eq_getElem this]
theorem head_len (j : Nat) : (hdS j).size ≤ 7 := by
  unfold hdS
  rw [str_size]
  rcases Nat.lt_or_ge j 14 with h | h
  · have : ∀ i : Fin 14, (headL.getD i.val []).length ≤ 7 := by decide
    exact this ⟨j, h⟩
  · rw [List.getD_eq_getElem?_getD, List.getElem?_eq_none (by simpa [headL] using h)]
    decide
/-- Between two calls. -/
def PH (w0 : World) (g : Nat) (w : World) : Prop :=
  Below w0.heap.size w0 w ∧ g < w.heap.size ∧ ∀ j, j < 14 → w.cell? ⟨g, j, none⟩ = some (.string (hdS j))
theorem PH.step {w0 w w' : World} {g : Nat} (h : PH w0 g w) (hb : Below w.heap.size w w') : PH w0 g w' :=
  ⟨h.1.trans (hb.mono h.1.size), Nat.lt_of_lt_of_le h.2.1 hb.size, fun j hj => (hb.cell (p := ⟨g, j, none⟩) h.2.1).trans (h.2.2 j hj)⟩
def PE (w0 : World) (g : Nat) (e : Ending) (w : World) : Prop := e = .returned (.bool true) ∧ PH w0 g w
theorem gets_P {w0 w : World} {g : Nat} (a : ByteArray) (ha : a.size ≤ 9223372036854775807) (h : PH w0 g w) : Calls Try.prog 4 #[.string a] w (PE w0 g) :=
  (b64Gets_walk a w ha).mono fun _ _ ⟨he, hb⟩ => ⟨he, h.step hb⟩
theorem place_P {w0 w : World} {g : Nat} (a b : ByteArray) (ha : a.size ≤ 9223372036854775807) (hb : b.size ≤ 9223372036854775807) (h : PH w0 g w) : Calls Try.prog 9 #[.string a, .string b] w (PE w0 g) :=
  (b64Place_walk a b w ha hb).mono fun _ _ ⟨he, hb⟩ => ⟨he, h.step hb⟩
theorem lit_rds (w : World) (C : Array Value) (fr : Nat × Nat) (n : Nat) (xs : List UInt8) (hC : C = (bv xs).toArray) (hn : n = xs.length) : Rds (w.alloc (.cells C 5 fr)) (some ⟨w.heap.size, 0, none⟩) n n xs := by
  subst hC hn
  refine ⟨rfl, Nat.le_refl _, fun _ => ⟨w.heap.size, 0, rfl, by simp, fun j x hx => ?_⟩⟩
  have h : (w.alloc (.cells (bv xs).toArray 5 fr)).heap[w.heap.size]? = some (.cells (bv xs).toArray 5 fr) := heap_alloc_new w _
  rw [cell_of_row _ _ _ _ _ _ h]
  simp only [List.getElem?_toArray, Nat.zero_add]
  exact bv_get hx
theorem back_P {w0 w : World} {g n : Nat} {C : Array Value} {fr : Nat × Nat} (xs : List UInt8) (hC : C = (bv xs).toArray) (hn : n = xs.length) (hm : n ≤ 100) (h : PH w0 g w) :
    Calls Try.prog 5 #[.slice (some ⟨w.heap.size, 0, none⟩) n n] (w.alloc (.cells C 5 fr)) (PE w0 g) :=
  (b64Back_walk _ n n xs _ (lit_rds w C fr n xs hC hn) (by unfold maxLen; omega)).mono fun _ _ ⟨he, hb⟩ => ⟨he, (h.step ((Below.refl _ _).alloc (Nat.le_refl _) _)).step hb⟩
theorem puts_P {w0 w : World} {g n : Nat} {C : Array Value} {fr : Nat × Nat} (xs : List UInt8) (hC : C = (bv xs).toArray) (hn : n = xs.length) (hm : n ≤ 100) (h : PH w0 g w) :
    Calls Try.prog 3 #[.slice (some ⟨w.heap.size, 0, none⟩) n n] (w.alloc (.cells C 5 fr)) (PE w0 g) :=
  (b64Puts_walk _ n n xs _ (lit_rds w C fr n xs hC hn) (by unfold maxLen; omega)).mono fun _ _ ⟨he, hb⟩ => ⟨he, (h.step ((Below.refl _ _).alloc (Nat.le_refl _) _)).step hb⟩
theorem puts0_P {w0 w : World} {g : Nat} (h : PH w0 g w) : Calls Try.prog 3 #[.slice none 0 0] w (PE w0 g) :=
  (b64Puts_walk none 0 0 [] w ⟨rfl, Nat.le_refl _, fun h => absurd h (by omega)⟩ (by unfold maxLen; omega)).mono fun _ _ ⟨he, hb⟩ => ⟨he, h.step hb⟩
theorem works_P {w0 w : World} {g : Nat} (h : PH w0 g w) : Calls Try.prog 15 #[] w (PE w0 g) :=
  (works_S (w0 := w) (Below.refl _ _)).mono fun _ _ ⟨he, hb⟩ => ⟨he, h.step hb⟩
theorem bv1 {c : Nat} (h : c < 256) : (#[.int .u8 (c : Int)] : Array Value) = (bv [UInt8.ofNat c]).toArray := by simp only [bv, List.map_cons, List.map_nil]; rw [tn h]
theorem bv2 {c d : Nat} (h : c < 256) (h2 : d < 256) : (#[.int .u8 (c : Int), .int .u8 (d : Int)] : Array Value) = (bv [UInt8.ofNat c, UInt8.ofNat d]).toArray := by simp only [bv, List.map_cons, List.map_nil]; rw [tn h, tn h2]
theorem bv3 {c d e : Nat} {z : Int} (h : c < 256) (h2 : d < 256) (hz : z = (e : Int)) (h3 : e < 256) : (#[.int .u8 (c : Int), .int .u8 (d : Int), .int .u8 z] : Array Value) = (bv [UInt8.ofNat c, UInt8.ofNat d, UInt8.ofNat e]).toArray := by
  subst hz; simp only [bv, List.map_cons, List.map_nil]; rw [tn h, tn h2, tn h3]
set_option maxHeartbeats 8000000 in
set_option maxRecDepth 1000000 in
theorem b64Known_walk (w : World) : Calls Try.prog 10 #[] w fun e w' => e = .returned (.bool true) ∧ Below w.heap.size w w' := by
  have hP0 : PH w w.heap.size (w.alloc (.cells #[.string ⟨#[]⟩, .string ⟨#[90]⟩, .string ⟨#[90, 103]⟩, .string ⟨#[90, 104]⟩, .string ⟨#[90, 109, 57]⟩, .string ⟨#[90, 109, 56]⟩, .string ⟨#[90, 103, 61]⟩, .string ⟨#[90, 109, 56, 61]⟩, .string ⟨#[90, 103, 61, 61]⟩, .string ⟨#[90, 109, 57, 118, 90, 109, 56]⟩, .string ⟨#[90, 43]⟩, .string ⟨#[47, 119]⟩, .string ⟨#[47, 119, 61]⟩, .string ⟨#[61]⟩] 9)) := by
    refine ⟨(Below.refl _ _).alloc (Nat.le_refl _) _, by simp, fun j hj => ?_⟩
    rw [(Blk.new w 9 _).cell j]
    exact head_at j hj
  have HP0 := Lib.hid hP0
  clear hP0
  go_enter Try.func10, Try.ntmps10
  go_wp2_with fail
  go_loopw [2] (fun i wr => ∃ c : Nat, c ≤ 256 ∧ i = .int .i64 c ∧ Hid (PH w w.heap.size wr)) (fun i _ => 257 - (intOf i).toNat)
  case atStart => exact ⟨0, by omega, rfl, HP0⟩
  case round =>
    obtain ⟨c, hc, rfl, HP⟩ := hrel
    by_cases hlt : c < 256
    · have d1 : decide ((c : Int) < 256) = true := decide_eq_true (by omega)
      have hst := run_str (lit_rds wr #[.int .u8 (c : Int)] (0, 0) 1 [UInt8.ofNat c] (bv1 hlt) rfl)
      obtain ⟨bs, hbs⟩ : ∃ bs, str [UInt8.ofNat c] = bs := ⟨_, rfl⟩
      have hbz : bs.size ≤ 1 := by rw [← hbs, str_size]; simp
      rw [hbs] at hst
      have HP1 := Lib.hid (HP.out.step ((Below.refl wr.heap.size wr).alloc (Nat.le_refl _) (.cells #[.int .u8 (c : Int)] 5)))
      clear hbs
      go_wp2_with fail
      clear hst
      go_loopw [4] (fun i wq => ∃ j : Nat, j ≤ 14 ∧ i = .int .i64 j ∧ Hid (PH w w.heap.size wq)) (fun i _ => 15 - (intOf i).toNat)
      case atStart => exact ⟨0, by omega, rfl, HP1⟩
      case round =>
        clear HP1
        obtain ⟨j, hj, rfl, HQ⟩ := hrel
        by_cases hj14 : j < 14
        · have e1 : decide ((j : Int) < 14) = true := decide_eq_true (by omega)
          obtain ⟨y, hy⟩ : ∃ y, hdS j = y := ⟨_, rfl⟩
          have hys : y.size ≤ 7 := by rw [← hy]; exact head_len j
          have HCE := Lib.hid (fun (W : World) (h : PH w w.heap.size W) => h.2.2 j hj14)
          rw [hy] at HCE
          have hcell := HCE.out _ HQ.out
          have hQ := HQ.out
          have s1 : (y ++ bs).size ≤ 8 := by rw [ByteArray.size_append]; omega
          have s2 : (y ++ bs ++ (⟨#[61]⟩ : ByteArray)).size ≤ 10 := by rw [ByteArray.size_append, ByteArray.size_append]; have : (⟨#[61]⟩ : ByteArray).size = 1 := rfl; omega
          have s3 : (y ++ bs ++ (⟨#[65, 65]⟩ : ByteArray)).size ≤ 10 := by rw [ByteArray.size_append, ByteArray.size_append]; have : (⟨#[65, 65]⟩ : ByteArray).size = 2 := rfl; omega
          have HS1 := Lib.hid (show (y ++ bs).size ≤ 9223372036854775807 by omega)
          have HS2 := Lib.hid (show (y ++ bs ++ (⟨#[61]⟩ : ByteArray)).size ≤ 9223372036854775807 by omega)
          have HS3 := Lib.hid (show (y ++ bs ++ (⟨#[65, 65]⟩ : ByteArray)).size ≤ 9223372036854775807 by omega)
          have HS4 := Lib.hid (show (⟨#[61]⟩ : ByteArray).size ≤ 9223372036854775807 by decide)
          clear hy
          go_wp2_with (first
            | (go_at_call 4; (with_reducible refine (gets_P _ HS1.out (by assumption)).mono ?_); rintro e w2 ⟨rfl, hP2⟩; have hcell2 := HCE.out _ hP2)
            | (go_at_call 4; (with_reducible refine (gets_P _ HS2.out (by assumption)).mono ?_); rintro e w2 ⟨rfl, hP2⟩; have hcell2 := HCE.out _ hP2)
            | (go_at_call 4; (with_reducible refine (gets_P _ HS3.out (by assumption)).mono ?_); rintro e w2 ⟨rfl, hP2⟩; have hcell2 := HCE.out _ hP2)
            | (go_at_call 9; (with_reducible refine (place_P _ _ HS1.out HS4.out (by assumption)).mono ?_); rintro e w2 ⟨rfl, hP2⟩; have hcell2 := HCE.out _ hP2))
          go_roundw
          case rel => exact ⟨j + 1, by omega, by go_num, by assumption⟩
          case measure => simp [intOf]; omega
        · have e1 : decide ((j : Int) < 14) = false := decide_eq_false (by omega)
          go_wp2_with fail
          go_loopw [5] (fun i wq2 => ∃ d : Nat, d ≤ 262 ∧ i = .int .i64 d ∧ Hid (PH w w.heap.size wq2)) (fun i _ => 263 - (intOf i).toNat)
          case atStart => exact ⟨0, by omega, rfl, HQ⟩
          case round =>
            clear HQ
            obtain ⟨d, hd, rfl, HR⟩ := hrel
            by_cases hd2 : d < 256
            · have f1 : decide ((d : Int) < 256) = true := decide_eq_true (by omega)
              have hR := HR.out
              have HB2 := Lib.hid (bv2 hlt hd2)
              have HN2 := Lib.hid (show 2 = [UInt8.ofNat c, UInt8.ofNat d].length from rfl)
              have HN3 := Lib.hid (show 3 = [UInt8.ofNat c, UInt8.ofNat d, UInt8.ofNat ((c + d) % 256)].length from rfl)
              have HL2 := Lib.hid (show 2 ≤ 100 by decide)
              have HL3 := Lib.hid (show 3 ≤ 100 by decide)
              have HB3 := Lib.hid (fun (z : Int) (hz : z = (((c + d) % 256 : Nat) : Int)) => bv3 hlt hd2 hz (by omega))
              go_wp2_with (first
                | (go_at_call 5; (with_reducible refine (back_P (w0 := w) (g := w.heap.size) [UInt8.ofNat c, UInt8.ofNat d] HB2.out HN2.out HL2.out (by assumption)).mono ?_); rintro e w2 ⟨rfl, hP2⟩)
                | (go_at_call 3; (with_reducible refine (puts_P (w0 := w) (g := w.heap.size) [UInt8.ofNat c, UInt8.ofNat d, UInt8.ofNat ((c + d) % 256)] (HB3.out _ (by first | omega | (unfold IntKind.wrap; omega))) HN3.out HL3.out (by assumption)).mono ?_); rintro e w3 ⟨rfl, hP3⟩))
              go_roundw
              case rel => exact ⟨d + 7, by omega, by go_num, by assumption⟩
              case measure => simp [intOf]; omega
            · have f1 : decide ((d : Int) < 256) = false := decide_eq_false (by omega)
              go_wp2_with fail
              go_roundw
              case rel => exact ⟨c + 1, by omega, by go_num, HR.out⟩
              case measure => simp [intOf]; omega
    · have d1 : decide ((c : Int) < 256) = false := decide_eq_false (by omega)
      have hP := HP.out
      go_wp2_with (first
        | (go_at_call 15; (with_reducible refine (works_P (w0 := w) (g := w.heap.size) (by assumption)).mono ?_); rintro e w2 ⟨rfl, hP2⟩)
        | (go_at_call 3; (with_reducible refine (puts0_P (w0 := w) (g := w.heap.size) (by assumption)).mono ?_); rintro e w3 ⟨rfl, hP3⟩)
        | (go_at_call 4; (with_reducible refine (gets_P (w0 := w) (g := w.heap.size) _ (by decide) (by assumption)).mono ?_); rintro e w4 ⟨rfl, hP4⟩))
      go_ret
      exact ⟨rfl, hP4.1⟩
end Go.Proofs.Ytddgmpmfdgfcdaa
