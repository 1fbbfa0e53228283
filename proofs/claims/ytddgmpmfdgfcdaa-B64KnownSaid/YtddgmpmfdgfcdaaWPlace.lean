/-
  What is proved here: the walk of accordionlaw05.B64Place; no condition.
-/
import Derived.Test.YtddgmpmfdgfcdaaWCut
import Derived.StillTailTactics
import Derived.Deep.RegionLaw
import Derived.Deep.RegionHeld3
namespace Go.Proofs.Ytddgmpmfdgfcdaa
open Go.RowKit Bs

theorem str_app2 (a b : List UInt8) : str a ++ str b = str (a ++ b) := by
  unfold str
  apply ByteArray.ext
  simp
/-- Does the prefix go on with the ending number j? -/
def okL (l : List UInt8) (k j : Nat) : Bool := (dec (l.take k ++ moreL.getD j [])).1.isSome
def anyL (l : List UInt8) (k : Nat) : Nat → Bool
  | 0 => false
  | j + 1 => anyL l k j || okL l k j
/-- The ending number j, as a string. -/
def mo (j : Nat) : ByteArray := str (moreL.getD j [])
theorem anyL_of {l : List UInt8} {k : Nat} : ∀ (n j : Nat), j < n → okL l k j = true → anyL l k n = true
  | n + 1, j, h, h2 => by
    unfold anyL
    by_cases hj : j = n
    · subst hj; rw [h2]; simp
    · rw [anyL_of n j (by omega) h2]; rfl
theorem anyL_nine {l : List UInt8} {k : Nat} (h : ∃ m ∈ moreL, (dec (l.take k ++ m)).1.isSome = true) : anyL l k 9 = true := by
  obtain ⟨m, hm, h⟩ := h
  obtain ⟨j, hj, e⟩ := List.getElem_of_mem hm
  refine anyL_of 9 j (by simpa [moreL] using hj) ?_
  unfold okL
  rw [List.getD_eq_getElem?_getD, List.getElem?_eq_getElem hj, e]
  exact h
theorem more_at (j : Nat) (h : j < 9) : (#[Value.string ⟨#[]⟩, .string ⟨#[65]⟩, .string ⟨#[61]⟩, .string ⟨#[65, 65]⟩, .string ⟨#[65, 61]⟩, .string ⟨#[61, 61]⟩, .string ⟨#[65, 65, 65]⟩, .string ⟨#[65, 65, 61]⟩, .string ⟨#[65, 61, 61]⟩] : Array Value)[j]? = some (.string (str (moreL.getD j []))) := by
  rcases (show j = 0 ∨ j = 1 ∨ j = 2 ∨ j = 3 ∨ j = 4 ∨ j = 5 ∨ j = 6 ∨ j = 7 ∨ j = 8 by omega) with rfl | rfl | rfl | rfl | rfl | rfl | rfl | rfl | rfl <;> rfl
theorem more_len (j : Nat) : (moreL.getD j []).length ≤ 3 := by
  rcases Nat.lt_or_ge j 9 with h | h
  · rcases (show j = 0 ∨ j = 1 ∨ j = 2 ∨ j = 3 ∨ j = 4 ∨ j = 5 ∨ j = 6 ∨ j = 7 ∨ j = 8 by omega) with rfl | rfl | rfl | rfl | rfl | rfl | rfl | rfl | rfl <;> decide
  · rw [List.getD_eq_getElem?_getD, List.getElem?_eq_none (by simpa [moreL] using h)]
    decide
set_option maxHeartbeats 4000000 in
set_option maxRecDepth 1000000 in
theorem place_ok (a b : ByteArray) (w : World) (ha : a.size ≤ 9223372036854775807) (l q : List UInt8) (hl : a.data.toList.take 300 = l) (hd : dec l = (some q, 0)) :
    Calls Try.prog 9 #[.string a, .string b] w fun e w' => e = .returned (.bool true) ∧ Below w.heap.size w w' := by
  have hS0 := Below.refl w.heap.size w
  have hll : l.length ≤ 300 := by rw [← hl, List.length_take]; omega
  have G := fun (W : World) (h : Below w.heap.size w W) => get_S (w0 := w) (w := W) (str l) l (str_data l) (by rw [str_size]; omega) h
  rw [hd] at G
  have HG := Lib.hid G
  have HL := Lib.hid hl
  have HA := Lib.hid ha
  clear hl hd ha hll G
  go_enter Try.func9, Try.ntmps9
  go_wp2_with (first
    | (go_at_call 15; refine (works_S (w0 := w) (by assumption)).mono ?_; rintro e w1 ⟨rfl, hS1⟩)
    | (go_at_call 16; (with_reducible refine (short_S (w0 := w) a 300 300 rfl HA.out (by assumption)).mono ?_); rintro e w1 ⟨rfl, hS1⟩; rw [HL.out])
    | (go_at_call 17; (with_reducible refine (HG.out _ (by assumption)).mono ?_); rintro e w2 ⟨v, rfl, ho, _, hS2⟩; clear ho))
  go_ret
  exact ⟨rfl, by assumption⟩
/-- Between two rounds. -/
def PI (w0 : World) (g : Nat) (w : World) : Prop :=
  Below w0.heap.size w0 w ∧ g < w.heap.size ∧ ∀ j, j < 9 → w.cell? ⟨g, j, none⟩ = some (.string (mo j))
theorem PI.step {w0 w w' : World} {g : Nat} (h : PI w0 g w) (hb : Below w.heap.size w w') : PI w0 g w' :=
  ⟨h.1.trans (hb.mono h.1.size), Nat.lt_of_lt_of_le h.2.1 hb.size, fun j hj => (hb.cell (p := ⟨g, j, none⟩) h.2.1).trans (h.2.2 j hj)⟩
theorem ext_str (l : List UInt8) (k : Nat) : (str l).extract 0 k = str (l.take k) := by rw [extract_str, str_data]
set_option maxHeartbeats 4000000 in
set_option maxRecDepth 1000000 in
theorem place_no (a b : ByteArray) (w : World) (ha : a.size ≤ 9223372036854775807) (hb : b.size ≤ 9223372036854775807) (l : List UInt8) (k : Nat) (hl : a.data.toList.take 300 = l) (hd : dec l = (none, k)) :
    Calls Try.prog 9 #[.string a, .string b] w fun e w' => e = .returned (.bool true) ∧ Below w.heap.size w w' := by
  have hS0 := Below.refl w.heap.size w
  have hll : l.length ≤ 300 := by rw [← hl, List.length_take]; omega
  have hsz := str_size l
  obtain ⟨hkl, hmore, hnext⟩ := dec_place l k hd
  have d1 : decide ((str l).size < k) = false := decide_eq_false (by rw [hsz]; omega)
  have d2 : decide (((str l).size : Int) < (k : Int)) = false := decide_eq_false (by rw [hsz]; omega)
  have d3 : decide ((k : Int) < 0) = false := decide_eq_false (by omega)
  have hks : k ≤ (str l).size := by rw [hsz]; exact hkl
  have G := fun (W : World) (h : Below w.heap.size w W) => get_S (w0 := w) (w := W) (str l) l (str_data l) (by rw [str_size]; omega) h
  rw [hd] at G
  have HG := Lib.hid G
  have HGM := Lib.hid (fun (W : World) (j : Nat) => get_S (w0 := W) (w := W) (str (l.take k ++ moreL.getD j [])) _ (str_data _) (by rw [str_size, List.length_append, List.length_take]; have := more_len j; omega) (Below.refl _ _))
  have HGM := Lib.hid (show ∀ (W : World) (j : Nat), Calls Try.prog 17 #[.string (str (l.take k ++ moreL.getD j []))] W fun e w' => ∃ A n c, e = .returned (.tuple #[.slice A n c, .int .i64 ((dec (l.take k ++ moreL.getD j [])).2 : Nat), .int .i64 (if okL l k j then 0 else 50)]) ∧ Below W.heap.size W w' from fun W j => (HGM.out W j).mono fun e w' ⟨v, he, ho, h1, _⟩ => by
    obtain ⟨A, n, c, hv, _⟩ := Rd.of_own ho
    exact ⟨A, n, c, by rw [← hv]; exact he, h1⟩)
  have HZ := Lib.hid (fun (j : Nat) => (show ((9223372036854775807 : Nat) < ((str l).extract 0 k).size + (mo j).size) = False from eq_false (by unfold mo; rw [ext_str, str_size, str_size, List.length_take]; have := more_len j; omega)))
  have HZ2 := Lib.hid (fun (j : Nat) => (show ((9223372036854775807 : Nat) < k + (mo j).size) = False from eq_false (by unfold mo; rw [str_size]; have := more_len j; omega)))
  have HEX := Lib.hid (fun (j : Nat) => (show (str l).extract 0 k ++ mo j = str (l.take k ++ moreL.getD j []) by unfold mo; rw [ext_str, str_app2]))
  have HANY := Lib.hid (anyL_nine hmore)
  have HL := Lib.hid hl
  have HA := Lib.hid ha
  have HB := Lib.hid hb
  have HLL := Lib.hid hll
  have HSZ := Lib.hid hsz
  have HNX := Lib.hid hnext
  clear hl hd ha hb hll G hsz hkl hmore hnext
  go_enter Try.func9, Try.ntmps9
  go_wp2_with (first
    | (go_at_call 16; (with_reducible refine (short_S (w0 := w) a 300 300 rfl HA.out (by assumption)).mono ?_); rintro e w1 ⟨rfl, hS1⟩; rw [HL.out])
    | (go_at_call 17; (with_reducible refine (HG.out _ (by assumption)).mono ?_); rintro e w2 ⟨v, rfl, ho, _, hS2⟩; obtain ⟨A, n, c, rfl, hr⟩ := Rd.of_own ho; clear ho hr))
  have hP0 : PI w w2.heap.size (w2.alloc (.cells #[.string ⟨#[]⟩, .string ⟨#[65]⟩, .string ⟨#[61]⟩, .string ⟨#[65, 65]⟩, .string ⟨#[65, 61]⟩, .string ⟨#[61, 61]⟩, .string ⟨#[65, 65, 65]⟩, .string ⟨#[65, 65, 61]⟩, .string ⟨#[65, 61, 61]⟩] 9)) := by
    refine ⟨hS2.alloc hS2.size _, by simp, fun j hj => ?_⟩
    rw [(Blk.new w2 9 _).cell j]
    exact more_at j hj
  have HP0 := Lib.hid hP0
  have HG2 := Lib.hid (show w.heap.size ≤ w2.heap.size from hS2.size)
  clear hP0 hS1 hS2 hS0 HG
  go_loopw [8, 10] (fun v i wr => ∃ j : Nat, j ≤ 9 ∧ i = .int .i64 j ∧ v = .bool (anyL l k j) ∧ Hid (PI w w2.heap.size wr)) (fun _ i _ => 10 - (intOf i).toNat)
  case atStart => exact ⟨0, by omega, rfl, rfl, HP0⟩
  case round =>
    obtain ⟨j, hj9, rfl, rfl, HP⟩ := hrel
    by_cases hlt : j < 9
    · have hcell : wr.drew.cell? ⟨w2.heap.size, j, none⟩ = some (.string (mo j)) := (HP.out.step (Below.refl _ _).drew).2.2 j hlt
      have z1 := HZ.out j
      have z2 := HZ2.out j
      have i1 : (0 : Int) ≤ (k : Int) := by omega
      have i2 : (k : Int) ≤ ((str l).size : Int) := by omega
      have i3 : (0 : Int) ≤ (j : Int) := by omega
      have i4 : (j : Int) < 9 := by omega
      have HC := Lib.hid (HGM.out wr.drew j)
      have HJ := Lib.hid (show ∀ W, Below wr.drew.heap.size wr.drew W → PI w w2.heap.size W from fun W h => (HP.out.step (Below.refl _ _).drew).step h)
      rcases hok : okL l k j with _ | _
      all_goals rcases han : anyL l k j with _ | _
      all_goals
        have HOK := Lib.hid hok
        have HAN := Lib.hid han
        rw [hok] at HC
        clear hok han HGM
        go_wp2_with fail
        go_region_held3 (fun w' => w'.cell? ⟨w2.heap.size, j, none⟩ = some (.string (mo j))) (first | assumption | go_keep)
          (first | (go_at_call 17; rw [HEX.out j]; refine HC.out.mono ?_; rintro e w3 ⟨A3, n3, c3, rfl, hb3⟩; have HB3 := Lib.hid hb3; have hcell3 : w3.cell? ⟨w2.heap.size, j, none⟩ = some (.string (mo j)) := (HJ.out _ hb3).2.2 j hlt; clear hb3))
        go_wp2_with fail
        go_roundw
        case rel => exact ⟨j + 1, by omega, by go_num, by unfold anyL; rw [HOK.out, HAN.out]; rfl, HJ.out _ HB3.out⟩
        case measure => simp [intOf]; omega
    · have h9 : j = 9 := by omega
      have hany : anyL l k j = true := by rw [h9]; exact HANY.out
      rw [hany]
      have hS := HP.out.1
      have hSd := hS.drew
      have d9 : decide ((j : Int) < 9) = false := decide_eq_false (by omega)
      have d9' : ¬ (j : Int) < 9 := by omega
      clear h9 hj9 hany
      by_cases hke : k = (str l).size
      · have b1 : ((k : Int) == ((str l).size : Int)) = true := by rw [beq_iff_eq]; omega
        have b2 : (k == (str l).size) = true := by rw [beq_iff_eq]; exact hke
        clear hke HGM HZ HZ2 HEX HANY HNX HLL HSZ d1 d2 d3 hks HP0 HP HG2
        go_wp2_with fail
        refine wp_region_held_drew (S := fun _ => True) (by kernel_rfl) trivial (fun _ => ?_)
        refine wpAnyH_take (i := 0) (oi := { dst := some 58, op := Op.move (Operand.tmp 8), type := 4, pos := "outright.go:89", after := #[], guard := none }) (v := ?v0) rfl (by kernel_rfl) (by kernel_rfl) (by kernel_rfl) (fun _ _ _ h => h) (Or.inl ⟨by rfl, ?hy0⟩) trivial ?r0
        case hy0 =>
          intro wz _
          go_simp <;> with_reducible rfl
        simp only [Act.put, List.setIfInBounds_toArray, List.set_cons_succ, List.set_cons_zero]
        refine wpAnyH_take (i := 1) (oi := { dst := some 59, op := Op.move (Operand.tmp 58), type := 4, pos := "outright.go:89", after := #[{ on := 0, ground := Ground.data }], guard := none }) (v := ?v1) rfl (by kernel_rfl) (by kernel_rfl) (by kernel_rfl) (fun _ _ _ h => h) (Or.inl ⟨by rfl, ?hy1⟩) trivial ?r1
        case hy1 =>
          intro wz _
          go_simp <;> with_reducible rfl
        simp only [Act.put, List.setIfInBounds_toArray, List.set_cons_succ, List.set_cons_zero]
        refine wpAnyH_take (i := 2) (oi := { dst := some 60, op := Op.move (Operand.tmp 6), type := 3, pos := "outright.go:89", after := #[{ on := 1, ground := Ground.guard }], guard := some (1, true) }) (v := ?v2) rfl (by kernel_rfl) (by kernel_rfl) (by kernel_rfl) (fun _ _ _ h => h) (Or.inl ⟨by rfl, ?hy2⟩) trivial ?r2
        case hy2 =>
          intro wz _
          go_simp <;> with_reducible rfl
        simp only [Act.put, List.setIfInBounds_toArray, List.set_cons_succ, List.set_cons_zero]
        refine wpAnyH_take (i := 3) (oi := { dst := some 61, op := Op.move (Operand.tmp 0), type := 9, pos := "outright.go:89", after := #[{ on := 1, ground := Ground.guard }], guard := some (1, true) }) (v := ?v3) rfl (by kernel_rfl) (by kernel_rfl) (by kernel_rfl) (fun _ _ _ h => h) (Or.inl ⟨by rfl, ?hy3⟩) trivial ?r3
        case hy3 =>
          intro wz _
          go_simp <;> with_reducible rfl
        simp only [Act.put, List.setIfInBounds_toArray, List.set_cons_succ, List.set_cons_zero]
        refine wpAnyH_take (i := 4) (oi := { dst := some 62, op := Op.call { callee := Callee.builtin Builtin.len, args := #[Operand.tmp 61], argTypes := #[9] }, type := 3, pos := "outright.go:89", after := #[{ on := 3, ground := Ground.data }, { on := 1, ground := Ground.guard }], guard := some (1, true) }) (v := ?v4) rfl (by kernel_rfl) (by kernel_rfl) (by kernel_rfl) (fun _ _ _ h => h) (Or.inl ⟨by rfl, ?hy4⟩) trivial ?r4
        case hy4 =>
          intro wz _
          go_simp <;> with_reducible rfl
        simp only [Act.put, List.setIfInBounds_toArray, List.set_cons_succ, List.set_cons_zero]
        refine wpAnyH_take (i := 5) (oi := { dst := some 63, op := Op.binOp BinOp.eql 3 (Operand.tmp 60) (Operand.tmp 62) 3, type := 4, pos := "outright.go:89", after := #[{ on := 2, ground := Ground.data }, { on := 4, ground := Ground.data }, { on := 1, ground := Ground.guard }], guard := some (1, true) }) (v := ?v5) rfl (by kernel_rfl) (by kernel_rfl) (by kernel_rfl) (fun _ _ _ h => h) (Or.inl ⟨by rfl, ?hy5⟩) trivial ?r5
        case hy5 =>
          intro wz _
          go_simp <;> with_reducible rfl
        simp only [Act.put, List.setIfInBounds_toArray, List.set_cons_succ, List.set_cons_zero]
        refine wpAnyH_take (i := 6) (oi := { dst := some 64, op := Op.move (Operand.tmp 63), type := 4, pos := "outright.go:89", after := #[{ on := 5, ground := Ground.data }, { on := 1, ground := Ground.chain }, { on := 1, ground := Ground.guard }], guard := some (1, true) }) (v := ?v6) rfl (by kernel_rfl) (by kernel_rfl) (by kernel_rfl) (fun _ _ _ h => h) (Or.inl ⟨by rfl, ?hy6⟩) trivial ?r6
        case hy6 =>
          intro wz _
          go_simp <;> with_reducible rfl
        simp only [Act.put, List.setIfInBounds_toArray, List.set_cons_succ, List.set_cons_zero]
        refine wpAnyH_take (i := 7) (oi := { dst := some 65, op := Op.move (Operand.tmp 0), type := 9, pos := "outright.go:89", after := #[{ on := 6, ground := Ground.guard }], guard := some (6, false) }) (v := undef) rfl (by kernel_rfl) (by kernel_rfl) (by kernel_rfl) (fun _ _ _ h => h) (Or.inr ⟨by rfl, rfl⟩) trivial ?_
        simp only [Act.put, List.setIfInBounds_toArray, List.set_cons_succ, List.set_cons_zero]
        refine wpAnyH_take (i := 8) (oi := { dst := some 66, op := Op.move (Operand.tmp 6), type := 3, pos := "outright.go:89", after := #[{ on := 6, ground := Ground.guard }], guard := some (6, false) }) (v := undef) rfl (by kernel_rfl) (by kernel_rfl) (by kernel_rfl) (fun _ _ _ h => h) (Or.inr ⟨by rfl, rfl⟩) trivial ?_
        simp only [Act.put, List.setIfInBounds_toArray, List.set_cons_succ, List.set_cons_zero]
        refine wpAnyH_take (i := 9) (oi := { dst := some 67, op := Op.binOp BinOp.add 3 (Operand.tmp 66) (Operand.const (Value.int IntKind.i64 1)) 3, type := 3, pos := "outright.go:89", after := #[{ on := 8, ground := Ground.data }, { on := 6, ground := Ground.guard }], guard := some (6, false) }) (v := undef) rfl (by kernel_rfl) (by kernel_rfl) (by kernel_rfl) (fun _ _ _ h => h) (Or.inr ⟨by rfl, rfl⟩) trivial ?_
        simp only [Act.put, List.setIfInBounds_toArray, List.set_cons_succ, List.set_cons_zero]
        refine wpAnyH_take (i := 10) (oi := { dst := some 68, op := Op.slice 9 (Operand.tmp 65) none (some (Operand.tmp 67)) none, type := 9, pos := "outright.go:89", after := #[{ on := 7, ground := Ground.data }, { on := 9, ground := Ground.data }, { on := 6, ground := Ground.guard }], guard := some (6, false) }) (v := undef) rfl (by kernel_rfl) (by kernel_rfl) (by kernel_rfl) (fun _ _ _ h => h) (Or.inr ⟨by rfl, rfl⟩) trivial ?_
        simp only [Act.put, List.setIfInBounds_toArray, List.set_cons_succ, List.set_cons_zero]
        refine wpAnyH_take (i := 11) (oi := { dst := some 69, op := Op.move (Operand.tmp 1), type := 9, pos := "outright.go:89", after := #[{ on := 6, ground := Ground.guard }], guard := some (6, false) }) (v := undef) rfl (by kernel_rfl) (by kernel_rfl) (by kernel_rfl) (fun _ _ _ h => h) (Or.inr ⟨by rfl, rfl⟩) trivial ?_
        simp only [Act.put, List.setIfInBounds_toArray, List.set_cons_succ, List.set_cons_zero]
        refine wpAnyH_take (i := 12) (oi := { dst := some 70, op := Op.call { callee := Callee.value (Operand.func 16), args := #[Operand.tmp 69, Operand.const (Value.int IntKind.i64 60)], argTypes := #[9, 3] }, type := 9, pos := "outright.go:89", after := #[{ on := 11, ground := Ground.data }, { on := 6, ground := Ground.chain }, { on := 6, ground := Ground.guard }], guard := some (6, false) }) (v := undef) rfl (by kernel_rfl) (by kernel_rfl) (by kernel_rfl) (fun _ _ _ h => h) (Or.inr ⟨by rfl, rfl⟩) trivial ?_
        simp only [Act.put, List.setIfInBounds_toArray, List.set_cons_succ, List.set_cons_zero]
        refine wpAnyH_take (i := 13) (oi := { dst := some 71, op := Op.binOp BinOp.add 9 (Operand.tmp 68) (Operand.tmp 70) 9, type := 9, pos := "outright.go:89", after := #[{ on := 10, ground := Ground.data }, { on := 12, ground := Ground.data }, { on := 6, ground := Ground.guard }], guard := some (6, false) }) (v := undef) rfl (by kernel_rfl) (by kernel_rfl) (by kernel_rfl) (fun _ _ _ h => h) (Or.inr ⟨by rfl, rfl⟩) trivial ?_
        simp only [Act.put, List.setIfInBounds_toArray, List.set_cons_succ, List.set_cons_zero]
        refine wpAnyH_take (i := 14) (oi := { dst := some 72, op := Op.move (Operand.tmp 6), type := 3, pos := "outright.go:89", after := #[{ on := 6, ground := Ground.guard }], guard := some (6, false) }) (v := undef) rfl (by kernel_rfl) (by kernel_rfl) (by kernel_rfl) (fun _ _ _ h => h) (Or.inr ⟨by rfl, rfl⟩) trivial ?_
        simp only [Act.put, List.setIfInBounds_toArray, List.set_cons_succ, List.set_cons_zero]
        refine wpAnyH_take (i := 15) (oi := { dst := some 73, op := Op.call { callee := Callee.value (Operand.func 22), args := #[Operand.tmp 71, Operand.tmp 72], argTypes := #[9, 3] }, type := 4, pos := "outright.go:89", after := #[{ on := 13, ground := Ground.data }, { on := 14, ground := Ground.data }, { on := 12, ground := Ground.chain }, { on := 6, ground := Ground.guard }], guard := some (6, false) }) (v := undef) rfl (by kernel_rfl) (by kernel_rfl) (by kernel_rfl) (fun _ _ _ h => h) (Or.inr ⟨by rfl, rfl⟩) trivial ?_
        simp only [Act.put, List.setIfInBounds_toArray, List.set_cons_succ, List.set_cons_zero]
        refine wpAnyH_take (i := 16) (oi := { dst := some 74, op := Op.pick (Operand.tmp 64) (Operand.const (Value.bool true)) (Operand.tmp 73), type := 4, pos := "outright.go:89", after := #[{ on := 6, ground := Ground.data }, { on := 15, ground := Ground.data }, { on := 1, ground := Ground.guard }], guard := some (1, true) }) (v := ?v16) rfl (by kernel_rfl) (by kernel_rfl) (by kernel_rfl) (fun _ _ _ h => h) (Or.inl ⟨by rfl, ?hy16⟩) trivial ?r16
        case hy16 =>
          intro wz _
          go_simp <;> with_reducible rfl
        simp only [Act.put, List.setIfInBounds_toArray, List.set_cons_succ, List.set_cons_zero]
        refine wpAnyH_take (i := 17) (oi := { dst := some 75, op := Op.pick (Operand.tmp 59) (Operand.tmp 74) (Operand.const (Value.bool false)), type := 4, pos := "outright.go:89", after := #[{ on := 1, ground := Ground.data }, { on := 16, ground := Ground.data }], guard := none }) (v := ?v17) rfl (by kernel_rfl) (by kernel_rfl) (by kernel_rfl) (fun _ _ _ h => h) (Or.inl ⟨by rfl, ?hy17⟩) trivial ?r17
        case hy17 =>
          intro wz _
          go_simp <;> with_reducible rfl
        simp only [Act.put, List.setIfInBounds_toArray, List.set_cons_succ, List.set_cons_zero]
        refine wpAnyH_take (i := 18) (oi := { dst := some 76, op := Op.move (Operand.tmp 75), type := 4, pos := "outright.go:89", after := #[{ on := 17, ground := Ground.data }, { on := 15, ground := Ground.chain }], guard := none }) (v := ?v18) rfl (by kernel_rfl) (by kernel_rfl) (by kernel_rfl) (fun _ _ _ h => h) (Or.inl ⟨by rfl, ?hy18⟩) trivial ?r18
        case hy18 =>
          intro wz _
          go_simp <;> with_reducible rfl
        simp only [Act.put, List.setIfInBounds_toArray, List.set_cons_succ, List.set_cons_zero]
        refine wpAnyH_ready (rs := [19]) (by kernel_rfl) (by simp) ?_
        refine AllReadyH.cons (o := { dst := some 77, op := Op.call { callee := Callee.value (Operand.func 15), args := #[], argTypes := #[] }, type := 4, pos := "outright.go:89", after := #[{ on := 18, ground := Ground.chain }, { on := 18, ground := Ground.guard }], guard := some (18, true) }) rfl (fun K hK => ?_) AllReadyH.nil
        go_simp
        go_at_call 15
        refine (works_S (w0 := w) (by assumption)).mono ?_
        rintro e w4 ⟨rfl, hS4⟩
        refine hK.out _ _ trivial (fun _ => ?_)
        clear hK K
        try simp only [Act.put, List.setIfInBounds_toArray, List.set_cons_succ, List.set_cons_zero]
        refine wpAnyH_take (i := 20) (oi := { dst := some 78, op := Op.pick (Operand.tmp 76) (Operand.tmp 77) (Operand.const (Value.bool false)), type := 4, pos := "outright.go:89", after := #[{ on := 18, ground := Ground.data }, { on := 19, ground := Ground.data }], guard := none }) (v := ?v20) rfl (by kernel_rfl) (by kernel_rfl) (by kernel_rfl) (fun _ _ _ h => h) (Or.inl ⟨by rfl, ?hy20⟩) trivial ?r20
        case hy20 =>
          intro wz _
          go_simp <;> with_reducible rfl
        simp only [Act.put, List.setIfInBounds_toArray, List.set_cons_succ, List.set_cons_zero]
        refine wpAnyH_take (i := 21) (oi := { dst := some 4, op := Op.assign (Operand.tmp 78), type := 4, pos := "outright.go:89", after := #[{ on := 20, ground := Ground.data }, { on := 19, ground := Ground.chain }, { on := 0, ground := Ground.phase }, { on := 1, ground := Ground.phase }, { on := 2, ground := Ground.phase }, { on := 3, ground := Ground.phase }, { on := 4, ground := Ground.phase }, { on := 5, ground := Ground.phase }, { on := 6, ground := Ground.phase }, { on := 7, ground := Ground.phase }, { on := 8, ground := Ground.phase }, { on := 9, ground := Ground.phase }, { on := 10, ground := Ground.phase }, { on := 11, ground := Ground.phase }, { on := 12, ground := Ground.phase }, { on := 13, ground := Ground.phase }, { on := 14, ground := Ground.phase }, { on := 15, ground := Ground.phase }, { on := 16, ground := Ground.phase }, { on := 17, ground := Ground.phase }, { on := 18, ground := Ground.phase }, { on := 19, ground := Ground.phase }, { on := 20, ground := Ground.phase }], guard := none }) (v := ?v21) rfl (by kernel_rfl) (by kernel_rfl) (by kernel_rfl) (fun _ _ _ h => h) (Or.inl ⟨by rfl, ?hy21⟩) trivial ?r21
        case hy21 =>
          intro wz _
          go_simp <;> with_reducible rfl
        simp only [Act.put, List.setIfInBounds_toArray, List.set_cons_succ, List.set_cons_zero]
        refine wpAnyH_done (by kernel_rfl) ?_ _
        go_wp2_with fail
        go_ret
        exact ⟨rfl, by assumption⟩
      · have b1 : ((k : Int) == ((str l).size : Int)) = false := by rw [Bool.eq_false_iff, ne_eq, beq_iff_eq]; omega
        have b2 : (k == (str l).size) = false := by rw [Bool.eq_false_iff, ne_eq, beq_iff_eq]; exact hke
        obtain ⟨bb, hbb⟩ : ∃ bb, b.data.toList.take 60 = bb := ⟨_, rfl⟩
        have hbl : bb.length ≤ 60 := by rw [← hbb, List.length_take]; omega
        have HSH := Lib.hid (fun (W : World) (h : Below w.heap.size w W) => short_S (w0 := w) (w := W) b 60 60 rfl HB.out h)
        rw [hbb] at HSH
        have hll := HLL.out
        have hsz := HSZ.out
        have HFL := Lib.hid (fun (W : World) (h : Below w.heap.size w W) => fails_str (w0 := w) (w := W) (l.take (k + 1) ++ bb) k (HNX.out (by omega) bb) (by rw [List.length_append, List.length_take]; omega) h)
        have HE2 := Lib.hid (show (str l).extract 0 (k + 1) ++ str bb = str (l.take (k + 1) ++ bb) by rw [ext_str, str_app2])
        have x1 : IntKind.i64.wrap ((k : Int) + 1) = (k : Int) + 1 := IntWalk.i64_in _ (by omega)
        have x2 : (0 : Int) ≤ (k : Int) + 1 := by omega
        have x3 : (k : Int) + 1 ≤ ((str l).size : Int) := by omega
        have x4 : k + 1 ≤ (str l).size := by omega
        have x5 : ((9223372036854775807 : Nat) < k + 1 + (str bb).size) = False := eq_false (by rw [str_size]; omega)
        have x6 : ((k : Int) + 1).toNat = k + 1 := by omega
        clear hke hbb hbl hll hsz HGM HZ HZ2 HEX HANY HNX HLL HSZ d1 d2 d3 HP0 HP HG2
        go_wp2_with fail
        go_region_held3 (fun _ => True) (go_keep)
          (first
            | (go_at_call 16; (with_reducible refine (HSH.out _ (by assumption)).mono ?_); rintro e w4 ⟨rfl, hS4⟩)
            | (go_at_call 22; rw [HE2.out]; (with_reducible refine (HFL.out _ (by assumption)).mono ?_); rintro e w5 ⟨rfl, hS5⟩)
            | (go_at_call 15; refine (works_S (w0 := w) (by assumption)).mono ?_; rintro e w6 ⟨rfl, hS6⟩))
        go_wp2_with fail
        go_ret
        exact ⟨rfl, by assumption⟩
theorem b64Place_walk (a b : ByteArray) (w : World) (ha : a.size ≤ 9223372036854775807) (hb : b.size ≤ 9223372036854775807) :
    Calls Try.prog 9 #[.string a, .string b] w fun e w' => e = .returned (.bool true) ∧ Below w.heap.size w w' := by
  rcases hd : dec (a.data.toList.take 300) with ⟨_ | q, k⟩
  · exact place_no a b w ha hb _ k rfl hd
  · obtain rfl := (enc_dec _ _ _ hd).1
    exact place_ok a b w ha _ q rfl hd
end Go.Proofs.Ytddgmpmfdgfcdaa
