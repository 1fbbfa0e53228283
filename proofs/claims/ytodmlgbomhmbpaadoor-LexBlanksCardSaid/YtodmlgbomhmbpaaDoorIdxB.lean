/-
  What is proved here: strings.IndexRune at the bytes that a short literal escapes, for every scalar value; conditions: those that each fact states; and: strings.IndexRune at the bytes that a short literal escapes, at ASCII and at U+FFFD, and put together for every scalar value; conditions: those that each fact states.
-/
import Derived.Test.YtodmlgbomhmbpaaDoorPut
namespace Go.Proofs.YtodmlgbomhmbpaaDoor
open Go.RowKit Ut Go.Lib

/-- The bytes that a short literal escapes with a letter. -/
def escB : List UInt8 := [34, 92, 8, 12, 10, 13, 9]
theorem ib_hi : ∀ (l : List UInt8), (∀ x ∈ l, x.toNat < 128) → ∀ y : UInt8, 128 ≤ y.toNat → Lib.indexByte l y = -1 := by
  intro l
  induction l with
  | nil => intro _ y _; rfl
  | cons a r ih =>
    intro h y hy
    have h1 := ih (fun x hx => h x (List.mem_cons_of_mem _ hx)) y hy
    have ha := h a (List.mem_cons_self ..)
    have hne : a ≠ y := by intro e; subst e; omega
    unfold Lib.indexByte
    simp [hne, h1]

theorem quiet_more {P : Program} {f : FuncId} {args : Array Value} {w : World} {a n : Nat} {v : Value} (h : Calls P f args (w.drewN (a + n)) fun e w' => e = .returned v ∧ w' = w.drewN (a + n)) :
    Calls P f args (w.drewN (a + n)) fun e w' => e = .returned v ∧ ∃ m, w' = w.drewN (a + m) := by
  refine h.mono ?_
  rintro e w' ⟨he, hw⟩
  exact ⟨he, n, hw⟩
theorem ib_call (s : ByteArray) (y : UInt8) (hs : ∀ x ∈ s.data.toList, x.toNat < 128) (hy : 128 ≤ y.toNat) (W : World) :
    Calls Tryd.prog 75 #[.string s, .int .u8 (y.toNat : Int)] W fun e w' => e = .returned (.int .i64 (-1)) ∧ w' = W := by
  have C := Tryd.strings_IndexByte s (y.toNat : Int) W
  rw [ib_hi s.data.toList hs _ (by simp [Nat.toUInt8]; exact hy)] at C
  exact C

set_option maxHeartbeats 1000000 in
set_option maxRecDepth 1000000 in
theorem idx_2 (r : Int) (w : World) (x y : UInt8) (h0 : decide (0 ≤ r) = true) (h1 : decide (r < 128) = false) (h2 : (r == 65533) = false) (hv : Lib.validRune r = true) (hS : Utf8.encode r = ⟨#[x, y]⟩) (hy : 128 ≤ y.toNat) :
    Calls Tryd.prog 68 #[.string ⟨#[34, 92, 8, 12, 10, 13, 9]⟩, .int .i32 r] w fun e w' => e = .returned (.int .i64 (-1)) ∧ Below w.heap.size w w' := by
  have HV := Lib.hid hv
  have hd : ((((⟨#[34, 92, 8, 12, 10, 13, 9]⟩ : ByteArray)[1]'(by show 1 < 7; decide)).toNat : Int) != (((⟨#[x, y]⟩ : ByteArray)[1]'(by show 1 < 2; decide)).toNat : Int)) = true := by
    show (((92 : Nat) : Int) != (y.toNat : Int)) = true
    simp; omega
  have hw2 : IntKind.i64.wrap 2 = 2 := by decide
  have HY := Lib.hid hy
  clear hv hy
  go_enter Tryd.func68, Tryd.ntmps68
  go_wp2_with (first
    | (go_at_call 86; refine (Tryd.utf8_ValidRune _ _).mono ?_; rintro e w1 ⟨rfl, hw⟩; subst hw; rw [HV.out]))
  go_step3
  go_wp2
  go_loopw [9, 10] (fun i f wr => i = .int .i64 1 ∧ f = .int .i64 0 ∧ wr = w1) (fun i _ _ => 0)
  case atStart => exact ⟨rfl, rfl, rfl⟩
  case round =>
    obtain ⟨rfl, rfl, rfl⟩ := hrel
    go_wp2
    go_step3
    go_wp2
    go_quiet (fail)
    go_wp2
    go_quiet ((go_at_call 75; exact quiet_more (ib_call _ _ (by decide) HY.out _)))
    go_wp2
    change bodyPost Tryd.prog Tryd.f68 (fun e w' => e = .returned (.int .i64 (-1)) ∧ Below wr.heap.size wr w') Exit.ret _ _
    go_ret
    exact ⟨rfl, below_drewN (Below.refl _ _) _⟩

set_option maxHeartbeats 1000000 in
set_option maxRecDepth 1000000 in
theorem idx_3 (r : Int) (w : World) (x y z : UInt8) (h0 : decide (0 ≤ r) = true) (h1 : decide (r < 128) = false) (h2 : (r == 65533) = false) (hv : Lib.validRune r = true) (hS : Utf8.encode r = ⟨#[x, y, z]⟩) (hy : 128 ≤ z.toNat) :
    Calls Tryd.prog 68 #[.string ⟨#[34, 92, 8, 12, 10, 13, 9]⟩, .int .i32 r] w fun e w' => e = .returned (.int .i64 (-1)) ∧ Below w.heap.size w w' := by
  have HV := Lib.hid hv
  have hd : ((((⟨#[34, 92, 8, 12, 10, 13, 9]⟩ : ByteArray)[2]'(by show 2 < 7; decide)).toNat : Int) != (((⟨#[x, y, z]⟩ : ByteArray)[2]'(by show 2 < 3; decide)).toNat : Int)) = true := by
    show (((8 : Nat) : Int) != (z.toNat : Int)) = true
    simp; omega
  have hw2 : IntKind.i64.wrap 3 = 3 := by decide
  have HY := Lib.hid hy
  clear hv hy
  go_enter Tryd.func68, Tryd.ntmps68
  go_wp2_with (first
    | (go_at_call 86; refine (Tryd.utf8_ValidRune _ _).mono ?_; rintro e w1 ⟨rfl, hw⟩; subst hw; rw [HV.out]))
  go_step3
  go_wp2
  go_loopw [9, 10] (fun i f wr => i = .int .i64 2 ∧ f = .int .i64 0 ∧ wr = w1) (fun i _ _ => 0)
  case atStart => exact ⟨rfl, rfl, rfl⟩
  case round =>
    obtain ⟨rfl, rfl, rfl⟩ := hrel
    go_wp2
    go_step3
    go_wp2
    go_quiet (fail)
    go_wp2
    go_quiet ((go_at_call 75; exact quiet_more (ib_call _ _ (by decide) HY.out _)))
    go_wp2
    change bodyPost Tryd.prog Tryd.f68 (fun e w' => e = .returned (.int .i64 (-1)) ∧ Below wr.heap.size wr w') Exit.ret _ _
    go_ret
    exact ⟨rfl, below_drewN (Below.refl _ _) _⟩

set_option maxHeartbeats 1000000 in
set_option maxRecDepth 1000000 in
theorem idx_4 (r : Int) (w : World) (x y z u : UInt8) (h0 : decide (0 ≤ r) = true) (h1 : decide (r < 128) = false) (h2 : (r == 65533) = false) (hv : Lib.validRune r = true) (hS : Utf8.encode r = ⟨#[x, y, z, u]⟩) (hy : 128 ≤ u.toNat) :
    Calls Tryd.prog 68 #[.string ⟨#[34, 92, 8, 12, 10, 13, 9]⟩, .int .i32 r] w fun e w' => e = .returned (.int .i64 (-1)) ∧ Below w.heap.size w w' := by
  have HV := Lib.hid hv
  have hd : ((((⟨#[34, 92, 8, 12, 10, 13, 9]⟩ : ByteArray)[3]'(by show 3 < 7; decide)).toNat : Int) != (((⟨#[x, y, z, u]⟩ : ByteArray)[3]'(by show 3 < 4; decide)).toNat : Int)) = true := by
    show (((12 : Nat) : Int) != (u.toNat : Int)) = true
    simp; omega
  have hw2 : IntKind.i64.wrap 4 = 4 := by decide
  have HY := Lib.hid hy
  clear hv hy
  go_enter Tryd.func68, Tryd.ntmps68
  go_wp2_with (first
    | (go_at_call 86; refine (Tryd.utf8_ValidRune _ _).mono ?_; rintro e w1 ⟨rfl, hw⟩; subst hw; rw [HV.out]))
  go_step3
  go_wp2
  go_loopw [9, 10] (fun i f wr => i = .int .i64 3 ∧ f = .int .i64 0 ∧ wr = w1) (fun i _ _ => 0)
  case atStart => exact ⟨rfl, rfl, rfl⟩
  case round =>
    obtain ⟨rfl, rfl, rfl⟩ := hrel
    go_wp2
    go_step3
    go_wp2
    go_quiet (fail)
    go_wp2
    go_quiet ((go_at_call 75; exact quiet_more (ib_call _ _ (by decide) HY.out _)))
    go_wp2
    change bodyPost Tryd.prog Tryd.f68 (fun e w' => e = .returned (.int .i64 (-1)) ∧ Below wr.heap.size wr w') Exit.ret _ _
    go_ret
    exact ⟨rfl, below_drewN (Below.refl _ _) _⟩
end Go.Proofs.YtodmlgbomhmbpaaDoor
namespace Go.Proofs.YtodmlgbomhmbpaaDoor
open Go.RowKit Ut Go.Lib

def escS0 : ByteArray := ⟨#[34, 92, 8, 12, 10, 13, 9]⟩
theorem esc_next (w : World) (k pos : Nat) (ty : TypeId) (hk : w.heap[k]? = some (.stringIter ⟨#[34, 92, 8, 12, 10, 13, 9]⟩ pos)) (h : pos < 7) :
    (Instr.next (.pointer (some ⟨k, 0, none⟩)) true ty).run Tryd.prog w = .ok (.tuple #[.bool true, .int .i64 pos, .int .i32 ((escB.getD pos 0).toNat : Int)]) (w.iterAt k ⟨#[34, 92, 8, 12, 10, 13, 9]⟩ (pos + 1)) := by
  rw [Lib.run_next_any_at w k _ pos ty hk (by exact h)]
  have : Utf8.decode ⟨#[34, 92, 8, 12, 10, 13, 9]⟩ pos = ((escB.getD pos 0).toNat, 1) := by
    rcases (show pos = 0 ∨ pos = 1 ∨ pos = 2 ∨ pos = 3 ∨ pos = 4 ∨ pos = 5 ∨ pos = 6 by omega) with rfl | rfl | rfl | rfl | rfl | rfl | rfl <;> decide
  rw [this]
theorem iter_pos {w : World} {k pos : Nat} {s : ByteArray} (h : w.heap[k]? = some (.stringIter s pos)) : w.iterPos k = pos := by
  simp [World.iterPos, h]
set_option maxHeartbeats 1000000 in
set_option maxRecDepth 1000000 in
theorem idx_bad (w : World) :
    Calls Tryd.prog 68 #[.string ⟨#[34, 92, 8, 12, 10, 13, 9]⟩, .int .i32 65533] w fun e w' => e = .returned (.int .i64 (-1)) ∧ Below w.heap.size w w' := by
  go_enter Tryd.func68, Tryd.ntmps68
  go_wp2
  go_loopw [] (fun wr => ∃ pos, pos ≤ 7 ∧ wr.heap[w.heap.size]? = some (.stringIter ⟨#[34, 92, 8, 12, 10, 13, 9]⟩ pos) ∧ Below w.heap.size w wr) (fun wr => 7 - wr.iterPos w.heap.size)
  case atStart => exact ⟨0, by omega, World.iter_heap w _ 0, (Below.refl _ _).alloc (Nat.le_refl _) _⟩
  case round =>
    obtain ⟨pos, hp, hit, hb⟩ := hrel
    have hpos := hit
    by_cases h7 : pos < 7
    · have hnx : ∀ ty, (Instr.next (.pointer (some ⟨w.heap.size, 0, none⟩)) true ty).run Tryd.prog wr = _ := fun ty => esc_next wr w.heap.size pos ty hit h7
      have hit2 := Lib.iterAt_heap wr w.heap.size _ pos (pos + 1) hit
      have hb2 := Lib.below_iterAt hb (k := w.heap.size) (Nat.le_refl _) ⟨#[34, 92, 8, 12, 10, 13, 9]⟩ (pos + 1)
      have hne : ((((escB.getD pos 0).toNat : Nat) : Int) == 65533) = false := by
        rcases (show pos = 0 ∨ pos = 1 ∨ pos = 2 ∨ pos = 3 ∨ pos = 4 ∨ pos = 5 ∨ pos = 6 by omega) with rfl | rfl | rfl | rfl | rfl | rfl | rfl <;> decide
      obtain ⟨X, hX⟩ : ∃ X : Int, (((escB.getD pos 0).toNat : Nat) : Int) = X := ⟨_, rfl⟩
      rw [hX] at hne
      simp only [hX] at hnx
      have H2 := Lib.hid hit2
      have HB2 := Lib.hid hb2
      have HI := Lib.hid hit
      clear hit2 hb2 hit hpos hX hb
      go_wp2
      refine ⟨⟨pos + 1, by omega, H2.out, HB2.out⟩, ?_⟩
      have e1 := iter_pos H2.out
      have e2 := iter_pos HI.out
      rw [e1, e2]
      omega
    · have hnx : ∀ ty, (Instr.next (.pointer (some ⟨w.heap.size, 0, none⟩)) true ty).run Tryd.prog wr = _ := fun ty => Lib.run_next_end_at wr w.heap.size _ pos ty hit (by exact h7)
      have HB := Lib.hid hb
      clear hb hit hpos
      go_wp2
      go_ret
      exact ⟨rfl, HB.out⟩

theorem idx_ascii (r : Nat) (w : World) (h : r < 128) :
    Calls Tryd.prog 68 #[.string ⟨#[34, 92, 8, 12, 10, 13, 9]⟩, .int .i32 (r : Int)] w fun e w' => e = .returned (.int .i64 (Lib.indexByte escB (UInt8.ofNat r))) ∧ Below w.heap.size w w' := by
  refine (Tryd.strings_IndexRune_ascii ⟨#[34, 92, 8, 12, 10, 13, 9]⟩ (r : Int) w (by omega) (by omega)).mono ?_
  rintro e w' ⟨rfl, rfl⟩
  exact ⟨rfl, Below.refl _ _⟩
theorem u8_hi (n : Nat) (h : n < 64) : 128 ≤ (UInt8.ofNat (128 + n)).toNat := by
  rw [UInt8.toNat_ofNat']; omega
theorem idx_high (r : Nat) (w : World) (h : scal r) (h128 : 128 ≤ r) :
    Calls Tryd.prog 68 #[.string ⟨#[34, 92, 8, 12, 10, 13, 9]⟩, .int .i32 (r : Int)] w fun e w' => e = .returned (.int .i64 (-1)) ∧ Below w.heap.size w w' := by
  by_cases hb : r = 65533
  · subst hb; exact idx_bad w
  · have hs := h
    unfold scal at hs
    have hv : Lib.validRune (r : Int) = true := by unfold Lib.validRune; simp; omega
    have he := encode_enc h
    have g0 : decide (0 ≤ (r : Int)) = true := decide_eq_true (by omega)
    have g1 : decide ((r : Int) < 128) = false := decide_eq_false (by omega)
    have g2 : ((r : Int) == 65533) = false := by simp; omega
    unfold enc encN at he
    rw [if_neg (by omega)] at he
    by_cases h2 : r < 2048
    · rw [if_pos h2] at he
      exact idx_2 (r : Int) w _ _ g0 g1 g2 hv he (u8_hi _ (by omega))
    · rw [if_neg h2] at he
      by_cases h3 : r < 65536
      · rw [if_pos h3] at he
        exact idx_3 (r : Int) w _ _ _ g0 g1 g2 hv he (u8_hi _ (by omega))
      · rw [if_neg h3] at he
        exact idx_4 (r : Int) w _ _ _ _ g0 g1 g2 hv he (u8_hi _ (by omega))
end Go.Proofs.YtodmlgbomhmbpaaDoor
