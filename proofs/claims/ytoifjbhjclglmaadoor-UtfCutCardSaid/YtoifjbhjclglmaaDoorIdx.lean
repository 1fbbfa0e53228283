/-
  What is proved here: strings.IndexRune at the bytes that a short literal escapes, for every scalar value; conditions: those that each fact states.
-/
import Derived.Test.YtoifjbhjclglmaaDoorPut
namespace Go.Proofs.YtoifjbhjclglmaaDoor
open Go.RowKit Ut Go.Lib

/-- The bytes that a short literal escapes with a letter. -/
def escB : List UInt8 := [34, 92, 8, 12, 10, 13, 9]
theorem ib_hi : ∀ (l : List UInt8), (∀ x ∈ l, x.toNat < 128) → ∀ y : UInt8, 128 ≤ y.toNat → Lib.indexByte l y = -1 := by
  intro l
  induction l with
  | nil => intro _ y _; rfl
  | cons a r ih =>
    intro h y hy
    have h1 := ih (fun x hx => h x (List.mem_cons_of_mem _ hx)) y hy
    have ha := h a (List.mem_cons_self ..)
    have hne : a ≠ y := by intro e; subst e; omega
    unfold Lib.indexByte
    simp [hne, h1]

theorem quiet_more {P : Program} {f : FuncId} {args : Array Value} {w : World} {a n : Nat} {v : Value} (h : Calls P f args (w.drewN (a + n)) fun e w' => e = .returned v ∧ w' = w.drewN (a + n)) :
    Calls P f args (w.drewN (a + n)) fun e w' => e = .returned v ∧ ∃ m, w' = w.drewN (a + m) := by
  refine h.mono ?_
  rintro e w' ⟨he, hw⟩
  exact ⟨he, n, hw⟩
theorem ib_call (s : ByteArray) (y : UInt8) (hs : ∀ x ∈ s.data.toList, x.toNat < 128) (hy : 128 ≤ y.toNat) (W : World) :
    Calls Tryd.prog 56 #[.string s, .int .u8 (y.toNat : Int)] W fun e w' => e = .returned (.int .i64 (-1)) ∧ w' = W := by
  have C := Tryd.strings_IndexByte s (y.toNat : Int) W
  rw [ib_hi s.data.toList hs _ (by simp [Nat.toUInt8]; exact hy)] at C
  exact C

set_option maxHeartbeats 1000000 in
set_option maxRecDepth 1000000 in
theorem idx_2 (r : Int) (w : World) (x y : UInt8) (h0 : decide (0 ≤ r) = true) (h1 : decide (r < 128) = false) (h2 : (r == 65533) = false) (hv : Lib.validRune r = true) (hS : Utf8.encode r = ⟨#[x, y]⟩) (hy : 128 ≤ y.toNat) :
    Calls Tryd.prog 45 #[.string ⟨#[34, 92, 8, 12, 10, 13, 9]⟩, .int .i32 r] w fun e w' => e = .returned (.int .i64 (-1)) ∧ Below w.heap.size w w' := by
  have HV := Lib.hid hv
  have hd : ((((⟨#[34, 92, 8, 12, 10, 13, 9]⟩ : ByteArray)[1]'(by show 1 < 7; decide)).toNat : Int) != (((⟨#[x, y]⟩ : ByteArray)[1]'(by show 1 < 2; decide)).toNat : Int)) = true := by
    show (((92 : Nat) : Int) != (y.toNat : Int)) = true
    simp; omega
  have hw2 : IntKind.i64.wrap 2 = 2 := by decide
  have HY := Lib.hid hy
  clear hv hy
  go_enter Tryd.func45, Tryd.ntmps45
  go_wp2_with (first
    | (go_at_call 32; refine (Tryd.utf8_ValidRune _ _).mono ?_; rintro e w1 ⟨rfl, hw⟩; subst hw; rw [HV.out]))
  go_step3
  go_wp2
  go_loopw [9, 10] (fun i f wr => i = .int .i64 1 ∧ f = .int .i64 0 ∧ wr = w1) (fun i _ _ => 0)
  case atStart => exact ⟨rfl, rfl, rfl⟩
  case round =>
    obtain ⟨rfl, rfl, rfl⟩ := hrel
    go_wp2
    go_step3
    go_wp2
    go_quiet (fail)
    go_wp2
    go_quiet ((go_at_call 56; exact quiet_more (ib_call _ _ (by decide) HY.out _)))
    go_wp2
    change bodyPost Tryd.prog Tryd.f45 (fun e w' => e = .returned (.int .i64 (-1)) ∧ Below wr.heap.size wr w') Exit.ret _ _
    go_ret
    exact ⟨rfl, below_drewN (Below.refl _ _) _⟩

set_option maxHeartbeats 1000000 in
set_option maxRecDepth 1000000 in
theorem idx_3 (r : Int) (w : World) (x y z : UInt8) (h0 : decide (0 ≤ r) = true) (h1 : decide (r < 128) = false) (h2 : (r == 65533) = false) (hv : Lib.validRune r = true) (hS : Utf8.encode r = ⟨#[x, y, z]⟩) (hy : 128 ≤ z.toNat) :
    Calls Tryd.prog 45 #[.string ⟨#[34, 92, 8, 12, 10, 13, 9]⟩, .int .i32 r] w fun e w' => e = .returned (.int .i64 (-1)) ∧ Below w.heap.size w w' := by
  have HV := Lib.hid hv
  have hd : ((((⟨#[34, 92, 8, 12, 10, 13, 9]⟩ : ByteArray)[2]'(by show 2 < 7; decide)).toNat : Int) != (((⟨#[x, y, z]⟩ : ByteArray)[2]'(by show 2 < 3; decide)).toNat : Int)) = true := by
    show (((8 : Nat) : Int) != (z.toNat : Int)) = true
    simp; omega
  have hw2 : IntKind.i64.wrap 3 = 3 := by decide
  have HY := Lib.hid hy
  clear hv hy
  go_enter Tryd.func45, Tryd.ntmps45
  go_wp2_with (first
    | (go_at_call 32; refine (Tryd.utf8_ValidRune _ _).mono ?_; rintro e w1 ⟨rfl, hw⟩; subst hw; rw [HV.out]))
  go_step3
  go_wp2
  go_loopw [9, 10] (fun i f wr => i = .int .i64 2 ∧ f = .int .i64 0 ∧ wr = w1) (fun i _ _ => 0)
  case atStart => exact ⟨rfl, rfl, rfl⟩
  case round =>
    obtain ⟨rfl, rfl, rfl⟩ := hrel
    go_wp2
    go_step3
    go_wp2
    go_quiet (fail)
    go_wp2
    go_quiet ((go_at_call 56; exact quiet_more (ib_call _ _ (by decide) HY.out _)))
    go_wp2
    change bodyPost Tryd.prog Tryd.f45 (fun e w' => e = .returned (.int .i64 (-1)) ∧ Below wr.heap.size wr w') Exit.ret _ _
    go_ret
    exact ⟨rfl, below_drewN (Below.refl _ _) _⟩

set_option maxHeartbeats 1000000 in
set_option maxRecDepth 1000000 in
theorem idx_4 (r : Int) (w : World) (x y z u : UInt8) (h0 : decide (0 ≤ r) = true) (h1 : decide (r < 128) = false) (h2 : (r == 65533) = false) (hv : Lib.validRune r = true) (hS : Utf8.encode r = ⟨#[x, y, z, u]⟩) (hy : 128 ≤ u.toNat) :
    Calls Tryd.prog 45 #[.string ⟨#[34, 92, 8, 12, 10, 13, 9]⟩, .int .i32 r] w fun e w' => e = .returned (.int .i64 (-1)) ∧ Below w.heap.size w w' := by
  have HV := Lib.hid hv
  have hd : ((((⟨#[34, 92, 8, 12, 10, 13, 9]⟩ : ByteArray)[3]'(by show 3 < 7; decide)).toNat : Int) != (((⟨#[x, y, z, u]⟩ : ByteArray)[3]'(by show 3 < 4; decide)).toNat : Int)) = true := by
    show (((12 : Nat) : Int) != (u.toNat : Int)) = true
    simp; omega
  have hw2 : IntKind.i64.wrap 4 = 4 := by decide
  have HY := Lib.hid hy
  clear hv hy
  go_enter Tryd.func45, Tryd.ntmps45
  go_wp2_with (first
    | (go_at_call 32; refine (Tryd.utf8_ValidRune _ _).mono ?_; rintro e w1 ⟨rfl, hw⟩; subst hw; rw [HV.out]))
  go_step3
  go_wp2
  go_loopw [9, 10] (fun i f wr => i = .int .i64 3 ∧ f = .int .i64 0 ∧ wr = w1) (fun i _ _ => 0)
  case atStart => exact ⟨rfl, rfl, rfl⟩
  case round =>
    obtain ⟨rfl, rfl, rfl⟩ := hrel
    go_wp2
    go_step3
    go_wp2
    go_quiet (fail)
    go_wp2
    go_quiet ((go_at_call 56; exact quiet_more (ib_call _ _ (by decide) HY.out _)))
    go_wp2
    change bodyPost Tryd.prog Tryd.f45 (fun e w' => e = .returned (.int .i64 (-1)) ∧ Below wr.heap.size wr w') Exit.ret _ _
    go_ret
    exact ⟨rfl, below_drewN (Below.refl _ _) _⟩
end Go.Proofs.YtoifjbhjclglmaaDoor
