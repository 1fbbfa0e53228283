/-
  What is proved here: the contract of the laws' helper unit; conditions: a number below 65536, a base of sixteen digits.
-/
import Derived.Test.YtoifjbhjclglmaaDoorSp
import Derived.Laws.BitsLemmas
namespace Go.Proofs.YtoifjbhjclglmaaDoor
open Go.RowKit Ut Go.Lib

theorem and15 (n : Int) : bits .and .i64 n 15 = n % 16 := by
  have h15 : (BitVec.ofInt 64 15).toNat = 2 ^ 4 - 1 := by decide
  have key : (BitVec.ofInt 64 n &&& BitVec.ofInt 64 15).toNat = (n % ((2 ^ 64 : Nat) : Int)).toNat % 2 ^ 4 := by
    rw [BitVec.toNat_and, BitVec.toNat_ofInt, h15, Nat.and_two_pow_sub_one_eq_mod]
  show IntKind.i64.wrap ((BitVec.ofInt 64 n &&& BitVec.ofInt 64 15).toNat : Nat) = n % 16
  rw [key, IntKind.wrap_i64]
  omega
theorem and1023 (n : Int) : bits .and .i64 n 1023 = n % 1024 := by
  have h15 : (BitVec.ofInt 64 1023).toNat = 2 ^ 10 - 1 := by decide
  have key : (BitVec.ofInt 64 n &&& BitVec.ofInt 64 1023).toNat = (n % ((2 ^ 64 : Nat) : Int)).toNat % 2 ^ 10 := by
    rw [BitVec.toNat_and, BitVec.toNat_ofInt, h15, Nat.and_two_pow_sub_one_eq_mod]
  show IntKind.i64.wrap ((BitVec.ofInt 64 n &&& BitVec.ofInt 64 1023).toNat : Nat) = n % 1024
  rw [key, IntKind.wrap_i64]
  omega
/-- The digits so far. -/
def unL (bl : List UInt8) (n : Nat) : Nat → List UInt8
  | 0 => [92, 117]
  | 1 => [92, 117, bl.getD (n / 4096 % 16) 0]
  | 2 => [92, 117, bl.getD (n / 4096 % 16) 0, bl.getD (n / 256 % 16) 0]
  | 3 => [92, 117, bl.getD (n / 4096 % 16) 0, bl.getD (n / 256 % 16) 0, bl.getD (n / 16 % 16) 0]
  | _ => un bl n
set_option maxHeartbeats 8000000 in
set_option maxRecDepth 100000 in
theorem unit_any (B : ByteArray) (bl : List UInt8) (n : Nat) (hB : B.size = 16) (hcut : ∀ a, a < 16 → B.extract a (a + 1) = str [bl.getD a 0]) (hn : n < 65536) (w : World) :
    Calls Tryd.prog 43 #[.int .i64 (n : Nat), .string B] w fun e w' => e = .returned (.string (str (un bl n))) ∧ Below w.heap.size w w' := by
  have HN := Lib.hid hn
  have HC := Lib.hid hcut
  have hB1 : (16 : Int) ≤ (B.size : Int) := by omega
  have hB2 : (B.size : Int) ≤ 16 := by omega
  clear hcut hn hB
  go_enter Tryd.func43, Tryd.ntmps43
  go_wp2
  go_loopw [5, 6] (fun o i wr => Hid (Below w.heap.size w wr) ∧ ∃ u : ByteArray, o = .string u ∧ u.size ≤ 6 ∧ ((i = .int .i64 12 ∧ Hid (u = str (unL bl n 0))) ∨ (i = .int .i64 8 ∧ Hid (u = str (unL bl n 1))) ∨ (i = .int .i64 4 ∧ Hid (u = str (unL bl n 2))) ∨
    (i = .int .i64 0 ∧ Hid (u = str (unL bl n 3))) ∨ (i = .int .i64 (-4) ∧ Hid (u = str (unL bl n 4))))) (fun _ i _ => (RowKit.intOf i + 5).toNat)
  case atStart => exact ⟨Below.refl _ _, _, rfl, by decide, .inl ⟨rfl, rfl⟩⟩
  case round =>
    obtain ⟨HB, u, rfl, hu, ⟨rfl, HU⟩ | ⟨rfl, HU⟩ | ⟨rfl, HU⟩ | ⟨rfl, HU⟩ | ⟨rfl, HU⟩⟩ := hrel
    · have hlen : u.size = 2 := by rw [HU.out, str_size]; rfl
      obtain ⟨a, ha⟩ : ∃ a, n / 4096 % 16 = a := ⟨_, rfl⟩
      have q1 : bits BinOp.and IntKind.i64 ((n : Int) / 4096) 15 = (a : Int) := by rw [and15]; omega
      have q2 : IntKind.i64.wrap ((a : Int) + 1) = (a : Int) + 1 := IntWalk.i64_in _ (by omega)
      have q3 : (0 : Int) ≤ (a : Int) := by omega
      have q4 : (a : Int) + 1 ≤ (B.size : Int) := by omega
      have q5 : (a : Int) ≤ (a : Int) + 1 := by omega
      have HA := Lib.hid ha
      have hex := HC.out a (by omega)
      have HEX := Lib.hid hex
      obtain ⟨x, hx⟩ : ∃ x, B.extract a (a + 1) = x := ⟨_, rfl⟩
      have HX := Lib.hid hx
      have hxs : x.size ≤ 1 := by rw [← hx, hex, str_size]; simp
      have HUL := Lib.hid hlen
      clear ha hex hlen
      go_wp2
      go_region
      go_wp2
      refine ⟨⟨HB.out.drew, u ++ x, rfl, by rw [ByteArray.size_append]; have := HUL.out; omega, .inr (.inl ⟨rfl, ?_⟩)⟩, by simp [RowKit.intOf]⟩
      show u ++ x = str (unL bl n 1)
      rw [HU.out, ← HX.out, HEX.out, str_cat, ← HA.out]
      rfl
    · have hlen : u.size = 3 := by rw [HU.out, str_size]; rfl
      obtain ⟨a, ha⟩ : ∃ a, n / 256 % 16 = a := ⟨_, rfl⟩
      have q1 : bits BinOp.and IntKind.i64 ((n : Int) / 256) 15 = (a : Int) := by rw [and15]; omega
      have q2 : IntKind.i64.wrap ((a : Int) + 1) = (a : Int) + 1 := IntWalk.i64_in _ (by omega)
      have q3 : (0 : Int) ≤ (a : Int) := by omega
      have q4 : (a : Int) + 1 ≤ (B.size : Int) := by omega
      have q5 : (a : Int) ≤ (a : Int) + 1 := by omega
      have HA := Lib.hid ha
      have hex := HC.out a (by omega)
      have HEX := Lib.hid hex
      obtain ⟨x, hx⟩ : ∃ x, B.extract a (a + 1) = x := ⟨_, rfl⟩
      have HX := Lib.hid hx
      have hxs : x.size ≤ 1 := by rw [← hx, hex, str_size]; simp
      have HUL := Lib.hid hlen
      clear ha hex hlen
      go_wp2
      go_region
      go_wp2
      refine ⟨⟨HB.out.drew, u ++ x, rfl, by rw [ByteArray.size_append]; have := HUL.out; omega, .inr (.inr (.inl ⟨rfl, ?_⟩))⟩, by simp [RowKit.intOf]⟩
      show u ++ x = str (unL bl n 2)
      rw [HU.out, ← HX.out, HEX.out, str_cat, ← HA.out]
      rfl
    · have hlen : u.size = 4 := by rw [HU.out, str_size]; rfl
      obtain ⟨a, ha⟩ : ∃ a, n / 16 % 16 = a := ⟨_, rfl⟩
      have q1 : bits BinOp.and IntKind.i64 ((n : Int) / 16) 15 = (a : Int) := by rw [and15]; omega
      have q2 : IntKind.i64.wrap ((a : Int) + 1) = (a : Int) + 1 := IntWalk.i64_in _ (by omega)
      have q3 : (0 : Int) ≤ (a : Int) := by omega
      have q4 : (a : Int) + 1 ≤ (B.size : Int) := by omega
      have q5 : (a : Int) ≤ (a : Int) + 1 := by omega
      have HA := Lib.hid ha
      have hex := HC.out a (by omega)
      have HEX := Lib.hid hex
      obtain ⟨x, hx⟩ : ∃ x, B.extract a (a + 1) = x := ⟨_, rfl⟩
      have HX := Lib.hid hx
      have hxs : x.size ≤ 1 := by rw [← hx, hex, str_size]; simp
      have HUL := Lib.hid hlen
      clear ha hex hlen
      go_wp2
      go_region
      go_wp2
      refine ⟨⟨HB.out.drew, u ++ x, rfl, by rw [ByteArray.size_append]; have := HUL.out; omega, .inr (.inr (.inr (.inl ⟨rfl, ?_⟩)))⟩, by simp [RowKit.intOf]⟩
      show u ++ x = str (unL bl n 3)
      rw [HU.out, ← HX.out, HEX.out, str_cat, ← HA.out]
      rfl
    · have hlen : u.size = 5 := by rw [HU.out, str_size]; rfl
      obtain ⟨a, ha⟩ : ∃ a, n % 16 = a := ⟨_, rfl⟩
      have q1 : bits BinOp.and IntKind.i64 ((n : Int)) 15 = (a : Int) := by rw [and15]; omega
      have q2 : IntKind.i64.wrap ((a : Int) + 1) = (a : Int) + 1 := IntWalk.i64_in _ (by omega)
      have q3 : (0 : Int) ≤ (a : Int) := by omega
      have q4 : (a : Int) + 1 ≤ (B.size : Int) := by omega
      have q5 : (a : Int) ≤ (a : Int) + 1 := by omega
      have HA := Lib.hid ha
      have hex := HC.out a (by omega)
      have HEX := Lib.hid hex
      obtain ⟨x, hx⟩ : ∃ x, B.extract a (a + 1) = x := ⟨_, rfl⟩
      have HX := Lib.hid hx
      have hxs : x.size ≤ 1 := by rw [← hx, hex, str_size]; simp
      have HUL := Lib.hid hlen
      clear ha hex hlen
      go_wp2
      go_region
      go_wp2
      refine ⟨⟨HB.out.drew, u ++ x, rfl, by rw [ByteArray.size_append]; have := HUL.out; omega, .inr (.inr (.inr (.inr ⟨rfl, ?_⟩)))⟩, by simp [RowKit.intOf]⟩
      show u ++ x = str (unL bl n 4)
      rw [HU.out, ← HX.out, HEX.out, str_cat, ← HA.out]
      rfl
    · go_wp2
      go_ret
      exact ⟨by rw [HU.out]; rfl, HB.out⟩
theorem sm_size : smS.size = 16 := rfl
theorem gr_size : grS.size = 16 := rfl
theorem sm_cut (a : Nat) (h : a < 16) : smS.extract a (a + 1) = str [smL.getD a 0] := by
  have : ∀ m : Fin 16, smS.extract m.val (m.val + 1) = str [smL.getD m.val 0] := by decide +kernel
  exact this ⟨a, h⟩
theorem gr_cut (a : Nat) (h : a < 16) : grS.extract a (a + 1) = str [grL.getD a 0] := by
  have : ∀ m : Fin 16, grS.extract m.val (m.val + 1) = str [grL.getD m.val 0] := by decide +kernel
  exact this ⟨a, h⟩
end Go.Proofs.YtoifjbhjclglmaaDoor
