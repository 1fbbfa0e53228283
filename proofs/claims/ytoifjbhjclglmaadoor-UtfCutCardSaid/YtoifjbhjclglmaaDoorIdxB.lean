/-
  What is proved here: strings.IndexRune at the bytes that a short literal escapes, at ASCII and at U+FFFD, and put together for every scalar value; conditions: those that each fact states.
-/
import Derived.Test.YtoifjbhjclglmaaDoorIdx
namespace Go.Proofs.YtoifjbhjclglmaaDoor
open Go.RowKit Ut Go.Lib

def escS0 : ByteArray := ⟨#[34, 92, 8, 12, 10, 13, 9]⟩
theorem esc_next (w : World) (k pos : Nat) (ty : TypeId) (hk : w.heap[k]? = some (.stringIter ⟨#[34, 92, 8, 12, 10, 13, 9]⟩ pos)) (h : pos < 7) :
    (Instr.next (.pointer (some ⟨k, 0, none⟩)) true ty).run Tryd.prog w = .ok (.tuple #[.bool true, .int .i64 pos, .int .i32 ((escB.getD pos 0).toNat : Int)]) (w.iterAt k ⟨#[34, 92, 8, 12, 10, 13, 9]⟩ (pos + 1)) := by
  rw [Lib.run_next_any_at w k _ pos ty hk (by exact h)]
  have : Utf8.decode ⟨#[34, 92, 8, 12, 10, 13, 9]⟩ pos = ((escB.getD pos 0).toNat, 1) := by
    rcases (show pos = 0 ∨ pos = 1 ∨ pos = 2 ∨ pos = 3 ∨ pos = 4 ∨ pos = 5 ∨ pos = 6 by omega) with rfl | rfl | rfl | rfl | rfl | rfl | rfl <;> decide
  rw [this]
theorem iter_pos {w : World} {k pos : Nat} {s : ByteArray} (h : w.heap[k]? = some (.stringIter s pos)) : w.iterPos k = pos := by
  simp [World.iterPos, h]
set_option maxHeartbeats 1000000 in
set_option maxRecDepth 1000000 in
theorem idx_bad (w : World) :
    Calls Tryd.prog 45 #[.string ⟨#[34, 92, 8, 12, 10, 13, 9]⟩, .int .i32 65533] w fun e w' => e = .returned (.int .i64 (-1)) ∧ Below w.heap.size w w' := by
  go_enter Tryd.func45, Tryd.ntmps45
  go_wp2
  go_loopw [] (fun wr => ∃ pos, pos ≤ 7 ∧ wr.heap[w.heap.size]? = some (.stringIter ⟨#[34, 92, 8, 12, 10, 13, 9]⟩ pos) ∧ Below w.heap.size w wr) (fun wr => 7 - wr.iterPos w.heap.size)
  case atStart => exact ⟨0, by omega, World.iter_heap w _ 0, (Below.refl _ _).alloc (Nat.le_refl _) _⟩
  case round =>
    obtain ⟨pos, hp, hit, hb⟩ := hrel
    have hpos := hit
    by_cases h7 : pos < 7
    · have hnx : ∀ ty, (Instr.next (.pointer (some ⟨w.heap.size, 0, none⟩)) true ty).run Tryd.prog wr = _ := fun ty => esc_next wr w.heap.size pos ty hit h7
      have hit2 := Lib.iterAt_heap wr w.heap.size _ pos (pos + 1) hit
      have hb2 := Lib.below_iterAt hb (k := w.heap.size) (Nat.le_refl _) ⟨#[34, 92, 8, 12, 10, 13, 9]⟩ (pos + 1)
      have hne : ((((escB.getD pos 0).toNat : Nat) : Int) == 65533) = false := by
        rcases (show pos = 0 ∨ pos = 1 ∨ pos = 2 ∨ pos = 3 ∨ pos = 4 ∨ pos = 5 ∨ pos = 6 by omega) with rfl | rfl | rfl | rfl | rfl | rfl | rfl <;> decide
      obtain ⟨X, hX⟩ : ∃ X : Int, (((escB.getD pos 0).toNat : Nat) : Int) = X := ⟨_, rfl⟩
      rw [hX] at hne
      simp only [hX] at hnx
      have H2 := Lib.hid hit2
      have HB2 := Lib.hid hb2
      have HI := Lib.hid hit
      clear hit2 hb2 hit hpos hX hb
      go_wp2
      refine ⟨⟨pos + 1, by omega, H2.out, HB2.out⟩, ?_⟩
      have e1 := iter_pos H2.out
      have e2 := iter_pos HI.out
      rw [e1, e2]
      omega
    · have hnx : ∀ ty, (Instr.next (.pointer (some ⟨w.heap.size, 0, none⟩)) true ty).run Tryd.prog wr = _ := fun ty => Lib.run_next_end_at wr w.heap.size _ pos ty hit (by exact h7)
      have HB := Lib.hid hb
      clear hb hit hpos
      go_wp2
      go_ret
      exact ⟨rfl, HB.out⟩

theorem idx_ascii (r : Nat) (w : World) (h : r < 128) :
    Calls Tryd.prog 45 #[.string ⟨#[34, 92, 8, 12, 10, 13, 9]⟩, .int .i32 (r : Int)] w fun e w' => e = .returned (.int .i64 (Lib.indexByte escB (UInt8.ofNat r))) ∧ Below w.heap.size w w' := by
  refine (Tryd.strings_IndexRune_ascii ⟨#[34, 92, 8, 12, 10, 13, 9]⟩ (r : Int) w (by omega) (by omega)).mono ?_
  rintro e w' ⟨rfl, rfl⟩
  exact ⟨rfl, Below.refl _ _⟩
theorem u8_hi (n : Nat) (h : n < 64) : 128 ≤ (UInt8.ofNat (128 + n)).toNat := by
  rw [UInt8.toNat_ofNat']; omega
theorem idx_high (r : Nat) (w : World) (h : scal r) (h128 : 128 ≤ r) :
    Calls Tryd.prog 45 #[.string ⟨#[34, 92, 8, 12, 10, 13, 9]⟩, .int .i32 (r : Int)] w fun e w' => e = .returned (.int .i64 (-1)) ∧ Below w.heap.size w w' := by
  by_cases hb : r = 65533
  · subst hb; exact idx_bad w
  · have hs := h
    unfold scal at hs
    have hv : Lib.validRune (r : Int) = true := by unfold Lib.validRune; simp; omega
    have he := encode_enc h
    have g0 : decide (0 ≤ (r : Int)) = true := decide_eq_true (by omega)
    have g1 : decide ((r : Int) < 128) = false := decide_eq_false (by omega)
    have g2 : ((r : Int) == 65533) = false := by simp; omega
    unfold enc encN at he
    rw [if_neg (by omega)] at he
    by_cases h2 : r < 2048
    · rw [if_pos h2] at he
      exact idx_2 (r : Int) w _ _ g0 g1 g2 hv he (u8_hi _ (by omega))
    · rw [if_neg h2] at he
      by_cases h3 : r < 65536
      · rw [if_pos h3] at he
        exact idx_3 (r : Int) w _ _ _ g0 g1 g2 hv he (u8_hi _ (by omega))
      · rw [if_neg h3] at he
        exact idx_4 (r : Int) w _ _ _ _ g0 g1 g2 hv he (u8_hi _ (by omega))
end Go.Proofs.YtoifjbhjclglmaaDoor
