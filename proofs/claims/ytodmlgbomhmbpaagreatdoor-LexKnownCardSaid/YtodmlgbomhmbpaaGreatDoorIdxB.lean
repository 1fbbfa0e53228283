/-
  What is proved here: strings.IndexRune at the bytes that a short literal escapes, for every scalar value; conditions: those that each fact states; and: strings.IndexRune at the bytes that a short literal escapes, at ASCII and at U+FFFD, and put together for every scalar value; conditions: those that each fact states.
-/
import Derived.Test.YtodmlgbomhmbpaaGreatDoorPut
namespace Go.Proofs.YtodmlgbomhmbpaaGreatDoor
open Go.RowKit Ut Go.Lib

/-- The bytes that a short literal escapes with a letter. -/
def escB : List UInt8 := [34, 92, 8, 12, 10, 13, 9]
theorem ib_hi : ∀ (l : List UInt8), (∀ x ∈ l, x.toNat < 128) → ∀ y : UInt8, 128 ≤ y.toNat → Lib.indexByte l y = -1 := by
  intro l
  induction l with
  | nil => intro _ y _; rfl
  | cons a r ih =>
    intro h y hy
    have h1 := ih (fun x hx => h x (List.mem_cons_of_mem _ hx)) y hy
    have ha := h a (List.mem_cons_self ..)
    have hne : a ≠ y := by intro e; subst e; omega
    unfold Lib.indexByte
    simp [hne, h1]

theorem quiet_more {P : Program} {f : FuncId} {args : Array Value} {w : World} {a n : Nat} {v : Value} (h : Calls P f args (w.drewN (a + n)) fun e w' => e = .returned v ∧ w' = w.drewN (a + n)) :
    Calls P f args (w.drewN (a + n)) fun e w' => e = .returned v ∧ ∃ m, w' = w.drewN (a + m) := by
  refine h.mono ?_
  rintro e w' ⟨he, hw⟩
  exact ⟨he, n, hw⟩
theorem ib_call (s : ByteArray) (y : UInt8) (hs : ∀ x ∈ s.data.toList, x.toNat < 128) (hy : 128 ≤ y.toNat) (W : World) :
    Calls Tryz.prog 51 #[.string s, .int .u8 (y.toNat : Int)] W fun e w' => e = .returned (.int .i64 (-1)) ∧ w' = W := by
  have C := Tryz.strings_IndexByte s (y.toNat : Int) W
  rw [ib_hi s.data.toList hs _ (by simp [Nat.toUInt8]; exact hy)] at C
  exact C

end Go.Proofs.YtodmlgbomhmbpaaGreatDoor
namespace Go.Proofs.YtodmlgbomhmbpaaGreatDoor
open Go.RowKit Ut Go.Lib

def escS0 : ByteArray := ⟨#[34, 92, 8, 12, 10, 13, 9]⟩
theorem esc_next (w : World) (k pos : Nat) (ty : TypeId) (hk : w.heap[k]? = some (.stringIter ⟨#[34, 92, 8, 12, 10, 13, 9]⟩ pos)) (h : pos < 7) :
    (Instr.next (.pointer (some ⟨k, 0, none⟩)) true ty).run Tryz.prog w = .ok (.tuple #[.bool true, .int .i64 pos, .int .i32 ((escB.getD pos 0).toNat : Int)]) (w.iterAt k ⟨#[34, 92, 8, 12, 10, 13, 9]⟩ (pos + 1)) := by
  rw [Lib.run_next_any_at w k _ pos ty hk (by exact h)]
  have : Utf8.decode ⟨#[34, 92, 8, 12, 10, 13, 9]⟩ pos = ((escB.getD pos 0).toNat, 1) := by
    rcases (show pos = 0 ∨ pos = 1 ∨ pos = 2 ∨ pos = 3 ∨ pos = 4 ∨ pos = 5 ∨ pos = 6 by omega) with rfl | rfl | rfl | rfl | rfl | rfl | rfl <;> decide
  rw [this]
theorem iter_pos {w : World} {k pos : Nat} {s : ByteArray} (h : w.heap[k]? = some (.stringIter s pos)) : w.iterPos k = pos := by
  simp [World.iterPos, h]
theorem u8_hi (n : Nat) (h : n < 64) : 128 ≤ (UInt8.ofNat (128 + n)).toNat := by
  rw [UInt8.toNat_ofNat']; omega
end Go.Proofs.YtodmlgbomhmbpaaGreatDoor
