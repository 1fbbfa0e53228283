/-
  What is proved here: the contracts of accordionref00.Bring at the number of scalar values, of accordionlaw04.runeOf and textOf; conditions: those that each fact states.
-/
import Derived.Test.YtodmlgbomhmbpaaGreatDoorPlace
namespace Go.Proofs.YtodmlgbomhmbpaaGreatDoor
open Go.RowKit Ut Go.Lib

/-- A slice value that reads as a list of numbers. -/
def RdI (w : World) (v : Value) (xs : List Int) : Prop :=
  ∃ A n c, v = .slice A n c ∧ xs.length = n ∧ n ≤ 9223372036854775807 ∧ (0 < n → ∃ b off, A = some ⟨b, off, none⟩ ∧ b < w.heap.size ∧ ∀ j x, xs[j]? = some x → w.cell? ⟨b, off + j, none⟩ = some (.int .i64 x))
theorem RdI.below {w w' : World} {v : Value} {xs : List Int} (h : RdI w v xs) (hb : Below w.heap.size w w') : RdI w' v xs := by
  obtain ⟨A, n, c, rfl, h1, h2, h3⟩ := h
  refine ⟨A, n, c, rfl, h1, h2, fun hn => ?_⟩
  obtain ⟨b, off, rfl, hlt, hc⟩ := h3 hn
  exact ⟨b, off, rfl, Nat.lt_of_lt_of_le hlt hb.size, fun j x hx => (hb.cell (p := ⟨b, off + j, none⟩) hlt).trans (hc j x hx)⟩

theorem w64 {x : Int} (h0 : -9223372036854775808 ≤ x) (h1 : x ≤ 9223372036854775807) : wrap64 x = x := by unfold wrap64; omega
theorem w32 {x : Int} (h0 : -2147483648 ≤ x) (h1 : x ≤ 2147483647) : wrap32 x = x := by unfold wrap32; omega

/-- The scalar value that a number stands for. -/
def brg (i : Int) : Nat := (i % 1112064).toNat
def rn (i : Int) : Nat := if brg i < 55296 then brg i else brg i + 2048
theorem brg_lt (i : Int) : brg i < 1112064 := by unfold brg; omega
theorem rn_scal (i : Int) : scal (rn i) := by
  have := brg_lt i
  unfold scal rn
  split <;> omega
theorem brg_tmod (i : Int) : (i.tmod 1112064 < 0 ∧ ((brg i : Nat) : Int) = i.tmod 1112064 + 1112064) ∨ (¬ i.tmod 1112064 < 0 ∧ ((brg i : Nat) : Int) = i.tmod 1112064) := by
  have h := Int.tmod_eq_emod (a := i) (b := 1112064)
  unfold brg
  rw [h]
  split <;> omega

/-- The text of the first numbers. -/
def txt (l : List Int) : List UInt8 := l.flatMap fun i => enc (rn i)
theorem txt_len (l : List Int) : (txt l).length ≤ 4 * l.length := by
  induction l with
  | nil => simp [txt]
  | cons a r ih =>
    have := enc_len (rn a)
    unfold txt at ih ⊢
    rw [List.flatMap_cons, List.length_append, List.length_cons]
    omega
end Go.Proofs.YtodmlgbomhmbpaaGreatDoor
