/-
  What is proved here: the contract of utf.appendItem: it appends the shortest item of a scalar value; conditions: those that each fact states.
-/
import Derived.Test.YtodmlgbomhmbpaaGreatDoorIdxB
import Derived.Test.YtodmlgbomhmbpaaGreatDoorRune
namespace Go.Proofs.YtodmlgbomhmbpaaGreatDoor
open Go.RowKit Ut Go.Lib

/-- The digits of a control character. -/
def hexB (n : Nat) : UInt8 := [48, 49, 50, 51, 52, 53, 54, 55, 56, 57, 97, 98, 99, 100, 101, 102].getD n 0
/-- The shortest item that denotes a byte. -/
def itemN (n : Nat) : List UInt8 :=
  if n = 34 then [92, 34] else if n = 92 then [92, 92] else if n = 8 then [92, 98] else if n = 12 then [92, 102] else if n = 10 then [92, 110] else if n = 13 then [92, 114] else if n = 9 then [92, 116]
  else if n < 32 then [92, 117, 48, 48, hexB (n / 16), hexB (n % 16)] else [UInt8.ofNat n]
def itemR (r : Nat) : List UInt8 := if r < 128 then itemN r else enc r
def special (n : Nat) : Prop := n = 34 ∨ n = 92 ∨ n = 8 ∨ n = 12 ∨ n = 10 ∨ n = 13 ∨ n = 9
theorem Gr.pre {w w1 w' : World} {v v' : Value} (hb : Below w.heap.size w w1) (h : Gr w1 w' v v') : Gr w w' v v' := by
  obtain ⟨h, hk⟩ := h
  have hs := hb.size
  refine ⟨⟨h.os.trans hb.os, h.tape.trans hb.tape, h.output.trans hb.output, Nat.le_trans hs h.size, fun k hk hne => (h.block k (by omega) hne).trans (hb.block k hk)⟩, ?_⟩
  rcases hk with hk | ⟨k, hk, hl⟩
  · exact Or.inl hk
  · exact Or.inr ⟨k, hk, by omega⟩
theorem own_below' {w w' : World} {B : Nat} {v : Value} {xs : List UInt8} (h : Own w B v xs) (hb : Below w.heap.size w w') : Own w' B v xs := own_below h hb (Nat.le_refl _)
theorem src_list (w : World) (ys : List UInt8) (cs : Array Value) (hcs : cs = (bv ys).toArray) : ∀ j u, (bv ys)[j]? = some u → (w.alloc (.cells cs 5)).cell? ((⟨w.heap.size, 0, none⟩ : Addr).add j) = some u := by
  subst hcs
  exact src_new
/-- What appendItem leaves. -/
def AI (w : World) (B : Nat) (v : Value) (xs ys : List UInt8) (e : Ending) (w' : World) : Prop := ∃ v', e = .returned v' ∧ Own w' B v' (xs ++ ys) ∧ Gr w w' v v'

theorem ib_none {r : Nat} (h : r < 128) (hs : ¬ special r) : Lib.indexByte escB (UInt8.ofNat r) = -1 := by
  have key : ∀ x : Fin 128, ¬ (x.val = 34 ∨ x.val = 92 ∨ x.val = 8 ∨ x.val = 12 ∨ x.val = 10 ∨ x.val = 13 ∨ x.val = 9) → Lib.indexByte escB (UInt8.ofNat x.val) = -1 := by decide +kernel
  exact key ⟨r, h⟩ hs
end Go.Proofs.YtodmlgbomhmbpaaGreatDoor
