/-
  What is proved here: the specification of layer 2 as Lean functions (class, element type and number of elements of a type, widths, tags) and plain facts on them; no condition but those that each fact states.
-/
import Derived.Test.YtaeboneddndfkaaDoorRows
namespace Go.Proofs.YtaeboneddndfkaaDoor
namespace Tg
/-- class, element type, number of elements of the types 0 to 36. -/
def props : List (Int × Int × Int) := [(1,0,0), (1,0,0), (1,0,0), (0,0,0), (2,0,0), (2,0,0), (2,0,0), (2,0,0), (0,0,0), (2,0,0), (2,0,0), (3,1,0), (3,2,0), (0,0,0), (3,4,0), (0,0,0), (4,1,2), (4,2,2), (0,0,0), (4,1,3), (4,2,3), (0,0,0), (4,1,4), (4,2,4), (0,0,0), (2,0,0), (1,0,0), (0,0,0), (0,0,0), (0,0,0), (0,0,0), (0,0,0), (0,0,0), (0,0,0), (0,0,0), (0,0,0), (3,26,0)]
def prop (t : Int) : Int × Int × Int := if 0 ≤ t then props.getD t.toNat (0, 0, 0) else (0, 0, 0)
def cls (t : Int) : Int := (prop t).1
def elm (t : Int) : Int := (prop t).2.1
def mny (t : Int) : Int := (prop t).2.2
def legal (t : Int) : Bool := cls t != 0
def inl (t : Int) : Bool := cls t == 1
def isV (t : Int) : Bool := cls t == 3 || cls t == 4
/-- the code of a width, or 4. -/
def code (w : Int) : Int := if w = 1 then 0 else if w = 2 then 1 else if w = 4 then 2 else if w = 8 then 3 else 4
def wid (c : Int) : Int := if c = 0 then 1 else if c = 1 then 2 else if c = 2 then 4 else 8
def packC (t w : Int) : Int := if legal t = true ∧ code w < 4 then 4 * t + code w else 0
def packE (t w : Int) : Int := if legal t = true then (if code w < 4 then 0 else 2) else 20
def unT (c : Int) : Int := if legal (c / 4) = true then c / 4 else 0
def unW (c : Int) : Int := if legal (c / 4) = true then wid (c % 4) else 0
def unE (c : Int) : Int := if legal (c / 4) = true then 0 else 20
/-- the vector types: elements, number, type. -/
def vecs : List ((Int × Int) × Int) := [((1,0),11), ((2,0),12), ((4,0),14), ((26,0),36), ((1,2),16), ((2,2),17), ((1,3),19), ((2,3),20), ((1,4),22), ((2,4),23)]
def typT (e m : Int) : Int := ((vecs.find? fun p => p.1 == (e, m)).map (·.2)).getD 0
def typB (e m : Int) : Bool := (vecs.find? fun p => p.1 == (e, m)).isSome

theorem prop_out {t : Int} (h : t < 0 ∨ 37 ≤ t) : prop t = (0, 0, 0) := by
  unfold prop
  rcases h with h | h
  · rw [if_neg (by omega)]
  · rw [if_pos (by omega), List.getD_eq_getElem?_getD, List.getElem?_eq_none (by show 37 ≤ t.toNat; omega)]; rfl
theorem prop_nat (k : Nat) : prop (k : Int) = props.getD k (0, 0, 0) := by
  unfold prop
  rw [if_pos (by omega), Int.toNat_natCast]
theorem in_or {t : Int} : (t < 0 ∨ 37 ≤ t) ∨ ∃ k : Nat, t = k ∧ k < 37 := by
  rcases Int.lt_or_le t 0 with h | h
  · exact .inl (.inl h)
  · rcases Int.lt_or_le t 37 with h' | h'
    · exact .inr ⟨t.toNat, by omega, by omega⟩
    · exact .inl (.inr h')
theorem legal_in {t : Int} (h : legal t = true) : 0 ≤ t ∧ t < 37 := by
  rcases in_or (t := t) with h' | ⟨k, rfl, hk⟩
  · rw [legal, cls, prop_out h'] at h; exact absurd h (by decide)
  · omega
theorem all37 {p : Nat → Bool} (h : (List.range 37).all p = true) {k : Nat} (hk : k < 37) : p k = true := List.all_eq_true.1 h k (List.mem_range.2 hk)
theorem prop_bd (t : Int) : 0 ≤ cls t ∧ cls t ≤ 4 ∧ 0 ≤ elm t ∧ elm t ≤ 26 ∧ 0 ≤ mny t ∧ mny t ≤ 4 := by
  rcases in_or (t := t) with h' | ⟨k, rfl, hk⟩
  · simp [cls, elm, mny, prop_out h']
  · have := all37 (p := fun k => decide (0 ≤ cls k ∧ cls k ≤ 4 ∧ 0 ≤ elm k ∧ elm k ≤ 26 ∧ 0 ≤ mny k ∧ mny k ≤ 4)) (by decide +kernel) hk
    simpa using this
theorem code_cases (w : Int) : (w = 1 ∧ code w = 0) ∨ (w = 2 ∧ code w = 1) ∨ (w = 4 ∧ code w = 2) ∨ (w = 8 ∧ code w = 3) ∨ (w ≠ 1 ∧ w ≠ 2 ∧ w ≠ 4 ∧ w ≠ 8 ∧ code w = 4) := by
  unfold code
  split
  · omega
  · split
    · omega
    · split
      · omega
      · split <;> omega
end Tg
end Go.Proofs.YtaeboneddndfkaaDoor
