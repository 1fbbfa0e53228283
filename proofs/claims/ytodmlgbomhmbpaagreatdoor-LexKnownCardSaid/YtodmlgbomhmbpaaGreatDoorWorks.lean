/-
  What is proved here: contracts of the laws' helpers comes, reads, fails, works and of accordionref00.Short; conditions: the library's two tables hold what is laid, and those that each fact states.
-/
import Derived.Test.YtodmlgbomhmbpaaGreatDoorQuote
namespace Go.Proofs.YtodmlgbomhmbpaaGreatDoor
open Go.RowKit Ut Go.Lib

/-- Between two calls of a law: the tables hold, and of what was there nothing has turned. -/
def St (w0 w : World) : Prop := TB w0.heap.size w ∧ Below w0.heap.size w0 w
theorem St.start {w : World} (h : TB w.heap.size w) : St w w := ⟨h, Below.refl _ _⟩
theorem St.tb {w0 w : World} (h : St w0 w) : TB w.heap.size w := ⟨Nat.le_trans h.1.1 h.1.2.1, Nat.le_refl _, h.1.2.2⟩
theorem St.step {w0 w w' : World} (h : St w0 w) (hb : Below w.heap.size w w') : St w0 w' := by
  have hb' := hb.mono h.2.size
  exact ⟨h.1.below hb', h.2.trans hb'⟩
def SE (w0 : World) (v : Value) (e : Ending) (w' : World) : Prop := e = .returned v ∧ St w0 w'

theorem bytes_eq {a b : ByteArray} : (a.toList == b.toList) = (a.data.toList == b.data.toList) := by
  rw [Lib.toList_data, Lib.toList_data]

def rdB (s want : ByteArray) (n : Int) : Bool := (unq s.data.toList).1 == want.data.toList && ((unq s.data.toList).2.1 : Int) == n && (unq s.data.toList).2.2.1 == 0 && (unq s.data.toList).2.2.2 == 0
def flB (s : ByteArray) (at_ e : Int) : Bool := (unq s.data.toList).1 == [] && (unq s.data.toList).2.1 == 0 && ((unq s.data.toList).2.2.1 : Int) == at_ && ((unq s.data.toList).2.2.2 : Int) == e
def cmB (s : ByteArray) (r n : Int) : Bool := ((nx s.data.toList).1 : Int) == r && ((nx s.data.toList).2.1 : Int) == n && (nx s.data.toList).2.2 == decide (0 < n)

theorem unq_S {w0 w : World} (s : ByteArray) (hs : s.size ≤ 65536) (hS : St w0 w) : Calls Tryz.prog 55 #[.string s] w (SE w0 (uR (unq s.data.toList))) := by
  refine (unquote_any s w hS.tb hs).mono ?_
  rintro e w' ⟨rfl, hb⟩
  exact ⟨rfl, hS.step hb⟩
theorem q_one : quR [97, 34, 98, 10, 31] = .tuple #[.string ⟨#[34, 97, 92, 34, 98, 92, 110, 92, 117, 48, 48, 49, 102, 34]⟩, .int .i64 0] := by
  have hv : validD [97, 34, 98, 10, 31] = true := by decide +kernel
  unfold quR
  rw [if_pos hv]
  rfl
theorem q_two : quR [195] = .tuple #[.string ⟨#[]⟩, .int .i64 40] := by
  have hv : ¬ (validD [195] = true) := by decide +kernel
  unfold quR
  rw [if_neg hv]
end Go.Proofs.YtodmlgbomhmbpaaGreatDoor
