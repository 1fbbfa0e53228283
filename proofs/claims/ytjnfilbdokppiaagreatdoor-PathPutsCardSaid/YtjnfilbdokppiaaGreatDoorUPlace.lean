/-
  What is proved here: contracts of the laws' helpers comes, reads, fails, works and of accordionref00.Short; conditions: the library's two tables hold what is laid, and those that each fact states; and: the contract of accordionref00.Short, and the walk of accordionlaw04.UtfPlace; conditions: the library's two tables hold what is laid; and: the walk of accordionlaw04.UtfPlace; conditions: the library's two tables hold what is laid.
-/
import Derived.Test.YtjnfilbdokppiaaGreatDoorUQuote
namespace Go.Proofs.YtjnfilbdokppiaaGreatDoor.U
open Go.RowKit Ut Go.Lib

/-- Between two calls of a law: the tables hold, and of what was there nothing has turned. -/
def St (w0 w : World) : Prop := TB w0.heap.size w ∧ Below w0.heap.size w0 w
theorem St.start {w : World} (h : TB w.heap.size w) : St w w := ⟨h, Below.refl _ _⟩
theorem St.tb {w0 w : World} (h : St w0 w) : TB w.heap.size w := ⟨Nat.le_trans h.1.1 h.1.2.1, Nat.le_refl _, h.1.2.2⟩
theorem St.step {w0 w w' : World} (h : St w0 w) (hb : Below w.heap.size w w') : St w0 w' := by
  have hb' := hb.mono h.2.size
  exact ⟨h.1.below hb', h.2.trans hb'⟩
def SE (w0 : World) (v : Value) (e : Ending) (w' : World) : Prop := e = .returned v ∧ St w0 w'

theorem bytes_eq {a b : ByteArray} : (a.toList == b.toList) = (a.data.toList == b.data.toList) := by
  rw [Lib.toList_data, Lib.toList_data]

def rdB (s want : ByteArray) (n : Int) : Bool := (unq s.data.toList).1 == want.data.toList && ((unq s.data.toList).2.1 : Int) == n && (unq s.data.toList).2.2.1 == 0 && (unq s.data.toList).2.2.2 == 0
def flB (s : ByteArray) (at_ e : Int) : Bool := (unq s.data.toList).1 == [] && (unq s.data.toList).2.1 == 0 && ((unq s.data.toList).2.2.1 : Int) == at_ && ((unq s.data.toList).2.2.2 : Int) == e
def cmB (s : ByteArray) (r n : Int) : Bool := ((nx s.data.toList).1 : Int) == r && ((nx s.data.toList).2.1 : Int) == n && (nx s.data.toList).2.2 == decide (0 < n)

theorem unq_S {w0 w : World} (s : ByteArray) (hs : s.size ≤ 65536) (hS : St w0 w) : Calls Tryz.prog 50 #[.string s] w (SE w0 (uR (unq s.data.toList))) := by
  refine (unquote_any s w hS.tb hs).mono ?_
  rintro e w' ⟨rfl, hb⟩
  exact ⟨rfl, hS.step hb⟩
theorem quote_S {w0 w : World} (s : ByteArray) (hs : s.size ≤ 65536) (hS : St w0 w) : Calls Tryz.prog 76 #[.string s] w (SE w0 (quR s.data.toList)) := by
  refine (quote_any s w hS.tb hs).mono ?_
  rintro e w' ⟨rfl, hb⟩
  exact ⟨rfl, hS.step hb⟩
theorem valid_S {w0 w : World} (s : ByteArray) (hs : s.size ≤ 65536) (hS : St w0 w) : Calls Tryz.prog 73 #[.string s] w (SE w0 (.bool (validD s.data.toList))) := by
  refine (valid_any s w hS.1.2.2 (by omega)).mono ?_
  rintro e w' ⟨rfl, hb⟩
  exact ⟨rfl, hS.step hb⟩

theorem q_one : quR [97, 34, 98, 10, 31] = .tuple #[.string ⟨#[34, 97, 92, 34, 98, 92, 110, 92, 117, 48, 48, 49, 102, 34]⟩, .int .i64 0] := by
  have hv : validD [97, 34, 98, 10, 31] = true := by decide +kernel
  unfold quR
  rw [if_pos hv]
  rfl
theorem q_two : quR [195] = .tuple #[.string ⟨#[]⟩, .int .i64 40] := by
  have hv : ¬ (validD [195] = true) := by decide +kernel
  unfold quR
  rw [if_neg hv]
end Go.Proofs.YtjnfilbdokppiaaGreatDoor.U
namespace Go.Proofs.YtjnfilbdokppiaaGreatDoor.U
open Go.RowKit Ut Go.Lib

theorem extract_str (s : ByteArray) (n : Nat) : s.extract 0 n = str (s.data.toList.take n) := by
  unfold str
  cases s with
  | mk a =>
    apply ByteArray.ext
    simp [ByteArray.data_extract]
    apply Array.ext'
    simp
theorem min_take (s : ByteArray) (m : Nat) : s.extract 0 (min (s.size : Int) (m : Int)).toNat = str (s.data.toList.take m) := by
  rw [extract_str]
  have hsz := Lib.size_eq s
  rcases Nat.le_total m s.size with h | h
  · rw [show (min (s.size : Int) (m : Int)).toNat = m by omega]
  · rw [show (min (s.size : Int) (m : Int)).toNat = s.size by omega, hsz, List.take_length, List.take_of_length_le (by omega)]
theorem short_any (s : ByteArray) (m : Nat) (w : World) (hs : s.size ≤ 9223372036854775807) :
    Calls Tryz.prog 18 #[.string s, .int .i64 (m : Int)] w fun e w' => e = .returned (.string (str (s.data.toList.take m))) ∧ w = w' := by
  have HE := Lib.hid (min_take s m)
  go_enter Tryz.func18, Tryz.ntmps18
  go_wp2
  go_ret
  exact ⟨by rw [← HE.out]; rfl, rfl⟩
end Go.Proofs.YtjnfilbdokppiaaGreatDoor.U
namespace Go.Proofs.YtjnfilbdokppiaaGreatDoor.U
open Go.RowKit Ut Go.Lib

theorem str_size (l : List UInt8) : (str l).size = l.length := by simp [str, ByteArray.size]
theorem str_app (a b : List UInt8) : str a ++ str b = str (a ++ b) := by
  unfold str
  apply ByteArray.ext
  simp
theorem cut_str (l : List UInt8) (n : Nat) : (str l).extract 0 n = str (l.take n) := by rw [extract_str, str_data]
theorem short_S {w0 w : World} (l : ByteArray) (m : Int) (n : Nat) (hm : m = (n : Int)) (hs : l.size ≤ 9223372036854775807) (hS : St w0 w) :
    Calls Tryz.prog 18 #[.string l, .int .i64 m] w (SE w0 (.string (str (l.data.toList.take n)))) := by
  subst hm
  refine (short_any l n w hs).mono ?_
  rintro e w' ⟨rfl, rfl⟩
  exact ⟨rfl, hS⟩
end Go.Proofs.YtjnfilbdokppiaaGreatDoor.U
