/-
  What is proved here: the contract of accordionref00.Short, and the walk of accordionlaw04.UtfPlace; conditions: the library's two tables hold what is laid; and: the walk of accordionlaw04.UtfPlace; conditions: the library's two tables hold what is laid.
-/
import Derived.Test.YtodmlgbomhmbpaaGreatDoorWorks
namespace Go.Proofs.YtodmlgbomhmbpaaGreatDoor
open Go.RowKit Ut Go.Lib

theorem extract_str (s : ByteArray) (n : Nat) : s.extract 0 n = str (s.data.toList.take n) := by
  unfold str
  cases s with
  | mk a =>
    apply ByteArray.ext
    simp [ByteArray.data_extract]
    apply Array.ext'
    simp
theorem min_take (s : ByteArray) (m : Nat) : s.extract 0 (min (s.size : Int) (m : Int)).toNat = str (s.data.toList.take m) := by
  rw [extract_str]
  have hsz := Lib.size_eq s
  rcases Nat.le_total m s.size with h | h
  · rw [show (min (s.size : Int) (m : Int)).toNat = m by omega]
  · rw [show (min (s.size : Int) (m : Int)).toNat = s.size by omega, hsz, List.take_length, List.take_of_length_le (by omega)]
theorem short_any (s : ByteArray) (m : Nat) (w : World) (hs : s.size ≤ 9223372036854775807) :
    Calls Tryz.prog 10 #[.string s, .int .i64 (m : Int)] w fun e w' => e = .returned (.string (str (s.data.toList.take m))) ∧ w = w' := by
  have HE := Lib.hid (min_take s m)
  go_enter Tryz.func10, Tryz.ntmps10
  go_wp2
  go_ret
  exact ⟨by rw [← HE.out]; rfl, rfl⟩
end Go.Proofs.YtodmlgbomhmbpaaGreatDoor
namespace Go.Proofs.YtodmlgbomhmbpaaGreatDoor
open Go.RowKit Ut Go.Lib

theorem str_size (l : List UInt8) : (str l).size = l.length := by simp [str, ByteArray.size]
theorem str_app (a b : List UInt8) : str a ++ str b = str (a ++ b) := by
  unfold str
  apply ByteArray.ext
  simp
theorem cut_str (l : List UInt8) (n : Nat) : (str l).extract 0 n = str (l.take n) := by rw [extract_str, str_data]
theorem short_S {w0 w : World} (l : ByteArray) (m : Int) (n : Nat) (hm : m = (n : Int)) (hs : l.size ≤ 9223372036854775807) (hS : St w0 w) :
    Calls Tryz.prog 10 #[.string l, .int .i64 m] w (SE w0 (.string (str (l.data.toList.take n)))) := by
  subst hm
  refine (short_any l n w hs).mono ?_
  rintro e w' ⟨rfl, rfl⟩
  exact ⟨rfl, hS⟩
end Go.Proofs.YtodmlgbomhmbpaaGreatDoor
