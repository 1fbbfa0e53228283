/-
  What is proved here: the contracts of utf.Put, utf.Next, utf.Valid and strings.IndexRune at the escaped bytes; conditions: the library's two tables hold what is laid, and those that each fact states.
-/
import Derived.Test.YtodmlgbomhmbpaaGreatDoorUnq
import Derived.Lib.OthersKept
import Derived.Lib.TrimUEq
import Derived.Lib.MapLaws
import Derived.Shelf.Unicode.ValidAny
namespace Go.Proofs.YtodmlgbomhmbpaaGreatDoor
open Go.RowKit Ut Go.Lib

theorem encode_enc {r : Nat} (h : scal r) : Utf8.encode (r : Int) = str (enc r) := by
  unfold scal at h
  have hv : Utf8.valid (r : Int) = true := by unfold Utf8.valid; simp; omega
  unfold Utf8.encode str enc encN
  rw [hv]
  simp only [if_true, Int.toNat_natCast]
  repeat' split
  all_goals rfl

/-- What Next hands back. -/
def dec (l : List UInt8) : Nat × Nat := if l = [] then (65533, 0) else decodeL l
def nx (l : List UInt8) : Nat × Nat × Bool := if (dec l).1 = 65533 ∧ (dec l).2 ≠ 3 then (0, 0, false) else ((dec l).1, (dec l).2, true)
theorem decodeGo_dec (s : ByteArray) : Lib.decodeGo s = dec s.data.toList := by
  unfold Lib.decodeGo dec
  have hsz := Lib.size_eq s
  by_cases h : s.size = 0
  · rw [if_pos h, if_pos (List.eq_nil_of_length_eq_zero (by omega))]
  · rw [if_neg h, if_neg (by intro h0; apply h; rw [hsz, h0]; rfl)]
    have := decodeL_drop s 0
    rw [List.drop_zero] at this
    exact this.symm
def nxR (r : Nat × Nat × Bool) : Value := .tuple #[.int .i32 (r.1 : Int), .int .i64 (r.2.1 : Int), .bool r.2.2]
end Go.Proofs.YtodmlgbomhmbpaaGreatDoor
