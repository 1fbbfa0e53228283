/-
  What is proved here: the byte order of encodings is the order of the numbers; no program in this text; no condition; and: the walk of accordionlaw04.UtfRunes; conditions: the library's two tables hold what is laid.
-/
import Derived.Test.YtodmlgbomhmbpaaGreatDoorEnc
import Derived.Test.YtodmlgbomhmbpaaGreatDoorBack
namespace Go.Proofs.YtodmlgbomhmbpaaGreatDoor
namespace Ut
open Go.Lib

theorem less_head {a b : Nat} (ha : a < 256) (hb : b < 256) (s t : List UInt8) : Op.bytesLess (UInt8.ofNat a :: s) (UInt8.ofNat b :: t) = (decide (a < b) || (decide (a = b) && Op.bytesLess s t)) := by
  have h1 := ofNat_toNat ha
  have h2 := ofNat_toNat hb
  show (decide (UInt8.ofNat a < UInt8.ofNat b) || (UInt8.ofNat a == UInt8.ofNat b && Op.bytesLess s t)) = _
  by_cases h : a < b
  · have : UInt8.ofNat a < UInt8.ofNat b := by rw [UInt8.lt_iff_toNat_lt]; omega
    simp [this, h]
  · by_cases he : a = b
    · subst he
      simp
    · have h3 : ¬ (UInt8.ofNat a < UInt8.ofNat b) := by rw [UInt8.lt_iff_toNat_lt]; omega
      have h5 : UInt8.ofNat a ≠ UInt8.ofNat b := by intro h6; rw [h6] at h1; omega
      simp [h3, h5, h, he]
theorem less_nil (t : List UInt8) : Op.bytesLess [] t = !t.isEmpty := by cases t <;> simp [Op.bytesLess]
theorem less_enc (a b : Nat) (ha : a ≤ 1114111) (hb : b ≤ 1114111) : Op.bytesLess (enc a) (enc b) = decide (a < b) := by
  have h1 := enc_shape a
  have h2 := enc_shape b
  revert h1 h2
  generalize enc a = s
  generalize enc b = t
  intro h1 h2
  cases h1 <;> cases h2
  all_goals
    repeat rw [less_head (by omega) (by omega)]
    try rw [less_nil]
    rw [Bool.eq_iff_iff]
    simp <;> omega
end Ut
end Go.Proofs.YtodmlgbomhmbpaaGreatDoor
namespace Go.Proofs.YtodmlgbomhmbpaaGreatDoor
open Go.RowKit Ut Go.Lib

theorem nx_enc {r : Nat} (hs : scal r) (t : List UInt8) : nx (enc r ++ t) = (r, (enc r).length, true) := by
  have hl := enc_len r
  have hne : enc r ++ t ≠ [] := by intro h0; have := congrArg List.length h0; rw [List.length_append, List.length_nil] at this; omega
  have hd : dec (enc r ++ t) = (r, (enc r).length) := by unfold dec; rw [if_neg hne, decode_enc hs]
  unfold nx
  rw [hd, if_neg ?_]
  intro h1
  dsimp only at h1
  obtain ⟨h2, h3⟩ := h1
  subst h2
  revert h3
  decide
def lastS (ys : List Int) : Nat → ByteArray
  | 0 => ⟨#[]⟩
  | k + 1 => str (enc (rn (ys.getD k 0)))
theorem lastS_one {ys : List Int} {k : Nat} {x : Int} {r : Nat} {E : ByteArray} (hx : ys[k]? = some x) (hr : rn x = r) (hE : str (enc r) = E) : lastS ys (k + 1) = E := by
  show str (enc (rn (ys.getD k 0))) = _
  rw [List.getD_eq_getElem?_getD, hx]
  show str (enc (rn x)) = _
  rw [hr, hE]
def UR (w : World) (ys : List Int) (s last i : Value) (wr : World) : Prop :=
  ∃ k : Nat, k ≤ ys.length ∧ i = .int .i64 k ∧ s = .string (str (txt (ys.drop k))) ∧ last = .string (lastS ys k) ∧ Hid (St w wr)
theorem cut_from (a b : List UInt8) (n m : Nat) (hn : a.length = n) (hm : (a ++ b).length = m) : (str (a ++ b)).extract n m = str b := by
  subst hn; subst hm
  unfold str
  apply ByteArray.ext
  simp

end Go.Proofs.YtodmlgbomhmbpaaGreatDoor
