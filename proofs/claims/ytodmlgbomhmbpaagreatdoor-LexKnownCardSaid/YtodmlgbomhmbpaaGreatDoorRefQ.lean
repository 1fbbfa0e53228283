/-
  What is proved here: the contract of the reference's Valid; conditions: those that each fact states; and: the contract of the reference's Quote; condition: a string of at most 60000 bytes.
-/
import Derived.Test.YtodmlgbomhmbpaaGreatDoorRefX
import Derived.BigQuiet
import Derived.Deep.QuietTactic
namespace Go.Proofs.YtodmlgbomhmbpaaGreatDoor
open Go.RowKit Ut Go.Lib

theorem nx_valid {l : List UInt8} (hne : l ≠ []) : (nx l = (0, 0, false) ∧ validD l = false) ∨ (∃ r n : Nat, nx l = (r, n, true) ∧ 0 < n ∧ n ≤ l.length ∧ validD l = validD (l.drop n)) := by
  have hd : dec l = decodeL l := by unfold dec; rw [if_neg hne]
  have hw := decodeL_width l
  by_cases hv : (decodeL l).1 = 65533 ∧ (decodeL l).2 = 1
  · exact Or.inl ⟨by unfold nx; rw [hd, if_pos ⟨hv.1, by omega⟩], by rw [validD_step l hne, if_pos hv]⟩
  · obtain ⟨hsc, henc, hle, h1⟩ := valid_head hne hv
    refine Or.inr ⟨(decodeL l).1, (decodeL l).2, ?_, by omega, hle, by rw [validD_step l hne, if_neg hv]⟩
    have h5 : l = enc (decodeL l).1 ++ l.drop (decodeL l).2 := by rw [henc, List.take_append_drop]
    have hlen : (enc (decodeL l).1).length = (decodeL l).2 := by rw [henc, List.length_take]; omega
    have h8 := nx_enc hsc (l.drop (decodeL l).2)
    rw [← h5, hlen] at h8
    exact h8
theorem cut_at (l : List UInt8) (k n m : Nat) (hn : k + n ≤ l.length) (hm : (l.drop k).length = m) : (str (l.drop k)).extract n m = str (l.drop (k + n)) := by
  have h : l.drop k = (l.drop k).take n ++ l.drop (k + n) := by
    rw [← List.drop_drop, List.take_append_drop]
  have h2 := cut_from ((l.drop k).take n) (l.drop (k + n)) n m (by rw [List.length_take, List.length_drop]; omega) (by rw [← h]; exact hm)
  rw [← h] at h2
  exact h2
def VH (w : World) (l : List UInt8) (v : Value) (wr : World) : Prop := ∃ k, k ≤ l.length ∧ v = .string (str (l.drop k)) ∧ Hid (validD (l.drop k) = validD l) ∧ Hid (Below w.heap.size w wr)
end Go.Proofs.YtodmlgbomhmbpaaGreatDoor
namespace Go.Proofs.YtodmlgbomhmbpaaGreatDoor
open Go.RowKit Ut Go.Lib

def mtS : ByteArray := ⟨#[34, 92, 47, 8, 12, 10, 13, 9]⟩
def mkS : ByteArray := ⟨#[34, 92, 47, 98, 102, 110, 114, 116]⟩
def hxS : ByteArray := ⟨#[48, 49, 50, 51, 52, 53, 54, 55, 56, 57, 97, 98, 99, 100, 101, 102]⟩
def mtL : List UInt8 := [34, 92, 47, 8, 12, 10, 13, 9]
def mkL : List UInt8 := [34, 92, 47, 98, 102, 110, 114, 116]
theorem mt_at (j : Nat) (h8 : j < 8) (h : j < mtS.size) : mtS[j]'h = mtL.getD j 0 := by
  rw [List.getD_eq_getElem?_getD, List.getElem?_eq_getElem (by exact h8)]
  rfl
theorem mk_at (j : Nat) (h8 : j < 8) (h : j < mkS.size) : mkS[j]'h = mkL.getD j 0 := by
  rw [List.getD_eq_getElem?_getD, List.getElem?_eq_getElem (by exact h8)]
  rfl
theorem mk_cut : ∀ m : Fin 8, mkS.extract m.val (m.val + 1) = str [mkL.getD m.val 0] := by decide +kernel
theorem hx_cut : ∀ m : Fin 16, hxS.extract m.val (m.val + 1) = str [hexB m.val] := by decide +kernel
/-- The last short spelling of the byte among the first j. -/
def shV (c : UInt8) : Nat → Int
  | 0 => -1
  | j + 1 => if mtL.getD j 0 = c ∧ mkL.getD j 0 ≠ 47 then (j : Int) else shV c j
def itB (c : UInt8) : Bool :=
  (decide (0 ≤ shV c 8) && decide (shV c 8 < 8) && (itemN c.toNat == [92, mkL.getD (shV c 8).toNat 0])) ||
  (shV c 8 == -1 && decide (c.toNat < 32) && itemN c.toNat == [92, 117, 48, 48, hexB (c.toNat / 16), hexB (c.toNat % 16)]) ||
  (shV c 8 == -1 && decide (32 ≤ c.toNat) && itemN c.toNat == [c])
theorem itB_all : ∀ n : Fin 256, itB (UInt8.ofNat n.val) = true := by decide +kernel
theorem itB_any (c : UInt8) : (∃ m : Nat, m < 8 ∧ shV c 8 = (m : Int) ∧ itemN c.toNat = [92, mkL.getD m 0]) ∨
    (shV c 8 = -1 ∧ c.toNat < 32 ∧ itemN c.toNat = [92, 117, 48, 48, hexB (c.toNat / 16), hexB (c.toNat % 16)]) ∨ (shV c 8 = -1 ∧ 32 ≤ c.toNat ∧ itemN c.toNat = [c]) := by
  have h := itB_all ⟨c.toNat, c.toNat_lt⟩
  rw [UInt8.ofNat_toNat] at h
  unfold itB at h
  simp only [Bool.or_eq_true, Bool.and_eq_true, decide_eq_true_eq, beq_iff_eq] at h
  rcases h with (⟨⟨h1, h2⟩, h3⟩ | ⟨⟨h1, h2⟩, h3⟩) | ⟨⟨h1, h2⟩, h3⟩
  · refine .inl ⟨(shV c 8).toNat, by omega, by omega, h3⟩
  · exact .inr (.inl ⟨h1, h2, h3⟩)
  · exact .inr (.inr ⟨h1, h2, h3⟩)
theorem str_cat (a b : List UInt8) : str a ++ str b = str (a ++ b) := by
  unfold str
  apply ByteArray.ext
  simp
theorem take_item {l : List UInt8} {k : Nat} {c : UInt8} (h : l[k]? = some c) : (l.take (k + 1)).flatMap (fun b => itemN b.toNat) = (l.take k).flatMap (fun b => itemN b.toNat) ++ itemN c.toNat := by
  rw [List.take_add_one, h]
  simp
theorem byteQ {s : ByteArray} {l : List UInt8} {k : Nat} {c : UInt8} (hl : s.data.toList = l) (hc : l[k]? = some c) (hk : k < s.size) : s[k]'hk = c := by
  subst hl
  rw [List.getElem?_eq_some_iff] at hc
  obtain ⟨_, h⟩ := hc
  exact h
theorem cut_one {s : ByteArray} {l : List UInt8} {k : Nat} {c : UInt8} (hl : s.data.toList = l) (hc : l[k]? = some c) : s.extract k (k + 1) = str [c] := by
  subst hl
  have h : (s.extract k (k + 1)).data.toList = [c] := by
    rw [ByteArray.data_extract, Array.toList_extract, List.extract_eq_take_drop, show k + 1 - k = 1 by omega]
    rw [List.getElem?_eq_some_iff] at hc
    obtain ⟨hk, h⟩ := hc
    rw [List.drop_eq_getElem_cons hk, h]
    rfl
  rw [← str_list (s.extract k (k + 1)), h]
theorem u8B {a b : UInt8} (h : a ≠ b) : ((a.toNat : Int) == (b.toNat : Int)) = false := by
  rw [Bool.eq_false_iff, ne_eq, beq_iff_eq]
  intro h2
  exact h (UInt8.toNat_inj.1 (by omega))
theorem u8K {a : UInt8} {n : Nat} (h : a.toNat ≠ n) : ((a.toNat : Int) == (n : Int)) = false ∧ ((a.toNat : Int) != (n : Int)) = true := by
  have : (a.toNat : Int) ≠ (n : Int) := by omega
  simp [this]
theorem u8Y {a : UInt8} {n : Nat} (h : a.toNat = n) : ((a.toNat : Int) == (n : Int)) = true ∧ ((a.toNat : Int) != (n : Int)) = false := by
  have : (a.toNat : Int) = (n : Int) := by omega
  simp [this]
def quS (l : List UInt8) (k : Nat) : List UInt8 := 34 :: (l.take k).flatMap fun b => itemN b.toNat
theorem quS_len (l : List UInt8) (k : Nat) : (quS l k).length ≤ 6 * k + 1 := by
  unfold quS
  have := items_len (l.take k)
  have h2 := List.length_take_le k l
  rw [List.length_cons]
  omega
end Go.Proofs.YtodmlgbomhmbpaaGreatDoor
