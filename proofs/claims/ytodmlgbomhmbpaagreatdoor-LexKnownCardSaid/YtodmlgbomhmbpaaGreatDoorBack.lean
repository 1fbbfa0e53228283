/-
  What is proved here: the walk of accordionlaw04.UtfBack; conditions: the library's two tables hold what is laid.
-/
import Derived.Test.YtodmlgbomhmbpaaGreatDoorRuneOf
import Derived.Test.YtodmlgbomhmbpaaGreatDoorEnc
namespace Go.Proofs.YtodmlgbomhmbpaaGreatDoor
open Go.RowKit Ut Go.Lib

theorem txt_cons (i : Int) (l : List Int) : txt (i :: l) = enc (rn i) ++ txt l := by simp [txt]
theorem txt_valid (l : List Int) : validD (txt l) = true := by
  unfold validD
  induction l with
  | nil => rfl
  | cons i l ih =>
    rw [txt_cons, List.length_append, Nat.add_comm]
    exact valid_enc (rn_scal i) _ _ (Nat.le_refl _) ih
def itemsL (l : List Int) : List UInt8 := l.flatMap fun i => itemR (rn i)
theorem items_txt (l : List Int) : ((txt l).flatMap fun b => itemN b.toNat) = itemsL l := by
  induction l with
  | nil => rfl
  | cons i l ih =>
    rw [txt_cons, List.flatMap_append, ih, ← item_enc (rn_scal i)]
    simp [itemsL]
theorem go_items (l : List Int) : ∀ (t r : List UInt8) (h k : Nat), go (Q1 t h) (itemsL l ++ r) k = go (Q1 (t ++ txt l) h) r (k + (itemsL l).length) := by
  induction l with
  | nil => intro t r h k; simp [itemsL, txt]
  | cons i l ih =>
    intro t r h k
    have e : itemsL (i :: l) = itemR (rn i) ++ itemsL l := by simp [itemsL]
    rw [e, List.append_assoc, go_item (rn_scal i), ih, txt_cons, List.append_assoc, List.length_append, Nat.add_assoc]
theorem go_close (t : List UInt8) (h : Nat) (r : List UInt8) (k : Nat) : go (Q1 t h) (34 :: r) k = (t, k + 1, 0, 0) := by
  rw [go_step (by show 1 ≠ 8; decide) (show Ut.step (Q1 t h) 34 = (⟨8, t, [], 0, 0, h⟩, 0) from rfl), go_8 rfl]
theorem unq_open (r : List UInt8) : unq (34 :: r) = go (Q1 [] 0) r 1 := by
  unfold unq
  rw [go_step (by decide) (show Ut.step q0 34 = (Q1 [] 0, 0) from rfl)]
theorem unq_quo (l : List Int) (b : List UInt8) : unq (quo (txt l) ++ b) = (txt l, (quo (txt l)).length, 0, 0) := by
  unfold quo
  rw [items_txt]
  rw [List.cons_append, List.cons_append, unq_open, List.append_assoc, go_items, List.cons_append, List.nil_append, go_close]
  simp
  omega
theorem quo_len (l : List UInt8) : (quo l).length ≤ 6 * l.length + 2 := by
  unfold quo
  have := items_len l
  simp only [List.cons_append, List.length_cons, List.length_append, List.length_nil]
  omega

end Go.Proofs.YtodmlgbomhmbpaaGreatDoor
