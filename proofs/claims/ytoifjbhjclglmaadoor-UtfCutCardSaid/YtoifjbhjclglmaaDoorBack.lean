/-
  What is proved here: the walk of accordionlaw04.UtfBack; conditions: the library's two tables hold what is laid.
-/
import Derived.Test.YtoifjbhjclglmaaDoorRuneOf
import Derived.Test.YtoifjbhjclglmaaDoorEnc
namespace Go.Proofs.YtoifjbhjclglmaaDoor
open Go.RowKit Ut Go.Lib

theorem txt_cons (i : Int) (l : List Int) : txt (i :: l) = enc (rn i) ++ txt l := by simp [txt]
theorem txt_valid (l : List Int) : validD (txt l) = true := by
  unfold validD
  induction l with
  | nil => rfl
  | cons i l ih =>
    rw [txt_cons, List.length_append, Nat.add_comm]
    exact valid_enc (rn_scal i) _ _ (Nat.le_refl _) ih
def itemsL (l : List Int) : List UInt8 := l.flatMap fun i => itemR (rn i)
theorem items_txt (l : List Int) : ((txt l).flatMap fun b => itemN b.toNat) = itemsL l := by
  induction l with
  | nil => rfl
  | cons i l ih =>
    rw [txt_cons, List.flatMap_append, ih, ← item_enc (rn_scal i)]
    simp [itemsL]
theorem go_items (l : List Int) : ∀ (t r : List UInt8) (h k : Nat), go (Q1 t h) (itemsL l ++ r) k = go (Q1 (t ++ txt l) h) r (k + (itemsL l).length) := by
  induction l with
  | nil => intro t r h k; simp [itemsL, txt]
  | cons i l ih =>
    intro t r h k
    have e : itemsL (i :: l) = itemR (rn i) ++ itemsL l := by simp [itemsL]
    rw [e, List.append_assoc, go_item (rn_scal i), ih, txt_cons, List.append_assoc, List.length_append, Nat.add_assoc]
theorem go_close (t : List UInt8) (h : Nat) (r : List UInt8) (k : Nat) : go (Q1 t h) (34 :: r) k = (t, k + 1, 0, 0) := by
  rw [go_step (by show 1 ≠ 8; decide) (show Ut.step (Q1 t h) 34 = (⟨8, t, [], 0, 0, h⟩, 0) from rfl), go_8 rfl]
theorem unq_open (r : List UInt8) : unq (34 :: r) = go (Q1 [] 0) r 1 := by
  unfold unq
  rw [go_step (by decide) (show Ut.step q0 34 = (Q1 [] 0, 0) from rfl)]
theorem unq_quo (l : List Int) (b : List UInt8) : unq (quo (txt l) ++ b) = (txt l, (quo (txt l)).length, 0, 0) := by
  unfold quo
  rw [items_txt]
  rw [List.cons_append, List.cons_append, unq_open, List.append_assoc, go_items, List.cons_append, List.nil_append, go_close]
  simp
  omega
theorem quo_len (l : List UInt8) : (quo l).length ≤ 6 * l.length + 2 := by
  unfold quo
  have := items_len l
  simp only [List.cons_append, List.length_cons, List.length_append, List.length_nil]
  omega

set_option maxHeartbeats 2000000 in
set_option maxRecDepth 1000000 in
theorem utfBack_walk (v : Value) (xs : List Int) (b : ByteArray) (w : World) (hT : TB w.heap.size w) (hv : RdI w v xs) (hb : b.size ≤ 9223372036854775807) :
    Calls Tryd.prog 5 #[v, .string b] w fun e w' => e = .returned (.bool true) ∧ Below w.heap.size w w' := by
  have hS0 := St.start hT
  obtain ⟨T, hTe⟩ : ∃ T, txt (xs.take 60) = T := ⟨_, rfl⟩
  have hTl : T.length ≤ 240 := by
    have := txt_len (xs.take 60)
    rw [hTe, List.length_take] at this
    omega
  have hq : quR T = .tuple #[.string (str (quo T)), .int .i64 0] := by
    unfold quR
    rw [if_pos (by rw [← hTe]; exact txt_valid _)]
  have hql := quo_len T
  have hqs : (str (quo T)).size ≤ 1500 := by rw [str_size]; omega
  have hbs : (str (b.data.toList.take 60)).size ≤ 60 := by rw [str_size, List.length_take]; omega
  have hrd : rdB (str (quo T) ++ str (b.data.toList.take 60)) (str T) ((str (quo T)).size : Int) = true := by
    unfold rdB
    rw [str_app, str_data, str_size, ← hTe, unq_quo, str_data]
    simp
  have hrs : (str (quo T) ++ str (b.data.toList.take 60)).size ≤ 65536 := by rw [str_app, str_size, List.length_append, List.length_take]; omega
  have HV := Lib.hid hv
  have HTE := Lib.hid hTe
  have HTL := Lib.hid hTl
  have HQ := Lib.hid hq
  have HVA := Lib.hid (show validD (str T).data.toList = true by rw [str_data, ← hTe]; exact txt_valid _)
  have HRD := Lib.hid hrd
  have HRS := Lib.hid hrs
  have HB := Lib.hid hb
  clear hv hTe hTl hq hrd hrs hb hT hql
  go_enter Tryd.func5, Tryd.ntmps5
  go_wp2_with (first
    | (go_at_call 20; refine (works_S (w0 := w) (by assumption)).mono ?_; rintro e w1 ⟨rfl, hS1⟩)
    | (go_at_call 23; refine (textOf_any v xs w1 (HV.out.below hS1.2)).mono ?_; rintro e w2 ⟨rfl, rfl⟩; rw [HTE.out])
    | (go_at_call 16; refine (quote_S (w0 := w) (str T) (by rw [str_size]; have := HTL.out; omega) (by assumption)).mono ?_; rintro e w2 ⟨rfl, hS2⟩; rw [str_data, HQ.out])
    | (go_at_call 18; refine (valid_S (w0 := w) (str T) (by rw [str_size]; have := HTL.out; omega) (by assumption)).mono ?_; rintro e w3 ⟨rfl, hS3⟩; rw [HVA.out])
    | (go_at_call 11; (with_reducible refine (short_S (w0 := w) b 60 60 rfl HB.out (by assumption)).mono ?_); rintro e w4 ⟨rfl, hS4⟩)
    | (go_at_call 24; (with_reducible refine (reads_S (w0 := w) _ _ _ HRD.out HRS.out (by assumption)).mono ?_); rintro e w5 ⟨rfl, hS5⟩))
  go_ret
  exact ⟨rfl, (show St w _ by assumption).2⟩
end Go.Proofs.YtoifjbhjclglmaaDoor
