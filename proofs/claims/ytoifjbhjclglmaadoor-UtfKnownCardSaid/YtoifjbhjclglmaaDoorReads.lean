/-
  What is proved here: the walk of accordionlaw04.UtfReads; conditions: the library's two tables hold what is laid.
-/
import Derived.Test.YtoifjbhjclglmaaDoorRdG
import Derived.Test.YtoifjbhjclglmaaDoorPlace
namespace Go.Proofs.YtoifjbhjclglmaaDoor
open Go.RowKit Ut Go.Lib

set_option maxHeartbeats 4000000 in
set_option maxRecDepth 1000000 in
theorem utfReads_walk (a : ByteArray) (w : World) (hT : TB w.heap.size w) (ha : a.size ≤ 9223372036854775807) :
    Calls Tryd.prog 4 #[.string a] w fun e w' => e = .returned (.bool true) ∧ Below w.heap.size w w' := by
  have hS0 := St.start hT
  obtain ⟨l, hl⟩ : ∃ l, a.data.toList.take 400 = l := ⟨_, rfl⟩
  have hll : l.length ≤ 400 := by rw [← hl, List.length_take]; omega
  obtain ⟨z, hz⟩ : ∃ z, str l = z := ⟨_, rfl⟩
  have hzd : z.data.toList = l := by rw [← hz, str_data]
  have hzs : z.size ≤ 400 := by rw [← hz, str_size]; exact hll
  obtain ⟨t, n, at_, e0, hr⟩ : ∃ t n at_ e, unq l = (t, n, at_, e) := ⟨_, _, _, _, rfl⟩
  have U1 := fun (W : World) (h : St w W) => unq_S (w0 := w) (w := W) z (by omega) h
  have U2 := fun (W : World) => refUnquote_any z l hzd (by omega) W
  rw [hzd, hr] at U1
  unfold UQ at U2
  rw [hr] at U2
  unfold uR at U1 U2
  dsimp only at U1 U2
  have HU1 := Lib.hid U1
  have HU2 := Lib.hid U2
  have HL := Lib.hid (show str (a.data.toList.take 400) = z by rw [hl, hz])
  have HA := Lib.hid ha
  have b1 : ((n : Int) == (n : Int)) = true := beq_self_eq_true _
  have b2 : ((at_ : Int) == (at_ : Int)) = true := beq_self_eq_true _
  have b3 : ((e0 : Int) == (e0 : Int)) = true := beq_self_eq_true _
  clear U1 U2 hl hll hz hzd hr ha hT
  go_enter Tryd.func4, Tryd.ntmps4
  go_wp2_with (first
    | (go_at_call 11; (with_reducible refine (short_S (w0 := w) a 400 400 rfl HA.out (by assumption)).mono ?_); rintro e w1 ⟨rfl, hS1⟩; rw [HL.out])
    | (go_at_call 21; (with_reducible refine (HU1.out _ (by assumption)).mono ?_); rintro e w2 ⟨rfl, hS2⟩)
    | (go_at_call 22; (with_reducible refine (HU2.out _).mono ?_); rintro e w3 ⟨rfl, hb3⟩; have hS3 := hS2.step hb3; clear hb3)
    | (go_at_call 20; refine (works_S (w0 := w) (by assumption)).mono ?_; rintro e w10 ⟨rfl, hS10⟩))
  go_ret
  exact ⟨rfl, (show St w _ by assumption).2⟩
end Go.Proofs.YtoifjbhjclglmaaDoor
