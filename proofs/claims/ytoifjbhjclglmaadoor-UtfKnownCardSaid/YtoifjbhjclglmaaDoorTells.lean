/-
  What is proved here: the walk of accordionlaw04.UtfTells; conditions: the library's two tables hold what is laid.
-/
import Derived.Test.YtoifjbhjclglmaaDoorRefQ
import Derived.Test.YtoifjbhjclglmaaDoorPlace
namespace Go.Proofs.YtoifjbhjclglmaaDoor
open Go.RowKit Ut Go.Lib

theorem quR_shape (l : List UInt8) : ∃ Q E, quR l = .tuple #[.string Q, .int .i64 E] := by
  unfold quR
  split
  · exact ⟨_, _, rfl⟩
  · exact ⟨_, _, rfl⟩
set_option maxHeartbeats 4000000 in
set_option maxRecDepth 1000000 in
theorem tells_gen (a : ByteArray) (r : Int) (w : World) (hT : TB w.heap.size w) (ha : a.size ≤ 9223372036854775807) (X : ByteArray) (H : Bool)
    (P1 : ∀ W, Calls Tryd.prog 14 #[.int .i32 r] W fun e w' => e = .returned (.tuple #[.string X, .bool H]) ∧ W = w')
    (P2 : ∀ W, Calls Tryd.prog 15 #[.int .i32 r] W fun e w' => e = .returned (.tuple #[.string X, .bool H]) ∧ Below W.heap.size W w') :
    Calls Tryd.prog 3 #[.string a, .int .i32 r] w fun e w' => e = .returned (.bool true) ∧ Below w.heap.size w w' := by
  have hS0 := St.start hT
  obtain ⟨l, hl⟩ : ∃ l, a.data.toList.take 400 = l := ⟨_, rfl⟩
  have hll : l.length ≤ 400 := by rw [← hl, List.length_take]; omega
  obtain ⟨z, hz⟩ : ∃ z, str l = z := ⟨_, rfl⟩
  have hzd : z.data.toList = l := by rw [← hz, str_data]
  have hzs : z.size ≤ 400 := by rw [← hz, str_size]; exact hll
  obtain ⟨x, n, is, hn⟩ : ∃ x n is, nx l = (x, n, is) := ⟨_, _, _, rfl⟩
  obtain ⟨Q, E, hQ⟩ := quR_shape l
  obtain ⟨V, hV⟩ : ∃ V, validD l = V := ⟨_, rfl⟩
  have N1 := fun (W : World) (h : St w W) => next_S (w0 := w) (w := W) z h
  have N2 := fun (W : World) => refNext_any z W
  have Q1 := fun (W : World) (h : St w W) => quote_S (w0 := w) (w := W) z (by omega) h
  have Q2 := fun (W : World) => refQuote_any z l hzd (by omega) W
  have V1 := fun (W : World) (h : St w W) => valid_S (w0 := w) (w := W) z (by omega) h
  have V2 := fun (W : World) => refValid_any z W
  rw [hzd, hn] at N1 N2
  rw [hzd] at Q1 V1 V2
  rw [hQ] at Q1 Q2
  rw [hV] at V1 V2
  unfold nxR at N1 N2
  dsimp only at N1 N2
  have HN1 := Lib.hid N1
  have HN2 := Lib.hid N2
  have HQ1 := Lib.hid Q1
  have HQ2 := Lib.hid Q2
  have HV1 := Lib.hid V1
  have HV2 := Lib.hid V2
  have HP1 := Lib.hid P1
  have HP2 := Lib.hid P2
  have HL := Lib.hid (show str (a.data.toList.take 400) = z by rw [hl, hz])
  have HA := Lib.hid ha
  have b1 : ((x : Int) == (x : Int)) = true := beq_self_eq_true _
  have b2 : ((n : Int) == (n : Int)) = true := beq_self_eq_true _
  have b3 : (E == E) = true := beq_self_eq_true _
  clear N1 N2 Q1 Q2 V1 V2 P1 P2 hl hll hz hzd hn hQ hV ha hT
  go_enter Tryd.func3, Tryd.ntmps3
  go_wp2_with (first
    | (go_at_call 11; (with_reducible refine (short_S (w0 := w) a 400 400 rfl HA.out (by assumption)).mono ?_); rintro e w1 ⟨rfl, hS1⟩; rw [HL.out])
    | (go_at_call 12; (with_reducible refine (HN1.out _ (by assumption)).mono ?_); rintro e w2 ⟨rfl, hS2⟩)
    | (go_at_call 13; (with_reducible refine (HN2.out _).mono ?_); rintro e w3 ⟨rfl, hb3⟩; have hS3 := hS2.step hb3; clear hb3)
    | (go_at_call 14; (with_reducible refine (HP1.out _).mono ?_); rintro e w4 ⟨rfl, rfl⟩)
    | (go_at_call 15; (with_reducible refine (HP2.out _).mono ?_); rintro e w5 ⟨rfl, hb5⟩; have hS5 := hS3.step hb5; clear hb5)
    | (go_at_call 16; (with_reducible refine (HQ1.out _ (by assumption)).mono ?_); rintro e w6 ⟨rfl, hS6⟩)
    | (go_at_call 17; (with_reducible refine (HQ2.out _).mono ?_); rintro e w7 ⟨rfl, hb7⟩; have hS7 := hS6.step hb7; clear hb7)
    | (go_at_call 18; (with_reducible refine (HV1.out _ (by assumption)).mono ?_); rintro e w8 ⟨rfl, hS8⟩)
    | (go_at_call 19; (with_reducible refine (HV2.out _).mono ?_); rintro e w9 ⟨rfl, hb9⟩; have hS9 := hS8.step hb9; clear hb9)
    | (go_at_call 20; refine (works_S (w0 := w) (by assumption)).mono ?_; rintro e w10 ⟨rfl, hS10⟩))
  go_ret
  exact ⟨rfl, (show St w _ by assumption).2⟩
theorem utfTells_walk (a : ByteArray) (r : Int) (w : World) (hT : TB w.heap.size w) (ha : a.size ≤ 9223372036854775807) (hr : -2147483648 ≤ r ∧ r ≤ 2147483647) :
    Calls Tryd.prog 3 #[.string a, .int .i32 r] w fun e w' => e = .returned (.bool true) ∧ Below w.heap.size w w' := by
  rcases hv : Lib.validRune r with _ | _
  · exact tells_gen a r w hT ha ⟨#[]⟩ false (fun W => put_no r W hv) (fun W => refPut_no r W hv (by unfold wrap64; omega))
  · have h : (0 ≤ r ∧ r < 55296) ∨ (57343 < r ∧ r ≤ 1114111) := by unfold Lib.validRune at hv; simpa using hv
    obtain ⟨n, rfl⟩ : ∃ n : Nat, r = (n : Int) := ⟨r.toNat, by omega⟩
    have hs : scal n := by unfold scal; omega
    exact tells_gen a n w hT ha (str (enc n)) true (fun W => put_yes n W hs) (fun W => refPut_yes n W hs)
end Go.Proofs.YtoifjbhjclglmaaDoor
