/-
  What is proved here: the walks of accordionlaw04.UtfSpelt and UtfCut; conditions: the library's two tables hold what is laid, a cell of the library's own holds a number.
-/
import Derived.Test.YtoifjbhjclglmaaDoorLit
import Derived.Test.YtoifjbhjclglmaaDoorPlace
namespace Go.Proofs.YtoifjbhjclglmaaDoor
open Go.RowKit Ut Go.Lib

set_option maxHeartbeats 4000000 in
set_option maxRecDepth 1000000 in
theorem utfSpelt_walk (v1 : Value) (xs : List Int) (v2 : Value) (ys : List Int) (b : ByteArray) (w : World) (m : Int) (hm : w.cell? ⟨2, 0, none⟩ = some (.int .i64 m)) (hT : TB w.heap.size w) (h1 : RdI w v1 xs) (h2 : RdI w v2 ys) (hb : b.size ≤ 9223372036854775807) :
    Calls Tryd.prog 6 #[v1, v2, .string b] w fun e w' => e = .returned (.bool true) ∧ Below w.heap.size w w' := by
  have hS0 := St.start hT
  obtain ⟨T, hTe⟩ : ∃ T, txt (xs.take 60) = T := ⟨_, rfl⟩
  have hTl : T.length ≤ 240 := by
    have := txt_len (xs.take 60)
    rw [hTe, List.length_take] at this
    omega
  have hq : quR T = .tuple #[.string (str (quo T)), .int .i64 0] := by
    unfold quR
    rw [if_pos (by rw [← hTe]; exact txt_valid _)]
  have HLT := Lib.hid (literal_any v1 v2 xs ys w m hm h1 h2)
  have HV := Lib.hid h1
  have HTE := Lib.hid hTe
  have HTL := Lib.hid hTl
  have HQ := Lib.hid hq
  have HB := Lib.hid hb
  clear h1 h2 hTe hTl hq hb hT hm
  go_enter Tryd.func6, Tryd.ntmps6
  go_wp2_with fail
  refine HLT.out.mono ?_
  rintro e w1 ⟨X, rfl, hp, hb1⟩
  have hX := hp.2.2
  rw [List.length_take] at hX
  obtain ⟨z, hz⟩ : ∃ z, str (34 :: X ++ [34]) = z := ⟨_, rfl⟩
  have hzs : z.size = X.length + 2 := by rw [← hz, str_size]; simp
  have hz2 : z.size ≤ 800 := by omega
  have hrd : rdB (z ++ str (b.data.toList.take 60)) (str T) (z.size : Int) = true := by
    unfold rdB
    rw [← hz, str_app, str_data, lit_unq hp, str_data, HTE.out, hz, hzs]
    simp
  have hrs : (z ++ str (b.data.toList.take 60)).size ≤ 65536 := by rw [ByteArray.size_append, str_size, List.length_take]; omega
  have hbs : (str (b.data.toList.take 60)).size ≤ 60 := by rw [str_size, List.length_take]; omega
  have hql : (str (quo T)).size ≤ z.size := by
    have e : (quo T).length = (itemsL (xs.take 60)).length + 2 := by
      rw [← HTE.out]
      unfold quo
      rw [items_txt]
      simp
    rw [str_size, e, hzs]
    have := hp.2.1
    omega
  have q1 : decide (((str (quo T)).size : Int) ≤ (z.size : Int)) = true := decide_eq_true (by omega)
  have q1' : decide ((str (quo T)).size ≤ z.size) = true := decide_eq_true hql
  have hS1 := hS0.step hb1
  have HRD := Lib.hid hrd
  have HRS := Lib.hid hrs
  have HVV := Lib.hid (HV.out.below hb1)
  rw [hz]
  clear hp hX hz hzs hrd hrs hql hb1
  go_wp2_with (first
    | (go_at_call 23; refine (textOf_any v1 xs w1 HVV.out).mono ?_; rintro e w2 ⟨rfl, rfl⟩; rw [HTE.out])
    | (go_at_call 16; refine (quote_S (w0 := w) (str T) (by rw [str_size]; have := HTL.out; omega) (by assumption)).mono ?_; rintro e w2 ⟨rfl, hS2⟩; rw [str_data, HQ.out])
    | (go_at_call 11; (with_reducible refine (short_S (w0 := w) b 60 60 rfl HB.out (by assumption)).mono ?_); rintro e w4 ⟨rfl, hS4⟩)
    | (go_at_call 24; (with_reducible refine (reads_S (w0 := w) _ _ _ HRD.out HRS.out (by assumption)).mono ?_); rintro e w5 ⟨rfl, hS5⟩)
    | (go_at_call 20; refine (works_S (w0 := w) (by assumption)).mono ?_; rintro e w6 ⟨rfl, hS6⟩))
  go_ret
  exact ⟨rfl, (show St w _ by assumption).2⟩
set_option maxHeartbeats 4000000 in
set_option maxRecDepth 1000000 in
theorem utfCut_walk (v1 : Value) (xs : List Int) (v2 : Value) (ys : List Int) (a : Int) (w : World) (m : Int) (hm : w.cell? ⟨2, 0, none⟩ = some (.int .i64 m)) (hT : TB w.heap.size w) (h1 : RdI w v1 xs) (h2 : RdI w v2 ys) :
    Calls Tryd.prog 7 #[v1, v2, .int .i64 a] w fun e w' => e = .returned (.bool true) ∧ Below w.heap.size w w' := by
  have hS0 := St.start hT
  have HLT := Lib.hid (literal_any v1 v2 xs ys w m hm h1 h2)
  clear h1 h2 hT hm
  go_enter Tryd.func7, Tryd.ntmps7
  go_wp2_with fail
  refine HLT.out.mono ?_
  rintro e w1 ⟨X, rfl, hp, hb1⟩
  have hX := hp.2.2
  rw [List.length_take] at hX
  obtain ⟨z, hz⟩ : ∃ z, str (34 :: X ++ [34]) = z := ⟨_, rfl⟩
  have hzs : z.size = X.length + 2 := by rw [← hz, str_size]; simp
  have hz2 : z.size ≤ 800 := by omega
  have b0 := Int.emod_nonneg a (show (z.size : Int) ≠ 0 by omega)
  have b1 := Int.emod_lt_of_pos a (show (0 : Int) < (z.size : Int) by omega)
  obtain ⟨k, hk⟩ := Int.eq_ofNat_of_zero_le b0
  have HBR := Lib.hid (fun W => bring_small a (z.size : Int) W (by omega) (by omega))
  rw [hk] at HBR b1
  have hkz : k < z.size := by omega
  have hfl : flB (z.extract 0 k) (k : Int) 3 = true := by
    unfold flB
    have hu : unq (34 :: X ++ [34]) = (txt (xs.take 60), (34 :: X ++ [34]).length, 0, 0) := by
      have := lit_unq hp []
      rw [List.append_nil] at this
      rw [this]
      simp
    rw [extract_str, ← hz, str_data, str_data, unq_prefix hu (by rw [← str_size, hz]; exact hkz)]
    simp
  have hfs : (z.extract 0 k).size ≤ 65536 := by rw [extract_str, str_size, List.length_take]; omega
  have hS1 := hS0.step hb1
  have HFL := Lib.hid hfl
  have HFS := Lib.hid hfs
  have i1 : (0 : Int) ≤ (k : Int) := by omega
  have i2 : (k : Int) ≤ (z.size : Int) := by omega
  have i3 : k ≤ z.size := by omega
  rw [hz]
  clear hp hX hz hzs hfl hfs hb1 b0 b1 hk hkz
  go_wp2_with (first
    | (go_at_call 26; (with_reducible refine (HBR.out _).mono ?_); rintro e w2 ⟨rfl, rfl⟩)
    | (go_at_call 27; (with_reducible refine (fails_S (w0 := w) _ _ _ HFL.out HFS.out (by assumption)).mono ?_); rintro e w5 ⟨rfl, hS5⟩)
    | (go_at_call 20; refine (works_S (w0 := w) (by assumption)).mono ?_; rintro e w6 ⟨rfl, hS6⟩))
  go_ret
  exact ⟨rfl, (show St w _ by assumption).2⟩
end Go.Proofs.YtoifjbhjclglmaaDoor
