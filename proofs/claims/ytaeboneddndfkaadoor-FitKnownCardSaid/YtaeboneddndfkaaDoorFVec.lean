/-
  What is proved here: contracts of the small functions and of vector's methods in package fit; conditions: the table of package tag holds what is laid, numbers in the ranges of their types.
-/
import Derived.Test.YtaeboneddndfkaaDoorFRefC
import Derived.Test.YtaeboneddndfkaaDoorWFun
namespace Go.Proofs.YtaeboneddndfkaaDoor
open Go.RowKit Tg

/-- A vector's three numbers. -/
abbrev vecA (a s w : Int) : Value := .agg #[.int .i64 a, .int .i64 s, .int .i64 w]
theorem box3v (W : World) (a s w : Int) : (W.alloc (.cells #[.int .i64 a, .int .i64 s, .int .i64 w] 48)).cell? ⟨W.heap.size, 0, none⟩ = some (.int .i64 a) ∧
    (W.alloc (.cells #[.int .i64 a, .int .i64 s, .int .i64 w] 48)).cell? ⟨W.heap.size, 1, none⟩ = some (.int .i64 s) ∧ (W.alloc (.cells #[.int .i64 a, .int .i64 s, .int .i64 w] 48)).cell? ⟨W.heap.size, 2, none⟩ = some (.int .i64 w) := by
  have h : (W.alloc (.cells #[.int .i64 a, .int .i64 s, .int .i64 w] 48)).heap[W.heap.size]? = some (.cells #[.int .i64 a, .int .i64 s, .int .i64 w] 48 (0, 0)) := heap_alloc_new W _
  exact ⟨cell_of_row _ _ 0 _ _ (0, 0) h, cell_of_row _ _ 1 _ _ (0, 0) h, cell_of_row _ _ 2 _ _ (0, 0) h⟩
theorem isPlace_any (n : Int) (W : World) : Calls Tryd.prog 23 #[.int .i64 n] W fun e w' => e = .returned (.bool (okA n)) ∧ W = w' := by
  unfold okA
  by_cases h0 : 0 ≤ n
  · rw [decide_eq_true h0, Bool.true_and]
    go_enter Tryd.func23, Tryd.ntmps23
    go_wp2
    go_ret
    exact ⟨rfl, rfl⟩
  · rw [decide_eq_false h0, Bool.false_and]
    go_enter Tryd.func23, Tryd.ntmps23
    go_wp2
    go_ret
    exact ⟨rfl, rfl⟩
theorem isHeader_any (n : Int) (W : World) : Calls Tryd.prog 29 #[.int .i64 n] W fun e w' => e = .returned (.bool (okH n)) ∧ W = w' := by
  unfold okH
  by_cases h0 : n = 0
  · subst h0
    go_enter Tryd.func29, Tryd.ntmps29
    go_wp2
    go_ret
    exact ⟨rfl, rfl⟩
  · by_cases h1 : n = 1
    · subst h1
      go_enter Tryd.func29, Tryd.ntmps29
      go_wp2
      go_ret
      exact ⟨rfl, rfl⟩
    · have e0 : (n == 0) = false := by simpa using h0
      have e1 : (n == 1) = false := by simpa using h1
      have e3 : (decide (n = 0) || decide (n = 1) || decide (n = 3)) = (n == 3) := by
        rw [decide_eq_false h0, decide_eq_false h1]; by_cases h3 : n = 3 <;> simp [h3]
      rw [e3]
      clear e3 h0 h1
      go_enter Tryd.func29, Tryd.ntmps29
      go_wp2
      go_ret
      exact ⟨rfl, rfl⟩
theorem upV_up {a w : Int} (a0 : 0 ≤ a) (a1 : a ≤ 1073741824) (hw : isW w) : Wd.upV a w = upT a w := by
  have h := (Wd.up_ok (a := a) (w := w) (Wd.isW_iff.2 hw) a0 (by omega)).2
  rw [h]; rfl
theorem infoX : (Tryd.prog.info? 48).map (·.size) = some 3 := by kernel_rfl
theorem vectorAt_any (a w : Int) (W : World) (a0 : 0 ≤ a) (a1 : a ≤ 1073741824) (hw : isW w) :
    Calls Tryd.prog 26 #[.int .i64 a, .int .i64 w] W fun e w' => e = .returned (vecA a (upT a w) w) ∧ Below W.heap.size W w' := by
  have HU := Lib.hid (fun W => Wd.up_any a w W)
  rw [upV_up a0 a1 hw] at HU
  obtain ⟨s, hs⟩ : ∃ s, upT a w = s := ⟨_, rfl⟩
  obtain ⟨er, her⟩ : ∃ er, Wd.upE a w = er := ⟨_, rfl⟩
  rw [hs, her] at HU
  rw [hs]
  clear hs her hw a0 a1
  go_enter Tryd.func26, Tryd.ntmps26
  go_wp2_with (go_at_call 35; (with_reducible refine (HU.out _).mono ?_); rintro e w1 ⟨rfl, rfl⟩)
  refine bodyPost_ret (results_cell_row rfl _ _ W.heap.size 48 #[.int .i64 a, .int .i64 s, .int .i64 w] (0, 0) _ rfl (heap_alloc_new W _) Tryd.underlying48 rfl infoX) rfl ?_
  exact ⟨rfl, al0 _ _⟩
/-- The bytes of a number, told by the least width. -/
theorem mU_len {n w : Int} (n1 : n ≤ 18446744073709551615) (hw : isW w) : decide (Wd.mU n ≤ w) = lenF n w := by
  rcases Wd.mU_cases n with ⟨h, e⟩ | ⟨h, h2, e⟩ | ⟨h, h2, e⟩ | ⟨h, e⟩ <;> rw [e] <;> rcases hw with rfl | rfl | rfl | rfl <;> (rw [Bool.eq_iff_iff]; simp [lenF, lim]; try omega)
theorem fitsNum_any (a s w n : Int) (W : World) (n0 : 0 ≤ n) (n1 : n ≤ 18446744073709551615) (hw : isW w) :
    Calls Tryd.prog 37 #[vecA a s w, .int .u64 n] W fun e w' => e = .returned (.bool (lenF n w)) ∧ Below W.heap.size W w' := by
  have HO := Lib.hid (fun W => Wd.of_any n W n0)
  rw [← mU_len n1 hw]
  obtain ⟨m, hm⟩ : ∃ m, Wd.mU n = m := ⟨_, rfl⟩
  rw [hm] at HO ⊢
  obtain ⟨c0, c1, c2⟩ := box3v W a s w
  obtain ⟨W1, hW1⟩ : ∃ W1, W1 = W.alloc (.cells #[.int .i64 a, .int .i64 s, .int .i64 w] 48) := ⟨_, rfl⟩
  have HB : Hid (Below W.heap.size W W1) := Lib.hid (by rw [hW1]; exact al0 _ _)
  have hlt : W.heap.size < W1.heap.size := by rw [hW1]; simp
  rw [← hW1] at c0 c1 c2
  have HC := Lib.hid (show ∀ w', Below W1.heap.size W1 w' → w'.cell? ⟨W.heap.size, 2, none⟩ = some (.int .i64 w) from fun w' hb => (hb.cell (p := ⟨_, 2, none⟩) hlt).trans c2)
  clear hm hw n0 n1 hlt
  go_enter Tryd.func37, Tryd.ntmps37
  go_upto_region 1 with fail
  simp only [← hW1]
  clear hW1
  have HSd : Hid (Below W1.heap.size W1 W1.drew) := Lib.hid (Below.refl _ _).drew
  have hall : ∀ X, Hid (Below W1.heap.size W1 X) → (X.cell? ⟨W.heap.size, 2, none⟩ = some (.int .i64 w) ∧ Hid (Below W1.heap.size W1 X)) := fun X h => ⟨HC.out X h.out, h⟩
  go_region_held3 (fun X => X.cell? ⟨W.heap.size, 2, none⟩ = some (.int .i64 w) ∧ Hid (Below W1.heap.size W1 X))
    (first | (with_reducible exact hall _ HSd) | (with_reducible exact hall _ (by assumption)))
    (first | (go_at_call 45; (with_reducible refine (HO.out _).mono ?_); rintro e w1 ⟨rfl, hb⟩; have HS1 : Hid (Below W1.heap.size W1 w1) := Lib.hid (HSd.out.trans (hb.mono HSd.out.size)); clear hb))
  all_goals (go_wp2_with fail; go_ret; exact ⟨rfl, HB.out.trans (HS1.out.mono HB.out.size)⟩)
theorem position_any (a s w i : Int) (W : World) (s0 : 0 ≤ s) (s1 : s ≤ 2000000000) (i0 : 0 ≤ i) (i1 : i ≤ 1073741824) (hw : isW w) :
    Calls Tryd.prog 38 #[vecA a s w, .int .i64 i] W fun e w' => e = .returned (.int .u64 (s + i * w)) ∧ Below W.heap.size W w' := by
  obtain ⟨c0, c1, c2⟩ := box3v W a s w
  obtain ⟨W1, hW1⟩ : ∃ W1, W1 = W.alloc (.cells #[.int .i64 a, .int .i64 s, .int .i64 w] 48) := ⟨_, rfl⟩
  have HB : Hid (Below W.heap.size W W1) := Lib.hid (by rw [hW1]; exact al0 _ _)
  rw [← hW1] at c0 c1 c2
  rcases hw with rfl | rfl | rfl | rfl
  all_goals
    go_enter Tryd.func38, Tryd.ntmps38
    go_upto_region 1 with fail
    simp only [← hW1]
    clear hW1
    go_wp2_with fail
    go_ret
    exact ⟨by first | rfl | (rw [Int.mul_one]; rfl), HB.out⟩
/-- The cells of the two boxes of a call of fits. -/
abbrev FC (g : Nat) (t vw n a s w : Int) (X : World) : Prop := X.cell? ⟨g, 0, none⟩ = some (.int .i64 a) ∧ X.cell? ⟨g, 1, none⟩ = some (.int .i64 s) ∧ X.cell? ⟨g, 2, none⟩ = some (.int .i64 w) ∧ X.cell? ⟨g + 1, 0, none⟩ = some (.int .i64 t) ∧ X.cell? ⟨g + 1, 1, none⟩ = some (.int .i64 vw) ∧ X.cell? ⟨g + 1, 2, none⟩ = some (.int .u64 n)
theorem ofs_bd {a i w n : Int} (a0 : 0 ≤ a) (a1 : a ≤ 1073741824) (i0 : 0 ≤ i) (i1 : i ≤ 1073741824) (hw : isW w) (hn : n ≤ a) : a ≤ upT a w ∧ upT a w ≤ 2000000000 ∧ 0 ≤ i * w ∧ i * w ≤ 8589934592 ∧ n ≤ upT a w + i * w := by
  obtain ⟨e1, e2, e4, e8⟩ := upT_eq a
  rcases hw with rfl | rfl | rfl | rfl
  · rw [e1]; omega
  · rw [e2]; omega
  · rw [e4]; omega
  · rw [e8]; omega
set_option maxHeartbeats 1000000 in
theorem vfits_any (v : V3) (a i w : Int) (W : World) (hT : Tab W) (hv : okV v) (a0 : 0 ≤ a) (a1 : a ≤ 1073741824) (i0 : 0 ≤ i) (i1 : i ≤ 1073741824) (hw : isW w) :
    Calls Tryd.prog 27 #[vecA a (upT a w) w, v.agg, .int .i64 i] W fun e w' => e = .returned (.bool (fitV v a i w)) ∧ Below W.heap.size W w' := by
  obtain ⟨t, vw, n⟩ := v
  obtain ⟨-, -, -, -, n0, n1⟩ := hv
  simp only at n0 n1
  obtain ⟨s, hs⟩ : ∃ s, upT a w = s := ⟨_, rfl⟩
  obtain ⟨W2, hW2⟩ : ∃ W2, W2 = (W.alloc (.cells #[.int .i64 a, .int .i64 s, .int .i64 w] 48)).alloc (.cells #[.int .i64 t, .int .i64 vw, .int .u64 n] 24) := ⟨_, rfl⟩
  have hb2 : Below W.heap.size W W2 := by rw [hW2]; exact (al0 _ _).alloc (by simp) _
  have hsz : W2.heap.size = W.heap.size + 2 := by rw [hW2]; simp
  have hc2 : FC W.heap.size t vw n a s w W2 := by
    obtain ⟨c0, c1, c2⟩ := box3v W a s w
    obtain ⟨d0, d1, d2⟩ := box3 (W.alloc (.cells #[.int .i64 a, .int .i64 s, .int .i64 w] 48)) ⟨t, vw, n⟩
    simp only [World.size_alloc] at d0 d1 d2
    have hlt : W.heap.size < (W.alloc (.cells #[.int .i64 a, .int .i64 s, .int .i64 w] 48)).heap.size := by simp
    have hk := al0 (W.alloc (.cells #[.int .i64 a, .int .i64 s, .int .i64 w] 48)) (.cells #[.int .i64 t, .int .i64 vw, .int .u64 n] 24)
    rw [hW2]
    exact ⟨(hk.cell (p := ⟨_, 0, none⟩) hlt).trans c0, (hk.cell (p := ⟨_, 1, none⟩) hlt).trans c1, (hk.cell (p := ⟨_, 2, none⟩) hlt).trans c2, d0, d1, d2⟩
  have HC := Lib.hid (show ∀ X, Below W2.heap.size W2 X → FC W.heap.size t vw n a s w X from fun X hb => by
    obtain ⟨c0, c1, c2, d0, d1, d2⟩ := hc2
    exact ⟨(hb.cell (p := ⟨_, 0, none⟩) (by simp only; omega)).trans c0, (hb.cell (p := ⟨_, 1, none⟩) (by simp only; omega)).trans c1, (hb.cell (p := ⟨_, 2, none⟩) (by simp only; omega)).trans c2,
      (hb.cell (p := ⟨_, 0, none⟩) (by simp only; omega)).trans d0, (hb.cell (p := ⟨_, 1, none⟩) (by simp only; omega)).trans d1, (hb.cell (p := ⟨_, 2, none⟩) (by simp only; omega)).trans d2⟩)
  have HB := Lib.hid hb2
  have HI := Lib.hid (inline_any t W2 (hT.keep hb2))
  have hc := hc2
  obtain ⟨c0, c1, c2, d0, d1, d2⟩ := hc
  have HS := Lib.hid hs
  have hall : ∀ X, Hid (Below W2.heap.size W2 X) → (X.cell? ⟨W.heap.size, 0, none⟩ = some (.int .i64 a) ∧ X.cell? ⟨W.heap.size, 1, none⟩ = some (.int .i64 s) ∧ X.cell? ⟨W.heap.size, 2, none⟩ = some (.int .i64 w) ∧ X.cell? ⟨W.heap.size + 1, 0, none⟩ = some (.int .i64 t) ∧ X.cell? ⟨W.heap.size + 1, 1, none⟩ = some (.int .i64 vw) ∧ X.cell? ⟨W.heap.size + 1, 2, none⟩ = some (.int .u64 n) ∧ Hid (Below W2.heap.size W2 X)) := fun X h => by
    obtain ⟨c0, c1, c2, d0, d1, d2⟩ := HC.out X h.out
    exact ⟨c0, c1, c2, d0, d1, d2, h⟩
  unfold fitV
  cases ht : inl t with
  | true =>
    rw [ht] at HI
    rw [if_pos rfl, hs]
    clear ht n0 n1 hw hsz hb2 hc2 hs
    go_enter Tryd.func27, Tryd.ntmps27
    go_upto_region 1 with fail
    simp only [← hW2]
    clear hW2
    go_wp2_with (go_at_call 36; (with_reducible refine HI.out.mono ?_); rintro e w1 ⟨rfl, hb⟩; obtain ⟨z0, z1, z2, y0, y1, y2⟩ := HC.out _ hb; have HB1 := Lib.hid hb; clear hb)
    go_ret
    exact ⟨rfl, HB.out.trans (HB1.out.mono HB.out.size)⟩
  | false =>
    rw [ht] at HI
    rw [if_neg (by simp), hs]
    unfold fitN ofs
    rw [hs]
    clear ht
    by_cases hna : n ≤ a
    · rw [decide_eq_true (show (⟨t, vw, n⟩ : V3).n ≤ a from hna), Bool.true_and]
      obtain ⟨hs0, hs1, hp0, hp1, hnP⟩ := ofs_bd a0 a1 i0 i1 hw hna
      rw [hs] at hs0 hs1 hnP
      have HP := Lib.hid (fun X => position_any a s w i X (by omega) hs1 i0 i1 hw)
      obtain ⟨P, hP⟩ : ∃ P, s + i * w = P := ⟨_, rfl⟩
      rw [hP] at HP hnP
      have HF := Lib.hid (fun X => fitsNum_any a s w (P - n) X (by omega) (by omega) hw)
      have hb8 : P ≤ 20000000000 := by omega
      have hlf : (decide (w = 8) || decide (s + i * w - (⟨t, vw, n⟩ : V3).n < lim w)) = lenF (P - n) w := by rw [hP]; rfl
      rw [hlf]
      obtain ⟨β, hβ⟩ : ∃ β, lenF (P - n) w = β := ⟨_, rfl⟩
      rw [hβ] at HF ⊢
      have p0 : 0 ≤ P := by omega
      have hwa : IntKind.u64.wrap a = a := IntWalk.u64_in _ ⟨by omega, by omega⟩
      have hwp : IntKind.u64.wrap (P - n) = P - n := IntWalk.u64_in _ ⟨by omega, by omega⟩
      have hdn : decide (n ≤ a) = true := by simpa using hna
      clear hw hsz hb2 hc2 hs hlf hβ hP hp0 hp1 hs0 hs1
      go_enter Tryd.func27, Tryd.ntmps27
      go_upto_region 1 with fail
      simp only [← hW2]
      clear hW2
      go_upto_region 3 with (go_at_call 36; (with_reducible refine HI.out.mono ?_); rintro e w1 ⟨rfl, hb⟩; have HB1 := Lib.hid hb; clear hb)
      have HSd : Hid (Below W2.heap.size W2 w1.drew) := Lib.hid HB1.out.drew
      obtain ⟨z0, z1, z2, y0, y1, y2, -⟩ := hall _ HSd
      go_region_held3 (fun X => X.cell? ⟨W.heap.size, 0, none⟩ = some (.int .i64 a) ∧ X.cell? ⟨W.heap.size, 1, none⟩ = some (.int .i64 s) ∧ X.cell? ⟨W.heap.size, 2, none⟩ = some (.int .i64 w) ∧ X.cell? ⟨W.heap.size + 1, 0, none⟩ = some (.int .i64 t) ∧ X.cell? ⟨W.heap.size + 1, 1, none⟩ = some (.int .i64 vw) ∧ X.cell? ⟨W.heap.size + 1, 2, none⟩ = some (.int .u64 n) ∧ Hid (Below W2.heap.size W2 X))
        (first | (with_reducible exact hall _ HSd) | (with_reducible exact hall _ (by assumption)))
        (first
          | (go_at_call 38; (with_reducible refine (HP.out _).mono ?_); rintro e w2 ⟨rfl, hb⟩; have HS2 : Hid (Below W2.heap.size W2 w2) := Lib.hid (HSd.out.trans (hb.mono HSd.out.size)); clear hb)
          | (go_at_call 37; (with_reducible refine (HF.out _).mono ?_); rintro e w3 ⟨rfl, hb⟩; have HS3 : Hid (Below W2.heap.size W2 w3) := Lib.hid (HS2.out.trans (hb.mono HS2.out.size)); clear hb))
      all_goals (go_wp2_with fail; go_ret; exact ⟨rfl, HB.out.trans (HS3.out.mono HB.out.size)⟩)
    · rw [decide_eq_false (show ¬ (⟨t, vw, n⟩ : V3).n ≤ a from hna), Bool.false_and]
      have hwa : IntKind.u64.wrap a = a := IntWalk.u64_in _ ⟨by omega, by omega⟩
      have hdn : decide (n ≤ a) = false := by simpa using hna
      clear hw hsz hb2 hc2 hs hna
      go_enter Tryd.func27, Tryd.ntmps27
      go_upto_region 1 with fail
      simp only [← hW2]
      clear hW2
      go_upto_region 3 with (go_at_call 36; (with_reducible refine HI.out.mono ?_); rintro e w1 ⟨rfl, hb⟩; have HB1 := Lib.hid hb; clear hb)
      have HSd : Hid (Below W2.heap.size W2 w1.drew) := Lib.hid HB1.out.drew
      obtain ⟨z0, z1, z2, y0, y1, y2, -⟩ := hall _ HSd
      go_region
      go_wp2_with fail
      go_ret
      exact ⟨rfl, HB.out.trans (HSd.out.mono HB.out.size)⟩
end Go.Proofs.YtaeboneddndfkaaDoor
