/-
  What is proved here: contracts of the reference of layer 16; condition: numbers in the ranges of their types.
-/
import Derived.Test.YtaeboneddndfkaaDoorFMath
import Derived.Test.YtaeboneddndfkaaDoorTab
namespace Go.Proofs.YtaeboneddndfkaaDoor
open Go.RowKit Tg

def isW (w : Int) : Prop := w = 1 ∨ w = 2 ∨ w = 4 ∨ w = 8
theorem below_any (n w : Int) (W : World) (h0 : 0 ≤ n) (h1 : n ≤ 18446744073709551615) (hw : isW w) : Calls Tryd.prog 40 #[.int .u64 n, .int .i64 w] W fun e w' => e = .returned (.bool (decide (w = 8) || decide (n < lim w))) ∧ W = w' := by
  rcases hw with rfl | rfl | rfl | rfl
  · have e : (n / 256 == 0) = (decide ((1 : Int) = 8) || decide (n < lim 1)) := by
      rw [Bool.eq_iff_iff]; simp [lim]; omega
    rw [← e]
    clear e
    go_enter Tryd.func40, Tryd.ntmps40
    go_wp2
    go_ret
    exact ⟨rfl, rfl⟩
  · have e : (n / 65536 == 0) = (decide ((2 : Int) = 8) || decide (n < lim 2)) := by
      rw [Bool.eq_iff_iff]; simp [lim]; omega
    rw [← e]
    clear e
    go_enter Tryd.func40, Tryd.ntmps40
    go_wp2
    go_ret
    exact ⟨rfl, rfl⟩
  · have e : (n / 4294967296 == 0) = (decide ((4 : Int) = 8) || decide (n < lim 4)) := by
      rw [Bool.eq_iff_iff]; simp [lim]; omega
    rw [← e]
    clear e
    go_enter Tryd.func40, Tryd.ntmps40
    go_wp2
    go_ret
    exact ⟨rfl, rfl⟩
  · have e : (decide ((8 : Int) = 8) || decide (n < lim 8)) = true := by simp
    rw [e]
    clear e
    go_enter Tryd.func40, Tryd.ntmps40
    go_wp2
    go_ret
    exact ⟨rfl, rfl⟩
/-- A value whose number is one. -/
def okV (v : V3) : Prop := -9223372036854775808 ≤ v.t ∧ v.t ≤ 9223372036854775807 ∧ -9223372036854775808 ≤ v.w ∧ v.w ≤ 9223372036854775807 ∧ 0 ≤ v.n ∧ v.n ≤ 18446744073709551615
abbrev V3.agg (v : V3) : Value := .agg #[.int .i64 v.t, .int .i64 v.w, .int .u64 v.n]
theorem al0 (w : World) (o : Obj) : Below w.heap.size w (w.alloc o) := (Below.refl _ w).alloc (Nat.le_refl _) o
/-- The cells of a boxed value. -/
theorem box3 (w : World) (v : V3) : (w.alloc (.cells #[.int .i64 v.t, .int .i64 v.w, .int .u64 v.n] 24)).cell? ⟨w.heap.size, 0, none⟩ = some (.int .i64 v.t) ∧
    (w.alloc (.cells #[.int .i64 v.t, .int .i64 v.w, .int .u64 v.n] 24)).cell? ⟨w.heap.size, 1, none⟩ = some (.int .i64 v.w) ∧ (w.alloc (.cells #[.int .i64 v.t, .int .i64 v.w, .int .u64 v.n] 24)).cell? ⟨w.heap.size, 2, none⟩ = some (.int .u64 v.n) := by
  have h : (w.alloc (.cells #[.int .i64 v.t, .int .i64 v.w, .int .u64 v.n] 24)).heap[w.heap.size]? = some (.cells #[.int .i64 v.t, .int .i64 v.w, .int .u64 v.n] 24 (0, 0)) := heap_alloc_new w _
  exact ⟨cell_of_row _ _ 0 _ _ (0, 0) h, cell_of_row _ _ 1 _ _ (0, 0) h, cell_of_row _ _ 2 _ _ (0, 0) h⟩
set_option maxHeartbeats 1000000 in
theorem fits_any (v : V3) (at' idx w : Int) (W : World) (hv : okV v) (a0 : 0 ≤ at') (a1 : at' ≤ 1073741824) (i0 : 0 ≤ idx) (i1 : idx ≤ 1073741824) (hw : isW w) :
    Calls Tryd.prog 28 #[v.agg, .int .i64 at', .int .i64 idx, .int .i64 w] W fun e w' => e = .returned (.bool (fitV v at' idx w)) ∧ Below W.heap.size W w' := by
  obtain ⟨t, vw, n⟩ := v
  obtain ⟨-, -, -, -, n0, n1⟩ := hv
  simp only at n0 n1
  obtain ⟨c0, c1, c2⟩ := box3 W ⟨t, vw, n⟩
  simp only at c0 c1 c2
  obtain ⟨W1, hW1⟩ : ∃ W1, W1 = W.alloc (.cells #[.int .i64 t, .int .i64 vw, .int .u64 n] 24) := ⟨_, rfl⟩
  have HB : Hid (Below W.heap.size W W1) := Lib.hid (by rw [hW1]; exact al0 _ _)
  rw [← hW1] at c0 c1 c2
  have HI := Lib.hid (rinline_any t)
  unfold fitV
  cases ht : inl t with
  | true =>
    rw [ht] at HI
    rw [if_pos rfl]
    clear ht n0 n1 hw
    go_enter Tryd.func28, Tryd.ntmps28
    go_upto_region 1 with fail
    simp only [← hW1]
    clear hW1
    go_wp2_with (go_at_call 39; (with_reducible refine (HI.out _).mono ?_); rintro e w1 ⟨rfl, rfl⟩)
    go_ret
    exact ⟨rfl, HB.out⟩
  | false =>
    rw [ht] at HI
    rw [if_neg (by simp)]
    unfold fitN ofs
    clear ht
    by_cases hna : n ≤ at'
    · rw [decide_eq_true (show (⟨t, vw, n⟩ : V3).n ≤ at' from hna), Bool.true_and]
      obtain ⟨P, hP⟩ : ∃ P, upT at' w + idx * w = P := ⟨_, rfl⟩
      have hPb : 0 ≤ P ∧ P ≤ 20000000000 ∧ n ≤ P := by
        obtain ⟨e1, e2, e4, e8⟩ := upT_eq at'
        rcases hw with rfl | rfl | rfl | rfl
        · rw [e1] at hP; omega
        · rw [e2] at hP; omega
        · rw [e4] at hP; omega
        · rw [e8] at hP; omega
      have HBL := Lib.hid (fun W => below_any (P - n) w W (by omega) (by omega) hw)
      rw [hP]
      obtain ⟨β, hβ⟩ : ∃ β, (decide (w = 8) || decide (P - n < lim w)) = β := ⟨_, rfl⟩
      have hβ2 : (decide (w = 8) || decide (P - (⟨t, vw, n⟩ : V3).n < lim w)) = β := hβ
      rw [hβ] at HBL
      rw [hβ2]
      clear hβ hβ2
      rcases hw with rfl | rfl | rfl | rfl
      · have e : P = at' + idx := by
          obtain ⟨e1, e2, e4, e8⟩ := upT_eq at'
          rw [e1] at hP; omega
        rw [e] at HBL hPb
        obtain ⟨p0, p1, p2⟩ := hPb
        clear e hP
        go_enter Tryd.func28, Tryd.ntmps28
        go_upto_region 1 with fail
        simp only [← hW1]
        clear hW1
        go_wp2_with (first
          | (go_at_call 39; (with_reducible refine (HI.out _).mono ?_); rintro e w1 ⟨rfl, rfl⟩)
          | (go_at_call 40; (with_reducible refine (HBL.out _).mono ?_); rintro e w1 ⟨rfl, rfl⟩))
        go_ret
        exact ⟨rfl, HB.out⟩
      · have e : P = (at' + 2 - 1) / 2 * 2 + idx * 2 := by
          obtain ⟨e1, e2, e4, e8⟩ := upT_eq at'
          rw [e2] at hP; omega
        rw [e] at HBL hPb
        obtain ⟨p0, p1, p2⟩ := hPb
        clear e hP
        go_enter Tryd.func28, Tryd.ntmps28
        go_upto_region 1 with fail
        simp only [← hW1]
        clear hW1
        go_wp2_with (first
          | (go_at_call 39; (with_reducible refine (HI.out _).mono ?_); rintro e w1 ⟨rfl, rfl⟩)
          | (go_at_call 40; (with_reducible refine (HBL.out _).mono ?_); rintro e w1 ⟨rfl, rfl⟩))
        go_ret
        exact ⟨rfl, HB.out⟩
      · have e : P = (at' + 4 - 1) / 4 * 4 + idx * 4 := by
          obtain ⟨e1, e2, e4, e8⟩ := upT_eq at'
          rw [e4] at hP; omega
        rw [e] at HBL hPb
        obtain ⟨p0, p1, p2⟩ := hPb
        clear e hP
        go_enter Tryd.func28, Tryd.ntmps28
        go_upto_region 1 with fail
        simp only [← hW1]
        clear hW1
        go_wp2_with (first
          | (go_at_call 39; (with_reducible refine (HI.out _).mono ?_); rintro e w1 ⟨rfl, rfl⟩)
          | (go_at_call 40; (with_reducible refine (HBL.out _).mono ?_); rintro e w1 ⟨rfl, rfl⟩))
        go_ret
        exact ⟨rfl, HB.out⟩
      · have e : P = (at' + 8 - 1) / 8 * 8 + idx * 8 := by
          obtain ⟨e1, e2, e4, e8⟩ := upT_eq at'
          rw [e8] at hP; omega
        rw [e] at HBL hPb
        obtain ⟨p0, p1, p2⟩ := hPb
        clear e hP
        go_enter Tryd.func28, Tryd.ntmps28
        go_upto_region 1 with fail
        simp only [← hW1]
        clear hW1
        go_wp2_with (first
          | (go_at_call 39; (with_reducible refine (HI.out _).mono ?_); rintro e w1 ⟨rfl, rfl⟩)
          | (go_at_call 40; (with_reducible refine (HBL.out _).mono ?_); rintro e w1 ⟨rfl, rfl⟩))
        go_ret
        exact ⟨rfl, HB.out⟩
    · rw [decide_eq_false (show ¬ (⟨t, vw, n⟩ : V3).n ≤ at' from hna), Bool.false_and]
      have hna2 : ¬ n ≤ at' := hna
      rcases hw with rfl | rfl | rfl | rfl
      all_goals
        go_enter Tryd.func28, Tryd.ntmps28
        go_upto_region 1 with fail
        simp only [← hW1]
        clear hW1
        go_wp2_with (go_at_call 39; (with_reducible refine (HI.out _).mono ?_); rintro e w1 ⟨rfl, rfl⟩)
        go_ret
        exact ⟨rfl, HB.out⟩
end Go.Proofs.YtaeboneddndfkaaDoor
