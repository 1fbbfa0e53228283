/-
  What is proved here: StackOnes returns true and leaves all memory that was there as it was; condition: the argument reads as a list of values.
-/
import Derived.Test.YtefgehjkankigaaLooksW
import Derived.Deep.CutBlock
namespace Go.Proofs.Ytefgehjkankigaa
open Go.RowKit

theorem newF2_any {w0 w : World} {p : Nat} {k : Bool} {xs : List V3} {R : List (Value × List V3)} (h : Fm w0 p k xs none R w) : Calls Try.prog 9 #[] w fun e w' => ∃ q, e = .returned (.pointer (some ⟨q, 0, none⟩)) ∧ Fm w0 p k xs (some (q, true, [])) R w' := by
  refine (new_any w).mono ?_
  rintro e w' ⟨rfl, rfl⟩
  exact ⟨_, rfl, h.new2 true⟩
theorem push1_F {w0 w : World} {p : Nat} {xs : List V3} {T : Option (Nat × Bool × List V3)} {R : List (Value × List V3)} (h : Fm w0 p true xs T R w) (x : V3) (hf : xs.length + 1 ≤ 65536) :
    Calls Try.prog 17 #[.pointer (some ⟨p, 0, none⟩), .slice (some ⟨w.heap.size, 0, none⟩) 1 1] (w.alloc (.cells #[.int .i64 x.t, .int .i64 x.w, .int .u64 x.n] 49)) fun e w' => e = .returned (.int .i64 0) ∧ Fm w0 p true (xs ++ [x]) T R w' :=
  pushE_F h (ys := [x]) rfl (by simp [pv, V3.row]) rfl (by simp) (psh_in (by simpa using hf)).2 (psh_in (by simpa using hf)).1
/-- append to a row of one's own, behind a guard that is wanted. -/
theorem wpList_appG {ops : Array Oper} {rest : List Oper} {o : Oper} {a : Act} {Q : Exit → Act → World → Prop} {w : World} {B m c : Nat} {v : Value} {xs ys : List V3} {A : Option Addr}
    (hw : Region.wanted o (yielded ops a.tmps) = true) (s x : Operand) (ho : o.op = .call { callee := .builtin .append, args := #[s, x], argTypes := #[27, 27] })
    (hs : a.eval s = v) (hx : a.eval x = .slice A m c) (hown : OV w B v xs) (hr : Rs w A m c ys) (hb : xs.length + m ≤ 4000000) (hbase : B ≤ w.heap.size)
    (h : ∀ v' w', OV w' B v' (xs ++ ys) → w.grownBy w' v.ownBlock → (v'.ownBlock = v.ownBlock ∨ v'.ownBlock = some w.heap.size) → wpList Try.prog ops Q rest (a.put o.dst v') w') : wpList Try.prog ops Q (o :: rest) a w := by
  refine wpList_step fun K hK => ?_
  rw [if_pos hw]
  obtain ⟨v', w', hrun, h2, h3, h4⟩ := run_app o.type hown hr hb hbase
  have h2' : OV w' B v' (xs ++ ys) := by unfold OV; rw [List.length_append, pv_app, hr.1]; exact h2
  unfold Oper.wp execOp
  simp only [ho, resolve, invoke, builtin, Sem.run_bind, Sem.run_pure, Result.andThen_ok, List.map_toArray, List.map_cons, List.map_nil, hs, hx, hrun]
  exact hK _ _ (h v' w' h2' h3 h4)
theorem Rd.rs {w : World} {A : Option Addr} {m c : Nat} {zs : List V3} (h : Rd w (.slice A m c) zs) : Rs w A m c zs := by
  obtain ⟨A', m', c', e, hr⟩ := h
  injection e with e1 e2 e3
  subst e1; subst e2; subst e3
  exact hr
theorem cut_twice {ys : List V3} {m a b : Nat} (hm : ys.length = m) (ha : a ≤ m) (hb : b ≤ m - a) :
    (ys.take (m - a)).drop (m - a - b) ++ ys.drop (m - a) = ys.drop (m - a - b) ∧ (ys.take (m - a)).take (m - a - b) = ys.take (m - a - b) := by
  refine ⟨?_, by rw [List.take_take, Nat.min_eq_left (by omega)]⟩
  have h1 : ys.drop (m - a - b) = (ys.take (m - a) ++ ys.drop (m - a)).drop (m - a - b) := by rw [List.take_append_drop]
  rw [h1, List.drop_append_of_le_length (by rw [List.length_take]; omega)]

set_option maxRecDepth 20000 in
set_option maxHeartbeats 1000000 in
theorem stackOnes_walk (l : List V3) (v : Value) (n n2 : Int) (w : World) (h : Rd w v l) (h0 : -9223372036854775808 ≤ n) (h1 : n ≤ 9223372036854775807) (h2 : -9223372036854775808 ≤ n2) (h3 : n2 ≤ 9223372036854775807) :
    Calls Try.prog 5 #[v, .int .i64 n, .int .i64 n2] w fun e w' => e = .returned (.bool true) ∧ Below w.heap.size w w' := by
  have HV := Lib.hid h
  have HB0 := Lib.hid (Below.refl w.heap.size w)
  obtain ⟨ys, hys⟩ : ∃ ys, l.take 30 = ys := ⟨_, rfl⟩
  have hy30 : ys.length ≤ 30 := by rw [← hys, List.length_take]; omega
  have HFEW : Hid (∀ p q W, Hid (Fm w p true [] (some (q, true, [])) [] W) → Calls Try.prog 16 #[v] W fun e w' => ∃ A m c, e = .returned (.slice A m c) ∧ Fm w p true [] (some (q, true, [])) [(.slice A m c, ys)] w') := Lib.hid fun p q W H => by
    have := few_F H.out (HV.out.below H.out.2)
    rw [hys] at this; exact this
  have HY30 := Lib.hid hy30
  clear h hys hy30
  go_enter Try.func5, Try.ntmps5
  go_upto_region 2 with (first
    | (go_at_call 9; (with_reducible refine (newF2_any HS.out).mono ?_); rintro e w1 ⟨q, rfl, hs⟩; clear HS; have HS := Lib.hid hs; clear hs)
    | (go_at_call 9; (with_reducible refine (newF_any HB0.out).mono ?_); rintro e w1 ⟨p, rfl, hs⟩; have HS := Lib.hid hs; clear hs))
  go_upto_region 3 with (go_at_call 16; (with_reducible refine (HFEW.out _ _ _ HS).mono ?_); rintro e w2 ⟨A, m, c, rfl, hs⟩; obtain ⟨hm, hmc, hcm⟩ := (hs.rd (by simp) : Rd w2 (.slice A m c) ys).len; have HM := Lib.hid hm; have hm30 : m ≤ 30 := (by rw [← hm]; exact HY30.out); clear hm HS; have HS := Lib.hid hs; clear hs)
  clear HFEW
  have HPU : Hid (∀ W, Hid (Fm w p true [] (some (q, true, [])) [(.slice A m c, ys)] W) → Calls Try.prog 17 #[.pointer (some ⟨p, 0, none⟩), .slice A m c] W fun e w' => e = .returned (.int .i64 0) ∧ Fm w p true ys (some (q, true, [])) [(.slice A m c, ys)] w') :=
    Lib.hid fun W H => pushB_F H.out (H.out.rd (by simp)) (by have := HY30.out; simp; omega)
  go_wp2_with (go_at_call 17; (with_reducible refine (HPU.out _ HS).mono ?_); rintro e w3 ⟨rfl, hs⟩; clear HS; have HS := Lib.hid hs.swap; clear hs)
  clear HPU
  go_loopw [10] (fun i wr => ∃ j : Nat, j ≤ m ∧ i = .int .i64 j ∧ Hid (Fm w q true (ys.take j) (some (p, true, ys)) [(.slice A m c, ys)] wr)) (fun i _ => m - (intOf i).toNat)
  case atStart => exact ⟨0, Nat.zero_le _, rfl, by rw [List.take_zero]; exact HS⟩
  case round =>
    obtain ⟨j, hj, rfl, H⟩ := hrel
    by_cases hlt : j < m
    · obtain ⟨x, hx⟩ : ∃ x, ys[j]? = some x := ⟨_, List.getElem?_eq_getElem (by have := HM.out; omega)⟩
      have hrs := (H.out.rd (a := .slice A m c) (zs := ys) (by simp)).rs
      obtain ⟨b1, off1, rfl, _, hc1⟩ := hrs.2.2.2 (by omega)
      obtain ⟨x0, x1, x2⟩ := hc1 j x hx
      have HPU := Lib.hid (push1_F H.out x (by rw [List.length_take]; omega))
      have HT : Hid (ys.take j ++ [x] = ys.take (j + 1)) := Lib.hid (by rw [List.take_add_one, hx]; rfl)
      clear hx hrs hc1
      go_wp2_with (go_at_call 17; (with_reducible refine HPU.out.mono ?_); rintro e w4 ⟨rfl, hs⟩; rw [HT.out] at hs; have HS2 := Lib.hid hs; clear hs)
      go_roundw
      case rel => exact ⟨j + 1, by omega, by go_num, HS2⟩
      case measure => simp [intOf]; omega
    · obtain rfl : j = m := by omega
      have HS2 : Hid (Fm w p true ys (some (q, true, ys)) [(.slice A j c, ys)] wr) := Lib.hid (by
        have := H.out
        rw [List.take_of_length_le (by have := HM.out; omega)] at this
        exact this.swap)
      clear H HS
      have HBR : Hid (∀ W, Calls Try.prog 11 #[.int .i64 n, .int .i64 ((j : Int) + 1)] W fun e w' => e = .returned (.int .i64 (n % ((j : Int) + 1))) ∧ W = w') := Lib.hid fun W => bring_any n ((j : Int) + 1) W h0 h1 (by omega) (by omega)
      have hk0 := Int.emod_nonneg n (show (j : Int) + 1 ≠ 0 by omega)
      have hk1 := Int.emod_lt_of_pos n (show 0 < (j : Int) + 1 by omega)
      obtain ⟨a, hk⟩ := Int.eq_ofNat_of_zero_le hk0
      rw [hk] at HBR hk1
      have haj : a ≤ j := by omega
      clear hk hk0 hk1 h0 h1
      have HBR2 : Hid (∀ W, Calls Try.prog 11 #[.int .i64 n2, .int .i64 ((j : Int) - (a : Int) + 1)] W fun e w' => e = .returned (.int .i64 (n2 % ((j : Int) - (a : Int) + 1))) ∧ W = w') := Lib.hid fun W => bring_any n2 ((j : Int) - (a : Int) + 1) W h2 h3 (by omega) (by omega)
      have hk0 := Int.emod_nonneg n2 (show (j : Int) - (a : Int) + 1 ≠ 0 by omega)
      have hk1 := Int.emod_lt_of_pos n2 (show 0 < (j : Int) - (a : Int) + 1 by omega)
      obtain ⟨b, hk⟩ := Int.eq_ofNat_of_zero_le hk0
      rw [hk] at HBR2 hk1
      have hbj : b ≤ j - a := by omega
      clear hk hk0 hk1 h2 h3
      obtain ⟨ct1, ct2⟩ := cut_twice HM.out haj hbj
      obtain ⟨x, hx⟩ : ∃ x, ys.drop (j - a) = x := ⟨_, rfl⟩
      obtain ⟨us, hus⟩ : ∃ us, ys.take (j - a) = us := ⟨_, rfl⟩
      obtain ⟨y, hy⟩ : ∃ y, us.drop (j - a - b) = y := ⟨_, rfl⟩
      obtain ⟨zs, hzs⟩ : ∃ zs, ys.take (j - a - b) = zs := ⟨_, rfl⟩
      obtain ⟨z, hz⟩ : ∃ z, ys.drop (j - a - b) = z := ⟨_, rfl⟩
      have HZ : Hid (y ++ x = z) := Lib.hid (by rw [← hy, ← hx, ← hz, ← ct1, hus])
      have hul : us.length = j - a := by rw [← hus, List.length_take]; have := HM.out; omega
      have hzl : zs.length = j - a - b := by rw [← hzs, List.length_take]; have := HM.out; omega
      have HZL : Hid (z.length ≤ 100 ∧ y.length ≤ 100 ∧ x.length ≤ 100) := Lib.hid (by
        rw [← hz, ← hy, ← hx]
        simp only [List.length_drop]
        have := HM.out
        omega)
      have i1 : inR (a : Int) ys := ⟨by omega, by have := HM.out; omega⟩
      have i2 : inR (b : Int) us := ⟨by omega, by omega⟩
      have i3 : inR ((a : Int) + (b : Int)) ys := ⟨by omega, by have := HM.out; omega⟩
      have HP1 : Hid (∀ W R, Hid (Fm w p true ys (some (q, true, ys)) R W) → Calls Try.prog 12 #[.pointer (some ⟨p, 0, none⟩), .int .i64 (a : Int)] W fun e w' => ∃ A m c, e = .returned (.tuple #[.slice A m c, .int .i64 0]) ∧ Fm w p true us (some (q, true, ys)) ((.slice A m c, x) :: R) w') :=
        Lib.hid fun W R H => popE_F H.out _ (rng_in i1).2.2.2 (by rw [(rng_in i1).2.1, HM.out, Int.toNat_natCast]; exact hus) (by rw [(rng_in i1).1, HM.out, Int.toNat_natCast]; exact hx)
      have HP2 : Hid (∀ W R, Hid (Fm w p true us (some (q, true, ys)) R W) → Calls Try.prog 12 #[.pointer (some ⟨p, 0, none⟩), .int .i64 (b : Int)] W fun e w' => ∃ A m c, e = .returned (.tuple #[.slice A m c, .int .i64 0]) ∧ Fm w p true zs (some (q, true, ys)) ((.slice A m c, y) :: R) w') :=
        Lib.hid fun W R H => popE_F H.out _ (rng_in i2).2.2.2 (by rw [(rng_in i2).2.1, hul, Int.toNat_natCast, ← hzs, ← ct2, hus]) (by rw [(rng_in i2).1, hul, Int.toNat_natCast]; exact hy)
      have HP3 : Hid (∀ W R, Hid (Fm w q true ys (some (p, true, zs)) R W) → Calls Try.prog 12 #[.pointer (some ⟨q, 0, none⟩), .int .i64 ((a : Int) + (b : Int))] W fun e w' => ∃ A m c, e = .returned (.tuple #[.slice A m c, .int .i64 0]) ∧ Fm w q true zs (some (p, true, zs)) ((.slice A m c, z) :: R) w') :=
        Lib.hid fun W R H => popE_F H.out _ (rng_in i3).2.2.2 (by rw [(rng_in i3).2.1, HM.out, show ((a : Int) + (b : Int)).toNat = a + b by omega, ← hzs, Nat.sub_sub]) (by rw [(rng_in i3).1, HM.out, show ((a : Int) + (b : Int)).toNat = a + b by omega, ← hz, Nat.sub_sub])
      have HLE : Hid (∀ W T R p', Hid (Fm w p' true zs T R W) → Calls Try.prog 21 #[.pointer (some ⟨p', 0, none⟩)] W fun e w' => e = .returned (.int .i64 ((j - a - b : Nat) : Int)) ∧ W = w') := Lib.hid fun W T R p' H => lenE_F H.out hzl
      clear ct1 ct2 hx hus hy hzs hz hul hzl i1 i2 i3
      go_upto_region 12 with (first
        | (go_at_call 11; (with_reducible refine (HBR.out _).mono ?_); rintro e w4 ⟨rfl, rfl⟩)
        | (go_at_call 11; (with_reducible refine (HBR2.out _).mono ?_); rintro e w4 ⟨rfl, rfl⟩))
      go_upto_region 13 with (go_at_call 12; (with_reducible refine (HP1.out _ _ HS2).mono ?_); rintro e w5 ⟨A1, m1, c1, rfl, hs⟩; clear HS2; have HS := Lib.hid hs; clear hs)
      go_upto_region 14 with (go_at_call 12; (with_reducible refine (HP2.out _ _ HS).mono ?_); rintro e w6 ⟨A2, m2, c2, rfl, hs⟩; clear HS; have HS := Lib.hid hs.swap; clear hs)
      go_upto_region 15 with (go_at_call 12; (with_reducible refine (HP3.out _ _ HS).mono ?_); rintro e w7 ⟨A3, m3, c3, rfl, hs⟩; clear HS; have HS := Lib.hid hs; clear hs)
      clear HP1 HP2 HP3 HBR HBR2
      have HOW := Lib.hid (OV.lit w7 w7.heap.size (Nat.le_refl _))
      have HAL := Lib.hid (al0 w7 (.cells #[] 49))
      have HRY := Lib.hid ((HS.out.rd (a := .slice A2 m2 c2) (zs := y) (by simp)).rs.below (al0 w7 (.cells #[] 49)))
      have HRX := Lib.hid ((HS.out.rd (a := .slice A1 m1 c1) (zs := x) (by simp)).rs)
      have HLY : Hid (m2 ≤ 100 ∧ m1 ≤ 100) := Lib.hid (by have := HRY.out.1; have := HRX.out.1; have := HZL.out; omega)
      go_wp2_with (first
        | (at_builtin; refine wpList_appG (B := w7.heap.size) (xs := []) (ys := y) (by rfl) (.tmp 80) (.tmp 81) rfl rfl rfl HOW.out HRY.out (by have := HLY.out; simp; omega) HAL.out.size ?_; intro v1 w8 ho1 hg1 hl1; have HO1 := Lib.hid ho1; have HB8 := Lib.hid (HAL.out.grown hg1 HAL.out.size (fun k hk => (HOW.out.bd k hk).1)); have HRX8 := Lib.hid (HRX.out.below HB8.out); clear ho1 hg1 hl1 HOW HAL HRY HRX)
        | (at_builtin; refine wpList_appG (B := w7.heap.size) (xs := [] ++ y) (ys := x) (by rfl) (.tmp 82) (.tmp 83) rfl rfl rfl HO1.out HRX8.out (by have := HLY.out; have := HZL.out; simp; omega) HB8.out.size ?_; intro v2 w9 ho2 hg2 hl2; have HO2 := Lib.hid ho2; have HB9 := Lib.hid (HB8.out.grown hg2 HB8.out.size (fun k hk => (HO1.out.bd k hk).1)); clear ho2 hg2 hl2 HO1 HB8 HRX8; have HS9 := Lib.hid (HS.out.below HB9.out); have hr9 := HO2.out.rd; rw [List.nil_append, HZ.out] at hr9; have HR9 := Lib.hid hr9; clear hr9)
        | (go_at_call 23; (with_reducible refine (are_F HS9.out (HS9.out.rd (by simp)) HR9.out (by have := HZL.out; omega)).mono ?_); rintro e w10 ⟨rfl, hs⟩; have HSa := Lib.hid hs; have HSb := Lib.hid hs.swap; clear hs HS9 HR9)
        | (go_at_call 21; (with_reducible refine (HLE.out _ _ _ _ HSb).mono ?_); rintro e w11 ⟨rfl, rfl⟩)
        | (go_at_call 21; (with_reducible refine (HLE.out _ _ _ _ HSa).mono ?_); rintro e w12 ⟨rfl, rfl⟩)
        | (go_at_call 22; (with_reducible refine (works_F HSa.out).mono ?_); rintro e w13 ⟨rfl, hs⟩; have HSe := Lib.hid hs; clear hs))
      go_ret
      exact ⟨rfl, HSe.out.2⟩
end Go.Proofs.Ytefgehjkankigaa
