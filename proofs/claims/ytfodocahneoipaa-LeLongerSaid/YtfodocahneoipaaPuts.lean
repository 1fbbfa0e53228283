/-
  What is proved here: accordionlaw01.LePuts returns true for every byte slice, offset, width and integer, and leaves its arguments as they were; no condition.
-/
import Derived.Test.YtfodocahneoipaaRef3
namespace Go.Proofs.Ytfodocahneoipaa
open Go.ChangeShapes Go.WideShapes Go.ChangeAt Go.RowKit Le

theorem wrap64_bd (U : Int) : -9223372036854775808 ≤ wrap64 U ∧ wrap64 U ≤ 9223372036854775807 := by
  unfold wrap64; omega

theorem own_next {w w' : World} {base n lo : Nat} {v v' : Value} {xs : List Value} (h : w.ownsRow base 5 1 v n xs) (hg : w.grownBy w' v'.ownBlock) (hv' : ∀ k, v'.ownBlock = some k → k < lo) (hlo : lo ≤ base) : w'.ownsRow base 5 1 v n xs := by
  refine h.kept hg ?_
  cases e : v.ownBlock with
  | none => exact .inl rfl
  | some k =>
    refine .inr fun h2 => ?_
    have h3 := own_base h k e
    have h4 := hv' k h2.symm
    omega

theorem putL_len {xs : List UInt8} {x u : Int} (h : xs.length ≤ 300) : (putL xs x u).length ≤ 65536 := by
  rw [putL]
  split
  · rename_i h0
    have hw : isW x = true := by
      cases hx : isW x with
      | true => rfl
      | false => rw [putE, if_neg (by simp [hx])] at h0; cases h0
    have := isW_bd hw
    rw [List.length_append, enc_length]; omega
  · simp
theorem putIL_len {xs : List UInt8} {x n : Int} (h : xs.length ≤ 300) : (putIL xs x n).length ≤ 65536 := by
  rw [putIL]
  split
  · rename_i h0
    have hw : isW x = true := by
      cases hx : isW x with
      | true => rfl
      | false => rw [putIE, if_neg (by simp [hx])] at h0; cases h0
    have := isW_bd hw
    rw [List.length_append, enc_length]; omega
  · simp
theorem setL_len {xs : List UInt8} {at' x u : Int} (h : xs.length ≤ 300) : (setL xs at' x u).length ≤ 65536 := by
  rw [setL]
  split
  · rename_i h0
    have hl : lookE xs.length at' x = 0 := by
      by_cases hl : lookE xs.length at' x = 0
      · exact hl
      · rw [setE, if_neg hl] at h0; exact absurd h0 hl
    have := isW_bd (look0 hl).1
    rw [List.length_append, List.length_append, List.length_take, List.length_drop, enc_length]; omega
  · simp

set_option maxHeartbeats 4000000 in
theorem puts_core (A : Option Addr) (n c M U : Nat) (ys : List UInt8) (at' x : Int) (w : World) (hc : c ≤ 9223372036854775807) (hnc : n ≤ c) (hrd : Rd w (.slice A M c) ys) (hys : ys.length ≤ 300) (hcase : (n ≤ 300 ∧ M = n) ∨ (300 < n ∧ M = 300)) (hU : (U : Int) ≤ 18446744073709551615) :
    Calls Try.prog 4 #[.slice A n c, .agg #[.int .i64 at', .int .i64 x, .int .u64 (U : Int)]] w fun e w' => e = .returned (.bool true) ∧ Below w.heap.size w w' := by
  obtain ⟨N, hN⟩ : ∃ N, wrap64 (U : Int) = N := ⟨_, rfl⟩
  have hNb := wrap64_bd (U : Int)
  rw [hN] at hNb
  have h6 : ys.length ≤ 60000 := by omega
  have hp := fun v W (h : Rd W v ys) => put_any v ys x U W h h6
  have hq := fun v W (h : Rd W v ys) => rput_any v ys x U W h h6 hU
  have hr := fun v W (h : Rd W v ys) => putInt_any v ys x N W h h6
  have hs := fun v W (h : Rd W v ys) => rputInt_any v ys x N W h h6 hNb.1 hNb.2
  have ht := fun v W (h : Rd W v ys) => set_any v ys at' x U W h h6
  have hu := fun v W (h : Rd W v ys) hc => rset_any v ys at' x U W h hc h6 hU
  have l1 : (putL ys x U).length ≤ 65536 := putL_len hys
  have l2 : (putIL ys x N).length ≤ 65536 := putIL_len hys
  have l3 : (setL ys at' x U).length ≤ 65536 := setL_len hys
  generalize putL ys x U = L1 at hp hq l1
  generalize putIL ys x N = L2 at hr hs l2
  generalize setL ys at' x U = L3 at ht hu l3
  generalize putE x U = E1 at hp hq
  generalize putIE x N = E2 at hr hs
  generalize setE ys.length at' x U = E3 at ht hu
  have HP := Lib.hid hp
  have HQ := Lib.hid hq
  have HR := Lib.hid hr
  have HS := Lib.hid hs
  have HT := Lib.hid ht
  have HU := Lib.hid hu
  have HY := Lib.hid h6
  have HA := Lib.hid (hrd.alloc (.cells #[.int .i64 at', .int .i64 x, .int .u64 (U : Int)] 34))
  clear hp hq hr hs ht hu hrd hys h6 hNb hU
  rcases hcase with ⟨hn, rfl⟩ | ⟨hn, rfl⟩
  all_goals
    go_enter Try.func4, Try.ntmps4
    go_wp2_with fail
    refine (copyBytes_any _ ys _ HA.out HY.out).mono ?_
    rintro e w1 ⟨v, rfl, ho, hb⟩
    obtain ⟨f0, f1, f2⟩ := box3 hb
    have HV := Lib.hid (Rd.of_own ho)
    have HC := Lib.hid (own_cap ho)
    replace HA := Lib.hid (HA.out.below hb)
    have HB0 := Lib.hid hb
    clear ho hb
    -- Put
    go_wp2_with fail
    refine (HP.out _ _ HV.out).mono ?_
    rintro e w2 ⟨vp, rfl, ho, hb⟩
    have z2 := hb.size
    have OP := Lib.hid ho
    have BP := Lib.hid (fun k hk => (ho.lt k hk).2)
    have HB := Lib.hid hb
    clear ho hb f0 f1 f2
    obtain ⟨f0, f1, f2⟩ := box3 (HB0.out.trans (HB.out.mono HB0.out.size))
    have HVi := Lib.hid (HV.out.below HB.out)
    go_wp2_with fail
    refine (HQ.out _ _ HVi.out).mono ?_
    rintro e w3 ⟨vq, rfl, ho, hb⟩
    have RQ := Lib.hid ho
    have z3 := hb.size
    replace OP := Lib.hid (own_below OP.out hb)
    replace HB := Lib.hid (HB.out.trans (hb.mono HB.out.size))
    clear ho hb f0 f1 f2 HVi
    obtain ⟨f0, f1, f2⟩ := box3 (HB0.out.trans (HB.out.mono HB0.out.size))
    have HVi := Lib.hid (HV.out.below HB.out)
    go_wp2_with fail
    refine (HR.out _ _ HVi.out).mono ?_
    rintro e w4 ⟨vr, rfl, ho, hb⟩
    have OR := Lib.hid ho
    have BR := Lib.hid (fun k hk => (ho.lt k hk).2)
    have z4 := hb.size
    replace OP := Lib.hid (own_below OP.out hb)
    replace RQ := Lib.hid (RQ.out.below hb)
    replace HB := Lib.hid (HB.out.trans (hb.mono HB.out.size))
    clear ho hb f0 f1 f2 HVi
    obtain ⟨f0, f1, f2⟩ := box3 (HB0.out.trans (HB.out.mono HB0.out.size))
    have HVi := Lib.hid (HV.out.below HB.out)
    go_wp2_with fail
    refine (HS.out _ _ HVi.out).mono ?_
    rintro e w5 ⟨vs, rfl, ho, hb⟩
    have RS := Lib.hid ho
    have z5 := hb.size
    replace OP := Lib.hid (own_below OP.out hb)
    replace OR := Lib.hid (own_below OR.out hb)
    replace RQ := Lib.hid (RQ.out.below hb)
    replace HB := Lib.hid (HB.out.trans (hb.mono HB.out.size))
    clear ho hb f0 f1 f2 HVi
    obtain ⟨f0, f1, f2⟩ := box3 (HB0.out.trans (HB.out.mono HB0.out.size))
    have HVi := Lib.hid (HV.out.below HB.out)
    go_wp2_with fail
    refine (HT.out _ _ HVi.out).mono ?_
    rintro e w6 ⟨vt, rfl, ho, hb⟩
    have OT := Lib.hid ho
    have z6 := hb.size
    replace OP := Lib.hid (own_below OP.out hb)
    replace OR := Lib.hid (own_below OR.out hb)
    replace RQ := Lib.hid (RQ.out.below hb)
    replace RS := Lib.hid (RS.out.below hb)
    replace HB := Lib.hid (HB.out.trans (hb.mono HB.out.size))
    clear ho hb f0 f1 f2 HVi
    obtain ⟨f0, f1, f2⟩ := box3 (HB0.out.trans (HB.out.mono HB0.out.size))
    have HVi := Lib.hid (HV.out.below HB.out)
    go_wp2_with fail
    refine (HU.out _ _ HVi.out HC.out).mono ?_
    rintro e w7 ⟨vu, rfl, ho, hb⟩
    have RU := Lib.hid ho
    replace OP := Lib.hid (own_below OP.out hb)
    replace OR := Lib.hid (own_below OR.out hb)
    replace OT := Lib.hid (own_below OT.out hb)
    replace RQ := Lib.hid (RQ.out.below hb)
    replace RS := Lib.hid (RS.out.below hb)
    replace HB := Lib.hid (HB.out.trans (hb.mono HB.out.size))
    clear ho hb f0 f1 f2 HVi
    go_wp2_with fail
    refine (eqBytes_any _ _ L1 L1 _ (Rd.of_own OP.out) RQ.out).mono ?_
    rintro e w' ⟨rfl, rfl⟩
    rw [beq_self_eq_true]
    go_wp2_with fail
    refine (eqBytes_any _ _ L2 L2 _ (Rd.of_own OR.out) RS.out).mono ?_
    rintro e w' ⟨rfl, rfl⟩
    rw [beq_self_eq_true]
    go_wp2_with fail
    refine (eqBytes_any _ _ L3 L3 _ (Rd.of_own OT.out) RU.out).mono ?_
    rintro e w' ⟨rfl, rfl⟩
    rw [beq_self_eq_true]
    clear RQ RS RU
    go_wp2_with fail
    refine (spoil_any _ L1 _ _ _ OP.out l1).mono ?_
    rintro e w8 ⟨rfl, hg⟩
    have hz1 := HB.out.size
    replace OR := Lib.hid (own_next (lo := w2.heap.size) OR.out hg BP.out z3)
    replace OT := Lib.hid (own_next (lo := w2.heap.size) OT.out hg BP.out (by omega))
    replace HB := Lib.hid (HB.out.grown hg HB.out.size (own_base OP.out))
    clear hg hz1
    go_wp2_with fail
    refine (spoil_any _ L2 _ _ _ OR.out l2).mono ?_
    rintro e w9 ⟨rfl, hg⟩
    replace OT := Lib.hid (own_next (lo := w4.heap.size) OT.out hg BR.out (by omega))
    replace HB := Lib.hid (HB.out.grown hg HB.out.size (fun k hk => by have h1 := own_base OR.out k hk; omega))
    clear hg
    go_wp2_with fail
    refine (spoil_any _ L3 _ _ _ OT.out l3).mono ?_
    rintro e w10 ⟨rfl, hg⟩
    replace HB := Lib.hid (HB.out.grown hg HB.out.size (fun k hk => by have h1 := own_base OT.out k hk; omega))
    clear hg
    go_wp2_with fail
    refine (eqBytes_any _ _ ys ys _ (HV.out.below HB.out) (HA.out.below HB.out)).mono ?_
    rintro e w' ⟨rfl, rfl⟩
    rw [beq_self_eq_true]
    go_wp2_with fail
    refine (works_true _).mono ?_
    rintro e w11 ⟨rfl, hb⟩
    replace HB := Lib.hid (HB.out.trans (hb.mono HB.out.size))
    clear hb
    go_wp2_with fail
    go_ret
    exact ⟨rfl, below_box (HB0.out.trans (HB.out.mono HB0.out.size))⟩

theorem puts_walk (A : Option Addr) (n c : Nat) (xs : List UInt8) (at' x u : Int) (w : World) (hr : Rds w A n c xs) (hc : c ≤ maxLen) (u0 : 0 ≤ u) (u1 : u ≤ 18446744073709551615) :
    Calls Try.prog 4 #[.slice A n c, .agg #[.int .i64 at', .int .i64 x, .int .u64 u]] w fun e w' => e = .returned (.bool true) ∧ Below w.heap.size w w' := by
  have hnc := hr.2.1
  obtain ⟨m, ys, hm, hmK, _, hcase⟩ := firstK hr 300
  have hc' : c ≤ 9223372036854775807 := by simp only [maxLen] at hc; omega
  have hrd : Rd w (.slice A m c) ys := ⟨_, _, _, rfl, hm⟩
  obtain ⟨U, rfl⟩ := Int.eq_ofNat_of_zero_le u0
  exact puts_core A n c m U ys at' x w hc' hnc hrd (by rw [hm.1]; exact hmK) hcase u1

set_option maxRecDepth 100000 in
theorem lePuts_lifted (os : Os) (started : os.Started) (H : Type) (enc : TypeId × Value → H) :
    ReturnsInHanded {} Try.checked os 4 .any (Rows.lePutsSpec.pre6 enc Try.prog Try.f4 Rows.lePutsRow.domain false) (Rows.lePutsSpec.post enc Try.prog Try.f4 false true false false) := by
  refine returnsInHanded_of_change (C := Try.checked) ownK started (by kernel_rfl) Try.func4
    (ChangeSpec.witness6 (enc := enc) (C := Try.checked) false ⟨#[], #[.slice none 0 0, .agg #[.int .i64 0, .int .i64 0, .int .u64 0]], []⟩ 8 (by kernel_rfl) (by kernel_rfl) (by kernel_rfl) (by kernel_rfl)) ?_
  intro W base args ds gs before hval0 hW hcnd _
  have hval : ∀ (j : Nat) t v, Try.f4.params[j]? = some t → args[j]? = some v → Value.okWide Try.prog W .any base t v := hval0
  have hW' := hW
  obtain ⟨p, q, hA0, hV, rfl, hfz, hnd⟩ := hW
  have hA : DataW.TrodAll enc Try.prog W 0 (fun _ => true) true Try.f4.params.toList args.toList ds p := hA0
  rw [Try.params4] at hA hval
  obtain ⟨v0, vs0, d0, ds0, p0, q0, hargs, rfl, rfl, h0, r0⟩ := trodAll_cons hA
  obtain ⟨v1, vs1, d1, ds1, p1, q1, rfl, rfl, rfl, h1, r1⟩ := trodAll_cons r0
  obtain ⟨rfl, rfl, rfl⟩ := trodAll_nil r1
  obtain rfl : args = #[v0, v1] := by cases args; simp_all
  obtain ⟨rfl, rfl⟩ := trodVars_none hV
  obtain ⟨A0, n0, c0, xs0, rfl, hr0, hc0⟩ := open_bytes (hval 0 22 v0 rfl rfl) h0
  obtain ⟨x1, y1, u1, rfl, u01, u11⟩ := open_case (hval 1 34 v1 rfl rfl) h1
  refine (puts_walk A0 n0 c0 xs0 x1 y1 u1 W hr0 hc0 u01 u11).mono fun e W' ⟨he, hb⟩ => ?_
  subst he
  exact ⟨_, rfl, law_post (by rw [Try.params4]; decide +kernel) rfl rfl rfl rfl rfl hW' hb⟩

theorem lePuts_over : Rows.lePutsRow.holds Try.pinned (OpenSpec.ofChange Rows.lePutsSpec) :=
  OpenClaim.holds_of_wide 4 Try.f4 rfl rfl rfl rfl rfl rfl rfl ⟨rfl, rfl, rfl, rfl, rfl⟩ rfl rfl rfl rfl rfl (by kernel_rfl) Try.func4 (by kernel_rfl)
    (of_decide_eq_true (by kernel_rfl)) (by unfold Func.isWrapper; first | (rw [if_pos (by decide +kernel)]; kernel_rfl) | (rw [if_neg (by decide +kernel)]; exact ⟨rfl, rfl⟩))
    (fun os started H enc _ => lePuts_lifted os started H enc)

theorem lePuts_holds : Rows.LePutsSaid := lePuts_over
end Go.Proofs.Ytfodocahneoipaa
