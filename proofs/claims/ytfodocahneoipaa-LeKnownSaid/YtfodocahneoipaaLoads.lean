/-
  What is proved here: accordionlaw01.LeLoads returns true for every byte slice, offset and width, and leaves its arguments as they were; no condition.
-/
import Derived.Test.YtfodocahneoipaaLaw
import Derived.Test.YtfodocahneoipaaRef
namespace Go.Proofs.Ytfodocahneoipaa
open Go.ChangeShapes Go.WideShapes Go.ChangeAt Go.RowKit Le

theorem loads_walk (A : Option Addr) (n c : Nat) (xs : List UInt8) (at' x : Int) (w : World) (hr : Rds w A n c xs) (hc : c ≤ maxLen) :
    Calls Try.prog 3 #[.slice A n c, .int .i64 at', .int .i64 x] w fun e w' => e = .returned (.bool true) ∧ Below w.heap.size w w' := by
  unfold maxLen at hc
  have hnc := hr.2.1
  obtain ⟨m, ys, hm, hmK, _, hcase⟩ := firstK hr 300
  have hys : ys.length ≤ 60000 := by rw [hm.1]; omega
  have hrd : Rd w (.slice A m c) ys := ⟨_, _, _, rfl, hm⟩
  have HV0 := Lib.hid hrd
  have HY := Lib.hid hys
  clear hr hm hys hrd
  rcases hcase with ⟨hn, rfl⟩ | ⟨hn, rfl⟩
  all_goals
    go_enter Try.func3, Try.ntmps3
    go_wp2_with fail
    refine (copyBytes_any _ ys w HV0.out HY.out).mono ?_
    rintro e w1 ⟨v, rfl, ho, hb⟩
    have HV := Lib.hid (Rd.of_own ho)
    have HA := Lib.hid (HV0.out.below hb)
    have HB := Lib.hid hb
    clear ho hb HV0
    go_wp2_with fail
    refine (load_any _ ys at' x _ HV.out HY.out).mono ?_
    rintro e w2 ⟨rfl, hb⟩
    replace HV := Lib.hid (HV.out.below hb)
    replace HA := Lib.hid (HA.out.below hb)
    replace HB := Lib.hid (HB.out.trans (hb.mono HB.out.size))
    clear hb
    go_wp2_with fail
    refine (rload_any _ ys at' x _ HV.out HY.out).mono ?_
    rintro e w' ⟨rfl, rfl⟩
    go_wp2_with fail
    refine (loadInt_any _ ys at' x _ HV.out HY.out).mono ?_
    rintro e w3 ⟨rfl, hb⟩
    replace HV := Lib.hid (HV.out.below hb)
    replace HA := Lib.hid (HA.out.below hb)
    replace HB := Lib.hid (HB.out.trans (hb.mono HB.out.size))
    clear hb
    go_wp2_with fail
    refine (rloadInt_any _ ys at' x _ HV.out HY.out).mono ?_
    rintro e w' ⟨rfl, rfl⟩
    go_wp2_with fail
    refine (eqBytes_any _ _ ys ys _ HV.out HA.out).mono ?_
    rintro e w' ⟨rfl, rfl⟩
    rw [beq_self_eq_true]
    go_wp2_with fail
    refine (works_true _).mono ?_
    rintro e w4 ⟨rfl, hb⟩
    replace HB := Lib.hid (HB.out.trans (hb.mono HB.out.size))
    clear hb
    go_wp2_with fail
    go_ret
    exact ⟨rfl, HB.out⟩

set_option maxRecDepth 100000 in
theorem loads_lifted (os : Os) (started : os.Started) (H : Type) (enc : TypeId × Value → H) :
    ReturnsInHanded {} Try.checked os 3 .any (Rows.leLoadsSpec.pre6 enc Try.prog Try.f3 Rows.leLoadsRow.domain false) (Rows.leLoadsSpec.post enc Try.prog Try.f3 false true false false) := by
  refine returnsInHanded_of_change (C := Try.checked) ownK started (by kernel_rfl) Try.func3
    (ChangeSpec.witness6 (enc := enc) (C := Try.checked) false ⟨#[], #[.slice none 0 0, .int .i64 0, .int .i64 0], []⟩ 8 (by kernel_rfl) (by kernel_rfl) (by kernel_rfl) (by kernel_rfl)) ?_
  intro W base args ds gs before hval0 hW hcnd _
  have hval : ∀ (j : Nat) t v, Try.f3.params[j]? = some t → args[j]? = some v → Value.okWide Try.prog W .any base t v := hval0
  have hW' := hW
  obtain ⟨p, q, hA0, hV, rfl, hfz, hnd⟩ := hW
  have hA : DataW.TrodAll enc Try.prog W 0 (fun _ => true) true Try.f3.params.toList args.toList ds p := hA0
  rw [Try.params3] at hA hval
  obtain ⟨v0, vs0, d0, ds0, p0, q0, hargs, rfl, rfl, h0, r0⟩ := trodAll_cons hA
  obtain ⟨v1, vs1, d1, ds1, p1, q1, rfl, rfl, rfl, h1, r1⟩ := trodAll_cons r0
  obtain ⟨v2, vs2, d2, ds2, p2, q2, rfl, rfl, rfl, h2, r2⟩ := trodAll_cons r1
  obtain ⟨rfl, rfl, rfl⟩ := trodAll_nil r2
  obtain rfl : args = #[v0, v1, v2] := by cases args; simp_all
  obtain ⟨rfl, rfl⟩ := trodVars_none hV
  obtain ⟨A, n, c, xs, rfl, hr, hc⟩ := open_bytes (hval 0 22 v0 rfl rfl) h0
  obtain ⟨a1, rfl, rfl, rfl, w1⟩ := open_int Try.underlying3 (hval 1 3 v1 rfl rfl) h1
  obtain ⟨a2, rfl, rfl, rfl, w2⟩ := open_int Try.underlying3 (hval 2 3 v2 rfl rfl) h2
  refine (loads_walk A n c xs a1 a2 W hr hc).mono fun e W' ⟨he, hb⟩ => ?_
  subst he
  exact ⟨_, rfl, law_post (by rw [Try.params3]; decide +kernel) rfl rfl rfl rfl rfl hW' hb⟩

theorem leLoads_over : Rows.leLoadsRow.holds Try.pinned (OpenSpec.ofChange Rows.leLoadsSpec) :=
  OpenClaim.holds_of_wide 3 Try.f3 rfl rfl rfl rfl rfl rfl rfl ⟨rfl, rfl, rfl, rfl, rfl⟩ rfl rfl rfl rfl rfl (by kernel_rfl) Try.func3 (by kernel_rfl)
    (of_decide_eq_true (by kernel_rfl)) (by unfold Func.isWrapper; first | (rw [if_pos (by decide +kernel)]; kernel_rfl) | (rw [if_neg (by decide +kernel)]; exact ⟨rfl, rfl⟩))
    (fun os started H enc _ => loads_lifted os started H enc)

theorem leLoads_holds : Rows.LeLoadsSaid := leLoads_over
end Go.Proofs.Ytfodocahneoipaa
