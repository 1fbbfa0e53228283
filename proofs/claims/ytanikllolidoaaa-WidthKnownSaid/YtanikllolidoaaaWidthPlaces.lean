/-
  What is proved here: accordionlaw03.WidthPlaces returns true for all lists of numbers, offsets and widths, and leaves its arguments as they were; no condition.
-/
import Derived.Test.YtanikllolidoaaaLaw
namespace Go.Proofs.Ytanikllolidoaaa
open Go.ChangeShapes Go.WideShapes Go.ChangeAt Go.RowKit Wd

theorem widthPlaces_walk (A : Option Addr) (n c : Nat) (xs : List Int) (a x : Int) (w : World) (hr : Rds w A n c xs) (hc : c ≤ maxLen) :
    Calls Try.prog 4 #[.slice A n c, .int .i64 a, .int .i64 x] w fun e w' => e = .returned (.bool true) ∧ Below w.heap.size w w' := by
  unfold maxLen at hc
  have hnc := hr.2.1
  obtain ⟨m, ys, hm, hmK, _, hcase⟩ := firstK hr 60
  have hys : ys.length ≤ 60000 := by rw [hm.1]; omega
  have hrd : Rd w (.slice A m c) ys := ⟨_, _, _, rfl, hm⟩
  have HA := Lib.hid hrd
  have HY := Lib.hid hys
  have HB := Lib.hid (Below.refl w.heap.size w)
  clear hr hm hys hrd
  rcases hcase with ⟨hn, rfl⟩ | ⟨hn, rfl⟩
  all_goals
    go_enter Try.func4, Try.ntmps4
    go_wp2_with fail
    refine (copyInts_any _ ys _ HA.out HY.out).mono ?_
    rintro e w1 ⟨v, rfl, ho, hb⟩
    replace HA := Lib.hid (HA.out.below hb)
    replace HB := Lib.hid (HB.out.trans (hb.mono HB.out.size))
    have Hv := Lib.hid (Rd.of_own ho)
    clear ho hb
    go_wp2_with fail
    refine (up_any a x _).mono ?_
    rintro e w' ⟨rfl, rfl⟩
    go_wp2_with fail
    refine (rup_any a x _).mono ?_
    rintro e w' ⟨rfl, rfl⟩
    go_wp2_with fail
    refine (max_any _ ys _ Hv.out HY.out).mono ?_
    rintro e w' ⟨rfl, rfl⟩
    go_wp2_with fail
    refine (rmax_any _ ys _ Hv.out HY.out).mono ?_
    rintro e w' ⟨rfl, rfl⟩
    go_wp2_with fail
    refine (eqInts_same _ _ ys _ Hv.out HA.out HY.out).mono ?_
    rintro e w2 ⟨rfl, hb⟩
    replace HA := Lib.hid (HA.out.below hb)
    replace Hv := Lib.hid (Hv.out.below hb)
    replace HB := Lib.hid (HB.out.trans (hb.mono HB.out.size))
    clear hb
    go_wp2_with fail
    refine (works_true _).mono ?_
    rintro e w3 ⟨rfl, hb⟩
    replace HA := Lib.hid (HA.out.below hb)
    replace Hv := Lib.hid (Hv.out.below hb)
    replace HB := Lib.hid (HB.out.trans (hb.mono HB.out.size))
    clear hb
    go_wp2_with fail
    go_ret
    exact ⟨rfl, HB.out⟩

set_option maxRecDepth 100000 in
theorem widthPlaces_lifted (os : Os) (started : os.Started) (H : Type) (enc : TypeId × Value → H) :
    ReturnsInHanded {} Try.checked os 4 .any (Rows.widthPlacesSpec.pre6 enc Try.prog Try.f4 Rows.widthPlacesRow.domain false) (Rows.widthPlacesSpec.post enc Try.prog Try.f4 false true false false) := by
  refine returnsInHanded_of_change (C := Try.checked) ownK started (by kernel_rfl) Try.func4
    (ChangeSpec.witness6 (enc := enc) (C := Try.checked) false ⟨#[], #[.slice none 0 0, .int .i64 0, .int .i64 0], []⟩ 8 (by kernel_rfl) (by kernel_rfl) (by kernel_rfl) (by kernel_rfl)) ?_
  intro W base args ds gs before hval0 hW hcnd _
  have hval : ∀ (j : Nat) t v, Try.f4.params[j]? = some t → args[j]? = some v → Value.okWide Try.prog W .any base t v := hval0
  have hW' := hW
  obtain ⟨p, q, hA0, hV, rfl, hfz, hnd⟩ := hW
  have hA : DataW.TrodAll enc Try.prog W 0 (fun _ => true) true Try.f4.params.toList args.toList ds p := hA0
  rw [Try.params4] at hA hval
  obtain ⟨v0, vs0, d0, ds0, p0, q0, hargs, rfl, rfl, h0, r0⟩ := trodAll_cons hA
  obtain ⟨v1, vs1, d1, ds1, p1, q1, rfl, rfl, rfl, h1, r1⟩ := trodAll_cons r0
  obtain ⟨v2, vs2, d2, ds2, p2, q2, rfl, rfl, rfl, h2, r2⟩ := trodAll_cons r1
  obtain ⟨rfl, rfl, rfl⟩ := trodAll_nil r2
  obtain rfl : args = #[v0, v1, v2] := by cases args; simp_all
  obtain ⟨rfl, rfl⟩ := trodVars_none hV
  obtain ⟨A0, n0, c0, xs0, rfl, hr0, hc0, hb0⟩ := open_list (hval 0 30 v0 rfl rfl) h0
  obtain ⟨a1, rfl, rfl, rfl, w1⟩ := open_int Try.underlying3 (hval 1 3 v1 rfl rfl) h1
  obtain ⟨a2, rfl, rfl, rfl, w2⟩ := open_int Try.underlying3 (hval 2 3 v2 rfl rfl) h2
  refine (widthPlaces_walk A0 n0 c0 xs0 a1 a2 W hr0 hc0).mono fun e W' ⟨he, hb⟩ => ?_
  subst he
  exact ⟨_, rfl, law_post (by rw [Try.params4]; decide +kernel) rfl rfl rfl rfl rfl hW' hb⟩

theorem widthPlaces_over : Rows.widthPlacesRow.holds Try.pinned (OpenSpec.ofChange Rows.widthPlacesSpec) :=
  OpenClaim.holds_of_wide 4 Try.f4 rfl rfl rfl rfl rfl rfl rfl ⟨rfl, rfl, rfl, rfl, rfl⟩ rfl rfl rfl rfl rfl (by kernel_rfl) Try.func4 (by kernel_rfl)
    (of_decide_eq_true (by kernel_rfl)) (by unfold Func.isWrapper; first | (rw [if_pos (by decide +kernel)]; kernel_rfl) | (rw [if_neg (by decide +kernel)]; exact ⟨rfl, rfl⟩))
    (fun os started H enc _ => widthPlaces_lifted os started H enc)

theorem widthPlaces_holds : Rows.WidthPlacesSaid := widthPlaces_over
end Go.Proofs.Ytanikllolidoaaa
