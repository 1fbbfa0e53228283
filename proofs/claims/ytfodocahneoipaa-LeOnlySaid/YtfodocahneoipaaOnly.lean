/-
  What is proved here: accordionlaw01.LeOnly returns true for every byte slice, offset and width, and leaves its arguments as they were; no condition.
-/
import Derived.Test.YtfodocahneoipaaMore
namespace Go.Proofs.Ytfodocahneoipaa
open Go.ChangeShapes Go.WideShapes Go.ChangeAt Go.RowKit Le

theorem only_no (A : Option Addr) (n c m : Nat) (ys : List UInt8) (at' x : Int) (w : World) (hc : c ≤ 9223372036854775807) (hnc : n ≤ c) (hrd : Rd w (.slice A m c) ys) (hys : ys.length ≤ 60000) (hcase : (n ≤ 300 ∧ m = n) ∨ (300 < n ∧ m = 300))
    (he : ¬ lookE ys.length at' x = 0) :
    Calls Try.prog 6 #[.slice A n c, .int .i64 at', .int .i64 x] w fun e w' => e = .returned (.bool true) ∧ Below w.heap.size w w' := by
  have hl := fun v W (h : Rd W v ys) => load_any v ys at' x W h hys
  have hi := fun v W (h : Rd W v ys) => loadInt_any v ys at' x W h hys
  have e1 : loadU ys at' x = 0 := by rw [loadU, if_neg he]
  have e2 : loadI ys at' x = 0 := by rw [loadI, if_neg he]
  rw [e1] at hl
  rw [e2] at hi
  obtain ⟨er, her⟩ : ∃ er, lookE ys.length at' x = er := ⟨_, rfl⟩
  rw [her] at he hl hi
  have hb : (er != 0) = true := by simpa using he
  have hb' : (er == 0) = false := by simpa using he
  have HL := Lib.hid hl
  have HI := Lib.hid hi
  have HV0 := Lib.hid hrd
  have HY := Lib.hid hys
  clear hl hi e1 e2 her he hrd hys
  rcases hcase with ⟨hn, rfl⟩ | ⟨hn, rfl⟩
  all_goals
    go_enter Try.func6, Try.ntmps6
    go_wp2_with fail
    refine (copyBytes_any _ ys w HV0.out HY.out).mono ?_
    rintro e w1 ⟨v, rfl, ho, hb⟩
    have HV := Lib.hid (Rd.of_own ho)
    have HB := Lib.hid hb
    clear ho hb HV0
    go_wp2_with fail
    refine (HL.out _ _ HV.out).mono ?_
    rintro e w2 ⟨rfl, hb⟩
    replace HV := Lib.hid (HV.out.below hb)
    replace HB := Lib.hid (HB.out.trans (hb.mono HB.out.size))
    clear hb
    go_wp2_with fail
    refine (HI.out _ _ HV.out).mono ?_
    rintro e w3 ⟨rfl, hb⟩
    replace HB := Lib.hid (HB.out.trans (hb.mono HB.out.size))
    clear hb
    go_wp2_with fail
    refine (works_true _).mono ?_
    rintro e w4 ⟨rfl, hb⟩
    replace HB := Lib.hid (HB.out.trans (hb.mono HB.out.size))
    clear hb
    go_wp2_with fail
    go_ret
    exact ⟨rfl, HB.out⟩

set_option maxHeartbeats 1000000 in
theorem only_yes (A : Option Addr) (n c m a k : Nat) (ys : List UInt8) (w : World) (hc : c ≤ 9223372036854775807) (hnc : n ≤ c) (hrd : Rd w (.slice A m c) ys) (hlen : ys.length = m) (hcase : (n ≤ 300 ∧ m = n) ∨ (300 < n ∧ m = 300))
    (hw : isW (k : Int) = true) (hak : a + k ≤ m) (hm : m ≤ 300) :
    Calls Try.prog 6 #[.slice A n c, .int .i64 (a : Int), .int .i64 (k : Int)] w fun e w' => e = .returned (.bool true) ∧ Below w.heap.size w w' := by
  have hk := isW_nat hw
  have hys : ys.length ≤ 60000 := by omega
  have hl := fun v W (h : Rd W v ys) => load_any v ys a k W h hys
  have hi := fun v W (h : Rd W v ys) => loadInt_any v ys a k W h hys
  have e0 : lookE ys.length a k = 0 := look0_of hw (by omega) (by omega)
  obtain ⟨zs, hz⟩ : ∃ zs, (ys.drop a).take k = zs := ⟨_, rfl⟩
  have hzl : zs.length = (k : Int).toNat := by rw [← hz, List.length_take, List.length_drop, hlen]; simp; omega
  have e1 : loadU ys a k = ((dec zs : Nat) : Int) := by rw [loadU, if_pos e0, seg_nat, hz]
  have e2 : loadI ys a k = sgn k ((dec zs : Nat) : Int) := by rw [loadI, if_pos e0, seg_nat, hz]
  rw [e1, e0] at hl
  rw [e2, e0] at hi
  have hp := fun W => put_any (.slice none 0 0) [] k (dec zs) W (Rd.nil W none 0) (by decide)
  have hpi := fun W => putInt_any (.slice none 0 0) [] k (sgn k ((dec zs : Nat) : Int)) W (Rd.nil W none 0) (by decide)
  rw [(put_dec hw hzl).1, (put_dec hw hzl).2] at hp
  rw [(putI_dec hw hzl).1, (putI_dec hw hzl).2] at hpi
  obtain ⟨S, hS⟩ : ∃ S, sgn k ((dec zs : Nat) : Int) = S := ⟨_, rfl⟩
  rw [hS] at hi hpi
  obtain ⟨D, hD⟩ : ∃ D, ((dec zs : Nat) : Int) = D := ⟨_, rfl⟩
  rw [hD] at hl hp
  have HL := Lib.hid hl
  have HI := Lib.hid hi
  have HP := Lib.hid hp
  have HPI := Lib.hid hpi
  have HV0 := Lib.hid hrd
  have HY := Lib.hid hlen
  have HZ := Lib.hid hz
  have d1 : decide ((a : Int) < 0) = false := by simp
  have d2 : decide ((k : Int) < 1) = false := by simp; omega
  have d3 : decide ((m : Int) < (k : Int)) = false := by simp; omega
  have d4 : decide ((m : Int) - (k : Int) < (a : Int)) = false := by simp; omega
  clear hl hi hp hpi e0 e1 e2 hrd hys hw hz hzl hS hD hlen
  rcases hcase with ⟨hn, rfl⟩ | ⟨hn, rfl⟩
  all_goals
    go_enter Try.func6, Try.ntmps6
    go_wp2_with fail
    refine (copyBytes_ne _ ys _ w HV0.out HY.out (by omega) (by omega)).mono ?_
    rintro e w1 ⟨b, c1, rfl, hr, hb⟩
    have hc1 := hr.2.1
    have HV := Lib.hid hr
    have HB := Lib.hid hb
    clear hr hb HV0
    go_wp2_with fail
    refine (HL.out _ _ HV.out.rd).mono ?_
    rintro e w2 ⟨rfl, hb⟩
    replace HV := Lib.hid (HV.out.below hb)
    replace HB := Lib.hid (HB.out.trans (hb.mono HB.out.size))
    clear hb
    go_wp2_with fail
    refine (HI.out _ _ HV.out.rd).mono ?_
    rintro e w3 ⟨rfl, hb⟩
    replace HV := Lib.hid (HV.out.below hb)
    replace HB := Lib.hid (HB.out.trans (hb.mono HB.out.size))
    clear hb
    go_wp2_with fail
    refine (HP.out _).mono ?_
    rintro e w4 ⟨v1, rfl, ho, hb⟩
    have HX := Lib.hid (Rd.of_own ho)
    replace HV := Lib.hid (HV.out.below hb)
    replace HB := Lib.hid (HB.out.trans (hb.mono HB.out.size))
    clear hb ho
    go_wp2_with fail
    refine (HPI.out _).mono ?_
    rintro e w5 ⟨v2, rfl, ho, hb⟩
    have HX2 := Lib.hid (Rd.of_own ho)
    replace HX := Lib.hid (HX.out.below hb)
    replace HV := Lib.hid (HV.out.below hb)
    replace HB := Lib.hid (HB.out.trans (hb.mono HB.out.size))
    clear hb ho
    go_wp2_with fail
    have hcut := HV.out.cut (lo := a) (m := k) (c' := c1 - a) hak (by omega)
    rw [HZ.out, Nat.zero_add] at hcut
    refine (eqBytes_any _ _ zs zs _ HX.out hcut.rd).mono ?_
    rintro e w' ⟨rfl, rfl⟩
    rw [beq_self_eq_true]
    clear hcut
    go_wp2_with fail
    refine (eqBytes_any _ _ zs zs _ HX2.out HX.out).mono ?_
    rintro e w' ⟨rfl, rfl⟩
    rw [beq_self_eq_true]
    go_wp2_with fail
    refine (works_true _).mono ?_
    rintro e w6 ⟨rfl, hb⟩
    replace HB := Lib.hid (HB.out.trans (hb.mono HB.out.size))
    clear hb
    go_wp2_with fail
    go_ret
    exact ⟨rfl, HB.out⟩

theorem only_walk (A : Option Addr) (n c : Nat) (xs : List UInt8) (at' x : Int) (w : World) (hr : Rds w A n c xs) (hc : c ≤ maxLen) :
    Calls Try.prog 6 #[.slice A n c, .int .i64 at', .int .i64 x] w fun e w' => e = .returned (.bool true) ∧ Below w.heap.size w w' := by
  have hnc := hr.2.1
  obtain ⟨m, ys, hm, hmK, _, hcase⟩ := firstK hr 300
  have hc' : c ≤ 9223372036854775807 := by simp only [maxLen] at hc; omega
  have hrd : Rd w (.slice A m c) ys := ⟨_, _, _, rfl, hm⟩
  by_cases he : lookE ys.length at' x = 0
  · obtain ⟨h1, h0, hle⟩ := look0 he
    have hx := isW_bd h1
    obtain ⟨a, rfl⟩ := Int.eq_ofNat_of_zero_le h0
    obtain ⟨k, rfl⟩ := Int.eq_ofNat_of_zero_le (show 0 ≤ x by omega)
    rw [hm.1] at hle
    exact only_yes A n c m a k ys w hc' hnc hrd hm.1 hcase h1 (by omega) hmK
  · exact only_no A n c m ys at' x w hc' hnc hrd (by rw [hm.1]; omega) hcase he

set_option maxRecDepth 100000 in
theorem leOnly_lifted (os : Os) (started : os.Started) (H : Type) (enc : TypeId × Value → H) :
    ReturnsInHanded {} Try.checked os 6 .any (Rows.leOnlySpec.pre6 enc Try.prog Try.f6 Rows.leOnlyRow.domain false) (Rows.leOnlySpec.post enc Try.prog Try.f6 false true false false) := by
  refine returnsInHanded_of_change (C := Try.checked) ownK started (by kernel_rfl) Try.func6
    (ChangeSpec.witness6 (enc := enc) (C := Try.checked) false ⟨#[], #[.slice none 0 0, .int .i64 0, .int .i64 0], []⟩ 8 (by kernel_rfl) (by kernel_rfl) (by kernel_rfl) (by kernel_rfl)) ?_
  intro W base args ds gs before hval0 hW hcnd _
  have hval : ∀ (j : Nat) t v, Try.f6.params[j]? = some t → args[j]? = some v → Value.okWide Try.prog W .any base t v := hval0
  have hW' := hW
  obtain ⟨p, q, hA0, hV, rfl, hfz, hnd⟩ := hW
  have hA : DataW.TrodAll enc Try.prog W 0 (fun _ => true) true Try.f6.params.toList args.toList ds p := hA0
  rw [Try.params6] at hA hval
  obtain ⟨v0, vs0, d0, ds0, p0, q0, hargs, rfl, rfl, h0, r0⟩ := trodAll_cons hA
  obtain ⟨v1, vs1, d1, ds1, p1, q1, rfl, rfl, rfl, h1, r1⟩ := trodAll_cons r0
  obtain ⟨v2, vs2, d2, ds2, p2, q2, rfl, rfl, rfl, h2, r2⟩ := trodAll_cons r1
  obtain ⟨rfl, rfl, rfl⟩ := trodAll_nil r2
  obtain rfl : args = #[v0, v1, v2] := by cases args; simp_all
  obtain ⟨rfl, rfl⟩ := trodVars_none hV
  obtain ⟨A0, n0, c0, xs0, rfl, hr0, hc0⟩ := open_bytes (hval 0 22 v0 rfl rfl) h0
  obtain ⟨a1, rfl, rfl, rfl, w1⟩ := open_int Try.underlying3 (hval 1 3 v1 rfl rfl) h1
  obtain ⟨a2, rfl, rfl, rfl, w2⟩ := open_int Try.underlying3 (hval 2 3 v2 rfl rfl) h2
  refine (only_walk A0 n0 c0 xs0 a1 a2 W hr0 hc0).mono fun e W' ⟨he, hb⟩ => ?_
  subst he
  exact ⟨_, rfl, law_post (by rw [Try.params6]; decide +kernel) rfl rfl rfl rfl rfl hW' hb⟩

theorem leOnly_over : Rows.leOnlyRow.holds Try.pinned (OpenSpec.ofChange Rows.leOnlySpec) :=
  OpenClaim.holds_of_wide 6 Try.f6 rfl rfl rfl rfl rfl rfl rfl ⟨rfl, rfl, rfl, rfl, rfl⟩ rfl rfl rfl rfl rfl (by kernel_rfl) Try.func6 (by kernel_rfl)
    (of_decide_eq_true (by kernel_rfl)) (by unfold Func.isWrapper; first | (rw [if_pos (by decide +kernel)]; kernel_rfl) | (rw [if_neg (by decide +kernel)]; exact ⟨rfl, rfl⟩))
    (fun os started H enc _ => leOnly_lifted os started H enc)

theorem leOnly_holds : Rows.LeOnlySaid := leOnly_over
end Go.Proofs.Ytfodocahneoipaa
