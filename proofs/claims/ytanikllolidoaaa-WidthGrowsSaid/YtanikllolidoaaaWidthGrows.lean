/-
  What is proved here: accordionlaw03.WidthGrows returns true for all pairs of integers, and leaves its arguments as they were; no condition.
-/
import Derived.Test.YtanikllolidoaaaLaw
namespace Go.Proofs.Ytanikllolidoaaa
open Go.ChangeShapes Go.WideShapes Go.ChangeAt Go.RowKit Wd

theorem mU_mono {a b : Int} (h : a ≤ b) : mU a ≤ mU b := by
  rcases mU_cases a with ⟨_, e1⟩ | ⟨_, _, e1⟩ | ⟨_, _, e1⟩ | ⟨_, e1⟩ <;> rcases mU_cases b with ⟨_, e2⟩ | ⟨_, _, e2⟩ | ⟨_, _, e2⟩ | ⟨_, e2⟩ <;> rw [e1, e2] <;> omega
theorem mI_mono {a b : Int} (h0 : 0 ≤ a) (h : a ≤ b) : mI a ≤ mI b := by
  rcases mI_cases a with ⟨_, e1⟩ | ⟨_, _, e1⟩ | ⟨_, _, e1⟩ | ⟨_, e1⟩ <;> rcases mI_cases b with ⟨_, e2⟩ | ⟨_, _, e2⟩ | ⟨_, _, e2⟩ | ⟨_, e2⟩ <;> rw [e1, e2] <;> omega
theorem mI_neg (a : Int) : mI (-a - 1) = mI a := by
  rcases mI_cases a with ⟨_, e1⟩ | ⟨_, _, e1⟩ | ⟨_, _, e1⟩ | ⟨_, e1⟩ <;> rcases mI_cases (-a - 1) with ⟨_, e2⟩ | ⟨_, _, e2⟩ | ⟨_, _, e2⟩ | ⟨_, e2⟩ <;> rw [e1, e2] <;> omega
theorem mI_mU {a : Int} (h0 : 0 ≤ a) (h1 : a ≤ 9223372036854775807) : mI a = mU a ∨ (mI a ≠ mU a ∧ mI a = 2 * mU a) := by
  rcases mI_cases a with ⟨_, e1⟩ | ⟨_, _, e1⟩ | ⟨_, _, e1⟩ | ⟨_, e1⟩ <;> rcases mU_cases a with ⟨_, e2⟩ | ⟨_, _, e2⟩ | ⟨_, _, e2⟩ | ⟨_, e2⟩ <;> rw [e1, e2] <;> omega
theorem mU_bd (a : Int) : 1 ≤ mU a ∧ mU a ≤ 8 := isW_bd (mU_isW a)

set_option maxHeartbeats 4000000 in
theorem widthGrows_walk (u v : Int) (w : World) (h0 : 0 ≤ u) (h1 : u ≤ 18446744073709551615) (g0 : 0 ≤ v) (g1 : v ≤ 18446744073709551615) : Calls Try.prog 6 #[.int .u64 u, .int .u64 v] w fun e w' => e = .returned (.bool true) ∧ Below w.heap.size w w' := by
  have HB := Lib.hid (Below.refl w.heap.size w)
  have hlt : u < v ∨ u = v ∨ v < u := by omega
  rcases hlt with hlt | rfl | hlt
  · have hn : 0 ≤ u / 2 ∧ u / 2 ≤ 9223372036854775807 := by omega
    have hm : 0 ≤ v / 2 ∧ v / 2 ≤ 9223372036854775807 := by omega
    obtain ⟨na, hna⟩ : ∃ na, u / 2 = na := ⟨_, rfl⟩
    obtain ⟨nb, hnb⟩ : ∃ nb, v / 2 = nb := ⟨_, rfl⟩
    rw [hna] at hn
    rw [hnb] at hm
    have d1 : decide (mU u ≤ mU v) = true := decide_eq_true (mU_mono (by omega))
    have d2 : decide (mI na ≤ mI nb) = true := decide_eq_true (mI_mono hn.1 (by omega))
    have c1 := ofInt_any (-na - 1)
    rw [mI_neg] at c1
    have C1 := Lib.hid c1
    have hU := mU_bd na
    have cU := of_any na
    rcases mI_mU hn.1 hn.2 with he | ⟨hne, he⟩
    · have CI := Lib.hid (ofInt_any na)
      obtain ⟨p, hp⟩ : ∃ p, mU na = p := ⟨_, rfl⟩
      rw [hp] at he hU cU
      obtain ⟨q, hq⟩ : ∃ q, mI na = q := ⟨_, rfl⟩
      rw [hq] at he d2 C1 CI
      subst he
      have CU := Lib.hid cU
      have HN := Lib.hid hn
      have b1 := hn.1; have b2 := hn.2; have b3 := hm.1; have b4 := hm.2
      have B0 := Lib.hid (show 0 ≤ u ∧ 0 ≤ v by omega)
      clear c1 hp hq cU hn hm
      go_enter Try.func6, Try.ntmps6
      go_wp2_with fail
      refine (CI.out _).mono ?_
      rintro e w1 ⟨rfl, hb⟩
      replace HB := Lib.hid (HB.out.trans (hb.mono HB.out.size))
      clear hb
      go_wp2_with fail
      refine (of_any u _ B0.out.1).mono ?_
      rintro e w1 ⟨rfl, hb⟩
      replace HB := Lib.hid (HB.out.trans (hb.mono HB.out.size))
      clear hb
      go_wp2_with fail
      refine (of_any v _ B0.out.2).mono ?_
      rintro e w1 ⟨rfl, hb⟩
      replace HB := Lib.hid (HB.out.trans (hb.mono HB.out.size))
      clear hb
      go_wp2_with fail
      refine (ofInt_any nb _).mono ?_
      rintro e w1 ⟨rfl, hb⟩
      replace HB := Lib.hid (HB.out.trans (hb.mono HB.out.size))
      clear hb
      go_wp2_with fail
      refine (C1.out _).mono ?_
      rintro e w1 ⟨rfl, hb⟩
      replace HB := Lib.hid (HB.out.trans (hb.mono HB.out.size))
      clear hb
      go_wp2_with fail
      refine (CU.out _ HN.out.1).mono ?_
      rintro e w1 ⟨rfl, hb⟩
      replace HB := Lib.hid (HB.out.trans (hb.mono HB.out.size))
      clear hb
      go_wp2_with fail
      refine (works_true _).mono ?_
      rintro e w1 ⟨rfl, hb⟩
      replace HB := Lib.hid (HB.out.trans (hb.mono HB.out.size))
      clear hb
      go_wp2_with fail
      go_ret
      exact ⟨rfl, HB.out⟩
    · have CI := Lib.hid (ofInt_any na)
      obtain ⟨p, hp⟩ : ∃ p, mU na = p := ⟨_, rfl⟩
      rw [hp] at he hU cU
      rw [hp] at hne
      obtain ⟨q, hq⟩ : ∃ q, mI na = q := ⟨_, rfl⟩
      rw [hq] at he d2 C1 CI hne
      have d3 : (q == p) = false := by simpa using hne
      have d4 : (q == 2 * p) = true := by simpa using he
      have CU := Lib.hid cU
      have HN := Lib.hid hn
      have b1 := hn.1; have b2 := hn.2; have b3 := hm.1; have b4 := hm.2
      have B0 := Lib.hid (show 0 ≤ u ∧ 0 ≤ v by omega)
      clear c1 hp hq cU hn hm hne he
      go_enter Try.func6, Try.ntmps6
      go_wp2_with fail
      refine (CI.out _).mono ?_
      rintro e w1 ⟨rfl, hb⟩
      replace HB := Lib.hid (HB.out.trans (hb.mono HB.out.size))
      clear hb
      go_wp2_with fail
      refine (of_any u _ B0.out.1).mono ?_
      rintro e w1 ⟨rfl, hb⟩
      replace HB := Lib.hid (HB.out.trans (hb.mono HB.out.size))
      clear hb
      go_wp2_with fail
      refine (of_any v _ B0.out.2).mono ?_
      rintro e w1 ⟨rfl, hb⟩
      replace HB := Lib.hid (HB.out.trans (hb.mono HB.out.size))
      clear hb
      go_wp2_with fail
      refine (ofInt_any nb _).mono ?_
      rintro e w1 ⟨rfl, hb⟩
      replace HB := Lib.hid (HB.out.trans (hb.mono HB.out.size))
      clear hb
      go_wp2_with fail
      refine (C1.out _).mono ?_
      rintro e w1 ⟨rfl, hb⟩
      replace HB := Lib.hid (HB.out.trans (hb.mono HB.out.size))
      clear hb
      go_wp2_with fail
      refine (CU.out _ HN.out.1).mono ?_
      rintro e w1 ⟨rfl, hb⟩
      replace HB := Lib.hid (HB.out.trans (hb.mono HB.out.size))
      clear hb
      go_wp2_with fail
      refine (CU.out _ HN.out.1).mono ?_
      rintro e w1 ⟨rfl, hb⟩
      replace HB := Lib.hid (HB.out.trans (hb.mono HB.out.size))
      clear hb
      go_wp2_with fail
      refine (works_true _).mono ?_
      rintro e w1 ⟨rfl, hb⟩
      replace HB := Lib.hid (HB.out.trans (hb.mono HB.out.size))
      clear hb
      go_wp2_with fail
      go_ret
      exact ⟨rfl, HB.out⟩
  · have hn : 0 ≤ u / 2 ∧ u / 2 ≤ 9223372036854775807 := by omega
    have hm : 0 ≤ u / 2 ∧ u / 2 ≤ 9223372036854775807 := by omega
    obtain ⟨na, hna⟩ : ∃ na, u / 2 = na := ⟨_, rfl⟩
    rw [hna] at hn hm
    have c1 := ofInt_any (-na - 1)
    rw [mI_neg] at c1
    have C1 := Lib.hid c1
    have hU := mU_bd na
    have cU := of_any na
    rcases mI_mU hn.1 hn.2 with he | ⟨hne, he⟩
    · have CI := Lib.hid (ofInt_any na)
      obtain ⟨p, hp⟩ : ∃ p, mU na = p := ⟨_, rfl⟩
      rw [hp] at he hU cU
      obtain ⟨q, hq⟩ : ∃ q, mI na = q := ⟨_, rfl⟩
      rw [hq] at he C1 CI
      subst he
      have CU := Lib.hid cU
      have HN := Lib.hid hn
      have b1 := hn.1; have b2 := hn.2; have b3 := hm.1; have b4 := hm.2
      have B0 := Lib.hid (show 0 ≤ u ∧ 0 ≤ u by omega)
      clear c1 hp hq cU hn hm
      go_enter Try.func6, Try.ntmps6
      go_wp2_with fail
      refine (CI.out _).mono ?_
      rintro e w1 ⟨rfl, hb⟩
      replace HB := Lib.hid (HB.out.trans (hb.mono HB.out.size))
      clear hb
      go_wp2_with fail
      refine (of_any u _ B0.out.1).mono ?_
      rintro e w1 ⟨rfl, hb⟩
      replace HB := Lib.hid (HB.out.trans (hb.mono HB.out.size))
      clear hb
      go_wp2_with fail
      refine (of_any u _ B0.out.2).mono ?_
      rintro e w1 ⟨rfl, hb⟩
      replace HB := Lib.hid (HB.out.trans (hb.mono HB.out.size))
      clear hb
      go_wp2_with fail
      refine (CI.out _).mono ?_
      rintro e w1 ⟨rfl, hb⟩
      replace HB := Lib.hid (HB.out.trans (hb.mono HB.out.size))
      clear hb
      go_wp2_with fail
      refine (C1.out _).mono ?_
      rintro e w1 ⟨rfl, hb⟩
      replace HB := Lib.hid (HB.out.trans (hb.mono HB.out.size))
      clear hb
      go_wp2_with fail
      refine (CU.out _ HN.out.1).mono ?_
      rintro e w1 ⟨rfl, hb⟩
      replace HB := Lib.hid (HB.out.trans (hb.mono HB.out.size))
      clear hb
      go_wp2_with fail
      refine (works_true _).mono ?_
      rintro e w1 ⟨rfl, hb⟩
      replace HB := Lib.hid (HB.out.trans (hb.mono HB.out.size))
      clear hb
      go_wp2_with fail
      go_ret
      exact ⟨rfl, HB.out⟩
    · have CI := Lib.hid (ofInt_any na)
      obtain ⟨p, hp⟩ : ∃ p, mU na = p := ⟨_, rfl⟩
      rw [hp] at he hU cU
      rw [hp] at hne
      obtain ⟨q, hq⟩ : ∃ q, mI na = q := ⟨_, rfl⟩
      rw [hq] at he C1 CI hne
      have d3 : (q == p) = false := by simpa using hne
      have d4 : (q == 2 * p) = true := by simpa using he
      have CU := Lib.hid cU
      have HN := Lib.hid hn
      have b1 := hn.1; have b2 := hn.2; have b3 := hm.1; have b4 := hm.2
      have B0 := Lib.hid (show 0 ≤ u ∧ 0 ≤ u by omega)
      clear c1 hp hq cU hn hm hne he
      go_enter Try.func6, Try.ntmps6
      go_wp2_with fail
      refine (CI.out _).mono ?_
      rintro e w1 ⟨rfl, hb⟩
      replace HB := Lib.hid (HB.out.trans (hb.mono HB.out.size))
      clear hb
      go_wp2_with fail
      refine (of_any u _ B0.out.1).mono ?_
      rintro e w1 ⟨rfl, hb⟩
      replace HB := Lib.hid (HB.out.trans (hb.mono HB.out.size))
      clear hb
      go_wp2_with fail
      refine (of_any u _ B0.out.2).mono ?_
      rintro e w1 ⟨rfl, hb⟩
      replace HB := Lib.hid (HB.out.trans (hb.mono HB.out.size))
      clear hb
      go_wp2_with fail
      refine (CI.out _).mono ?_
      rintro e w1 ⟨rfl, hb⟩
      replace HB := Lib.hid (HB.out.trans (hb.mono HB.out.size))
      clear hb
      go_wp2_with fail
      refine (C1.out _).mono ?_
      rintro e w1 ⟨rfl, hb⟩
      replace HB := Lib.hid (HB.out.trans (hb.mono HB.out.size))
      clear hb
      go_wp2_with fail
      refine (CU.out _ HN.out.1).mono ?_
      rintro e w1 ⟨rfl, hb⟩
      replace HB := Lib.hid (HB.out.trans (hb.mono HB.out.size))
      clear hb
      go_wp2_with fail
      refine (CU.out _ HN.out.1).mono ?_
      rintro e w1 ⟨rfl, hb⟩
      replace HB := Lib.hid (HB.out.trans (hb.mono HB.out.size))
      clear hb
      go_wp2_with fail
      refine (works_true _).mono ?_
      rintro e w1 ⟨rfl, hb⟩
      replace HB := Lib.hid (HB.out.trans (hb.mono HB.out.size))
      clear hb
      go_wp2_with fail
      go_ret
      exact ⟨rfl, HB.out⟩
  · have hn : 0 ≤ v / 2 ∧ v / 2 ≤ 9223372036854775807 := by omega
    have hm : 0 ≤ u / 2 ∧ u / 2 ≤ 9223372036854775807 := by omega
    obtain ⟨na, hna⟩ : ∃ na, v / 2 = na := ⟨_, rfl⟩
    obtain ⟨nb, hnb⟩ : ∃ nb, u / 2 = nb := ⟨_, rfl⟩
    rw [hna] at hn
    rw [hnb] at hm
    have d1 : decide (mU v ≤ mU u) = true := decide_eq_true (mU_mono (by omega))
    have d2 : decide (mI na ≤ mI nb) = true := decide_eq_true (mI_mono hn.1 (by omega))
    have c1 := ofInt_any (-na - 1)
    rw [mI_neg] at c1
    have C1 := Lib.hid c1
    have hU := mU_bd na
    have cU := of_any na
    rcases mI_mU hn.1 hn.2 with he | ⟨hne, he⟩
    · have CI := Lib.hid (ofInt_any na)
      obtain ⟨p, hp⟩ : ∃ p, mU na = p := ⟨_, rfl⟩
      rw [hp] at he hU cU
      obtain ⟨q, hq⟩ : ∃ q, mI na = q := ⟨_, rfl⟩
      rw [hq] at he d2 C1 CI
      subst he
      have CU := Lib.hid cU
      have HN := Lib.hid hn
      have b1 := hn.1; have b2 := hn.2; have b3 := hm.1; have b4 := hm.2
      have B0 := Lib.hid (show 0 ≤ v ∧ 0 ≤ u by omega)
      clear c1 hp hq cU hn hm
      go_enter Try.func6, Try.ntmps6
      go_wp2_with fail
      refine (CI.out _).mono ?_
      rintro e w1 ⟨rfl, hb⟩
      replace HB := Lib.hid (HB.out.trans (hb.mono HB.out.size))
      clear hb
      go_wp2_with fail
      refine (of_any v _ B0.out.1).mono ?_
      rintro e w1 ⟨rfl, hb⟩
      replace HB := Lib.hid (HB.out.trans (hb.mono HB.out.size))
      clear hb
      go_wp2_with fail
      refine (of_any u _ B0.out.2).mono ?_
      rintro e w1 ⟨rfl, hb⟩
      replace HB := Lib.hid (HB.out.trans (hb.mono HB.out.size))
      clear hb
      go_wp2_with fail
      refine (ofInt_any nb _).mono ?_
      rintro e w1 ⟨rfl, hb⟩
      replace HB := Lib.hid (HB.out.trans (hb.mono HB.out.size))
      clear hb
      go_wp2_with fail
      refine (C1.out _).mono ?_
      rintro e w1 ⟨rfl, hb⟩
      replace HB := Lib.hid (HB.out.trans (hb.mono HB.out.size))
      clear hb
      go_wp2_with fail
      refine (CU.out _ HN.out.1).mono ?_
      rintro e w1 ⟨rfl, hb⟩
      replace HB := Lib.hid (HB.out.trans (hb.mono HB.out.size))
      clear hb
      go_wp2_with fail
      refine (works_true _).mono ?_
      rintro e w1 ⟨rfl, hb⟩
      replace HB := Lib.hid (HB.out.trans (hb.mono HB.out.size))
      clear hb
      go_wp2_with fail
      go_ret
      exact ⟨rfl, HB.out⟩
    · have CI := Lib.hid (ofInt_any na)
      obtain ⟨p, hp⟩ : ∃ p, mU na = p := ⟨_, rfl⟩
      rw [hp] at he hU cU
      rw [hp] at hne
      obtain ⟨q, hq⟩ : ∃ q, mI na = q := ⟨_, rfl⟩
      rw [hq] at he d2 C1 CI hne
      have d3 : (q == p) = false := by simpa using hne
      have d4 : (q == 2 * p) = true := by simpa using he
      have CU := Lib.hid cU
      have HN := Lib.hid hn
      have b1 := hn.1; have b2 := hn.2; have b3 := hm.1; have b4 := hm.2
      have B0 := Lib.hid (show 0 ≤ v ∧ 0 ≤ u by omega)
      clear c1 hp hq cU hn hm hne he
      go_enter Try.func6, Try.ntmps6
      go_wp2_with fail
      refine (CI.out _).mono ?_
      rintro e w1 ⟨rfl, hb⟩
      replace HB := Lib.hid (HB.out.trans (hb.mono HB.out.size))
      clear hb
      go_wp2_with fail
      refine (of_any v _ B0.out.1).mono ?_
      rintro e w1 ⟨rfl, hb⟩
      replace HB := Lib.hid (HB.out.trans (hb.mono HB.out.size))
      clear hb
      go_wp2_with fail
      refine (of_any u _ B0.out.2).mono ?_
      rintro e w1 ⟨rfl, hb⟩
      replace HB := Lib.hid (HB.out.trans (hb.mono HB.out.size))
      clear hb
      go_wp2_with fail
      refine (ofInt_any nb _).mono ?_
      rintro e w1 ⟨rfl, hb⟩
      replace HB := Lib.hid (HB.out.trans (hb.mono HB.out.size))
      clear hb
      go_wp2_with fail
      refine (C1.out _).mono ?_
      rintro e w1 ⟨rfl, hb⟩
      replace HB := Lib.hid (HB.out.trans (hb.mono HB.out.size))
      clear hb
      go_wp2_with fail
      refine (CU.out _ HN.out.1).mono ?_
      rintro e w1 ⟨rfl, hb⟩
      replace HB := Lib.hid (HB.out.trans (hb.mono HB.out.size))
      clear hb
      go_wp2_with fail
      refine (CU.out _ HN.out.1).mono ?_
      rintro e w1 ⟨rfl, hb⟩
      replace HB := Lib.hid (HB.out.trans (hb.mono HB.out.size))
      clear hb
      go_wp2_with fail
      refine (works_true _).mono ?_
      rintro e w1 ⟨rfl, hb⟩
      replace HB := Lib.hid (HB.out.trans (hb.mono HB.out.size))
      clear hb
      go_wp2_with fail
      go_ret
      exact ⟨rfl, HB.out⟩

set_option maxRecDepth 100000 in
theorem widthGrows_lifted (os : Os) (started : os.Started) (H : Type) (enc : TypeId × Value → H) :
    ReturnsInHanded {} Try.checked os 6 .any (Rows.widthGrowsSpec.pre6 enc Try.prog Try.f6 Rows.widthGrowsRow.domain false) (Rows.widthGrowsSpec.post enc Try.prog Try.f6 false true false false) := by
  refine returnsInHanded_of_change (C := Try.checked) ownK started (by kernel_rfl) Try.func6
    (ChangeSpec.witness6 (enc := enc) (C := Try.checked) false ⟨#[], #[.int .u64 0, .int .u64 0], []⟩ 8 (by kernel_rfl) (by kernel_rfl) (by kernel_rfl) (by kernel_rfl)) ?_
  intro W base args ds gs before hval0 hW hcnd _
  have hval : ∀ (j : Nat) t v, Try.f6.params[j]? = some t → args[j]? = some v → Value.okWide Try.prog W .any base t v := hval0
  have hW' := hW
  obtain ⟨p, q, hA0, hV, rfl, hfz, hnd⟩ := hW
  have hA : DataW.TrodAll enc Try.prog W 0 (fun _ => true) true Try.f6.params.toList args.toList ds p := hA0
  rw [Try.params6] at hA hval
  obtain ⟨v0, vs0, d0, ds0, p0, q0, hargs, rfl, rfl, h0, r0⟩ := trodAll_cons hA
  obtain ⟨v1, vs1, d1, ds1, p1, q1, rfl, rfl, rfl, h1, r1⟩ := trodAll_cons r0
  obtain ⟨rfl, rfl, rfl⟩ := trodAll_nil r1
  obtain rfl : args = #[v0, v1] := by cases args; simp_all
  obtain ⟨rfl, rfl⟩ := trodVars_none hV
  obtain ⟨a0, rfl, rfl, rfl, w0⟩ := open_int Try.underlying22 (hval 0 22 v0 rfl rfl) h0
  have b0 : 0 ≤ a0 ∧ a0 ≤ 18446744073709551615 := by simpa [Lit.wf, IntKind.min, IntKind.max, IntKind.signed, IntKind.bits] using w0
  obtain ⟨a1, rfl, rfl, rfl, w1⟩ := open_int Try.underlying22 (hval 1 22 v1 rfl rfl) h1
  have b1 : 0 ≤ a1 ∧ a1 ≤ 18446744073709551615 := by simpa [Lit.wf, IntKind.min, IntKind.max, IntKind.signed, IntKind.bits] using w1
  refine (widthGrows_walk a0 a1 W b0.1 b0.2 b1.1 b1.2).mono fun e W' ⟨he, hb⟩ => ?_
  subst he
  exact ⟨_, rfl, law_post (by rw [Try.params6]; decide +kernel) rfl rfl rfl rfl rfl hW' hb⟩

theorem widthGrows_over : Rows.widthGrowsRow.holds Try.pinned (OpenSpec.ofChange Rows.widthGrowsSpec) :=
  OpenClaim.holds_of_wide 6 Try.f6 rfl rfl rfl rfl rfl rfl rfl ⟨rfl, rfl, rfl, rfl, rfl⟩ rfl rfl rfl rfl rfl (by kernel_rfl) Try.func6 (by kernel_rfl)
    (of_decide_eq_true (by kernel_rfl)) (by unfold Func.isWrapper; first | (rw [if_pos (by decide +kernel)]; kernel_rfl) | (rw [if_neg (by decide +kernel)]; exact ⟨rfl, rfl⟩))
    (fun os started H enc _ => widthGrows_lifted os started H enc)

theorem widthGrows_holds : Rows.WidthGrowsSaid := widthGrows_over
end Go.Proofs.Ytanikllolidoaaa
