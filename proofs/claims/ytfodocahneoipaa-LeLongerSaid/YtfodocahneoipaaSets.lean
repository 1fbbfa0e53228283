/-
  What is proved here: accordionlaw01.LeSets returns true for every byte slice, offset, width and integer, and leaves its arguments as they were; no condition.
-/
import Derived.Test.YtfodocahneoipaaMore2
import Derived.Deep.QuietTactic
import Derived.BigQuiet
namespace Go.Proofs.Ytfodocahneoipaa
open Go.ChangeShapes Go.WideShapes Go.ChangeAt Go.RowKit Le

theorem own_shape {w : World} {base n : Nat} {v : Value} {xs : List UInt8} (h : w.ownsRow base 5 1 v n (bv xs)) (h0 : 0 < n) : ∃ g c, v = .slice (some ⟨g, 0, none⟩) n c ∧ Rds w (some ⟨g, 0, none⟩) n c xs := by
  obtain ⟨A, n', c', he, hr⟩ := Rd.of_own h
  rcases h.2 with ⟨_, h1⟩ | ⟨g, cap, cur, rfl, _⟩
  · omega
  · injection he with h1 h2 h3
    subst h1; subst h2; subst h3
    exact ⟨g, cap, rfl, hr⟩
theorem own_shape0 {w : World} {base : Nat} {v : Value} {xs : List Value} (h : w.ownsRow base 5 1 v 0 xs) : ∃ A c, v = .slice A 0 c := by
  rcases h.2 with ⟨rfl, _⟩ | ⟨g, cap, cur, rfl, _⟩
  · exact ⟨_, _, rfl⟩
  · exact ⟨_, _, rfl⟩

theorem set_no0 (v : Value) (xs : List UInt8) (at' x er : Int) (u : Nat) (w : World) (h : Rd w v xs) (hn : xs.length ≤ 60000) (hE : setE xs.length at' x u = er) (hne : ¬ er = 0) :
    Calls Try.prog 21 #[v, .int .i64 at', .int .i64 x, .int .u64 (u : Int)] w fun e w' => ∃ A c, e = .returned (.tuple #[.slice A 0 c, .int .i64 er]) ∧ Below w.heap.size w w' := by
  have e : setL xs at' x u = [] := by rw [setL, if_neg (by rw [hE]; exact hne)]
  have hs := set_any v xs at' x u w h hn
  rw [hE, e] at hs
  refine hs.mono ?_
  rintro e w' ⟨v', rfl, ho, hb⟩
  obtain ⟨A, c, rfl⟩ := own_shape0 ho
  exact ⟨A, c, rfl, hb⟩
theorem set_yes (v : Value) (xs zs : List UInt8) (at' x : Int) (u n : Nat) (w : World) (h : Rd w v xs) (hn : xs.length ≤ 60000) (hE : setE xs.length at' x u = 0) (hL : setL xs at' x u = zs) (hz : zs.length = n) (h0 : 0 < n) :
    Calls Try.prog 21 #[v, .int .i64 at', .int .i64 x, .int .u64 (u : Int)] w fun e w' => ∃ g c, e = .returned (.tuple #[.slice (some ⟨g, 0, none⟩) n c, .int .i64 0]) ∧ Rds w' (some ⟨g, 0, none⟩) n c zs ∧ Below w.heap.size w w' := by
  have hs := set_any v xs at' x u w h hn
  rw [hE, hL, hz] at hs
  refine hs.mono ?_
  rintro e w' ⟨v', rfl, ho, hb⟩
  obtain ⟨g, c, rfl, hr⟩ := own_shape ho h0
  exact ⟨g, c, rfl, hr, hb⟩

/-- The three fields of a struct that lies in a block of the call's own. -/
theorem box3 {w w' : World} {x y z : Value} {t : TypeId} (hb : Below (w.alloc (.cells #[x, y, z] t)).heap.size (w.alloc (.cells #[x, y, z] t)) w') :
    w'.cell? ⟨w.heap.size, 0, none⟩ = some x ∧ w'.cell? ⟨w.heap.size, 1, none⟩ = some y ∧ w'.cell? ⟨w.heap.size, 2, none⟩ = some z := by
  have h : ∀ i, w'.cell? ⟨w.heap.size, i, none⟩ = (w.alloc (.cells #[x, y, z] t)).cell? ⟨w.heap.size, i, none⟩ := fun i => hb.cell (p := ⟨w.heap.size, i, none⟩) (by simp)
  rw [h, h, h, World.cell?_alloc_new, World.cell?_alloc_new, World.cell?_alloc_new]
  simp
theorem below_box {w w' : World} {o : Obj} (hb : Below (w.alloc o).heap.size (w.alloc o) w') : Below w.heap.size w w' :=
  ((Below.refl _ _).alloc (Nat.le_refl _) _).trans (hb.mono (by simp))

theorem bel_drewN {B : Nat} {a w : World} (h : Below B a w) (n : Nat) : Below B a (w.drewN n) := ⟨h.os, h.tape, h.output, h.size, h.block⟩

theorem sets_no (A : Option Addr) (n c m U : Nat) (ys : List UInt8) (at' x er f : Int) (w : World) (hc : c ≤ 9223372036854775807) (hnc : n ≤ c) (hrd : Rd w (.slice A m c) ys) (hys : ys.length ≤ 60000) (hcase : (n ≤ 300 ∧ m = n) ∨ (300 < n ∧ m = 300))
    (he : lookE ys.length at' x = er) (hf : setE ys.length at' x U = f) (hne : ¬ f = 0) (hef : er = f ∨ (er = 0 ∧ f = 10)) :
    Calls Try.prog 7 #[.slice A n c, .agg #[.int .i64 at', .int .i64 x, .int .u64 (U : Int)]] w fun e w' => e = .returned (.bool true) ∧ Below w.heap.size w w' := by
  have hl := fun v W (h : Rd W v ys) => load_any v ys at' x W h hys
  rw [he] at hl
  have hs := fun v W (h : Rd W v ys) => set_no0 v ys at' x f U W h hys hf hne
  obtain ⟨D, hD⟩ : ∃ D, loadU ys at' x = D := ⟨_, rfl⟩
  rw [hD] at hl
  have hb : (f != 0) = true := by simpa using hne
  have hb' : (f == 0) = false := by simpa using hne
  have HL := Lib.hid hl
  have HS := Lib.hid hs
  have HV0 := Lib.hid (hrd.alloc (.cells #[.int .i64 at', .int .i64 x, .int .u64 (U : Int)] 34))
  have HY := Lib.hid hys
  clear hl hs he hf hne hrd hys hD
  rcases hef with rfl | ⟨rfl, rfl⟩ <;> rcases hcase with ⟨hn, rfl⟩ | ⟨hn, rfl⟩
  all_goals
    go_enter Try.func7, Try.ntmps7
    go_wp2_with fail
    refine (copyBytes_any _ ys _ HV0.out HY.out).mono ?_
    rintro e w1 ⟨v, rfl, ho, hb⟩
    obtain ⟨f0, f1, f2⟩ := box3 hb
    have HV := Lib.hid (Rd.of_own ho)
    have HB := Lib.hid hb
    clear ho hb HV0
    go_wp2_with fail
    refine (HL.out _ _ HV.out).mono ?_
    rintro e w2 ⟨rfl, hb⟩
    replace HV := Lib.hid (HV.out.below hb)
    replace HB := Lib.hid (HB.out.trans (hb.mono HB.out.size))
    clear hb f0 f1 f2
    obtain ⟨f0, f1, f2⟩ := box3 HB.out
    go_wp2_with fail
    refine (HS.out _ _ HV.out).mono ?_
    rintro e w3 ⟨A2, c2, rfl, hb⟩
    replace HB := Lib.hid (HB.out.trans (hb.mono HB.out.size))
    clear hb f0 f1 f2
    go_wp2_with fail
    refine (works_true _).mono ?_
    rintro e w4 ⟨rfl, hb⟩
    replace HB := Lib.hid (HB.out.trans (hb.mono HB.out.size))
    clear hb
    go_wp2_with fail
    go_ret
    exact ⟨rfl, below_box HB.out⟩

set_option maxHeartbeats 4000000 in
theorem sets_yes (A : Option Addr) (n c M m a k U : Nat) (ys : List UInt8) (w : World) (hc : c ≤ 9223372036854775807) (hnc : n ≤ c) (hrd : Rd w (.slice A M c) ys) (hlen : ys.length = m) (hcase : (n ≤ 300 ∧ M = n) ∨ (300 < n ∧ M = 300))
    (hw : isW (k : Int) = true) (hak : a + k ≤ m) (hm : m ≤ 300) (hfit : fitsU U k = true) :
    Calls Try.prog 7 #[.slice A n c, .agg #[.int .i64 (a : Int), .int .i64 (k : Int), .int .u64 (U : Int)]] w fun e w' => e = .returned (.bool true) ∧ Below w.heap.size w w' := by
  have hk := isW_nat hw
  have hys : ys.length ≤ 60000 := by omega
  have e0 : lookE ys.length a k = 0 := look0_of hw (by omega) (by omega)
  obtain ⟨zs, hz⟩ : ∃ zs, ys.take a ++ (enc k U ++ ys.drop (a + k)) = zs := ⟨_, rfl⟩
  have hzl : zs.length = m := by rw [← hz, set_len (by omega) (enc_length k U), hlen]
  have e0z : lookE zs.length a k = 0 := by rw [hzl, ← hlen]; exact e0
  have hU : U < 256 ^ k := by
    have h1 := fitsU_iff.1 hfit
    rw [pw_eq hw] at h1
    have h2 : ((256 ^ (k : Int).toNat : Nat) : Int) = ((256 ^ k : Nat) : Int) := by simp
    rw [h2] at h1
    exact Int.ofNat_lt.1 h1
  have e1 : loadU ys a k = ((dec ((ys.drop a).take k) : Nat) : Int) := by rw [loadU, if_pos e0, seg_nat]
  have e2 : loadU zs a k = (U : Int) := by
    rw [loadU, if_pos e0z, seg_nat, ← hz, set_seg (by omega) (enc_length k U), dec_enc_of_lt hU]
  have e3 : setE ys.length a k U = 0 := by rw [setE, if_pos e0, if_pos hfit]
  have e4 : setL ys a k U = zs := by rw [setL, if_pos e3, ← hz]; simp
  have hsl : ((ys.drop a).take k).length = k := by rw [List.length_take, List.length_drop]; omega
  have hfit2 : fitsU ((dec ((ys.drop a).take k) : Nat) : Int) k = true := by
    rw [fitsU_iff, pw_eq hw]
    have := dec_lt ((ys.drop a).take k)
    rw [hsl] at this
    simpa using Int.ofNat_lt.2 this
  have e5 : setE zs.length a k ((dec ((ys.drop a).take k) : Nat) : Int) = 0 := by rw [setE, if_pos e0z, if_pos hfit2]
  have e6 : setL zs a k ((dec ((ys.drop a).take k) : Nat) : Int) = ys := by
    rw [setL, if_pos e5]
    simp only [Int.toNat_natCast]
    have := enc_dec ((ys.drop a).take k)
    rw [hsl] at this
    rw [this, ← hz]
    exact set_back (by omega) (enc_length k U)
  have hout : ∀ i, i < a ∨ a + k ≤ i → zs[i]? = ys[i]? := fun i hi => by rw [← hz]; exact set_out (by omega) (enc_length k U) hi
  obtain ⟨D, hD⟩ : ∃ D, dec ((ys.drop a).take k) = D := ⟨_, rfl⟩
  rw [hD] at e1 e5 e6
  have hl := fun v W (h : Rd W v ys) => load_any v ys a k W h hys
  have hl2 := fun v W (h : Rd W v zs) => load_any v zs a k W h (by omega)
  have hs := fun v W (h : Rd W v ys) => set_yes v ys zs a k U m W h hys e3 e4 hzl (by omega)
  have hs2 := fun v W (h : Rd W v zs) => set_yes v zs ys a k D m W h (by omega) e5 e6 hlen (by omega)
  rw [e1, e0] at hl
  rw [e2, e0z] at hl2
  have HL := Lib.hid hl
  have HL2 := Lib.hid hl2
  have HS := Lib.hid hs
  have HS2 := Lib.hid hs2
  have HV0 := Lib.hid (hrd.alloc (.cells #[.int .i64 (a : Int), .int .i64 (k : Int), .int .u64 (U : Int)] 34))
  have HY := Lib.hid hlen
  have HZ := Lib.hid hzl
  have HO := Lib.hid hout
  clear hl hl2 hs hs2 hrd hys hw hz hzl hlen hout e0 e0z hU e1 e2 e3 e4 hsl hfit2 e5 e6 hD hfit
  rcases hcase with ⟨hn, rfl⟩ | ⟨hn, rfl⟩
  all_goals
    go_enter Try.func7, Try.ntmps7
    go_wp2_with fail
    refine (copyBytes_ne _ ys _ _ HV0.out HY.out (by omega) (by omega)).mono ?_
    rintro e w1 ⟨b, c1, rfl, hr, hb⟩
    obtain ⟨f0, f1, f2⟩ := box3 hb
    have HV := Lib.hid hr
    have HB := Lib.hid hb
    clear hr hb HV0
    go_wp2_with fail
    refine (HL.out _ _ HV.out.rd).mono ?_
    rintro e w2 ⟨rfl, hb⟩
    replace HV := Lib.hid (HV.out.below hb)
    replace HB := Lib.hid (HB.out.trans (hb.mono HB.out.size))
    clear hb f0 f1 f2
    obtain ⟨f0, f1, f2⟩ := box3 HB.out
    go_wp2_with fail
    refine (HS.out _ _ HV.out.rd).mono ?_
    rintro e w3 ⟨g, c2, rfl, hr, hb⟩
    have HW := Lib.hid hr
    replace HV := Lib.hid (HV.out.below hb)
    replace HB := Lib.hid (HB.out.trans (hb.mono HB.out.size))
    clear hb hr f0 f1 f2
    obtain ⟨f0, f1, f2⟩ := box3 HB.out
    go_wp2_with fail
    refine (HL2.out _ _ HW.out.rd).mono ?_
    rintro e w4 ⟨rfl, hb⟩
    replace HW := Lib.hid (HW.out.below hb)
    replace HV := Lib.hid (HV.out.below hb)
    replace HB := Lib.hid (HB.out.trans (hb.mono HB.out.size))
    clear hb f0 f1 f2
    obtain ⟨f0, f1, f2⟩ := box3 HB.out
    go_wp2_with fail
    refine (HS2.out _ _ HW.out.rd).mono ?_
    rintro e w5 ⟨g2, c3, rfl, hr, hb⟩
    have HX := Lib.hid hr
    replace HW := Lib.hid (HW.out.below hb)
    replace HV := Lib.hid (HV.out.below hb)
    replace HB := Lib.hid (HB.out.trans (hb.mono HB.out.size))
    clear hb hr f0 f1 f2
    obtain ⟨f0, f1, f2⟩ := box3 HB.out
    go_wp2_with fail
    refine (eqBytes_any _ _ ys ys _ HX.out.rd HV.out.rd).mono ?_
    rintro e w' ⟨rfl, rfl⟩
    rw [beq_self_eq_true]
    go_wp2_with fail
    clear f0 f1 f2
    go_loopw [14] (fun i wr => ∃ j : Nat, j ≤ m ∧ i = .int .i64 j ∧ Hid (Below w5.heap.size w5 wr)) (fun i _ => m - (intOf i).toNat)
    case atStart => exact ⟨0, Nat.zero_le _, rfl, Below.refl _ _⟩
    case round =>
      obtain ⟨j, hj, rfl, HR⟩ := hrel
      by_cases hlt : j < m
      · obtain ⟨f0, f1, f2⟩ := box3 (HB.out.trans (HR.out.mono HB.out.size))
        clear f2
        have hw1 : IntKind.i64.wrap ((a : Int) + (k : Int)) = (a : Int) + (k : Int) := IntWalk.i64_in _ (by omega)
        by_cases h1 : j < a
        · obtain ⟨x, hx⟩ : ∃ x, ys[j]? = some x := ⟨_, List.getElem?_eq_getElem (by rw [HY.out]; exact hlt)⟩
          have hc1 := (HV.out.below HR.out).cells j _ (bv_at hx)
          have hc2 := (HW.out.below HR.out).cells j _ (bv_at (by rw [HO.out j (.inl h1)]; exact hx))
          rw [add_none, Nat.zero_add] at hc1 hc2
          have d0 : decide (j < a) = true := by simpa using h1
          clear hx hw1
          go_wp2
          go_quiet (fail)
          go_wp2
          go_roundw
          case rel => exact ⟨j + 1, by omega, by go_num, bel_drewN HR.out _⟩
          case measure => simp [intOf]; omega
        · have d0 : decide (j < a) = false := by simpa using h1
          by_cases h2 : j < a + k
          · have d1 : decide ((a : Int) + (k : Int) ≤ (j : Int)) = false := by simp; omega
            go_wp2
            go_quiet (fail)
            go_wp2
            go_roundw
            case rel => exact ⟨j + 1, by omega, by go_num, bel_drewN HR.out _⟩
            case measure => simp [intOf]; omega
          · have d1 : decide ((a : Int) + (k : Int) ≤ (j : Int)) = true := by simp; omega
            obtain ⟨x, hx⟩ : ∃ x, ys[j]? = some x := ⟨_, List.getElem?_eq_getElem (by rw [HY.out]; exact hlt)⟩
            have hc1 := (HV.out.below HR.out).cells j _ (bv_at hx)
            have hc2 := (HW.out.below HR.out).cells j _ (bv_at (by rw [HO.out j (.inr (by omega))]; exact hx))
            rw [add_none, Nat.zero_add] at hc1 hc2
            clear hx
            go_wp2
            go_quiet (fail)
            go_wp2
            go_roundw
            case rel => exact ⟨j + 1, by omega, by go_num, bel_drewN HR.out _⟩
            case measure => simp [intOf]; omega
      · go_wp2_with fail
        refine (works_true _).mono ?_
        rintro e w6 ⟨rfl, hb⟩
        replace HB := Lib.hid ((HB.out.trans (HR.out.mono HB.out.size)).trans (hb.mono (Nat.le_trans HB.out.size HR.out.size)))
        clear hb
        go_wp2_with fail
        go_ret
        exact ⟨rfl, below_box HB.out⟩

theorem sets_walk (A : Option Addr) (n c : Nat) (xs : List UInt8) (at' x u : Int) (w : World) (hr : Rds w A n c xs) (hc : c ≤ maxLen) (u0 : 0 ≤ u) (u1 : u ≤ 18446744073709551615) :
    Calls Try.prog 7 #[.slice A n c, .agg #[.int .i64 at', .int .i64 x, .int .u64 u]] w fun e w' => e = .returned (.bool true) ∧ Below w.heap.size w w' := by
  have hnc := hr.2.1
  obtain ⟨m, ys, hm, hmK, _, hcase⟩ := firstK hr 300
  have hc' : c ≤ 9223372036854775807 := by simp only [maxLen] at hc; omega
  have hrd : Rd w (.slice A m c) ys := ⟨_, _, _, rfl, hm⟩
  have hys : ys.length ≤ 60000 := by rw [hm.1]; omega
  obtain ⟨U, rfl⟩ := Int.eq_ofNat_of_zero_le u0
  by_cases he : lookE ys.length at' x = 0
  · obtain ⟨h1, h0, hle⟩ := look0 he
    have hx := isW_bd h1
    obtain ⟨a, rfl⟩ := Int.eq_ofNat_of_zero_le h0
    obtain ⟨k, rfl⟩ := Int.eq_ofNat_of_zero_le (show 0 ≤ x by omega)
    rw [hm.1] at hle
    cases hf : fitsU U k with
    | true => exact sets_yes A n c m m a k U ys w hc' hnc hrd hm.1 hcase h1 (by omega) hmK hf
    | false => exact sets_no A n c m U ys a k 0 10 w hc' hnc hrd hys hcase he (by rw [setE, if_pos he, if_neg (by simp [hf])]) (by decide) (.inr ⟨rfl, rfl⟩)
  · exact sets_no A n c m U ys at' x _ _ w hc' hnc hrd hys hcase rfl (by rw [setE, if_neg he]) he (.inl rfl)

set_option maxRecDepth 100000 in
theorem leSets_lifted (os : Os) (started : os.Started) (H : Type) (enc : TypeId × Value → H) :
    ReturnsInHanded {} Try.checked os 7 .any (Rows.leSetsSpec.pre6 enc Try.prog Try.f7 Rows.leSetsRow.domain false) (Rows.leSetsSpec.post enc Try.prog Try.f7 false true false false) := by
  refine returnsInHanded_of_change (C := Try.checked) ownK started (by kernel_rfl) Try.func7
    (ChangeSpec.witness6 (enc := enc) (C := Try.checked) false ⟨#[], #[.slice none 0 0, .agg #[.int .i64 0, .int .i64 0, .int .u64 0]], []⟩ 8 (by kernel_rfl) (by kernel_rfl) (by kernel_rfl) (by kernel_rfl)) ?_
  intro W base args ds gs before hval0 hW hcnd _
  have hval : ∀ (j : Nat) t v, Try.f7.params[j]? = some t → args[j]? = some v → Value.okWide Try.prog W .any base t v := hval0
  have hW' := hW
  obtain ⟨p, q, hA0, hV, rfl, hfz, hnd⟩ := hW
  have hA : DataW.TrodAll enc Try.prog W 0 (fun _ => true) true Try.f7.params.toList args.toList ds p := hA0
  rw [Try.params7] at hA hval
  obtain ⟨v0, vs0, d0, ds0, p0, q0, hargs, rfl, rfl, h0, r0⟩ := trodAll_cons hA
  obtain ⟨v1, vs1, d1, ds1, p1, q1, rfl, rfl, rfl, h1, r1⟩ := trodAll_cons r0
  obtain ⟨rfl, rfl, rfl⟩ := trodAll_nil r1
  obtain rfl : args = #[v0, v1] := by cases args; simp_all
  obtain ⟨rfl, rfl⟩ := trodVars_none hV
  obtain ⟨A0, n0, c0, xs0, rfl, hr0, hc0⟩ := open_bytes (hval 0 22 v0 rfl rfl) h0
  obtain ⟨x1, y1, u1, rfl, u01, u11⟩ := open_case (hval 1 34 v1 rfl rfl) h1
  refine (sets_walk A0 n0 c0 xs0 x1 y1 u1 W hr0 hc0 u01 u11).mono fun e W' ⟨he, hb⟩ => ?_
  subst he
  exact ⟨_, rfl, law_post (by rw [Try.params7]; decide +kernel) rfl rfl rfl rfl rfl hW' hb⟩

theorem leSets_over : Rows.leSetsRow.holds Try.pinned (OpenSpec.ofChange Rows.leSetsSpec) :=
  OpenClaim.holds_of_wide 7 Try.f7 rfl rfl rfl rfl rfl rfl rfl ⟨rfl, rfl, rfl, rfl, rfl⟩ rfl rfl rfl rfl rfl (by kernel_rfl) Try.func7 (by kernel_rfl)
    (of_decide_eq_true (by kernel_rfl)) (by unfold Func.isWrapper; first | (rw [if_pos (by decide +kernel)]; kernel_rfl) | (rw [if_neg (by decide +kernel)]; exact ⟨rfl, rfl⟩))
    (fun os started H enc _ => leSets_lifted os started H enc)

theorem leSets_holds : Rows.LeSetsSaid := leSets_over
end Go.Proofs.Ytfodocahneoipaa
