/-
  What is proved here: accordionlaw03.WidthMax returns true for all pairs of lists of numbers and all turns, and leaves its arguments as they were; no condition.
-/
import Derived.Test.YtanikllolidoaaaMaxA
import Derived.Deep.DeepCutAuto
namespace Go.Proofs.Ytanikllolidoaaa
open Go.ChangeShapes Go.WideShapes Go.ChangeAt Go.RowKit Wd

/-- What the first statement leaves. -/
def Two (w wx : World) (n n' : Nat) (ys zs : List Int) (s7 s8 : Value) : Prop :=
  ∃ A c A' c', s7 = .slice A n c ∧ s8 = .slice A' n' c' ∧ Rds wx A n c ys ∧ Rds wx A' n' c' zs ∧ c ≤ maxLen ∧ Below w.heap.size w wx ∧ (A = none → c = 0)

theorem two_of {w w0 w1 w2 : World} {v1 v2 : Value} {ys zs : List Int} {n n' : Nat} (h1 : w1.ownsRow w0.heap.size 3 1 v1 ys.length (bv ys)) (h2 : w2.ownsRow w1.heap.size 3 1 v2 zs.length (bv zs))
    (b0 : Below w.heap.size w w0) (b1 : Below w0.heap.size w0 w1) (b2 : Below w1.heap.size w1 w2) (hn : ys.length = n) (hn' : zs.length = n') : Two w w2 n n' ys zs v1 v2 := by
  subst hn; subst hn'
  obtain ⟨A, m, c, rfl, hr⟩ := Rd.of_own h1
  obtain ⟨A', m', c', rfl, hr'⟩ := Rd.of_own h2
  have e1 := hr.1
  have e2 := hr'.1
  subst e1; subst e2
  refine ⟨A, c, A', c', rfl, rfl, hr.below b2, hr', ?_, (b0.trans (b1.mono b0.size)).trans (b2.mono (Nat.le_trans b0.size b1.size)), ?_⟩
  · rcases h1.2 with ⟨he, _⟩ | ⟨g, cap, cur, he, _, _, _, hcm, _⟩
    · injection he with h1 h2 h3; rw [h3]; exact Nat.zero_le _
    · injection he with h1 h2 h3; rw [h3]; exact hcm
  · intro hA
    rcases h1.2 with ⟨he, _⟩ | ⟨g, cap, cur, he, _⟩
    · injection he
    · injection he with h1; rw [hA] at h1; cases h1

theorem mx_rot (ys : List Int) (k : Nat) : mx (ys.drop k ++ ys.take k) = mx ys := by
  have h := mx_append (ys.take k) (ys.drop k)
  rw [List.take_append_drop] at h
  rw [mx_append, h]
  omega

/-- What the third statement leaves. -/
def Round (wc wx : World) (n k : Nat) (ys : List Int) (s10 : Value) : Prop :=
  wx.ownsRow wc.heap.size 3 1 s10 n (bv (ys.drop k ++ ys.take k)) ∧ Below wc.heap.size wc wx

theorem round_of {wc w1 w2 : World} {v1 v2 : Value} {us vs ys : List Int} {n k m p : Nat} (h1 : w1.ownsRow wc.drew.heap.size 3 1 v1 m (bv us)) (b1 : Below wc.drew.heap.size wc.drew w1)
    (h2 : w2.ownsRow wc.drew.heap.size 3 1 v2 (m + p) (bv (us ++ vs))) (hg : w1.grownBy w2 v1.ownBlock) (hu : us ++ vs = ys.drop k ++ ys.take k) (hn : m + p = n) : Round wc w2 n k ys v2 := by
  refine ⟨?_, ((Below.refl _ _).drew.trans b1).grown hg b1.size (own_base h1)⟩
  rw [← hu, ← hn]
  exact h2

theorem bring_is (t n r : Int) (w : World) (h0 : -9223372036854775808 ≤ t) (h1 : t ≤ 9223372036854775807) (hn : 1 ≤ n) (hn2 : n ≤ 100) (h : t % n = r) :
    Calls Try.prog 26 #[.int .i64 t, .int .i64 n] w fun e w' => e = .returned (.int .i64 r) ∧ w = w' := h ▸ bring_any t n w h0 h1 hn hn2

set_option maxRecDepth 100000 in
set_option maxHeartbeats 4000000 in
theorem max_core (A A' : Option Addr) (N N' n n' c c' : Nat) (ys zs : List Int) (t : Int) (w : World) (hr : Rds w A n c ys) (hr' : Rds w A' n' c' zs) (hc : c ≤ maxLen) (hc' : c' ≤ maxLen)
  (hN : N ≤ c) (hN' : N' ≤ c') (ht0 : -9223372036854775808 ≤ t) (ht1 : t ≤ 9223372036854775807) (hn : (N ≤ 60 ∧ n = N) ∨ (60 < N ∧ n = 60)) (hn' : (N' ≤ 60 ∧ n' = N') ∨ (60 < N' ∧ n' = 60)) : Calls Try.prog 8 #[.slice A N c, .slice A' N' c', .int .i64 t] w fun e w' => e = .returned (.bool true) ∧ Below w.heap.size w w' := by
  have HC := Lib.hid hc
  have HC' := Lib.hid hc'
  clear hc hc'
  have HRd := Lib.hid ((hr.below (Below.refl _ _).drew).rd)
  have HRd' := Lib.hid (hr'.below (Below.refl _ _).drew)
  have hl1 : ys.length ≤ 60000 := by rw [hr.1]; omega
  have hl2 : zs.length ≤ 60000 := by rw [hr'.1]; omega
  have HL1 := Lib.hid hl1
  have HL2 := Lib.hid hl2
  have HE1 := Lib.hid hr.1
  have HE2 := Lib.hid hr'.1
  have HN := Lib.hid hn
  have HN' := Lib.hid hn'
  have hNC := Lib.hid hN
  have hNC' := Lib.hid hN'
  have hn60 : n ≤ 60 := by omega
  have hn60' : n' ≤ 60 := by omega
  clear hr hr' hl1 hl2 hn hn' hN hN'
  go_enter Try.func8, Try.ntmps8
  go_upto_region 1 with fail
  go_cut [7, 8] (fun s7 s8 wx => Hid (Two w wx n n' ys zs s7 s8))
  case first =>
    have hN := hNC.out
    have hN' := hNC'.out
    have hnA : (N ≤ 60 ∧ n = N) ∨ (60 < N ∧ n = 60) := by have := HN.out; omega
    have hnB : (N' ≤ 60 ∧ n' = N') ∨ (60 < N' ∧ n' = 60) := by have := HN'.out; omega
    rcases hnA with ⟨hn, rfl⟩ | ⟨hn, rfl⟩
    all_goals rcases hnB with ⟨hn', rfl⟩ | ⟨hn', rfl⟩
    all_goals (try have i3 : (n : Int) ≤ (c : Int) := by omega)
    all_goals (try have i4 : (n' : Int) ≤ (c' : Int) := by omega)
    all_goals (try have i5 : ((60 : Int) < (n : Int)) = False := eq_false (by omega))
    all_goals (try have i6 : ((60 : Int) < (n' : Int)) = False := eq_false (by omega))
    all_goals (try have i7 : (60 : Int) < (N : Int) := by omega)
    all_goals (try have i8 : (60 : Int) < (N' : Int) := by omega)
    all_goals (try have i1 : (60 : Int) ≤ (c : Int) := by omega)
    all_goals (try have i2 : (60 : Int) ≤ (c' : Int) := by omega)
    all_goals clear HN HN' hNC hNC'
    all_goals
      go_region_held3 (fun _ => True) (go_keep)
        (first
          | (go_at_call 19; (with_reducible refine (copyInts_any _ ys _ HRd.out HL1.out).mono ?_); rintro e w1 ⟨v1, rfl, ho1, hb1⟩; have HR2 := Lib.hid ((HRd'.out.below hb1).rd); have HO1 := Lib.hid ho1; have HB1 := Lib.hid hb1; clear ho1 hb1)
          | (go_at_call 19; (with_reducible refine (copyInts_any _ zs _ HR2.out HL2.out).mono ?_); rintro e w2 ⟨v2, rfl, ho2, hb2⟩; have HO2 := Lib.hid ho2; have HB2 := Lib.hid hb2; clear ho2 hb2))
    all_goals
      go_wp2_with fail
      go_meet
      exact Lib.hid (two_of HO1.out HO2.out (Below.refl _ _).drew HB1.out HB2.out HE1.out HE2.out)
  case rest =>
    obtain ⟨wa, hwa⟩ : ∃ wa, wa = wc := ⟨_, rfl⟩
    subst hwa
    clear HRd HRd' HL1 HL2 HE1 HE2 HN HN' hNC hNC' HC HC'
    obtain ⟨A1, c1, A2, c2, rfl, rfl, r1, r2, hcm, hb, hnil⟩ := hcut.out
    have hnc := r1.2.1
    obtain ⟨k0, hk0⟩ : ∃ k : Int, t % ((n : Int) + 1) = k := ⟨_, rfl⟩
    have hk1 : 0 ≤ k0 ∧ k0 ≤ n := by
      have := Int.emod_nonneg t (show (n : Int) + 1 ≠ 0 by omega)
      have := Int.emod_lt_of_pos t (show (0 : Int) < (n : Int) + 1 by omega)
      omega
    obtain ⟨k, rfl⟩ := Int.eq_ofNat_of_zero_le hk1.1
    have HBR := bring_is t ((n : Int) + 1) k wa ht0 ht1 (by omega) (by omega) hk0
    have HBR := Lib.hid HBR
    have hkn : k ≤ n := by omega
    clear hk1 hk0 hcut
    have HCM := Lib.hid hcm
    have H1 := Lib.hid r1
    have H2 := Lib.hid r2
    have HB := Lib.hid hb
    have HNIL := Lib.hid hnil
    have HKN := Lib.hid hkn
    have HNC := Lib.hid hnc
    clear hcm r1 r2 hb hnil hnc hkn
    have hn1 : (n : Int) ≤ 60 := by omega
    go_wp2_with (go_at_call 26; refine HBR.out.mono ?_; rintro e w' ⟨rfl, rfl⟩)
    go_cut [10] (fun s10 wx => Hid (Round wa wx n k ys s10))
    case first =>
      have hkn := HKN.out
      have hnc := HNC.out
      clear HBR HB H2
      rcases Nat.eq_zero_or_pos n with hz | hz
      · obtain rfl : n = 0 := hz
        obtain rfl : k = 0 := by omega
        obtain rfl : ys = [] := List.eq_nil_of_length_eq_zero H1.out.1
        clear H1 HNIL HKN HNC HCM
        by_cases z1 : c1 = 0
        · subst z1
          go_region_held3 (fun _ => True) (go_keep)
            (first
              | (go_at_call 19; (with_reducible refine (copyInts_any (.slice A1 0 0) [] _ (Rd.nil _ _ _) (by decide)).mono ?_); rintro e w1 ⟨v1, rfl, ho1, hb1⟩; have HO1 := Lib.hid ho1; have HB1 := Lib.hid hb1; clear ho1 hb1)
              | (refine step_app (base := wa.drew.heap.size) (v := v1) (n := 0) (xs := []) (m := 0) (ys := []) (A := A1) (c := 0) rfl _ _ rfl rfl rfl HO1.out ⟨rfl, Nat.zero_le _, fun h => absurd h (by omega)⟩ (by omega) HB1.out.size ?_; intro v2 w2 hown2 hg2))
          all_goals
            go_wp2_with fail
            go_meet
            exact Lib.hid (round_of (k := 0) HO1.out HB1.out hown2 hg2 rfl rfl)
        · go_region_held3 (fun _ => True) (go_keep)
            (first
              | (go_at_call 19; (with_reducible refine (copyInts_any (.slice A1 0 c1) [] _ (Rd.nil _ _ _) (by decide)).mono ?_); rintro e w1 ⟨v1, rfl, ho1, hb1⟩; have HO1 := Lib.hid ho1; have HB1 := Lib.hid hb1; clear ho1 hb1)
              | (refine step_app (base := wa.drew.heap.size) (v := v1) (n := 0) (xs := []) (m := 0) (ys := []) (A := A1) (c := c1) rfl _ _ rfl rfl rfl HO1.out ⟨rfl, Nat.zero_le _, fun h => absurd h (by omega)⟩ (by omega) HB1.out.size ?_; intro v2 w2 hown2 hg2))
          all_goals
            go_wp2_with fail
            go_meet
            exact Lib.hid (round_of (k := 0) HO1.out HB1.out hown2 hg2 rfl rfl)
      · obtain ⟨b, off, rfl, _⟩ := H1.out.2.2 hz
        have hy := H1.out.1
        have HT := Lib.hid ((H1.out.pre hkn).below (Below.refl _ _).drew)
        by_cases z1 : c1 = k
        · have hD : ys.drop k = [] := List.drop_eq_nil_of_le (by omega)
          have hT : ys.take k = ys := List.take_of_length_le (by omega)
          obtain rfl : k = n := by omega
          subst z1
          have HD := Lib.hid hD
          have HTT := Lib.hid hT
          have HY := Lib.hid hy
          clear hD hT H1 HNIL HKN HNC HCM hy hnc hkn
          go_region_held3 (fun _ => True) (go_keep)
            (first
              | (go_at_call 19; (with_reducible refine (copyInts_any (.slice (some ⟨b, off, none⟩) 0 0) [] _ (Rd.nil _ _ _) (by decide)).mono ?_); rintro e w1 ⟨v1, rfl, ho1, hb1⟩; have HO1 := Lib.hid ho1; have HB1 := Lib.hid hb1; clear ho1 hb1)
              | (refine step_app (base := wa.drew.heap.size) (v := v1) (n := 0) (xs := []) (m := c1) (ys := ys.take c1) (A := some ⟨b, off, none⟩) (c := c1) rfl _ _ rfl rfl rfl HO1.out (HT.out.below HB1.out) (by omega) HB1.out.size ?_; intro v2 w2 hown2 hg2))
          all_goals
            go_wp2_with fail
            go_meet
            exact Lib.hid (round_of (k := c1) HO1.out HB1.out hown2 hg2 (by rw [HD.out]) (by simp))
        · have z2 : ¬ c1 = 0 := by omega
          have HC := Lib.hid (((H1.out.cut (lo := k) (m := n - k) (c' := c1 - k) (by omega) (by omega)).below (Below.refl _ _).drew).rd)
          have hD : (ys.drop k).take (n - k) = ys.drop k := List.take_of_length_le (by rw [List.length_drop]; omega)
          have hlen : (ys.drop k).length = n - k := by rw [List.length_drop]; omega
          rw [hD] at HC
          have HLEN := Lib.hid hlen
          have hl6 : (ys.drop k).length ≤ 60000 := by omega
          have HL6 := Lib.hid hl6
          have ik0 : (k : Int) ≤ (n : Int) := by omega
          have ik1 : (n : Int) ≤ (c1 : Int) := by omega
          have ik2 : (k : Int) ≤ (c1 : Int) := by omega
          clear H1 HNIL HKN HNC HCM hy hD hlen hl6
          go_region_held3 (fun _ => True) (go_keep)
            (first
              | (go_at_call 19; (with_reducible refine (copyInts_any (.slice (some ⟨b, off + k, none⟩) (n - k) (c1 - k)) (ys.drop k) _ HC.out HL6.out).mono ?_); rintro e w1 ⟨v1, rfl, ho1, hb1⟩; have HO1 := Lib.hid ho1; have HB1 := Lib.hid hb1; clear ho1 hb1)
              | (refine step_app (base := wa.drew.heap.size) (v := v1) (n := (ys.drop k).length) (xs := ys.drop k) (m := k) (ys := ys.take k) (A := some ⟨b, off, none⟩) (c := c1) rfl _ _ rfl rfl rfl HO1.out (HT.out.below HB1.out) (by rw [HLEN.out]; omega) HB1.out.size ?_; intro v2 w2 hown2 hg2))
          all_goals
            go_wp2_with fail
            go_meet
            exact Lib.hid (round_of (k := k) HO1.out HB1.out hown2 hg2 rfl (by rw [HLEN.out]; omega))
    case rest =>
      obtain ⟨ho, hbx⟩ := hcut.out
      have hy := H1.out.1
      have hy' := H2.out.1
      have R1 := Lib.hid (H1.out.below hbx)
      have R2 := Lib.hid ((H2.out.below hbx).rd)
      have HO := Lib.hid ho
      have HRo := Lib.hid (Rd.of_own ho)
      have HBW := Lib.hid HB.out.size
      have HBXX := Lib.hid hbx
      have H2a := Lib.hid H2.out
      obtain ⟨mq, hmq⟩ : ∃ mq, mx zs = mq := ⟨_, rfl⟩
      have HMQ := Lib.hid hmq
      clear hmq
      replace HB := Lib.hid (HB.out.trans (hbx.mono HB.out.size))
      have HBX := Lib.hid hbx.size
      have hl1 : ys.length ≤ 60000 := by omega
      have hl2 : zs.length ≤ 60000 := by omega
      have HL1 := Lib.hid hl1
      have HL2 := Lib.hid hl2
      have HY := Lib.hid hy
      have HY' := Lib.hid hy'
      obtain ⟨tp, htp⟩ : ∃ tp, mx ys = tp := ⟨_, rfl⟩
      have htp1 : 1 ≤ tp := by rw [← htp]; exact mx_ge ys
      have HTP := Lib.hid htp
      have hrot : mx (ys.drop k ++ ys.take k) = tp := by rw [← htp, mx_rot]
      have HROT := Lib.hid hrot
      have hlr : (ys.drop k ++ ys.take k).length ≤ 60 := by
        have := ho.1; rw [bv_length] at this; omega
      have HLR := Lib.hid hlr
      clear HBR HCM H1 H2 HNIL HKN HNC ho hbx hy hy' hl1 hl2 htp hrot hlr hcut
      go_wp2_with (go_at_call 22; refine (max_is _ ys tp _ R1.out.rd HL1.out HTP.out).mono ?_; rintro e w' ⟨rfl, rfl⟩)
      go_loop [12, 13] (fun b i => ∃ j : Nat, ∃ c : Bool, j ≤ n ∧ i = .int .i64 j ∧ b = .bool c ∧ Hid (c = (tp == 1 || (ys.take j).contains tp))) (fun _ i => n - (intOf i).toNat)
      case atStart => exact ⟨0, (tp == 1), Nat.zero_le _, rfl, rfl, Lib.hid (by simp)⟩
      case round =>
        obtain ⟨j, c, hj, rfl, rfl, HC⟩ := hrel
        by_cases hlt : j < n
        · obtain ⟨x, hx⟩ : ∃ x, ys[j]? = some x := ⟨_, List.getElem?_eq_getElem (by rw [HY.out]; exact hlt)⟩
          obtain ⟨b, off, rfl, hb, hcell⟩ := R1.out.2.2 (by omega)
          have hcj := hcell j x hx
          have hxm : x ≤ tp := by rw [← HTP.out]; exact mx_mem (List.mem_of_getElem? hx)
          have d1 : decide (tp < x) = false := by simp; omega
          have HX := Lib.hid hx
          have hnext : (ys.take (j + 1)).contains tp = ((ys.take j).contains tp || tp == x) := by
            rw [List.take_add_one, hx, Bool.eq_iff_iff]
            simp
          have HNX := Lib.hid hnext
          clear hcell hx hnext
          cases c with
          | true =>
            go_wp2
            go_round
            case rel => exact ⟨j + 1, true, by omega, by go_num, rfl, Lib.hid (by rw [HNX.out, ← Bool.or_assoc, ← HC.out]; rfl)⟩
            case measure => simp [intOf]; omega
          | false =>
            by_cases hxt : x = tp
            · have d2 : (x == tp) = true := by simpa using hxt
              have HXT := Lib.hid hxt
              clear hxt
              go_wp2
              go_round
              case rel => exact ⟨j + 1, true, by omega, by go_num, rfl, Lib.hid (by rw [HNX.out, ← Bool.or_assoc, ← HC.out, HXT.out]; simp)⟩
              case measure => simp [intOf]; omega
            · have d2 : (x == tp) = false := by simpa using hxt
              have HXT := Lib.hid hxt
              clear hxt
              go_wp2
              go_round
              case rel =>
                refine ⟨j + 1, false, by omega, by go_num, rfl, Lib.hid ?_⟩
                rw [HNX.out, ← Bool.or_assoc, ← HC.out]
                have := HXT.out
                simp
                exact fun h => this h.symm
              case measure => simp [intOf]; omega
        · obtain rfl : j = n := by omega
          have hc : c = true := by
            rw [HC.out, List.take_of_length_le (by rw [HY.out]; exact Nat.le_refl _), ← HTP.out]
            rcases mx_in ys with h | h
            · rw [h]; rfl
            · simp [h]
          subst hc
          clear HC
          go_wp2_with fail
          refine (max_is _ (ys.drop k ++ ys.take k) tp _ HRo.out (by have := HLR.out; omega) HROT.out).mono ?_
          rintro e w' ⟨rfl, rfl⟩
          have R2d := Lib.hid R2.out
          obtain ⟨A3, n3, c3, hv3, r3⟩ := R2.out
          injection hv3 with e1 e2 e3
          subst e1; subst e2; subst e3
          have R3 := Lib.hid r3
          clear r3
          go_wp2_with (at_builtin; refine wpList_app_g (base := wa.heap.size) (n := j) (xs := ys.drop k ++ ys.take k) (m := n') (ys := zs) (A := A2) (c := c2) (by rfl) (.tmp 76) (.tmp 77) rfl rfl rfl HO.out R3.out (by omega) HBX.out ?_; intro v4 w4 ho4 hg4; have HO4 := Lib.hid (Rd.of_own ho4); have HG4 := Lib.hid hg4; clear ho4 hg4)
          have e4 : mx (ys.drop k ++ ys.take k ++ zs) = max tp mq := by rw [mx_append, HROT.out, HMQ.out]
          obtain ⟨tq, htq⟩ : ∃ tq, tq = max tp mq := ⟨_, rfl⟩
          rw [← htq] at e4
          have e5 : mx [tp, mq] = tq := by rw [htq, show mx [tp, mq] = max (max 1 tp) mq from rfl]; omega
          have HE4 := Lib.hid e4
          have HE5 := Lib.hid e5
          have hg4 := HG4.out
          have hbz := (Below.refl wa.heap.size wc).grown hg4 HBX.out (own_base HO.out)
          have HZ4 := Lib.hid ((H2a.out.below (HBXX.out.trans hbz)).rd)
          have HB4 := Lib.hid (HB.out.trans (hbz.mono HBW.out))
          have hl4 : (ys.drop k ++ ys.take k ++ zs).length ≤ 60000 := by
            rw [List.length_append]; have h1 := HLR.out; have h2 := HY'.out; omega
          have HL4 := Lib.hid hl4
          clear e4 e5 htq hg4 hbz hl4
          refine (max_is _ (ys.drop k ++ ys.take k ++ zs) tq _ HO4.out HL4.out HE4.out).mono ?_
          rintro e w' ⟨rfl, rfl⟩
          go_wp2_with fail
          refine (max_is _ zs mq _ HZ4.out HL2.out HMQ.out).mono ?_
          rintro e w' ⟨rfl, rfl⟩
          have rx := Lib.hid (rd_lit w4 w4.heap.size #[.int .i64 tp, .int .i64 mq] 2 [tp, mq] rfl rfl rfl)
          have bx : Below w4.heap.size w4 (w4.alloc (.cells #[.int .i64 tp, .int .i64 mq] 3)) := (Below.refl _ _).alloc (Nat.le_refl _) _
          replace HB4 := Lib.hid (HB4.out.trans (bx.mono HB4.out.size))
          clear bx
          go_wp2_with fail
          refine (max_is _ [tp, mq] tq _ rx.out (by simp) HE5.out).mono ?_
          rintro e w' ⟨rfl, rfl⟩
          clear rx
          go_wp2_with fail
          refine (works_true _).mono ?_
          rintro e w5 ⟨rfl, hb⟩
          replace HB4 := Lib.hid (HB4.out.trans (hb.mono HB4.out.size))
          clear hb
          go_wp2_with fail
          go_ret
          exact ⟨rfl, HB4.out⟩

theorem widthMax_walk (A : Option Addr) (n c : Nat) (xs : List Int) (A' : Option Addr) (n' c' : Nat) (xs' : List Int) (t : Int) (w : World) (hr : Rds w A n c xs) (hc : c ≤ maxLen) (hr' : Rds w A' n' c' xs') (hc' : c' ≤ maxLen)
    (ht0 : -9223372036854775808 ≤ t) (ht1 : t ≤ 9223372036854775807) :
    Calls Try.prog 8 #[.slice A n c, .slice A' n' c', .int .i64 t] w fun e w' => e = .returned (.bool true) ∧ Below w.heap.size w w' := by
  obtain ⟨m, ys, hm, _, _, hcase⟩ := firstK hr 60
  obtain ⟨m', zs, hm', _, _, hcase'⟩ := firstK hr' 60
  exact max_core A A' n n' m m' c c' ys zs t w hm hm' hc hc' hr.2.1 hr'.2.1 ht0 ht1 hcase hcase'

set_option maxRecDepth 100000 in
theorem widthMax_lifted (os : Os) (started : os.Started) (H : Type) (enc : TypeId × Value → H) :
    ReturnsInHanded {} Try.checked os 8 .any (Rows.widthMaxSpec.pre6 enc Try.prog Try.f8 Rows.widthMaxRow.domain false) (Rows.widthMaxSpec.post enc Try.prog Try.f8 false true false false) := by
  refine returnsInHanded_of_change (C := Try.checked) ownK started (by kernel_rfl) Try.func8
    (ChangeSpec.witness6 (enc := enc) (C := Try.checked) false ⟨#[], #[.slice none 0 0, .slice none 0 0, .int .i64 0], []⟩ 8 (by kernel_rfl) (by kernel_rfl) (by kernel_rfl) (by kernel_rfl)) ?_
  intro W base args ds gs before hval0 hW hcnd _
  have hval : ∀ (j : Nat) t v, Try.f8.params[j]? = some t → args[j]? = some v → Value.okWide Try.prog W .any base t v := hval0
  have hW' := hW
  obtain ⟨p, q, hA0, hV, rfl, hfz, hnd⟩ := hW
  have hA : DataW.TrodAll enc Try.prog W 0 (fun _ => true) true Try.f8.params.toList args.toList ds p := hA0
  rw [Try.params8] at hA hval
  obtain ⟨v0, vs0, d0, ds0, p0, q0, hargs, rfl, rfl, h0, r0⟩ := trodAll_cons hA
  obtain ⟨v1, vs1, d1, ds1, p1, q1, rfl, rfl, rfl, h1, r1⟩ := trodAll_cons r0
  obtain ⟨v2, vs2, d2, ds2, p2, q2, rfl, rfl, rfl, h2, r2⟩ := trodAll_cons r1
  obtain ⟨rfl, rfl, rfl⟩ := trodAll_nil r2
  obtain rfl : args = #[v0, v1, v2] := by cases args; simp_all
  obtain ⟨rfl, rfl⟩ := trodVars_none hV
  obtain ⟨A0, n0, c0, xs0, rfl, hr0, hc0, hb0⟩ := open_list (hval 0 30 v0 rfl rfl) h0
  obtain ⟨A1, n1, c1, xs1, rfl, hr1, hc1, hb1⟩ := open_list (hval 1 30 v1 rfl rfl) h1
  obtain ⟨a2, rfl, rfl, rfl, w2⟩ := open_int Try.underlying3 (hval 2 3 v2 rfl rfl) h2
  have b2 : -9223372036854775808 ≤ a2 ∧ a2 ≤ 9223372036854775807 := by simpa [Lit.wf, IntKind.min, IntKind.max, IntKind.signed, IntKind.bits] using w2
  refine (widthMax_walk A0 n0 c0 xs0 A1 n1 c1 xs1 a2 W hr0 hc0 hr1 hc1 b2.1 b2.2).mono fun e W' ⟨he, hb⟩ => ?_
  subst he
  exact ⟨_, rfl, law_post (by rw [Try.params8]; decide +kernel) rfl rfl rfl rfl rfl hW' hb⟩

theorem widthMax_over : Rows.widthMaxRow.holds Try.pinned (OpenSpec.ofChange Rows.widthMaxSpec) :=
  OpenClaim.holds_of_wide 8 Try.f8 rfl rfl rfl rfl rfl rfl rfl ⟨rfl, rfl, rfl, rfl, rfl⟩ rfl rfl rfl rfl rfl (by kernel_rfl) Try.func8 (by kernel_rfl)
    (of_decide_eq_true (by kernel_rfl)) (by unfold Func.isWrapper; first | (rw [if_pos (by decide +kernel)]; kernel_rfl) | (rw [if_neg (by decide +kernel)]; exact ⟨rfl, rfl⟩))
    (fun os started H enc _ => widthMax_lifted os started H enc)

theorem widthMax_holds : Rows.WidthMaxSaid := widthMax_over
end Go.Proofs.Ytanikllolidoaaa
