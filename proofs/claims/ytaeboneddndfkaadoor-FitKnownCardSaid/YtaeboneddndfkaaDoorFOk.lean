/-
  What is proved here: the contracts of fit.One and fit.All (OneOK, AllOK of XFWk) for the landed code; no condition but those that they state.
-/
import Derived.Test.YtaeboneddndfkaaDoorFClo
import Derived.Test.YtaeboneddndfkaaDoorFLst
import Derived.Test.YtaeboneddndfkaaDoorFWk
namespace Go.Proofs.YtaeboneddndfkaaDoor
open Go.RowKit Tg

set_option maxHeartbeats 1000000 in
/-- The test of All, at its four boxes. -/
theorem allT_any (l : List V3) (keys : V3) (a h w : Int) (u : Value) (pa ph pk pl : Nat) (W : World) (hT : Tab W) (hk : okV keys) (hl : ∀ v ∈ l, okV v) (hr : Rd W u l) (hm : l.length ≤ 1048576) (a0 : 0 ≤ a) (a1 : a ≤ 1073741824) (hh : h = 0 ∨ h = 1 ∨ h = 3) (hw : isW w)
    (ca : W.cell? ⟨pa, 0, none⟩ = some (.int .i64 a)) (ch : W.cell? ⟨ph, 0, none⟩ = some (.int .i64 h)) (cv0 : W.cell? ⟨pk, 0, none⟩ = some (.int .i64 keys.t)) (cv1 : W.cell? ⟨pk, 1, none⟩ = some (.int .i64 keys.w)) (cv2 : W.cell? ⟨pk, 2, none⟩ = some (.int .u64 keys.n)) (cl : W.cell? ⟨pl, 0, none⟩ = some u) :
    Calls Tryd.prog 30 #[.int .i64 w, .pointer (some ⟨pa, 0, none⟩), .pointer (some ⟨ph, 0, none⟩), .pointer (some ⟨pk, 0, none⟩), .pointer (some ⟨pl, 0, none⟩)] W fun e w' => e = .returned (.bool (allF a h keys l w)) ∧ Below W.heap.size W w' := by
  have HV := Lib.hid (fun X => vectorAt_any a w X a0 a1 hw)
  have HHD := Lib.hid (fun X hX => vheader_any keys a h w l.length X hX hk a0 a1 hh hm hw)
  have HAL := Lib.hid (fun X hX hR => vall_any l a h w u X hX hl hR hm a0 a1 (by omega) (by omega) hw)
  obtain ⟨s, hs⟩ : ∃ s, upT a w = s := ⟨_, rfl⟩
  rw [hs] at HV HHD HAL
  have hF : allF a h keys l w = (hdrF a h l.length w keys && fitL l a h w) := rfl
  rw [hF]
  obtain ⟨A, n, c, rfl, hrs⟩ := hr
  obtain rfl := hrs.1
  obtain ⟨n, hn⟩ : ∃ n, n = l.length := ⟨_, rfl⟩
  obtain ⟨β, hβ⟩ : ∃ β, hdrF a h l.length w keys = β := ⟨_, rfl⟩
  obtain ⟨γ, hγ⟩ : ∃ γ, fitL l a h w = γ := ⟨_, rfl⟩
  rw [hβ] at HHD ⊢
  rw [hγ] at HAL ⊢
  rw [← hn] at HHD HAL cl hrs
  have HRS := Lib.hid hrs
  obtain ⟨t, vw, nn⟩ := keys
  simp only at cv0 cv1 cv2
  have HT := Lib.hid hT
  have la := lt_cell ca
  have lh := lt_cell ch
  have lv := lt_cell cv0
  have ll := lt_cell cl
  have HX := Lib.hid (show ∀ X, Hid (Below W.heap.size W X) → (X.cell? ⟨pa, 0, none⟩ = some (.int .i64 a) ∧ X.cell? ⟨ph, 0, none⟩ = some (.int .i64 h) ∧ X.cell? ⟨pk, 0, none⟩ = some (.int .i64 t) ∧ X.cell? ⟨pk, 1, none⟩ = some (.int .i64 vw) ∧ X.cell? ⟨pk, 2, none⟩ = some (.int .u64 nn) ∧ X.cell? ⟨pl, 0, none⟩ = some (.slice A n c) ∧ Tab X ∧ Rd X (.slice A n c) l) from fun X H =>
    ⟨(H.out.cell (p := ⟨_, 0, none⟩) la).trans ca, (H.out.cell (p := ⟨_, 0, none⟩) lh).trans ch, (H.out.cell (p := ⟨_, 0, none⟩) lv).trans cv0, (H.out.cell (p := ⟨_, 1, none⟩) lv).trans cv1, (H.out.cell (p := ⟨_, 2, none⟩) lv).trans cv2, (H.out.cell (p := ⟨_, 0, none⟩) ll).trans cl, HT.out.keep H.out, (HRS.out.below H.out).rd⟩)
  clear hs hβ hT hk hw la lh lv ll a0 a1 hrs hh hl hF hγ hn hm
  have HB0 : Hid (∀ X, Below W.heap.size W X → Hid (Below W.heap.size W (X.alloc (.cells #[.int .i64 a, .int .i64 s, .int .i64 w] 48)))) := Lib.hid fun X h => Lib.hid (h.trans ((al0 _ _).mono h.size))
  have HB1 : Hid (∀ (X Y : World), Hid (Below W.heap.size W X) → Below X.heap.size X Y → Hid (Below W.heap.size W Y)) := Lib.hid fun X Y h k => Lib.hid (h.out.trans (k.mono h.out.size))
  cases β with
  | true =>
    go_enter Tryd.func30, Tryd.ntmps30
    go_wp2_with (first
      | (go_at_call 26; (with_reducible refine (HV.out _).mono ?_); rintro e w2 ⟨rfl, hb⟩; have HS2 := HB0.out _ hb; obtain ⟨b0, b1, b2⟩ := box3v w2 a s w; obtain ⟨y0, y1, y2, y3, y4, y5, hT2, hR2⟩ := HX.out _ HS2; have HT2 := Lib.hid hT2; clear hb hT2 hR2)
      | (go_at_call 31; (with_reducible refine (HHD.out _ HT2.out).mono ?_); rintro e w3 ⟨rfl, hb⟩; have HS3 := HB1.out _ _ HS2 hb; obtain ⟨z0, z1, z2, z3, z4, z5, hT3, hR3⟩ := HX.out _ HS3; have HT3 := Lib.hid hT3; have HR3 := Lib.hid hR3; have d0 := (hb.cell (p := ⟨w2.heap.size, 0, none⟩) (by simp)).trans b0; have d1 := (hb.cell (p := ⟨w2.heap.size, 1, none⟩) (by simp)).trans b1; have d2 := (hb.cell (p := ⟨w2.heap.size, 2, none⟩) (by simp)).trans b2; clear hb hT3 hR3)
      | (go_at_call 32; (with_reducible refine (HAL.out _ HT3.out HR3.out).mono ?_); rintro e w4 ⟨rfl, hb⟩; have HS4 := HB1.out _ _ HS3 hb; clear hb))
    go_ret
    exact ⟨by simp, HS4.out⟩
  | false =>
    go_enter Tryd.func30, Tryd.ntmps30
    go_wp2_with (first
      | (go_at_call 26; (with_reducible refine (HV.out _).mono ?_); rintro e w2 ⟨rfl, hb⟩; have HS2 := HB0.out _ hb; obtain ⟨b0, b1, b2⟩ := box3v w2 a s w; obtain ⟨y0, y1, y2, y3, y4, y5, hT2, hR2⟩ := HX.out _ HS2; have HT2 := Lib.hid hT2; clear hb hT2 hR2)
      | (go_at_call 31; (with_reducible refine (HHD.out _ HT2.out).mono ?_); rintro e w3 ⟨rfl, hb⟩; have HS3 := HB1.out _ _ HS2 hb; obtain ⟨z0, z1, z2, z3, z4, z5, hT3, hR3⟩ := HX.out _ HS3; have d0 := (hb.cell (p := ⟨w2.heap.size, 0, none⟩) (by simp)).trans b0; have d1 := (hb.cell (p := ⟨w2.heap.size, 1, none⟩) (by simp)).trans b1; have d2 := (hb.cell (p := ⟨w2.heap.size, 2, none⟩) (by simp)).trans b2; clear hb hT3 hR3))
    go_ret
    exact ⟨by simp, HS3.out⟩
theorem one_ok : OneOK := by
  intro v a i W hv _ _ _ _ hT
  obtain ⟨t, vw, n⟩ := v
  unfold oneV
  obtain ⟨W3, hW3⟩ : ∃ W3, W3 = ((W.alloc (.cells #[.int .i64 t, .int .i64 vw, .int .u64 n] 24)).alloc (.cells #[.int .i64 a] 3)).alloc (.cells #[.int .i64 i] 3) := ⟨_, rfl⟩
  have hb3 : Below W.heap.size W W3 := by rw [hW3]; exact ((al0 _ _).alloc (by simp) _).alloc (by simp; omega) _
  have hsz : W3.heap.size = W.heap.size + 3 := by rw [hW3]; simp
  have xv : Bx W3 W.heap.size 24 #[.int .i64 t, .int .i64 vw, .int .u64 n] := by
    rw [hW3]; exact ((Bx.new W _ _).below (al0 _ _) (by simp)).below (al0 _ _) (by simp; omega)
  have xa : Bx W3 (W.heap.size + 1) 3 #[.int .i64 a] := by
    rw [hW3]
    have := (Bx.new (W.alloc (.cells #[.int .i64 t, .int .i64 vw, .int .u64 n] 24)) 3 #[.int .i64 a]).below (al0 _ (.cells #[.int .i64 i] 3)) (by simp)
    simpa only [World.size_alloc] using this
  have xi : Bx W3 (W.heap.size + 1 + 1) 3 #[.int .i64 i] := by
    rw [hW3]
    have := Bx.new ((W.alloc (.cells #[.int .i64 t, .int .i64 vw, .int .u64 n] 24)).alloc (.cells #[.int .i64 a] 3)) 3 #[.int .i64 i]
    simpa only [World.size_alloc] using this
  have HB := Lib.hid hb3
  have HT := Lib.hid (hT.keep hb3)
  have c0 : W3.cell? ⟨W.heap.size + 1, 0, none⟩ = some (.int .i64 a) := xa.cell 0
  have c1 : W3.cell? ⟨W.heap.size + 1 + 1, 0, none⟩ = some (.int .i64 i) := xi.cell 0
  have HPA := Lib.hid (fun n X => isPlace_any n X)
  by_cases hA : okA a = true ∧ okA i = true
  · rw [if_pos hA]
    obtain ⟨ha, hi⟩ := hA
    have HPa := Lib.hid (fun X => isPlace_any a X)
    have HPi := Lib.hid (fun X => isPlace_any i X)
    rw [ha] at HPa
    rw [hi] at HPi
    rw [okA_iff] at ha hi
    have HL := Lib.hid (leastOne_any (.pointer (some ⟨W.heap.size + 1, 0, none⟩)) (.pointer (some ⟨W.heap.size, 0, none⟩)) (.pointer (some ⟨W.heap.size + 1 + 1, 0, none⟩)) (fitV ⟨t, vw, n⟩ a i) W3 fun x X hx hb =>
      oneT_any ⟨t, vw, n⟩ a i x _ _ _ X (HT.out.keep hb) hv ha.1 ha.2 hi.1 hi.2 hx ((xa.below hb xa.lt).cell 0) ((xi.below hb xi.lt).cell 0) ((xv.below hb xv.lt).cell 0) ((xv.below hb xv.lt).cell 1) ((xv.below hb xv.lt).cell 2))
    obtain ⟨r, hr⟩ : ∃ r, pick (fitV ⟨t, vw, n⟩ a i) = r := ⟨_, rfl⟩
    rw [hr] at HL ⊢
    clear hr ha hi hb3 hsz xv xa xi hT hv
    go_enter Tryd.func11, Tryd.ntmps11
    go_upto_region 1 with fail
    simp only [← hW3]
    clear hW3
    go_wp2_with (first
      | (go_at_call 23; (with_reducible refine (HPa.out _).mono ?_); rintro e w1 ⟨rfl, rfl⟩)
      | (go_at_call 23; (with_reducible refine (HPi.out _).mono ?_); rintro e w1 ⟨rfl, rfl⟩)
      | (go_at_call 24; (with_reducible refine HL.out.mono ?_); rintro e w2 ⟨rfl, hb⟩; have HB2 := Lib.hid hb; clear hb))
    go_ret
    exact ⟨rfl, HB.out.trans (HB2.out.mono HB.out.size)⟩
  · rw [if_neg hA]
    clear hb3 hsz xv xa xi hT hv
    have HPa := Lib.hid (fun X => isPlace_any a X)
    have HPi := Lib.hid (fun X => isPlace_any i X)
    cases ha : okA a with
    | false =>
      rw [ha] at HPa
      clear ha hA HPi
      go_enter Tryd.func11, Tryd.ntmps11
      go_upto_region 1 with fail
      simp only [← hW3]
      clear hW3
      go_wp2_with (first
        | (go_at_call 23; (with_reducible refine (HPa.out _).mono ?_); rintro e w1 ⟨rfl, rfl⟩))
      go_ret
      exact ⟨rfl, HB.out⟩
    | true =>
      have hi : okA i = false := by
        cases hi : okA i with
        | false => rfl
        | true => exact absurd ⟨ha, hi⟩ hA
      rw [ha] at HPa
      rw [hi] at HPi
      clear ha hA hi
      go_enter Tryd.func11, Tryd.ntmps11
      go_upto_region 1 with fail
      simp only [← hW3]
      clear hW3
      go_wp2_with (first
        | (go_at_call 23; (with_reducible refine (HPa.out _).mono ?_); clear HPa; rintro e w1 ⟨rfl, rfl⟩)
        | (go_at_call 23; (with_reducible refine (HPi.out _).mono ?_); rintro e w1 ⟨rfl, rfl⟩))
      go_ret
      exact ⟨rfl, HB.out⟩
theorem all_ok : AllOK := by
  intro a h keys l u W hk hl hr _ _ _ _ hT
  obtain ⟨A, n, c, rfl, hrs⟩ := hr
  obtain rfl := hrs.1
  have hcm := Nat.le_trans hrs.2.1 hrs.2.2.1
  unfold maxLen at hcm
  obtain ⟨t, vw, nn⟩ := keys
  unfold allV
  obtain ⟨W4, hW4⟩ : ∃ W4, W4 = (((W.alloc (.cells #[.int .i64 a] 3)).alloc (.cells #[.int .i64 h] 3)).alloc (.cells #[.int .i64 t, .int .i64 vw, .int .u64 nn] 24)).alloc (.cells #[.slice A l.length c] 29) := ⟨_, rfl⟩
  have hb4 : Below W.heap.size W W4 := by rw [hW4]; exact (((al0 _ _).alloc (by simp) _).alloc (by simp; omega) _).alloc (by simp; omega) _
  have xa : Bx W4 W.heap.size 3 #[.int .i64 a] := by
    rw [hW4]; exact (((Bx.new W _ _).below (al0 _ _) (by simp)).below (al0 _ _) (by simp; omega)).below (al0 _ _) (by simp; omega)
  have xh : Bx W4 (W.heap.size + 1) 3 #[.int .i64 h] := by
    rw [hW4]
    have := ((Bx.new (W.alloc (.cells #[.int .i64 a] 3)) 3 #[.int .i64 h]).below (al0 _ (.cells #[.int .i64 t, .int .i64 vw, .int .u64 nn] 24)) (by simp)).below (al0 _ (.cells #[.slice A l.length c] 29)) (by first | (simp; done) | (simp; omega))
    simpa only [World.size_alloc] using this
  have xk : Bx W4 (W.heap.size + 1 + 1) 24 #[.int .i64 t, .int .i64 vw, .int .u64 nn] := by
    rw [hW4]
    have := (Bx.new ((W.alloc (.cells #[.int .i64 a] 3)).alloc (.cells #[.int .i64 h] 3)) 24 #[.int .i64 t, .int .i64 vw, .int .u64 nn]).below (al0 _ (.cells #[.slice A l.length c] 29)) (by simp)
    simpa only [World.size_alloc] using this
  have xl : Bx W4 (W.heap.size + 1 + 1 + 1) 29 #[.slice A l.length c] := by
    rw [hW4]
    have := Bx.new (((W.alloc (.cells #[.int .i64 a] 3)).alloc (.cells #[.int .i64 h] 3)).alloc (.cells #[.int .i64 t, .int .i64 vw, .int .u64 nn] 24)) 29 #[.slice A l.length c]
    simpa only [World.size_alloc] using this
  have HB := Lib.hid hb4
  have HT := Lib.hid (hT.keep hb4)
  have HR := Lib.hid (hrs.below hb4).rd
  have c0 : W4.cell? ⟨W.heap.size, 0, none⟩ = some (.int .i64 a) := xa.cell 0
  have c1 : W4.cell? ⟨W.heap.size + 1, 0, none⟩ = some (.int .i64 h) := xh.cell 0
  have c3 : W4.cell? ⟨W.heap.size + 1 + 1 + 1, 0, none⟩ = some (.slice A l.length c) := xl.cell 0
  have HPa := Lib.hid (fun X => isPlace_any a X)
  have HPh := Lib.hid (fun X => isHeader_any h X)
  by_cases hA : okA a = true ∧ okH h = true ∧ l.length ≤ 1048576
  · rw [if_pos hA]
    obtain ⟨ha, hh, hm⟩ := hA
    rw [ha] at HPa
    rw [hh] at HPh
    rw [okA_iff] at ha
    rw [okH_iff] at hh
    have HL := Lib.hid (leastAll_any (.pointer (some ⟨W.heap.size, 0, none⟩)) (.pointer (some ⟨W.heap.size + 1, 0, none⟩)) (.pointer (some ⟨W.heap.size + 1 + 1, 0, none⟩)) (.pointer (some ⟨W.heap.size + 1 + 1 + 1, 0, none⟩)) (allF a h ⟨t, vw, nn⟩ l) W4 fun x X hx hb =>
      allT_any l ⟨t, vw, nn⟩ a h x (.slice A l.length c) _ _ _ _ X (HT.out.keep hb) hk hl (HR.out.below hb) hm ha.1 ha.2 hh hx ((xa.below hb xa.lt).cell 0) ((xh.below hb xh.lt).cell 0) ((xk.below hb xk.lt).cell 0) ((xk.below hb xk.lt).cell 1) ((xk.below hb xk.lt).cell 2) ((xl.below hb xl.lt).cell 0))
    obtain ⟨r, hr⟩ : ∃ r, pick (allF a h ⟨t, vw, nn⟩ l) = r := ⟨_, rfl⟩
    rw [hr] at HL ⊢
    obtain ⟨n, hn⟩ : ∃ n, l.length = n := ⟨_, rfl⟩
    rw [hn] at c3 hm hcm hW4
    have hmm : ¬ (1048576 : Int) < (n : Int) := by omega
    clear hr ha hh hb4 xa xh xk xl hT hk hl hrs HR
    go_enter Tryd.func15, Tryd.ntmps15
    go_upto_region 1 with fail
    simp only [hn, ← hW4]
    clear hW4 hn
    go_wp2_with (first
      | (go_at_call 23; (with_reducible refine (HPa.out _).mono ?_); rintro e w1 ⟨rfl, rfl⟩)
      | (go_at_call 29; (with_reducible refine (HPh.out _).mono ?_); rintro e w1 ⟨rfl, rfl⟩)
      | (go_at_call 24; (with_reducible refine HL.out.mono ?_); rintro e w2 ⟨rfl, hb⟩; have HB2 := Lib.hid hb; clear hb))
    go_ret
    exact ⟨rfl, HB.out.trans (HB2.out.mono HB.out.size)⟩
  · rw [if_neg hA]
    clear hb4 xa xh xk xl hT hk hl hrs HR
    obtain ⟨n, hn⟩ : ∃ n, l.length = n := ⟨_, rfl⟩
    rw [hn] at c3 hcm hW4 hA
    cases ha : okA a with
    | false =>
      rw [ha] at HPa
      clear ha hA HPh
      go_enter Tryd.func15, Tryd.ntmps15
      go_upto_region 1 with fail
      simp only [hn, ← hW4]
      clear hW4 hn
      go_wp2_with (first
        | (go_at_call 23; (with_reducible refine (HPa.out _).mono ?_); rintro e w1 ⟨rfl, rfl⟩))
      go_ret
      exact ⟨rfl, HB.out⟩
    | true =>
      rw [ha] at HPa
      cases hh : okH h with
      | false =>
        rw [hh] at HPh
        clear ha hA hh
        go_enter Tryd.func15, Tryd.ntmps15
        go_upto_region 1 with fail
        simp only [hn, ← hW4]
        clear hW4 hn
        go_wp2_with (first
          | (go_at_call 23; (with_reducible refine (HPa.out _).mono ?_); rintro e w1 ⟨rfl, rfl⟩)
          | (go_at_call 29; (with_reducible refine (HPh.out _).mono ?_); rintro e w1 ⟨rfl, rfl⟩))
        go_ret
        exact ⟨rfl, HB.out⟩
      | true =>
        rw [hh] at HPh
        have hm : (1048576 : Int) < (n : Int) := by
          have : ¬ n ≤ 1048576 := fun h => hA ⟨ha, hh, h⟩
          omega
        clear ha hA hh
        go_enter Tryd.func15, Tryd.ntmps15
        go_upto_region 1 with fail
        simp only [hn, ← hW4]
        clear hW4 hn
        go_wp2_with (first
          | (go_at_call 23; (with_reducible refine (HPa.out _).mono ?_); rintro e w1 ⟨rfl, rfl⟩)
          | (go_at_call 29; (with_reducible refine (HPh.out _).mono ?_); rintro e w1 ⟨rfl, rfl⟩))
        go_ret
        exact ⟨rfl, HB.out⟩
end Go.Proofs.YtaeboneddndfkaaDoor
