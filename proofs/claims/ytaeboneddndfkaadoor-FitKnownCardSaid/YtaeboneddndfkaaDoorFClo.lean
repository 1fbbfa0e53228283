/-
  What is proved here: contracts of vector.fitsHeader and vector.fitsAll of package fit; conditions: the table of package tag holds what is laid, numbers in the ranges of their types, a list that the form reads.
-/
import Derived.Test.YtaeboneddndfkaaDoorFVec
namespace Go.Proofs.YtaeboneddndfkaaDoor
open Go.RowKit Tg

/-- What the header's part of the test says. -/
def hdrF (a h n w : Int) (keys : V3) : Bool := (decide (h ≤ 0) || lenF n w) && (!decide (h = 3) || fitV keys a 0 w)
/-- The cells of the two boxes (a vector's and a value's), in every later world. -/
theorem fc_hall (W W2 : World) (t vw n a s w : Int) (hW2 : W2 = (W.alloc (.cells #[.int .i64 a, .int .i64 s, .int .i64 w] 48)).alloc (.cells #[.int .i64 t, .int .i64 vw, .int .u64 n] 24)) :
    Below W.heap.size W W2 ∧ W2.heap.size = W.heap.size + 2 ∧ ∀ X, Hid (Below W2.heap.size W2 X) → (X.cell? ⟨W.heap.size, 0, none⟩ = some (.int .i64 a) ∧ X.cell? ⟨W.heap.size, 1, none⟩ = some (.int .i64 s) ∧ X.cell? ⟨W.heap.size, 2, none⟩ = some (.int .i64 w) ∧ X.cell? ⟨W.heap.size + 1, 0, none⟩ = some (.int .i64 t) ∧ X.cell? ⟨W.heap.size + 1, 1, none⟩ = some (.int .i64 vw) ∧ X.cell? ⟨W.heap.size + 1, 2, none⟩ = some (.int .u64 n) ∧ Hid (Below W2.heap.size W2 X)) := by
  have hb2 : Below W.heap.size W W2 := by rw [hW2]; exact (al0 _ _).alloc (by simp) _
  have hsz : W2.heap.size = W.heap.size + 2 := by rw [hW2]; simp
  refine ⟨hb2, hsz, fun X HX => ?_⟩
  have hb := HX.out
  obtain ⟨c0, c1, c2⟩ := box3v W a s w
  obtain ⟨d0, d1, d2⟩ := box3 (W.alloc (.cells #[.int .i64 a, .int .i64 s, .int .i64 w] 48)) ⟨t, vw, n⟩
  simp only [World.size_alloc] at d0 d1 d2
  have hlt : W.heap.size < (W.alloc (.cells #[.int .i64 a, .int .i64 s, .int .i64 w] 48)).heap.size := by simp
  have hk := al0 (W.alloc (.cells #[.int .i64 a, .int .i64 s, .int .i64 w] 48)) (.cells #[.int .i64 t, .int .i64 vw, .int .u64 n] 24)
  rw [← hW2] at hk d0 d1 d2
  exact ⟨(hb.cell (p := ⟨_, 0, none⟩) (by simp only; omega)).trans ((hk.cell (p := ⟨_, 0, none⟩) hlt).trans c0), (hb.cell (p := ⟨_, 1, none⟩) (by simp only; omega)).trans ((hk.cell (p := ⟨_, 1, none⟩) hlt).trans c1), (hb.cell (p := ⟨_, 2, none⟩) (by simp only; omega)).trans ((hk.cell (p := ⟨_, 2, none⟩) hlt).trans c2),
      (hb.cell (p := ⟨_, 0, none⟩) (by simp only; omega)).trans d0, (hb.cell (p := ⟨_, 1, none⟩) (by simp only; omega)).trans d1, (hb.cell (p := ⟨_, 2, none⟩) (by simp only; omega)).trans d2, HX⟩
set_option maxHeartbeats 1000000 in
theorem vheader_any (keys : V3) (a h w : Int) (m : Nat) (W : World) (hT : Tab W) (hk : okV keys) (a0 : 0 ≤ a) (a1 : a ≤ 1073741824) (hh : h = 0 ∨ h = 1 ∨ h = 3) (hm : m ≤ 1048576) (hw : isW w) :
    Calls Tryd.prog 31 #[vecA a (upT a w) w, .int .i64 h, keys.agg, .int .i64 (m : Int)] W fun e w' => e = .returned (.bool (hdrF a h m w keys)) ∧ Below W.heap.size W w' := by
  obtain ⟨s, hs⟩ : ∃ s, upT a w = s := ⟨_, rfl⟩
  have HFI := Lib.hid (fun X hX => vfits_any keys a 0 w X hX hk a0 a1 (by omega) (by omega) hw)
  have HFN := Lib.hid (fun X => fitsNum_any a s w (m : Int) X (by omega) (by omega) hw)
  rw [hs] at HFI
  rw [hs]
  obtain ⟨t, vw, n⟩ := keys
  obtain ⟨W2, hW2⟩ : ∃ W2, W2 = (W.alloc (.cells #[.int .i64 a, .int .i64 s, .int .i64 w] 48)).alloc (.cells #[.int .i64 t, .int .i64 vw, .int .u64 n] 24) := ⟨_, rfl⟩
  obtain ⟨hb2, hsz, hall⟩ := fc_hall W W2 t vw n a s w hW2
  have HB := Lib.hid hb2
  have HT := Lib.hid (hT.keep hb2)
  obtain ⟨c0, c1, c2, d0, d1, d2, -⟩ := hall _ (Lib.hid (Below.refl _ _))
  have hwm : IntKind.u64.wrap (m : Int) = (m : Int) := IntWalk.u64_in _ ⟨by omega, by omega⟩
  obtain ⟨β, hβ⟩ : ∃ β, lenF (m : Int) w = β := ⟨_, rfl⟩
  obtain ⟨γ, hγ⟩ : ∃ γ, fitV ⟨t, vw, n⟩ a 0 w = γ := ⟨_, rfl⟩
  unfold hdrF
  rw [hβ] at HFN ⊢
  rw [hγ] at HFI ⊢
  clear hβ hγ hs hw hb2 hsz hT hk
  rcases hh with rfl | rfl | rfl
  · clear hall
    go_enter Tryd.func31, Tryd.ntmps31
    go_upto_region 1 with fail
    simp only [← hW2]
    clear hW2
    go_wp2_with fail
    go_ret
    exact ⟨by simp, HB.out⟩
  · go_enter Tryd.func31, Tryd.ntmps31
    go_upto_region 1 with fail
    simp only [← hW2]
    clear hW2
    go_wp2_with (go_at_call 37; (with_reducible refine (HFN.out _).mono ?_); rintro e w1 ⟨rfl, hb⟩; have HB1 := Lib.hid hb; clear hb)
    go_ret
    refine ⟨by simp, ?_⟩
    first
      | exact HB.out.trans (HB1.out.mono HB.out.size)
      | exact HB.out.trans ((Below.refl _ _).drew.trans (HB1.out.mono HB.out.size))
  · cases γ with
    | true =>
      go_enter Tryd.func31, Tryd.ntmps31
      go_upto_region 1 with fail
      simp only [← hW2]
      clear hW2
      go_wp2_with (first
        | (go_at_call 27; (with_reducible refine (HFI.out _ HT.out).mono ?_); rintro e w2 ⟨rfl, hb⟩; have HS2 := Lib.hid hb; clear hb; obtain ⟨x0, x1, x2, u0, u1, u2, -⟩ := hall _ HS2)
        | (go_at_call 37; (with_reducible refine (HFN.out _).mono ?_); rintro e w3 ⟨rfl, hb⟩; have HS3 : Hid (Below W2.heap.size W2 w3) := Lib.hid (HS2.out.trans (hb.mono HS2.out.size)); clear hb))
      go_ret
      exact ⟨by simp, HB.out.trans (HS3.out.mono HB.out.size)⟩
    | false =>
      go_enter Tryd.func31, Tryd.ntmps31
      go_upto_region 1 with fail
      simp only [← hW2]
      clear hW2
      go_wp2_with (go_at_call 27; (with_reducible refine (HFI.out _ HT.out).mono ?_); rintro e w2 ⟨rfl, hb⟩; have HS2 := Lib.hid hb; clear hb; obtain ⟨x0, x1, x2, u0, u1, u2, -⟩ := hall _ HS2)
      go_ret
      exact ⟨by simp, HB.out.trans (HS2.out.mono HB.out.size)⟩
set_option maxHeartbeats 1000000 in
theorem vall_any (l : List V3) (a h w : Int) (u : Value) (W : World) (hT : Tab W) (hl : ∀ v ∈ l, okV v) (hr : Rd W u l) (hm : l.length ≤ 1048576) (a0 : 0 ≤ a) (a1 : a ≤ 1073741824) (h0 : 0 ≤ h) (h3 : h ≤ 3) (hw : isW w) :
    Calls Tryd.prog 32 #[vecA a (upT a w) w, .int .i64 h, u] W fun e w' => e = .returned (.bool (fitL l a h w)) ∧ Below W.heap.size W w' := by
  obtain ⟨A, n, c, rfl, hrs⟩ := hr
  obtain rfl := hrs.1
  have hcm := Nat.le_trans hrs.2.1 hrs.2.2.1
  unfold maxLen at hcm
  obtain ⟨s, hs⟩ : ∃ s, upT a w = s := ⟨_, rfl⟩
  have HFI := Lib.hid (fun v i X hX (hv : okV v) (i0 : 0 ≤ i) (i1 : i ≤ 1073741824) => vfits_any v a i w X hX hv a0 a1 i0 i1 hw)
  rw [hs] at HFI
  rw [hs]
  obtain ⟨W2, hW2⟩ : ∃ W2, W2 = W.alloc (.cells #[.int .i64 a, .int .i64 s, .int .i64 w] 48) := ⟨_, rfl⟩
  have hb2 : Below W.heap.size W W2 := by rw [hW2]; exact al0 _ _
  have hsz : W2.heap.size = W.heap.size + 1 := by rw [hW2]; simp
  obtain ⟨c0, c1, c2⟩ := box3v W a s w
  rw [← hW2] at c0 c1 c2
  have hall : ∀ X, Hid (Below W2.heap.size W2 X) → (X.cell? ⟨W.heap.size, 0, none⟩ = some (.int .i64 a) ∧ X.cell? ⟨W.heap.size, 1, none⟩ = some (.int .i64 s) ∧ X.cell? ⟨W.heap.size, 2, none⟩ = some (.int .i64 w) ∧ Hid (Below W2.heap.size W2 X)) := fun X H =>
    ⟨(H.out.cell (p := ⟨_, 0, none⟩) (by simp only; omega)).trans c0, (H.out.cell (p := ⟨_, 1, none⟩) (by simp only; omega)).trans c1, (H.out.cell (p := ⟨_, 2, none⟩) (by simp only; omega)).trans c2, H⟩
  have HB := Lib.hid hb2
  have HT := Lib.hid (hT.keep hb2)
  have HRS := Lib.hid hrs
  have HLV := Lib.hid hl
  obtain ⟨n, hn⟩ : ∃ n, n = l.length := ⟨_, rfl⟩
  rw [← hn] at hcm hm HRS ⊢
  have HN := Lib.hid hn
  clear hs hw hb2 hsz hT hl hrs hn c0 c1 c2
  go_enter Tryd.func32, Tryd.ntmps32
  go_upto_region 1 with fail
  simp only [← hW2]
  clear hW2
  go_wp2_with fail
  go_loopw [11] (fun x wr => ∃ j : Nat, j ≤ n ∧ x = .int .i64 (j : Int) ∧ Hid (fitL l a h w = fitL (l.drop j) a (h + (j : Int)) w) ∧ Hid (Below W2.heap.size W2 wr)) (fun x _ => n - (intOf x).toNat)
  case atStart => exact ⟨0, Nat.zero_le _, rfl, Lib.hid (by simp), Lib.hid (Below.refl _ _)⟩
  case round =>
    obtain ⟨j, hj, rfl, HQ, HR⟩ := hrel
    by_cases hlt : j < n
    · obtain ⟨v, hv⟩ : ∃ v, l[j]? = some v := ⟨_, List.getElem?_eq_getElem (by have := HN.out; omega)⟩
      have hov := HLV.out v (List.mem_of_getElem? hv)
      have HD := Lib.hid (fitL_drop hv a (h + (j : Int)) w)
      obtain ⟨b, off, rfl, hbl, hcell⟩ := HRS.out.2.2.2 (by omega)
      have hbW : Below W.heap.size W wr := HB.out.trans (HR.out.mono HB.out.size)
      obtain ⟨y0, y1, y2⟩ := (hcell j v hv).below hbW hbl
      obtain ⟨β, hβ⟩ : ∃ β, fitV v a (h + (j : Int)) w = β := ⟨_, rfl⟩
      have i1 : (j : Int) < (n : Int) := by omega
      have z1 : IntKind.i64.wrap (h + (j : Int)) = (h + (j : Int)) := IntWalk.i64_in _ ⟨by omega, by omega⟩
      obtain ⟨vt, vw', vn⟩ := v
      simp only at y0 y1 y2
      have HFV := Lib.hid (fun X hX => HFI.out ⟨vt, vw', vn⟩ (h + (j : Int)) X hX hov (by omega) (by omega))
      rw [hβ] at HFV HD
      have hal : Hid (Below W2.heap.size W2 (wr.alloc (.cells #[.int .i64 vt, .int .i64 vw', .int .u64 vn] 24))) := Lib.hid (HR.out.trans ((al0 _ _).mono HR.out.size))
      obtain ⟨x0, x1, x2, -⟩ := hall _ hal
      have HTR := Lib.hid (HT.out.keep hal.out)
      clear hv hov hcell hβ hbW
      cases β with
      | true =>
        go_wp2_with (first
          | (go_at_call 27; (with_reducible refine (HFV.out _ HTR.out).mono ?_); rintro e w2 ⟨rfl, hb⟩; have HS2 := Lib.hid hb; clear hb))
        have HQ2 : Hid (fitL l a h w = fitL (l.drop (j + 1)) a (h + ((j + 1 : Nat) : Int)) w) := Lib.hid (by
          rw [HQ.out, HD.out, Bool.true_and]; congr 1; omega)
        have HR2 : Hid (Below W2.heap.size W2 w2) := Lib.hid (hal.out.trans (HS2.out.mono hal.out.size))
        go_roundw
        case rel => exact ⟨j + 1, by omega, by go_num, HQ2, HR2⟩
        case measure => simp [intOf]; omega
      | false =>
        have HQ2 : Hid (fitL l a h w = false) := Lib.hid (by rw [HQ.out, HD.out, Bool.false_and])
        go_wp2_with (first
          | (go_at_call 27; (with_reducible refine (HFV.out _ HTR.out).mono ?_); rintro e w2 ⟨rfl, hb⟩; have HS2 := Lib.hid hb; clear hb))
        go_ret
        exact ⟨by rw [HQ2.out]; rfl, HB.out.trans ((hal.out.trans (HS2.out.mono hal.out.size)).mono HB.out.size)⟩
    · have HQ2 : Hid (fitL l a h w = true) := Lib.hid (by rw [HQ.out, List.drop_eq_nil_of_le (by have := HN.out; omega)]; rfl)
      go_wp2_with fail
      go_ret
      exact ⟨by rw [HQ2.out]; rfl, HB.out.trans (HR.out.mono HB.out.size)⟩
theorem lt_cell {W : World} {p i : Nat} {v : Value} (h : W.cell? ⟨p, i, none⟩ = some v) : p < W.heap.size := by
  by_cases hl : p < W.heap.size
  · exact hl
  · simp [World.cell?, Array.getElem?_eq_none (show W.heap.size ≤ p by omega)] at h
/-- The test of One, at its three boxes. -/
theorem oneT_any (v : V3) (a i w : Int) (pa pv pi : Nat) (W : World) (hT : Tab W) (hv : okV v) (a0 : 0 ≤ a) (a1 : a ≤ 1073741824) (i0 : 0 ≤ i) (i1 : i ≤ 1073741824) (hw : isW w)
    (ca : W.cell? ⟨pa, 0, none⟩ = some (.int .i64 a)) (ci : W.cell? ⟨pi, 0, none⟩ = some (.int .i64 i)) (cv0 : W.cell? ⟨pv, 0, none⟩ = some (.int .i64 v.t)) (cv1 : W.cell? ⟨pv, 1, none⟩ = some (.int .i64 v.w)) (cv2 : W.cell? ⟨pv, 2, none⟩ = some (.int .u64 v.n)) :
    Calls Tryd.prog 25 #[.int .i64 w, .pointer (some ⟨pa, 0, none⟩), .pointer (some ⟨pv, 0, none⟩), .pointer (some ⟨pi, 0, none⟩)] W fun e w' => e = .returned (.bool (fitV v a i w)) ∧ Below W.heap.size W w' := by
  have HV := Lib.hid (fun X => vectorAt_any a w X a0 a1 hw)
  have HFI := Lib.hid (fun X hX => vfits_any v a i w X hX hv a0 a1 i0 i1 hw)
  obtain ⟨s, hs⟩ : ∃ s, upT a w = s := ⟨_, rfl⟩
  rw [hs] at HV HFI
  obtain ⟨β, hβ⟩ : ∃ β, fitV v a i w = β := ⟨_, rfl⟩
  rw [hβ] at HFI ⊢
  obtain ⟨t, vw, n⟩ := v
  simp only at cv0 cv1 cv2
  have HT := Lib.hid hT
  have la := lt_cell ca
  have li := lt_cell ci
  have lv := lt_cell cv0
  have hall : ∀ X, Hid (Below W.heap.size W X) → (X.cell? ⟨pa, 0, none⟩ = some (.int .i64 a) ∧ X.cell? ⟨pi, 0, none⟩ = some (.int .i64 i) ∧ X.cell? ⟨pv, 0, none⟩ = some (.int .i64 t) ∧ X.cell? ⟨pv, 1, none⟩ = some (.int .i64 vw) ∧ X.cell? ⟨pv, 2, none⟩ = some (.int .u64 n) ∧ Hid (Below W.heap.size W X)) := fun X H =>
    ⟨(H.out.cell (p := ⟨_, 0, none⟩) la).trans ca, (H.out.cell (p := ⟨_, 0, none⟩) li).trans ci, (H.out.cell (p := ⟨_, 0, none⟩) lv).trans cv0, (H.out.cell (p := ⟨_, 1, none⟩) lv).trans cv1, (H.out.cell (p := ⟨_, 2, none⟩) lv).trans cv2, H⟩
  clear hs hβ hT hv hw la li lv a0 a1 i0 i1
  go_enter Tryd.func25, Tryd.ntmps25
  go_upto_region 1 with fail
  have HSd : Hid (Below W.heap.size W W.drew) := Lib.hid (Below.refl _ _).drew
  go_region_held3 (fun X => X.cell? ⟨pa, 0, none⟩ = some (.int .i64 a) ∧ X.cell? ⟨pi, 0, none⟩ = some (.int .i64 i) ∧ X.cell? ⟨pv, 0, none⟩ = some (.int .i64 t) ∧ X.cell? ⟨pv, 1, none⟩ = some (.int .i64 vw) ∧ X.cell? ⟨pv, 2, none⟩ = some (.int .u64 n) ∧ Hid (Below W.heap.size W X))
    (first | (with_reducible exact hall _ HSd) | (with_reducible exact hall _ (by assumption)))
    (first
      | (go_at_call 26; (with_reducible refine (HV.out _).mono ?_); rintro e w2 ⟨rfl, hb⟩; have HS2 : Hid (Below W.heap.size W w2) := Lib.hid (HSd.out.trans (hb.mono HSd.out.size)); clear hb)
      | (go_at_call 27; (with_reducible refine (HFI.out _ (HT.out.keep HS2.out)).mono ?_); rintro e w3 ⟨rfl, hb⟩; have HS3 : Hid (Below W.heap.size W w3) := Lib.hid (HS2.out.trans (hb.mono HS2.out.size)); clear hb))
  all_goals (go_wp2_with fail; go_ret; exact ⟨rfl, HS3.out⟩)
end Go.Proofs.YtaeboneddndfkaaDoor
