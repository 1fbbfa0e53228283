/-
  What is proved here: PoolBack returns true and leaves all memory that was there as it was; condition: the arguments are ones that the form reads.
-/
import Derived.Test.YtoenigbfcbillaaTwoW
import Derived.Deep.CutBlock
namespace Go.Proofs.Ytoenigbfcbillaa
open Go.RowKit

set_option maxRecDepth 20000 in
set_option maxHeartbeats 1000000 in
theorem poolBack_walk (l : List ByteArray) (v : Value) (other : ByteArray) (w : World) (h1 : RdS w v l) (ho : other.size ≤ maxLen) :
    Calls Try.prog 4 #[v, .string other] w fun e w' => e = .returned (.bool true) ∧ Below w.heap.size w w' := by
  obtain ⟨K, hK⟩ : ∃ K, K = cutN 60 40 l := ⟨_, rfl⟩
  have HW1 := Lib.hid (works_F (Fm.start (Below.refl w.heap.size w)))
  have HF1 : Hid (∀ W, Hid (Fm w [] [] W) → Calls Try.prog 21 #[v] W fun e w' => ∃ p, e = .returned (.tuple #[.pointer (some ⟨p, 0, none⟩), .int .i64 (ag K K.length : Nat)]) ∧ Fm w [(p, true, fl K K.length)] [] w') := Lib.hid fun W H => filled_F H.out (h1.below H.out.2) K hK
  have HSO : Hid (∀ W p y, Hid (Fm w [(p, true, y)] [] W) → Calls Try.prog 11 #[.string other, .int .i64 40] W fun e w' => e = .returned (.string (shN 40 other)) ∧ Fm w [(p, true, y)] [] w') := Lib.hid fun W p y H => (shortN_any 40 other W ho (by omega)).mono fun _ _ ⟨a1, a2⟩ => ⟨a1, H.out.below a2⟩
  obtain ⟨A, n, c, rfl, hn, hnc, hc, hsz, hA⟩ := h1.at
  have hmx : n ≤ 9223372036854775807 := Nat.le_trans hnc hc
  have HKL : Hid (K.length = min n 60) := Lib.hid (by rw [hK, cutN_length, hn])
  have HKY : Hid (∀ j x, l[j]? = some x → j < 60 → ky K j = shN 40 x) := Lib.hid fun j x hx hj => by rw [hK]; exact cutN_ky hx hj
  have HSI : Hid (∀ (x : ByteArray) W p y, x.size ≤ maxLen → Hid (Fm w [(p, true, y)] [] W) → Calls Try.prog 11 #[.string x, .int .i64 40] W fun e w' => e = .returned (.string (shN 40 x)) ∧ Fm w [(p, true, y)] [] w') := Lib.hid fun x W p y hx H => (shortN_any 40 x W hx (by omega)).mono fun _ _ ⟨a1, a2⟩ => ⟨a1, H.out.below a2⟩
  have HN := Lib.hid hn
  have HA := Lib.hid hA
  have HSZ := Lib.hid hsz
  obtain ⟨o4, ho4⟩ : ∃ o4, shN 40 other = o4 := ⟨_, rfl⟩
  rw [ho4] at HSO
  obtain ⟨y, hy⟩ : ∃ y, fl K K.length = y := ⟨_, rfl⟩
  obtain ⟨ya, hya⟩ : ∃ ya, ag K K.length = ya := ⟨_, rfl⟩
  rw [hy, hya] at HF1
  have HY := Lib.hid hy
  have HYA := Lib.hid hya
  have hya60 : ya ≤ 60 := by have := fl_len K (by have := HKL.out; omega) K.length (Nat.le_refl _); have := HKL.out; omega
  clear h1 hK hn hA hsz hnc hc ho ho4 hy hya
  go_enter Try.func4, Try.ntmps4
  go_wp2_with (first
    | (go_at_call 20; (with_reducible refine HW1.out.mono ?_); rintro e w1 ⟨rfl, hs⟩; have HS := Lib.hid hs; clear hs HW1)
    | (go_at_call 21; (with_reducible refine (HF1.out _ HS).mono ?_); rintro e w2 ⟨p, rfl, hs⟩; have HS2 := Lib.hid hs; clear hs HS)
    | (go_at_call 11; (with_reducible refine (HSO.out _ _ _ HS2).mono ?_); rintro e w3 ⟨rfl, hs⟩; have HS3 := Lib.hid hs; clear hs HS2))
  clear HF1 HSO
  go_loopw [7, 8, 9] (fun a b i wr => ∃ j : Nat, j ≤ n ∧ j ≤ 60 ∧ a = .int .i64 (j : Int) ∧ b = .bool (has (fl K j) o4) ∧ i = .int .i64 (j : Int) ∧ Hid (Fm w [(p, true, y)] [] wr)) (fun _ _ i _ => 60 - (intOf i).toNat)
  case atStart => exact ⟨0, Nat.zero_le _, Nat.zero_le _, rfl, rfl, rfl, HS3⟩
  case round =>
    obtain ⟨j, hj, hj6, rfl, rfl, rfl, H⟩ := hrel
    by_cases hjn : j < n
    · by_cases hj60 : j < 60
      · obtain ⟨x, hx⟩ : ∃ x, l[j]? = some x := ⟨_, List.getElem?_eq_getElem (by have := HN.out; omega)⟩
        obtain ⟨b1, off1, rfl, _, hc1⟩ := HA.out (by omega)
        have HC1 := Lib.hid hc1
        have hcell := hc1 wr H.out.2 j x hx
        have HSH := Lib.hid (HSI.out x wr p y (HSZ.out x (List.mem_of_getElem? hx)) H)
        have hky := HKY.out j x hx hj60
        obtain ⟨s, hs⟩ : ∃ s, shN 40 x = s := ⟨_, rfl⟩
        rw [hs] at HSH hky
        have HKJ := Lib.hid hky
        have i1 : (j : Int) < (n : Int) := by omega
        obtain ⟨β, hβ⟩ : ∃ β, has (fl K j) o4 = β := ⟨_, rfl⟩
        have HBE := Lib.hid hβ
        simp only [hβ]
        clear hc1 hx hs hky hβ
        go_upto_region 10 with (go_at_call 11; (with_reducible refine HSH.out.mono ?_); rintro e w4 ⟨rfl, hs⟩; have HS4 := Lib.hid hs; clear hs HSH)
        clear H hcell
        go_upto_block 2 with fail
        go_cut [11] (fun f wx => ∃ i : Nat, i ≤ j ∧ f = .int .i64 (i : Int) ∧ Hid (ky K i = s ∧ ∀ m, m < i → ky K m ≠ s) ∧ Hid (Fm w [(p, true, y)] [] wx))
        case first =>
          have HJ0 : Hid (ky K j = s ∧ ∀ t, j ≤ t → t < j → ky K t ≠ s) := Lib.hid ⟨HKJ.out, fun t a b => absurd b (by omega)⟩
          go_wp2_with fail
          go_loopw [11, 12] (fun f i wx => ∃ m q : Nat, m ≤ j ∧ q ≤ j ∧ ((m = 0 ∧ i = .int .i64 (-1)) ∨ ∃ m', m = m' + 1 ∧ i = .int .i64 (m' : Int)) ∧ f = .int .i64 (q : Int) ∧ Hid (ky K q = s ∧ ∀ t, m ≤ t → t < q → ky K t ≠ s) ∧ Hid (Fm w [(p, true, y)] [] wx)) (fun _ i _ => (intOf i + 1).toNat)
          case atStart => exact ⟨j, j, Nat.le_refl _, Nat.le_refl _, by
            cases j with
            | zero => exact .inl ⟨rfl, by simp⟩
            | succ j => exact .inr ⟨j, rfl, by congr 1 <;> omega⟩, rfl, HJ0, HS4⟩
          case round =>
            obtain ⟨m, q, hm, hq, hz, rfl, HQ, H5⟩ := hrel
            rcases hz with ⟨rfl, rfl⟩ | ⟨m', rfl, rfl⟩
            · go_wp2_with fail
              go_meet
              exact ⟨q, hq, rfl, Lib.hid ⟨HQ.out.1, fun t ht => HQ.out.2 t (Nat.zero_le _) ht⟩, H5⟩
            · obtain ⟨x', hx'⟩ : ∃ x', l[m']? = some x' := ⟨_, List.getElem?_eq_getElem (by have := HN.out; omega)⟩
              have hcell' := HC1.out wr H5.out.2 m' x' hx'
              have HSH' := Lib.hid (HSI.out x' wr p y (HSZ.out x' (List.mem_of_getElem? hx')) H5)
              have hky' := HKY.out m' x' hx' (by omega)
              obtain ⟨s', hs'⟩ : ∃ s', shN 40 x' = s' := ⟨_, rfl⟩
              rw [hs'] at HSH' hky'
              have i2 : (m' : Int) < (n : Int) := by omega
              have i3 : (0 : Int) ≤ (m' : Int) := by omega
              clear hx' hs'
              by_cases hss : s' = s
              · have hT := strEq_true hss
                have HQ2 : Hid (ky K m' = s ∧ ∀ t, m' ≤ t → t < m' → ky K t ≠ s) := Lib.hid ⟨by rw [hky', hss], fun t a b => absurd b (by omega)⟩
                clear hss hky'
                go_wp2_with (go_at_call 11; (with_reducible refine HSH'.out.mono ?_); rintro e w6 ⟨rfl, hs⟩; have HS6 := Lib.hid hs; clear hs HSH')
                go_roundw
                case rel => exact ⟨m', m', by omega, by omega, by
                  cases m' with
                  | zero => exact .inl ⟨rfl, rfl⟩
                  | succ m' => exact .inr ⟨m', rfl, by congr 1 <;> omega⟩, rfl, HQ2, HS6⟩
                case measure => simp [intOf]
              · have hF := strEq_false hss
                have HQ2 : Hid (ky K q = s ∧ ∀ t, m' ≤ t → t < q → ky K t ≠ s) := Lib.hid ⟨HQ.out.1, fun t a b => by
                  by_cases hte : t = m'
                  · subst hte; rw [hky']; exact hss
                  · exact HQ.out.2 t (by omega) b⟩
                clear hss hky'
                go_wp2_with (go_at_call 11; (with_reducible refine HSH'.out.mono ?_); rintro e w6 ⟨rfl, hs⟩; have HS6 := Lib.hid hs; clear hs HSH')
                go_roundw
                case rel => exact ⟨m', q, by omega, hq, by
                  cases m' with
                  | zero => exact .inl ⟨rfl, rfl⟩
                  | succ m' => exact .inr ⟨m', rfl, by congr 1 <;> omega⟩, rfl, HQ2, HS6⟩
                case measure => simp [intOf]
        case rest =>
          obtain ⟨i, hij, rfl, HI, H5⟩ := hcut
          have HGS : Hid (∀ W, Hid (Fm w [(p, true, y)] [] W) → Calls Try.prog 22 #[.pointer (some ⟨p, 0, none⟩), .string s, .int .i64 (i : Int), .bool true] W fun e w' => e = .returned (.bool true) ∧ Fm w [(p, true, y)] [] w') := Lib.hid fun W H => by
            have hkl := HKL.out
            obtain ⟨e1, e2⟩ := HI.out
            refine getsE_F H.out s i true ?_ ?_
            · rw [← HY.out, ← e1]
              exact fl_gt (by omega) (fun m hm => by rw [e1]; exact e2 m hm) (by omega) (Nat.le_refl _)
            · rw [← HY.out, fl_has (by omega) _ (Nat.le_refl _), List.take_length, ← e1]
              exact List.mem_of_getElem? (ky_at (by omega))
          by_cases hso : s = o4
          · have hT := strEq_true hso
            have HB2 : Hid (has (fl K (j + 1)) o4 = true) := Lib.hid (by rw [fl, put_has (inN_nat (by omega)), HKJ.out]; exact .inl hso.symm)
            clear hso
            cases β
            all_goals
              go_wp2_with (go_at_call 22; (with_reducible refine (HGS.out _ H5).mono ?_); rintro e w6 ⟨rfl, hs⟩; have HS6 := Lib.hid hs; clear hs)
              go_roundw
              case rel => exact ⟨j + 1, by omega, by omega, by go_num, by rw [HB2.out], by go_num, HS6⟩
              case measure => simp [intOf]; omega
          · have hF := strEq_false hso
            have HB2 : Hid (has (fl K (j + 1)) o4 = β) := Lib.hid (by
              have h1 := put_has (xs := fl K j) (k := ky K j) (s := o4) (inN_nat (j := j) (by omega))
              rw [HBE.out, HKJ.out] at h1
              have h2 : fl K (j + 1) = put true (fl K j) (ky K j) (j : Nat) := rfl
              rw [h2, HKJ.out]
              cases β with
              | true => exact h1.2 (.inr rfl)
              | false =>
                cases hc : has (put true (fl K j) s (j : Nat)) o4 with
                | false => rfl
                | true =>
                  rcases h1.1 hc with e | e
                  · exact absurd e.symm hso
                  · cases e)
            clear hso
            cases β
            all_goals
              go_wp2_with (go_at_call 22; (with_reducible refine (HGS.out _ H5).mono ?_); rintro e w6 ⟨rfl, hs⟩; have HS6 := Lib.hid hs; clear hs)
              go_roundw
              case rel => exact ⟨j + 1, by omega, by omega, by go_num, by rw [HB2.out], by go_num, HS6⟩
              case measure => simp [intOf]; omega
      · have hjK : j = K.length := by have := HKL.out; omega
        have HBY : Hid (has (fl K j) o4 = has y o4) := Lib.hid (by rw [hjK, HY.out])
        have HLY : Hid ((j : Int) - (ya : Int) = (y.length : Int)) := Lib.hid (by
          have := fl_len K (by omega) j (by omega)
          rw [hjK, HY.out, HYA.out] at this
          omega)
        have hgo := get_F H.out o4
        obtain ⟨go, hgo2⟩ : ∃ go, gtN y o4 = go := ⟨_, rfl⟩
        obtain ⟨β, hβ⟩ : ∃ β, has y o4 = β := ⟨_, rfl⟩
        rw [hgo2, hβ] at hgo
        rw [hβ] at HBY
        have HGO := Lib.hid hgo
        simp only [HBY.out]
        obtain ⟨ly, hly⟩ : ∃ ly, y.length = ly := ⟨_, rfl⟩
        have HLE : Hid (∀ W, Hid (Fm w [(p, true, y)] [] W) → Calls Try.prog 17 #[.pointer (some ⟨p, 0, none⟩)] W fun e w' => e = .returned (.int .i64 (ly : Int)) ∧ W = w') := Lib.hid fun W H => by rw [← hly]; exact len_F H.out
        rw [hly] at HLY
        have e1 := HLY.out
        clear hgo hgo2 hβ hly HBY hjK
        cases β
        all_goals
          go_wp2_with (first
            | (go_at_call 12; (with_reducible refine HGO.out.mono ?_); rintro e w6 ⟨rfl, hs⟩; have HS6 := Lib.hid hs; clear hs)
            | (go_at_call 17; (with_reducible refine (HLE.out _ HS6).mono ?_); rintro e w7 ⟨rfl, rfl⟩))
          go_ret
          exact ⟨rfl, HS6.out.2⟩
    · have hjK : j = K.length := by have := HKL.out; omega
      have HBY : Hid (has (fl K j) o4 = has y o4) := Lib.hid (by rw [hjK, HY.out])
      have HLY : Hid ((j : Int) - (ya : Int) = (y.length : Int)) := Lib.hid (by
        have := fl_len K (by omega) j (by omega)
        rw [hjK, HY.out, HYA.out] at this
        omega)
      have hgo := get_F H.out o4
      obtain ⟨go, hgo2⟩ : ∃ go, gtN y o4 = go := ⟨_, rfl⟩
      obtain ⟨β, hβ⟩ : ∃ β, has y o4 = β := ⟨_, rfl⟩
      rw [hgo2, hβ] at hgo
      rw [hβ] at HBY
      have HGO := Lib.hid hgo
      simp only [HBY.out]
      obtain ⟨ly, hly⟩ : ∃ ly, y.length = ly := ⟨_, rfl⟩
      have HLE : Hid (∀ W, Hid (Fm w [(p, true, y)] [] W) → Calls Try.prog 17 #[.pointer (some ⟨p, 0, none⟩)] W fun e w' => e = .returned (.int .i64 (ly : Int)) ∧ W = w') := Lib.hid fun W H => by rw [← hly]; exact len_F H.out
      rw [hly] at HLY
      have e1 := HLY.out
      clear hgo hgo2 hβ hly HBY hjK
      cases β
      all_goals
        go_wp2_with (first
          | (go_at_call 12; (with_reducible refine HGO.out.mono ?_); rintro e w6 ⟨rfl, hs⟩; have HS6 := Lib.hid hs; clear hs)
          | (go_at_call 17; (with_reducible refine (HLE.out _ HS6).mono ?_); rintro e w7 ⟨rfl, rfl⟩))
        go_ret
        exact ⟨rfl, HS6.out.2⟩
end Go.Proofs.Ytoenigbfcbillaa
