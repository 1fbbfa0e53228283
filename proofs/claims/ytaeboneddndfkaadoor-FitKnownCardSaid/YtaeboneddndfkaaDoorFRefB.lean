/-
  What is proved here: the contract of All of the reference of layer 16; condition: numbers in the ranges of their types, a list that the form reads.
-/
import Derived.Test.YtaeboneddndfkaaDoorFRefA
namespace Go.Proofs.YtaeboneddndfkaaDoor
open Go.RowKit Tg

theorem fitL_drop {l : List V3} {j : Nat} {v : V3} (h : l[j]? = some v) (at' i w : Int) : fitL (l.drop j) at' i w = (fitV v at' i w && fitL (l.drop (j + 1)) at' (i + 1) w) := by
  obtain ⟨hj, rfl⟩ := List.getElem?_eq_some_iff.1 h
  rw [List.drop_eq_getElem_cons hj, fitL]
set_option maxHeartbeats 1000000 in
theorem all_any (at' ahead : Int) (keys : V3) (l : List V3) (u : Value) (w : Int) (W : World) (a0 : 0 ≤ at') (a1 : at' ≤ 1073741824) (hh : ahead = 0 ∨ ahead = 1 ∨ ahead = 3) (hk : okV keys) (hl : ∀ v ∈ l, okV v) (hn : l.length ≤ 1048576) (hr : Rd W u l) (hw : isW w) :
    Calls Tryd.prog 33 #[.int .i64 at', .int .i64 ahead, keys.agg, u, .int .i64 w] W fun e w' => e = .returned (.bool (allF at' ahead keys l w)) ∧ Below W.heap.size W w' := by
  obtain ⟨A, n, c, rfl, hrs⟩ := hr
  obtain rfl := hrs.1
  have HRS := Lib.hid hrs
  have HLV := Lib.hid hl
  have HK := Lib.hid hk
  have HWW := Lib.hid hw
  obtain ⟨t, vw, nn⟩ := keys
  obtain ⟨c0, c1, c2⟩ := box3 W ⟨t, vw, nn⟩
  simp only at c0 c1 c2
  obtain ⟨W1, hW1⟩ : ∃ W1, W1 = W.alloc (.cells #[.int .i64 t, .int .i64 vw, .int .u64 nn] 24) := ⟨_, rfl⟩
  have HB : Hid (Below W.heap.size W W1) := Lib.hid (by rw [hW1]; exact al0 _ _)
  rw [← hW1] at c0 c1 c2
  have HFT := Lib.hid (fun (v : V3) (hv : okV v) (i : Int) (i0 : 0 ≤ i) (i1 : i ≤ 1073741824) (V : World) => fits_any v at' i w V hv a0 a1 i0 i1 hw)
  obtain ⟨n, hnl⟩ : ∃ n, n = l.length := ⟨_, rfl⟩
  have HN := Lib.hid hnl
  have HBE : Hid (∀ V, Calls Tryd.prog 40 #[.int .u64 (n : Int), .int .i64 w] V fun e w' => e = .returned (.bool (lenF (n : Int) w)) ∧ V = w') := Lib.hid fun V => below_any (n : Int) w V (by omega) (by omega) hw
  rw [← hnl] at hn HRS ⊢
  clear hk hl hrs hw
  have hlen : (allF at' ahead ⟨t, vw, nn⟩ l w) = (((decide (ahead ≤ 0) || lenF (n : Int) w) && (!decide (ahead = 3) || fitV ⟨t, vw, nn⟩ at' 0 w)) && fitL l at' ahead w) := by rw [hnl]; rfl
  rw [hlen]
  clear hlen hnl
  obtain ⟨β, hβ⟩ : ∃ β, lenF (n : Int) w = β := ⟨_, rfl⟩
  obtain ⟨κ, hκ⟩ : ∃ κ, fitV ⟨t, vw, nn⟩ at' 0 w = κ := ⟨_, rfl⟩
  have HFK : Hid (∀ V, Calls Tryd.prog 28 #[.agg #[.int .i64 t, .int .i64 vw, .int .u64 nn], .int .i64 at', .int .i64 0, .int .i64 w] V fun e w' => e = .returned (.bool κ) ∧ Below V.heap.size V w') := Lib.hid fun V => by rw [← hκ]; exact HFT.out ⟨t, vw, nn⟩ HK.out 0 (by omega) (by omega) V
  rw [hβ] at HBE ⊢
  rw [hκ]
  clear hβ hκ a0 a1
  rcases hh with rfl | rfl | rfl
  · go_enter Tryd.func33, Tryd.ntmps33
    go_upto_region 1 with fail
    simp only [← hW1]
    clear hW1
    go_wp2_with fail
    go_loopw [11] (fun x wr => ∃ j : Nat, j ≤ n ∧ x = .int .i64 (j : Int) ∧ Hid (fitL l at' 0 w = fitL (l.drop j) at' (j : Int) w) ∧ Hid (Below W1.heap.size W1 wr)) (fun x _ => n - (intOf x).toNat)
    case atStart => exact ⟨0, Nat.zero_le _, rfl, Lib.hid (by simp), Lib.hid (Below.refl _ _)⟩
    case round =>
      obtain ⟨j, hj, rfl, HQ, HR⟩ := hrel
      by_cases hlt : j < n
      · obtain ⟨v, hv⟩ : ∃ v, l[j]? = some v := ⟨_, List.getElem?_eq_getElem (by have := HN.out; omega)⟩
        have hov := HLV.out v (List.mem_of_getElem? hv)
        have HD := Lib.hid (fitL_drop hv at' (j : Int) w)
        obtain ⟨b, off, rfl, hbl, hcell⟩ := HRS.out.2.2.2 (by omega)
        have hbW : Below W.heap.size W wr := HB.out.trans (HR.out.mono HB.out.size)
        obtain ⟨y0, y1, y2⟩ := (hcell j v hv).below hbW hbl
        obtain ⟨β, hβ⟩ : ∃ β, fitV v at' (j : Int) w = β := ⟨_, rfl⟩
        have HFV := Lib.hid (HFT.out v hov (j : Int) (by omega) (by omega) wr)
        rw [hβ] at HFV HD
        have i1 : (j : Int) < (n : Int) := by omega
        obtain ⟨vt, vw', vn⟩ := v
        simp only at y0 y1 y2
        have z1 : IntKind.i64.wrap (j : Int) = (j : Int) := IntWalk.i64_in _ ⟨by omega, by omega⟩
        clear hv hov hcell hβ hbW
        cases β with
        | true =>
          have HQ2 : Hid (fitL l at' 0 w = fitL (l.drop (j + 1)) at' ((j + 1 : Nat) : Int) w) := Lib.hid (by
            rw [HQ.out, HD.out, Bool.true_and]; first | (congr 1; done) | (congr 1; omega))
          go_wp2_with (go_at_call 28; (with_reducible refine HFV.out.mono ?_); rintro e w2 ⟨rfl, hb⟩; have HB2 := Lib.hid hb; clear hb)
          go_roundw
          case rel => exact ⟨j + 1, by omega, by go_num, HQ2, Lib.hid (HR.out.trans (HB2.out.mono HR.out.size))⟩
          case measure => simp [intOf]; omega
        | false =>
          have HQ2 : Hid (fitL l at' 0 w = false) := Lib.hid (by rw [HQ.out, HD.out, Bool.false_and])
          go_wp2_with (go_at_call 28; (with_reducible refine HFV.out.mono ?_); rintro e w2 ⟨rfl, hb⟩; have HB2 := Lib.hid hb; clear hb)
          go_ret
          exact ⟨by rw [HQ2.out]; simp, (HB.out.trans (HR.out.mono HB.out.size)).trans (HB2.out.mono (Nat.le_trans HB.out.size HR.out.size))⟩
      · have HQ2 : Hid (fitL l at' 0 w = true) := Lib.hid (by
          rw [HQ.out, List.drop_eq_nil_of_le (by have := HN.out; omega)]; rfl)
        go_wp2_with fail
        go_ret
        exact ⟨by rw [HQ2.out]; simp, HB.out.trans (HR.out.mono HB.out.size)⟩
  · cases β with
    | false =>
      go_enter Tryd.func33, Tryd.ntmps33
      go_upto_region 1 with fail
      simp only [← hW1]
      clear hW1
      go_wp2_with (go_at_call 40; (with_reducible refine (HBE.out _).mono ?_); rintro e w1 ⟨rfl, rfl⟩)
      go_ret
      exact ⟨by simp, HB.out⟩
    | true =>
      go_enter Tryd.func33, Tryd.ntmps33
      go_upto_region 1 with fail
      simp only [← hW1]
      clear hW1
      go_wp2_with (go_at_call 40; (with_reducible refine (HBE.out _).mono ?_); rintro e w1 ⟨rfl, rfl⟩)
      go_loopw [11] (fun x wr => ∃ j : Nat, j ≤ n ∧ x = .int .i64 (j : Int) ∧ Hid (fitL l at' 1 w = fitL (l.drop j) at' (1 + (j : Int)) w) ∧ Hid (Below W1.heap.size W1 wr)) (fun x _ => n - (intOf x).toNat)
      case atStart => exact ⟨0, Nat.zero_le _, rfl, Lib.hid (by simp), Lib.hid (Below.refl _ _)⟩
      case round =>
        obtain ⟨j, hj, rfl, HQ, HR⟩ := hrel
        by_cases hlt : j < n
        · obtain ⟨v, hv⟩ : ∃ v, l[j]? = some v := ⟨_, List.getElem?_eq_getElem (by have := HN.out; omega)⟩
          have hov := HLV.out v (List.mem_of_getElem? hv)
          have HD := Lib.hid (fitL_drop hv at' (1 + (j : Int)) w)
          obtain ⟨b, off, rfl, hbl, hcell⟩ := HRS.out.2.2.2 (by omega)
          have hbW : Below W.heap.size W wr := HB.out.trans (HR.out.mono HB.out.size)
          obtain ⟨y0, y1, y2⟩ := (hcell j v hv).below hbW hbl
          obtain ⟨β, hβ⟩ : ∃ β, fitV v at' (1 + (j : Int)) w = β := ⟨_, rfl⟩
          have HFV := Lib.hid (HFT.out v hov (1 + (j : Int)) (by omega) (by omega) wr)
          rw [hβ] at HFV HD
          have i1 : (j : Int) < (n : Int) := by omega
          obtain ⟨vt, vw', vn⟩ := v
          simp only at y0 y1 y2
          have z1 : IntKind.i64.wrap (1 + (j : Int)) = (1 + (j : Int)) := IntWalk.i64_in _ ⟨by omega, by omega⟩
          clear hv hov hcell hβ hbW
          cases β with
          | true =>
            have HQ2 : Hid (fitL l at' 1 w = fitL (l.drop (j + 1)) at' (1 + ((j + 1 : Nat) : Int)) w) := Lib.hid (by
              rw [HQ.out, HD.out, Bool.true_and]; first | (congr 1; done) | (congr 1; omega))
            go_wp2_with (go_at_call 28; (with_reducible refine HFV.out.mono ?_); rintro e w2 ⟨rfl, hb⟩; have HB2 := Lib.hid hb; clear hb)
            go_roundw
            case rel => exact ⟨j + 1, by omega, by go_num, HQ2, Lib.hid (HR.out.trans (HB2.out.mono HR.out.size))⟩
            case measure => simp [intOf]; omega
          | false =>
            have HQ2 : Hid (fitL l at' 1 w = false) := Lib.hid (by rw [HQ.out, HD.out, Bool.false_and])
            go_wp2_with (go_at_call 28; (with_reducible refine HFV.out.mono ?_); rintro e w2 ⟨rfl, hb⟩; have HB2 := Lib.hid hb; clear hb)
            go_ret
            exact ⟨by rw [HQ2.out]; simp, (HB.out.trans (HR.out.mono HB.out.size)).trans (HB2.out.mono (Nat.le_trans HB.out.size HR.out.size))⟩
        · have HQ2 : Hid (fitL l at' 1 w = true) := Lib.hid (by
            rw [HQ.out, List.drop_eq_nil_of_le (by have := HN.out; omega)]; rfl)
          go_wp2_with fail
          go_ret
          exact ⟨by rw [HQ2.out]; simp, HB.out.trans (HR.out.mono HB.out.size)⟩
  · cases β with
    | false =>
      go_enter Tryd.func33, Tryd.ntmps33
      go_upto_region 1 with fail
      simp only [← hW1]
      clear hW1
      go_wp2_with (go_at_call 40; (with_reducible refine (HBE.out _).mono ?_); rintro e w1 ⟨rfl, rfl⟩)
      go_ret
      exact ⟨by simp, HB.out⟩
    | true =>
      cases κ with
      | false =>
        go_enter Tryd.func33, Tryd.ntmps33
        go_upto_region 1 with fail
        simp only [← hW1]
        clear hW1
        go_wp2_with (first | (go_at_call 40; (with_reducible refine (HBE.out _).mono ?_); rintro e w1 ⟨rfl, rfl⟩) | (go_at_call 28; (with_reducible refine (HFK.out _).mono ?_); rintro e w3 ⟨rfl, hb⟩; have HB3 := Lib.hid hb; clear hb))
        go_ret
        exact ⟨by simp, HB.out.trans (HB3.out.mono HB.out.size)⟩
      | true =>
        go_enter Tryd.func33, Tryd.ntmps33
        go_upto_region 1 with fail
        simp only [← hW1]
        clear hW1
        go_wp2_with (first | (go_at_call 40; (with_reducible refine (HBE.out _).mono ?_); rintro e w1 ⟨rfl, rfl⟩) | (go_at_call 28; (with_reducible refine (HFK.out _).mono ?_); rintro e w3 ⟨rfl, hb⟩; have HB3 := Lib.hid hb; clear hb))
        go_loopw [11] (fun x wr => ∃ j : Nat, j ≤ n ∧ x = .int .i64 (j : Int) ∧ Hid (fitL l at' 3 w = fitL (l.drop j) at' (3 + (j : Int)) w) ∧ Hid (Below W1.heap.size W1 wr)) (fun x _ => n - (intOf x).toNat)
        case atStart => exact ⟨0, Nat.zero_le _, rfl, Lib.hid (by simp), Lib.hid HB3.out⟩
        case round =>
          obtain ⟨j, hj, rfl, HQ, HR⟩ := hrel
          by_cases hlt : j < n
          · obtain ⟨v, hv⟩ : ∃ v, l[j]? = some v := ⟨_, List.getElem?_eq_getElem (by have := HN.out; omega)⟩
            have hov := HLV.out v (List.mem_of_getElem? hv)
            have HD := Lib.hid (fitL_drop hv at' (3 + (j : Int)) w)
            obtain ⟨b, off, rfl, hbl, hcell⟩ := HRS.out.2.2.2 (by omega)
            have hbW : Below W.heap.size W wr := HB.out.trans (HR.out.mono HB.out.size)
            obtain ⟨y0, y1, y2⟩ := (hcell j v hv).below hbW hbl
            obtain ⟨β, hβ⟩ : ∃ β, fitV v at' (3 + (j : Int)) w = β := ⟨_, rfl⟩
            have HFV := Lib.hid (HFT.out v hov (3 + (j : Int)) (by omega) (by omega) wr)
            rw [hβ] at HFV HD
            have i1 : (j : Int) < (n : Int) := by omega
            obtain ⟨vt, vw', vn⟩ := v
            simp only at y0 y1 y2
            have z1 : IntKind.i64.wrap (3 + (j : Int)) = (3 + (j : Int)) := IntWalk.i64_in _ ⟨by omega, by omega⟩
            clear hv hov hcell hβ hbW
            cases β with
            | true =>
              have HQ2 : Hid (fitL l at' 3 w = fitL (l.drop (j + 1)) at' (3 + ((j + 1 : Nat) : Int)) w) := Lib.hid (by
                rw [HQ.out, HD.out, Bool.true_and]; first | (congr 1; done) | (congr 1; omega))
              go_wp2_with (go_at_call 28; (with_reducible refine HFV.out.mono ?_); rintro e w2 ⟨rfl, hb⟩; have HB2 := Lib.hid hb; clear hb)
              go_roundw
              case rel => exact ⟨j + 1, by omega, by go_num, HQ2, Lib.hid (HR.out.trans (HB2.out.mono HR.out.size))⟩
              case measure => simp [intOf]; omega
            | false =>
              have HQ2 : Hid (fitL l at' 3 w = false) := Lib.hid (by rw [HQ.out, HD.out, Bool.false_and])
              go_wp2_with (go_at_call 28; (with_reducible refine HFV.out.mono ?_); rintro e w2 ⟨rfl, hb⟩; have HB2 := Lib.hid hb; clear hb)
              go_ret
              exact ⟨by rw [HQ2.out]; simp, (HB.out.trans (HR.out.mono HB.out.size)).trans (HB2.out.mono (Nat.le_trans HB.out.size HR.out.size))⟩
          · have HQ2 : Hid (fitL l at' 3 w = true) := Lib.hid (by
              rw [HQ.out, List.drop_eq_nil_of_le (by have := HN.out; omega)]; rfl)
            go_wp2_with fail
            go_ret
            exact ⟨by rw [HQ2.out]; simp, HB.out.trans (HR.out.mono HB.out.size)⟩
end Go.Proofs.YtaeboneddndfkaaDoor
