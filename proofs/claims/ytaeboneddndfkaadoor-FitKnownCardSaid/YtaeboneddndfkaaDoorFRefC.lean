/-
  What is proved here: the contract of All of the reference of layer 16; condition: numbers in the ranges of their types, a list that the form reads.
-/
import Derived.Test.YtaeboneddndfkaaDoorFRefB
namespace Go.Proofs.YtaeboneddndfkaaDoor
open Go.RowKit Tg

theorem okH_iff {x : Int} : okH x = true ↔ x = 0 ∨ x = 1 ∨ x = 3 := by unfold okH; simp [or_assoc]
theorem rAll_any (at' ahead : Int) (keys : V3) (l : List V3) (u : Value) (W : World) (hk : okV keys) (hl : ∀ v ∈ l, okV v) (hr : Rd W u l) :
    Calls Tryd.prog 16 #[.int .i64 at', .int .i64 ahead, keys.agg, u] W fun e w' => e = .returned (.int .i64 (allV at' ahead keys l)) ∧ Below W.heap.size W w' := by
  obtain ⟨A, n, c, rfl, hrs⟩ := hr
  obtain rfl := hrs.1
  have HK := Lib.hid hk
  have HLV := Lib.hid hl
  have hcm := Nat.le_trans hrs.2.1 hrs.2.2.1
  unfold maxLen at hcm
  have HRS := Lib.hid hrs
  obtain ⟨t, vw, nn⟩ := keys
  obtain ⟨c0, c1, c2⟩ := box3 W ⟨t, vw, nn⟩
  simp only at c0 c1 c2
  obtain ⟨W1, hW1⟩ : ∃ W1, W1 = W.alloc (.cells #[.int .i64 t, .int .i64 vw, .int .u64 nn] 24) := ⟨_, rfl⟩
  have HB : Hid (Below W.heap.size W W1) := Lib.hid (by rw [hW1]; exact al0 _ _)
  have hlt : W.heap.size < W1.heap.size := by rw [hW1]; simp
  rw [← hW1] at c0 c1 c2
  have HC := Lib.hid (show ∀ w, Below W1.heap.size W1 w → w.cell? ⟨W.heap.size, 0, none⟩ = some (.int .i64 t) ∧ w.cell? ⟨W.heap.size, 1, none⟩ = some (.int .i64 vw) ∧ w.cell? ⟨W.heap.size, 2, none⟩ = some (.int .u64 nn) from
    fun w hb => ⟨(hb.cell (p := ⟨_, 0, none⟩) hlt).trans c0, (hb.cell (p := ⟨_, 1, none⟩) hlt).trans c1, (hb.cell (p := ⟨_, 2, none⟩) hlt).trans c2⟩)
  unfold allV
  clear c0 c1 c2 hlt hk hl hrs
  obtain ⟨n, hn⟩ : ∃ n, n = l.length := ⟨_, rfl⟩
  rw [← hn] at hcm HRS ⊢
  have HN := Lib.hid hn
  by_cases hA : okA at' = true ∧ okH ahead = true ∧ n ≤ 1048576
  · rw [if_pos hA]
    obtain ⟨ha, hh, hn2⟩ := hA
    rw [okA_iff] at ha
    rw [okH_iff] at hh
    obtain ⟨a0, a1⟩ := ha
    have b0 : ¬ at' < 0 := by omega
    have b1 : ¬ 1073741824 < at' := by omega
    have b2 : ¬ (1048576 : Int) < (n : Int) := by omega
    obtain ⟨f, hf⟩ : ∃ f, allF at' ahead ⟨t, vw, nn⟩ l = f := ⟨_, rfl⟩
    have HF : Hid (∀ w W', isW w → Below W.heap.size W W' → Calls Tryd.prog 33 #[.int .i64 at', .int .i64 ahead, .agg #[.int .i64 t, .int .i64 vw, .int .u64 nn], .slice A n c, .int .i64 w] W' fun e w' => e = .returned (.bool (f w)) ∧ Below W'.heap.size W' w') := Lib.hid fun w W' hw hb => by
      rw [← hf]; exact all_any at' ahead ⟨t, vw, nn⟩ l (.slice A n c) w W' a0 a1 hh HK.out HLV.out (by rw [← HN.out]; exact hn2) (HRS.out.below hb).rd hw
    rw [hf]
    clear hf a0 a1 hn hn2
    rcases hh with rfl | rfl | rfl
    all_goals
      go_enter Tryd.func16, Tryd.ntmps16
      go_upto_region 1 with fail
      simp only [← hW1]
      clear hW1
      go_wp2_with fail
      go_loopw [9] (fun x wr => ∃ w : Int, x = .int .i64 w ∧ Hid (PK f w) ∧ Hid (Below W1.heap.size W1 wr)) (fun x _ => (16 - intOf x).toNat)
      case atStart => exact ⟨1, rfl, Lib.hid (.inl rfl), Lib.hid (Below.refl _ _)⟩
      case round =>
        obtain ⟨w, rfl, HK, HR⟩ := hrel
        obtain ⟨w0, w1⟩ := HK.out.bd
        by_cases h8 : w ≤ 8
        · obtain ⟨z0, z1, z2⟩ := HC.out _ HR.out
          have HFW := Lib.hid (HF.out w wr (HK.out.isW h8) (HB.out.trans (HR.out.mono HB.out.size)))
          cases hfw : f w with
          | true =>
            rw [hfw] at HFW
            have HP := Lib.hid (HK.out.hit h8 hfw)
            clear hfw
            go_wp2_with (go_at_call 33; (with_reducible refine HFW.out.mono ?_); rintro e w2 ⟨rfl, hb⟩; have HB2 := Lib.hid hb; clear hb)
            go_ret
            exact ⟨by rw [HP.out]; rfl, (HB.out.trans (HR.out.mono HB.out.size)).trans (HB2.out.mono (Nat.le_trans HB.out.size HR.out.size))⟩
          | false =>
            rw [hfw] at HFW
            have HP := Lib.hid (HK.out.step h8 hfw)
            clear hfw
            go_wp2_with (go_at_call 33; (with_reducible refine HFW.out.mono ?_); rintro e w2 ⟨rfl, hb⟩; have HB2 := Lib.hid hb; clear hb)
            go_roundw
            case rel => exact ⟨2 * w, rfl, HP, Lib.hid (HR.out.trans (HB2.out.mono HR.out.size))⟩
            case measure => simp [intOf]; omega
        · have HP := Lib.hid (HK.out.miss h8)
          go_wp2_with fail
          go_ret
          exact ⟨by rw [HP.out]; rfl, HB.out.trans (HR.out.mono HB.out.size)⟩
  · rw [if_neg hA]
    rw [okA_iff, okH_iff] at hA
    clear hn HC HRS HK HLV
    by_cases h0 : at' < 0
    · clear hA
      go_enter Tryd.func16, Tryd.ntmps16
      go_upto_region 1 with fail
      simp only [← hW1]
      clear hW1
      go_wp2_with fail
      go_ret
      exact ⟨rfl, HB.out⟩
    · by_cases h1 : 1073741824 < at'
      · clear hA
        go_enter Tryd.func16, Tryd.ntmps16
        go_upto_region 1 with fail
        simp only [← hW1]
        clear hW1
        go_wp2_with fail
        go_ret
        exact ⟨rfl, HB.out⟩
      · by_cases h2 : ahead = 0 ∨ ahead = 1 ∨ ahead = 3
        · have h3 : (1048576 : Int) < (n : Int) := by omega
          clear hA
          rcases h2 with rfl | rfl | rfl
          all_goals
            go_enter Tryd.func16, Tryd.ntmps16
            go_upto_region 1 with fail
            simp only [← hW1]
            clear hW1
            go_wp2_with fail
            go_ret
            exact ⟨rfl, HB.out⟩
        · have g0 : (ahead != 0) = true := by simp; omega
          have g1 : (ahead != 1) = true := by simp; omega
          have g3 : (ahead != 3) = true := by simp; omega
          clear hA h2
          go_enter Tryd.func16, Tryd.ntmps16
          go_upto_region 1 with fail
          simp only [← hW1]
          clear hW1
          go_wp2_with fail
          go_ret
          exact ⟨rfl, HB.out⟩
end Go.Proofs.YtaeboneddndfkaaDoor
