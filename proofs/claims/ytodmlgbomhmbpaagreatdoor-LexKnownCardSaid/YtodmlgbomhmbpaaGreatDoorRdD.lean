/-
  What is proved here: the contract of the reference's Begins: it answers whether the bytes are the start of an encoding that lacks bytes; condition: at least one byte.
-/
import Derived.Test.YtodmlgbomhmbpaaGreatDoorRdC
import Derived.Test.YtodmlgbomhmbpaaGreatDoorRefX
namespace Go.Proofs.YtodmlgbomhmbpaaGreatDoor
open Go.RowKit Ut Go.Lib

theorem st_low {L c : Nat} (hL : L < 8388608) (hc : 128 ≤ c ∧ c ≤ 191) : wrap64 (wrap64 (wrap64 (64 * (L : Int)) + wrap64 (c : Int)) - 128) = ((64 * L + c - 128 : Nat) : Int) := by
  unfold wrap64
  omega
theorem st_lt {L k c : Nat} (hk : 1 ≤ k) (h : L < 32 * 64 ^ (k - 1)) (hc : c ≤ 191) : 64 * L + c - 128 < 32 * 64 ^ (k + 1 - 1) := by
  obtain ⟨j, rfl⟩ : ∃ j, k = j + 1 := ⟨k - 1, by omega⟩
  rw [show j + 1 + 1 - 1 = j + 1 by omega, Nat.pow_succ]
  rw [show j + 1 - 1 = j by omega] at h
  omega
theorem st_out {L : Nat} (hL : L < 8388608) : wrap64 (64 * (L : Int)) = ((64 * L : Nat) : Int) := by
  unfold wrap64
  omega
theorem st_outh {L : Nat} (hL : L < 8388608) : wrap64 (wrap64 (64 * (L : Int)) + 63) = ((64 * L + 63 : Nat) : Int) := by
  unfold wrap64
  omega
theorem st_lt0 {L k x : Nat} (hk : 1 ≤ k) (h : L < 32 * 64 ^ (k - 1)) (hx : x ≤ 64 * L + 63) : x < 32 * 64 ^ (k + 1 - 1) := by
  obtain ⟨j, rfl⟩ : ∃ j, k = j + 1 := ⟨k - 1, by omega⟩
  rw [show j + 1 + 1 - 1 = j + 1 by omega, Nat.pow_succ]
  rw [show j + 1 - 1 = j by omega] at h
  omega
theorem dec_lt {M : Nat} {b : Bool} (h : decide (M < 55296) = b) : decide ((M : Int) < 55296) = b := by
  rw [← h]
  by_cases hM : M < 55296
  · rw [decide_eq_true hM, decide_eq_true (by omega)]
  · rw [decide_eq_false hM, decide_eq_false (by omega)]
theorem dec_gt {m : Nat} {b : Bool} (h : decide (57343 < m) = b) : decide (57343 < (m : Int)) = b := by
  rw [← h]
  by_cases hM : 57343 < m
  · rw [decide_eq_true hM, decide_eq_true (by omega)]
  · rw [decide_eq_false hM, decide_eq_false (by omega)]

set_option maxHeartbeats 8000000 in
set_option maxRecDepth 1000000 in
theorem begins_2 (s : ByteArray) (l : List UInt8) (hsl : s.data.toList = l) (x : UInt8) (h1 : 0 < s.size) (h2 : s.size < 2) (hx : s[0]'h1 = x) (hl0 : l.getD 0 0 = x) (hlg : lg x.toNat = 2) (hxb : 192 ≤ x.toNat) (w : World) :
    Calls Tryz.prog 41 #[.string s] w fun e w' => e = .returned (.bool (!full l)) ∧ Below w.heap.size w w' := by
  have hx2 : x.toNat < 192 + 32 := by have := lg_inv x.toNat; omega
  have HLG := Lib.hid (show lg (l.getD 0 0).toNat = 2 by rw [hl0]; exact hlg)
  have HSZ := Lib.hid (show s.size = l.length by rw [Lib.size_eq, hsl])
  have HL := Lib.hid (fun W => long_u x 2 hlg W)
  have HSL := Lib.hid hsl
  have HL0 := Lib.hid hl0
  have d1 : decide ((2 : Int) ≤ (s.size : Int)) = false := decide_eq_false (by omega)
  have i0 : (0 : Int) < (s.size : Int) := by omega
  have HV1 := Lib.hid (show (x.toNat : Int) - 192 = ((lowF l 2 1 : Nat) : Int) by show _ = (((l.getD 0 0).toNat - 192 : Nat) : Int); rw [hl0]; omega)
  have HV2 := Lib.hid (show (x.toNat : Int) - 192 = ((highF l 2 1 : Nat) : Int) by show _ = (((l.getD 0 0).toNat - 192 : Nat) : Int); rw [hl0]; omega)
  have HB1 := Lib.hid (show lowF l 2 1 < 32 ∧ highF l 2 1 < 32 by show (l.getD 0 0).toNat - 192 < 32 ∧ (l.getD 0 0).toNat - 192 < 32; rw [hl0]; omega)
  clear hsl hl0 hlg
  go_enter Tryz.func41, Tryz.ntmps41
  go_wp2_with (go_at_call 50; (with_reducible refine (HL.out _).mono ?_); rintro e w1 ⟨rfl, rfl⟩)
  go_region
  go_wp2
  go_region
  go_wp2
  go_loopw [4, 5, 7] (fun lo hi i wr => ∃ k : Nat, 1 ≤ k ∧ k ≤ 2 ∧ i = .int .i64 k ∧ lo = .int .i64 (lowF l 2 k : Nat) ∧ hi = .int .i64 (highF l 2 k : Nat) ∧ lowF l 2 k < 32 * 64 ^ (k - 1) ∧ highF l 2 k < 32 * 64 ^ (k - 1) ∧ Hid (∀ j, 1 ≤ j → j < k → j < l.length → 128 ≤ (l.getD j 0).toNat ∧ (l.getD j 0).toNat ≤ 191) ∧ Hid (Below w.heap.size w wr)) (fun _ _ i _ => 2 + 1 - (RowKit.intOf i).toNat)
  case atStart =>
    have h1 := HB1.out
    exact ⟨1, by omega, by omega, rfl, by rw [HV1.out], by rw [HV2.out], by simpa using h1.1, by simpa using h1.2, fun j a b => by omega, ((Below.refl _ _).alloc (Nat.le_refl _) _).drew.drew⟩
  case round =>
    obtain ⟨k, hk1, hk2, rfl, rfl, rfl, hlo, hhi, HC, HB⟩ := hrel
    obtain ⟨L, hL⟩ : ∃ L, lowF l 2 k = L := ⟨_, rfl⟩
    obtain ⟨H, hH⟩ : ∃ H, highF l 2 k = H := ⟨_, rfl⟩
    rw [hL] at hlo ⊢
    rw [hH] at hhi ⊢
    have h64 : (64 : Nat) ^ (k - 1) ≤ 64 ^ 3 := Nat.pow_le_pow_right (by omega) (by omega)
    have HLB := Lib.hid (show L < 8388608 ∧ H < 8388608 by omega)
    have HLO := Lib.hid hlo
    have HHI := Lib.hid hhi
    have HLL := Lib.hid hL
    have HHL := Lib.hid hH
    clear hlo hhi h64 hL hH
    by_cases hkn : k < 2
    · have e1 : decide ((k : Int) < 2) = true := decide_eq_true (by omega)
      by_cases hlt : k < s.size
      · obtain ⟨c, hc⟩ := getN l (k := k) (by rw [← HSZ.out]; exact hlt)
        have hx3 : s[k] = c := byte_at HSL.out hc hlt
        have e2 : decide ((k : Int) < (s.size : Int)) = true := decide_eq_true (by omega)
        have e3 : decide (k < s.size) = true := decide_eq_true (by omega)
        have hgd : l.getD k 0 = c := by rw [List.getD_eq_getElem?_getD, hc]; rfl
        have HGD := Lib.hid hgd
        clear hc hgd
        by_cases hb1 : c.toNat < 128
        · have e4 : decide ((c.toNat : Int) < 128) = true := decide_eq_true (by omega)
          have HR := Lib.hid (show full l = true from full_cont hk1 (by omega) (by rw [← HSZ.out]; exact hlt) (by rw [HGD.out]; omega))
          clear hb1
          go_wp2
          go_ret
          exact ⟨by rw [HR.out]; rfl, HB.out⟩
        · have e4 : decide ((c.toNat : Int) < 128) = false := decide_eq_false (by omega)
          by_cases hb2 : 191 < c.toNat
          · have e5 : decide (191 < (c.toNat : Int)) = true := decide_eq_true (by omega)
            have HR := Lib.hid (show full l = true from full_cont hk1 (by omega) (by rw [← HSZ.out]; exact hlt) (by rw [HGD.out]; omega))
            clear hb1 hb2
            go_wp2
            go_ret
            exact ⟨by rw [HR.out]; rfl, HB.out⟩
          · have e5 : decide (191 < (c.toNat : Int)) = false := decide_eq_false (by omega)
            have HBB := Lib.hid (show 128 ≤ c.toNat ∧ c.toNat ≤ 191 by omega)
            clear hb1 hb2
            go_wp2
            go_region
            go_wp2
            have hLB := HLB.out
            have hBB := HBB.out
            have hk' : k < l.length := by rw [← HSZ.out]; exact hlt
            have nl : lowF l 2 (k + 1) = 64 * L + c.toNat - 128 := by rw [low_in rfl hk1 hk', HGD.out, HLL.out]
            have nh : highF l 2 (k + 1) = 64 * H + c.toNat - 128 := by rw [high_in rfl hk1 hk', HGD.out, HHL.out]
            refine ⟨⟨k + 1, by omega, by omega, by go_num, by first | rw [nl, st_low hLB.1 hBB] | (exfalso; omega), by first | rw [nh, st_low hLB.2 hBB] | (exfalso; omega), by rw [nl]; exact st_lt hk1 HLO.out hBB.2, by rw [nh]; exact st_lt hk1 HHI.out hBB.2, fun j a b d => ?_, HB.out.drew⟩, ?_⟩
            · by_cases hjk : j < k
              · exact HC.out j a hjk d
              · have : j = k := by omega
                subst this
                rw [HGD.out]
                exact hBB
            · simp [RowKit.intOf]; omega
      · have e2 : decide ((k : Int) < (s.size : Int)) = false := decide_eq_false (by omega)
        have e3 : decide (k < s.size) = false := decide_eq_false (by omega)
        have HK' := Lib.hid (show ¬ k < l.length by rw [← HSZ.out]; exact hlt)
        clear hlt
        go_wp2
        have hLB := HLB.out
        have nl : lowF l 2 (k + 1) = 64 * L := by rw [low_out rfl hk1 HK'.out, HLL.out]
        have nh : highF l 2 (k + 1) = 64 * H + 63 := by rw [high_out rfl hk1 HK'.out, HHL.out]
        refine ⟨⟨k + 1, by omega, by omega, by go_num, by rw [nl, st_out hLB.1], by rw [nh, st_outh hLB.2], by rw [nl]; exact st_lt0 hk1 HLO.out (by omega), by rw [nh]; exact st_lt0 hk1 HHI.out (by omega), fun j a b d => ?_, HB.out⟩, ?_⟩
        · by_cases hjk : j < k
          · exact HC.out j a hjk d
          · exact absurd d (by have := HK'.out; omega)
        · simp [RowKit.intOf]; omega
    · have hkn' : k = 2 := by omega
      have e1 : decide ((k : Int) < 2) = false := decide_eq_false (by omega)
      have HL2 := Lib.hid (show lowF l 2 2 = L by rw [← HLL.out, hkn'])
      have HH2 := Lib.hid (show highF l 2 2 = H by rw [← HHL.out, hkn'])
      have hc2 : ∀ j, 1 ≤ j → j < l.length → 128 ≤ (l.getD j 0).toNat ∧ (l.getD j 0).toNat ≤ 191 := fun j a b => HC.out j a (by have := HSZ.out; omega) b
      obtain ⟨M, hM⟩ : ∃ M : Nat, max L 128 = M := ⟨_, rfl⟩
      obtain ⟨m, hm⟩ : ∃ m : Nat, min H 1114111 = m := ⟨_, rfl⟩
      have hfin := full_fin (M := M) (m := m) HLG.out (by have := HSZ.out; omega) (by have := HSZ.out; omega) hc2 (by rw [HL2.out]; exact hM) (by rw [HH2.out]; exact hm)
      have hMi : max (L : Int) 128 = (M : Int) := by omega
      have hmi : min (H : Int) 1114111 = (m : Int) := by omega
      by_cases c1 : M ≤ m
      · rcases hp2 : decide (M < 55296) with _ | _
        all_goals rcases hp3 : decide (57343 < m) with _ | _
        all_goals
          have f1 : decide ((M : Int) ≤ (m : Int)) = true := decide_eq_true (by omega)
          have f1' : decide (M ≤ m) = true := decide_eq_true c1
          have f2 := dec_lt hp2
          have f3 := dec_gt hp3
          rw [hp2, hp3, decide_eq_true c1] at hfin
          have HF := Lib.hid hfin
          clear hkn hkn' hc2 hM hm hfin c1 hp2 hp3
          go_wp2
          go_ret
          exact ⟨by rw [HF.out]; rfl, HB.out.alloc HB.out.size _⟩
      · have f1 : decide ((M : Int) ≤ (m : Int)) = false := decide_eq_false (by omega)
        have f1' : decide (M ≤ m) = false := decide_eq_false c1
        rw [decide_eq_false c1] at hfin
        have HF := Lib.hid hfin
        clear hkn hkn' hc2 hM hm hfin c1
        go_wp2
        go_ret
        exact ⟨by rw [HF.out]; rfl, HB.out.alloc HB.out.size _⟩

set_option maxHeartbeats 8000000 in
set_option maxRecDepth 1000000 in
theorem begins_3 (s : ByteArray) (l : List UInt8) (hsl : s.data.toList = l) (x : UInt8) (h1 : 0 < s.size) (h2 : s.size < 3) (hx : s[0]'h1 = x) (hl0 : l.getD 0 0 = x) (hlg : lg x.toNat = 3) (hxb : 224 ≤ x.toNat) (w : World) :
    Calls Tryz.prog 41 #[.string s] w fun e w' => e = .returned (.bool (!full l)) ∧ Below w.heap.size w w' := by
  have hx2 : x.toNat < 224 + 32 := by have := lg_inv x.toNat; omega
  have HLG := Lib.hid (show lg (l.getD 0 0).toNat = 3 by rw [hl0]; exact hlg)
  have HSZ := Lib.hid (show s.size = l.length by rw [Lib.size_eq, hsl])
  have HL := Lib.hid (fun W => long_u x 3 hlg W)
  have HSL := Lib.hid hsl
  have HL0 := Lib.hid hl0
  have d1 : decide ((3 : Int) ≤ (s.size : Int)) = false := decide_eq_false (by omega)
  have i0 : (0 : Int) < (s.size : Int) := by omega
  have HV1 := Lib.hid (show (x.toNat : Int) - 224 = ((lowF l 3 1 : Nat) : Int) by show _ = (((l.getD 0 0).toNat - 224 : Nat) : Int); rw [hl0]; omega)
  have HV2 := Lib.hid (show (x.toNat : Int) - 224 = ((highF l 3 1 : Nat) : Int) by show _ = (((l.getD 0 0).toNat - 224 : Nat) : Int); rw [hl0]; omega)
  have HB1 := Lib.hid (show lowF l 3 1 < 32 ∧ highF l 3 1 < 32 by show (l.getD 0 0).toNat - 224 < 32 ∧ (l.getD 0 0).toNat - 224 < 32; rw [hl0]; omega)
  clear hsl hl0 hlg
  go_enter Tryz.func41, Tryz.ntmps41
  go_wp2_with (go_at_call 50; (with_reducible refine (HL.out _).mono ?_); rintro e w1 ⟨rfl, rfl⟩)
  go_region
  go_wp2
  go_region
  go_wp2
  go_loopw [4, 5, 7] (fun lo hi i wr => ∃ k : Nat, 1 ≤ k ∧ k ≤ 3 ∧ i = .int .i64 k ∧ lo = .int .i64 (lowF l 3 k : Nat) ∧ hi = .int .i64 (highF l 3 k : Nat) ∧ lowF l 3 k < 32 * 64 ^ (k - 1) ∧ highF l 3 k < 32 * 64 ^ (k - 1) ∧ Hid (∀ j, 1 ≤ j → j < k → j < l.length → 128 ≤ (l.getD j 0).toNat ∧ (l.getD j 0).toNat ≤ 191) ∧ Hid (Below w.heap.size w wr)) (fun _ _ i _ => 3 + 1 - (RowKit.intOf i).toNat)
  case atStart =>
    have h1 := HB1.out
    exact ⟨1, by omega, by omega, rfl, by rw [HV1.out], by rw [HV2.out], by simpa using h1.1, by simpa using h1.2, fun j a b => by omega, ((Below.refl _ _).alloc (Nat.le_refl _) _).drew.drew⟩
  case round =>
    obtain ⟨k, hk1, hk2, rfl, rfl, rfl, hlo, hhi, HC, HB⟩ := hrel
    obtain ⟨L, hL⟩ : ∃ L, lowF l 3 k = L := ⟨_, rfl⟩
    obtain ⟨H, hH⟩ : ∃ H, highF l 3 k = H := ⟨_, rfl⟩
    rw [hL] at hlo ⊢
    rw [hH] at hhi ⊢
    have h64 : (64 : Nat) ^ (k - 1) ≤ 64 ^ 3 := Nat.pow_le_pow_right (by omega) (by omega)
    have HLB := Lib.hid (show L < 8388608 ∧ H < 8388608 by omega)
    have HLO := Lib.hid hlo
    have HHI := Lib.hid hhi
    have HLL := Lib.hid hL
    have HHL := Lib.hid hH
    clear hlo hhi h64 hL hH
    by_cases hkn : k < 3
    · have e1 : decide ((k : Int) < 3) = true := decide_eq_true (by omega)
      by_cases hlt : k < s.size
      · obtain ⟨c, hc⟩ := getN l (k := k) (by rw [← HSZ.out]; exact hlt)
        have hx3 : s[k] = c := byte_at HSL.out hc hlt
        have e2 : decide ((k : Int) < (s.size : Int)) = true := decide_eq_true (by omega)
        have e3 : decide (k < s.size) = true := decide_eq_true (by omega)
        have hgd : l.getD k 0 = c := by rw [List.getD_eq_getElem?_getD, hc]; rfl
        have HGD := Lib.hid hgd
        clear hc hgd
        by_cases hb1 : c.toNat < 128
        · have e4 : decide ((c.toNat : Int) < 128) = true := decide_eq_true (by omega)
          have HR := Lib.hid (show full l = true from full_cont hk1 (by omega) (by rw [← HSZ.out]; exact hlt) (by rw [HGD.out]; omega))
          clear hb1
          go_wp2
          go_ret
          exact ⟨by rw [HR.out]; rfl, HB.out⟩
        · have e4 : decide ((c.toNat : Int) < 128) = false := decide_eq_false (by omega)
          by_cases hb2 : 191 < c.toNat
          · have e5 : decide (191 < (c.toNat : Int)) = true := decide_eq_true (by omega)
            have HR := Lib.hid (show full l = true from full_cont hk1 (by omega) (by rw [← HSZ.out]; exact hlt) (by rw [HGD.out]; omega))
            clear hb1 hb2
            go_wp2
            go_ret
            exact ⟨by rw [HR.out]; rfl, HB.out⟩
          · have e5 : decide (191 < (c.toNat : Int)) = false := decide_eq_false (by omega)
            have HBB := Lib.hid (show 128 ≤ c.toNat ∧ c.toNat ≤ 191 by omega)
            clear hb1 hb2
            go_wp2
            go_region
            go_wp2
            have hLB := HLB.out
            have hBB := HBB.out
            have hk' : k < l.length := by rw [← HSZ.out]; exact hlt
            have nl : lowF l 3 (k + 1) = 64 * L + c.toNat - 128 := by rw [low_in rfl hk1 hk', HGD.out, HLL.out]
            have nh : highF l 3 (k + 1) = 64 * H + c.toNat - 128 := by rw [high_in rfl hk1 hk', HGD.out, HHL.out]
            refine ⟨⟨k + 1, by omega, by omega, by go_num, by first | rw [nl, st_low hLB.1 hBB] | (exfalso; omega), by first | rw [nh, st_low hLB.2 hBB] | (exfalso; omega), by rw [nl]; exact st_lt hk1 HLO.out hBB.2, by rw [nh]; exact st_lt hk1 HHI.out hBB.2, fun j a b d => ?_, HB.out.drew⟩, ?_⟩
            · by_cases hjk : j < k
              · exact HC.out j a hjk d
              · have : j = k := by omega
                subst this
                rw [HGD.out]
                exact hBB
            · simp [RowKit.intOf]; omega
      · have e2 : decide ((k : Int) < (s.size : Int)) = false := decide_eq_false (by omega)
        have e3 : decide (k < s.size) = false := decide_eq_false (by omega)
        have HK' := Lib.hid (show ¬ k < l.length by rw [← HSZ.out]; exact hlt)
        clear hlt
        go_wp2
        have hLB := HLB.out
        have nl : lowF l 3 (k + 1) = 64 * L := by rw [low_out rfl hk1 HK'.out, HLL.out]
        have nh : highF l 3 (k + 1) = 64 * H + 63 := by rw [high_out rfl hk1 HK'.out, HHL.out]
        refine ⟨⟨k + 1, by omega, by omega, by go_num, by rw [nl, st_out hLB.1], by rw [nh, st_outh hLB.2], by rw [nl]; exact st_lt0 hk1 HLO.out (by omega), by rw [nh]; exact st_lt0 hk1 HHI.out (by omega), fun j a b d => ?_, HB.out⟩, ?_⟩
        · by_cases hjk : j < k
          · exact HC.out j a hjk d
          · exact absurd d (by have := HK'.out; omega)
        · simp [RowKit.intOf]; omega
    · have hkn' : k = 3 := by omega
      have e1 : decide ((k : Int) < 3) = false := decide_eq_false (by omega)
      have HL2 := Lib.hid (show lowF l 3 3 = L by rw [← HLL.out, hkn'])
      have HH2 := Lib.hid (show highF l 3 3 = H by rw [← HHL.out, hkn'])
      have hc2 : ∀ j, 1 ≤ j → j < l.length → 128 ≤ (l.getD j 0).toNat ∧ (l.getD j 0).toNat ≤ 191 := fun j a b => HC.out j a (by have := HSZ.out; omega) b
      obtain ⟨M, hM⟩ : ∃ M : Nat, max L 2048 = M := ⟨_, rfl⟩
      obtain ⟨m, hm⟩ : ∃ m : Nat, min H 1114111 = m := ⟨_, rfl⟩
      have hfin := full_fin (M := M) (m := m) HLG.out (by have := HSZ.out; omega) (by have := HSZ.out; omega) hc2 (by rw [HL2.out]; exact hM) (by rw [HH2.out]; exact hm)
      have hMi : max (L : Int) 2048 = (M : Int) := by omega
      have hmi : min (H : Int) 1114111 = (m : Int) := by omega
      by_cases c1 : M ≤ m
      · rcases hp2 : decide (M < 55296) with _ | _
        all_goals rcases hp3 : decide (57343 < m) with _ | _
        all_goals
          have f1 : decide ((M : Int) ≤ (m : Int)) = true := decide_eq_true (by omega)
          have f1' : decide (M ≤ m) = true := decide_eq_true c1
          have f2 := dec_lt hp2
          have f3 := dec_gt hp3
          rw [hp2, hp3, decide_eq_true c1] at hfin
          have HF := Lib.hid hfin
          clear hkn hkn' hc2 hM hm hfin c1 hp2 hp3
          go_wp2
          go_ret
          exact ⟨by rw [HF.out]; rfl, HB.out.alloc HB.out.size _⟩
      · have f1 : decide ((M : Int) ≤ (m : Int)) = false := decide_eq_false (by omega)
        have f1' : decide (M ≤ m) = false := decide_eq_false c1
        rw [decide_eq_false c1] at hfin
        have HF := Lib.hid hfin
        clear hkn hkn' hc2 hM hm hfin c1
        go_wp2
        go_ret
        exact ⟨by rw [HF.out]; rfl, HB.out.alloc HB.out.size _⟩

set_option maxHeartbeats 8000000 in
set_option maxRecDepth 1000000 in
theorem begins_4 (s : ByteArray) (l : List UInt8) (hsl : s.data.toList = l) (x : UInt8) (h1 : 0 < s.size) (h2 : s.size < 4) (hx : s[0]'h1 = x) (hl0 : l.getD 0 0 = x) (hlg : lg x.toNat = 4) (hxb : 240 ≤ x.toNat) (w : World) :
    Calls Tryz.prog 41 #[.string s] w fun e w' => e = .returned (.bool (!full l)) ∧ Below w.heap.size w w' := by
  have hx2 : x.toNat < 240 + 32 := by have := lg_inv x.toNat; omega
  have HLG := Lib.hid (show lg (l.getD 0 0).toNat = 4 by rw [hl0]; exact hlg)
  have HSZ := Lib.hid (show s.size = l.length by rw [Lib.size_eq, hsl])
  have HL := Lib.hid (fun W => long_u x 4 hlg W)
  have HSL := Lib.hid hsl
  have HL0 := Lib.hid hl0
  have d1 : decide ((4 : Int) ≤ (s.size : Int)) = false := decide_eq_false (by omega)
  have i0 : (0 : Int) < (s.size : Int) := by omega
  have HV1 := Lib.hid (show (x.toNat : Int) - 240 = ((lowF l 4 1 : Nat) : Int) by show _ = (((l.getD 0 0).toNat - 240 : Nat) : Int); rw [hl0]; omega)
  have HV2 := Lib.hid (show (x.toNat : Int) - 240 = ((highF l 4 1 : Nat) : Int) by show _ = (((l.getD 0 0).toNat - 240 : Nat) : Int); rw [hl0]; omega)
  have HB1 := Lib.hid (show lowF l 4 1 < 32 ∧ highF l 4 1 < 32 by show (l.getD 0 0).toNat - 240 < 32 ∧ (l.getD 0 0).toNat - 240 < 32; rw [hl0]; omega)
  clear hsl hl0 hlg
  go_enter Tryz.func41, Tryz.ntmps41
  go_wp2_with (go_at_call 50; (with_reducible refine (HL.out _).mono ?_); rintro e w1 ⟨rfl, rfl⟩)
  go_region
  go_wp2
  go_region
  go_wp2
  go_loopw [4, 5, 7] (fun lo hi i wr => ∃ k : Nat, 1 ≤ k ∧ k ≤ 4 ∧ i = .int .i64 k ∧ lo = .int .i64 (lowF l 4 k : Nat) ∧ hi = .int .i64 (highF l 4 k : Nat) ∧ lowF l 4 k < 32 * 64 ^ (k - 1) ∧ highF l 4 k < 32 * 64 ^ (k - 1) ∧ Hid (∀ j, 1 ≤ j → j < k → j < l.length → 128 ≤ (l.getD j 0).toNat ∧ (l.getD j 0).toNat ≤ 191) ∧ Hid (Below w.heap.size w wr)) (fun _ _ i _ => 4 + 1 - (RowKit.intOf i).toNat)
  case atStart =>
    have h1 := HB1.out
    exact ⟨1, by omega, by omega, rfl, by rw [HV1.out], by rw [HV2.out], by simpa using h1.1, by simpa using h1.2, fun j a b => by omega, ((Below.refl _ _).alloc (Nat.le_refl _) _).drew.drew⟩
  case round =>
    obtain ⟨k, hk1, hk2, rfl, rfl, rfl, hlo, hhi, HC, HB⟩ := hrel
    obtain ⟨L, hL⟩ : ∃ L, lowF l 4 k = L := ⟨_, rfl⟩
    obtain ⟨H, hH⟩ : ∃ H, highF l 4 k = H := ⟨_, rfl⟩
    rw [hL] at hlo ⊢
    rw [hH] at hhi ⊢
    have h64 : (64 : Nat) ^ (k - 1) ≤ 64 ^ 3 := Nat.pow_le_pow_right (by omega) (by omega)
    have HLB := Lib.hid (show L < 8388608 ∧ H < 8388608 by omega)
    have HLO := Lib.hid hlo
    have HHI := Lib.hid hhi
    have HLL := Lib.hid hL
    have HHL := Lib.hid hH
    clear hlo hhi h64 hL hH
    by_cases hkn : k < 4
    · have e1 : decide ((k : Int) < 4) = true := decide_eq_true (by omega)
      by_cases hlt : k < s.size
      · obtain ⟨c, hc⟩ := getN l (k := k) (by rw [← HSZ.out]; exact hlt)
        have hx3 : s[k] = c := byte_at HSL.out hc hlt
        have e2 : decide ((k : Int) < (s.size : Int)) = true := decide_eq_true (by omega)
        have e3 : decide (k < s.size) = true := decide_eq_true (by omega)
        have hgd : l.getD k 0 = c := by rw [List.getD_eq_getElem?_getD, hc]; rfl
        have HGD := Lib.hid hgd
        clear hc hgd
        by_cases hb1 : c.toNat < 128
        · have e4 : decide ((c.toNat : Int) < 128) = true := decide_eq_true (by omega)
          have HR := Lib.hid (show full l = true from full_cont hk1 (by omega) (by rw [← HSZ.out]; exact hlt) (by rw [HGD.out]; omega))
          clear hb1
          go_wp2
          go_ret
          exact ⟨by rw [HR.out]; rfl, HB.out⟩
        · have e4 : decide ((c.toNat : Int) < 128) = false := decide_eq_false (by omega)
          by_cases hb2 : 191 < c.toNat
          · have e5 : decide (191 < (c.toNat : Int)) = true := decide_eq_true (by omega)
            have HR := Lib.hid (show full l = true from full_cont hk1 (by omega) (by rw [← HSZ.out]; exact hlt) (by rw [HGD.out]; omega))
            clear hb1 hb2
            go_wp2
            go_ret
            exact ⟨by rw [HR.out]; rfl, HB.out⟩
          · have e5 : decide (191 < (c.toNat : Int)) = false := decide_eq_false (by omega)
            have HBB := Lib.hid (show 128 ≤ c.toNat ∧ c.toNat ≤ 191 by omega)
            clear hb1 hb2
            go_wp2
            go_region
            go_wp2
            have hLB := HLB.out
            have hBB := HBB.out
            have hk' : k < l.length := by rw [← HSZ.out]; exact hlt
            have nl : lowF l 4 (k + 1) = 64 * L + c.toNat - 128 := by rw [low_in rfl hk1 hk', HGD.out, HLL.out]
            have nh : highF l 4 (k + 1) = 64 * H + c.toNat - 128 := by rw [high_in rfl hk1 hk', HGD.out, HHL.out]
            refine ⟨⟨k + 1, by omega, by omega, by go_num, by first | rw [nl, st_low hLB.1 hBB] | (exfalso; omega), by first | rw [nh, st_low hLB.2 hBB] | (exfalso; omega), by rw [nl]; exact st_lt hk1 HLO.out hBB.2, by rw [nh]; exact st_lt hk1 HHI.out hBB.2, fun j a b d => ?_, HB.out.drew⟩, ?_⟩
            · by_cases hjk : j < k
              · exact HC.out j a hjk d
              · have : j = k := by omega
                subst this
                rw [HGD.out]
                exact hBB
            · simp [RowKit.intOf]; omega
      · have e2 : decide ((k : Int) < (s.size : Int)) = false := decide_eq_false (by omega)
        have e3 : decide (k < s.size) = false := decide_eq_false (by omega)
        have HK' := Lib.hid (show ¬ k < l.length by rw [← HSZ.out]; exact hlt)
        clear hlt
        go_wp2
        have hLB := HLB.out
        have nl : lowF l 4 (k + 1) = 64 * L := by rw [low_out rfl hk1 HK'.out, HLL.out]
        have nh : highF l 4 (k + 1) = 64 * H + 63 := by rw [high_out rfl hk1 HK'.out, HHL.out]
        refine ⟨⟨k + 1, by omega, by omega, by go_num, by rw [nl, st_out hLB.1], by rw [nh, st_outh hLB.2], by rw [nl]; exact st_lt0 hk1 HLO.out (by omega), by rw [nh]; exact st_lt0 hk1 HHI.out (by omega), fun j a b d => ?_, HB.out⟩, ?_⟩
        · by_cases hjk : j < k
          · exact HC.out j a hjk d
          · exact absurd d (by have := HK'.out; omega)
        · simp [RowKit.intOf]; omega
    · have hkn' : k = 4 := by omega
      have e1 : decide ((k : Int) < 4) = false := decide_eq_false (by omega)
      have HL2 := Lib.hid (show lowF l 4 4 = L by rw [← HLL.out, hkn'])
      have HH2 := Lib.hid (show highF l 4 4 = H by rw [← HHL.out, hkn'])
      have hc2 : ∀ j, 1 ≤ j → j < l.length → 128 ≤ (l.getD j 0).toNat ∧ (l.getD j 0).toNat ≤ 191 := fun j a b => HC.out j a (by have := HSZ.out; omega) b
      obtain ⟨M, hM⟩ : ∃ M : Nat, max L 65536 = M := ⟨_, rfl⟩
      obtain ⟨m, hm⟩ : ∃ m : Nat, min H 1114111 = m := ⟨_, rfl⟩
      have hfin := full_fin (M := M) (m := m) HLG.out (by have := HSZ.out; omega) (by have := HSZ.out; omega) hc2 (by rw [HL2.out]; exact hM) (by rw [HH2.out]; exact hm)
      have hMi : max (L : Int) 65536 = (M : Int) := by omega
      have hmi : min (H : Int) 1114111 = (m : Int) := by omega
      by_cases c1 : M ≤ m
      · rcases hp2 : decide (M < 55296) with _ | _
        all_goals rcases hp3 : decide (57343 < m) with _ | _
        all_goals
          have f1 : decide ((M : Int) ≤ (m : Int)) = true := decide_eq_true (by omega)
          have f1' : decide (M ≤ m) = true := decide_eq_true c1
          have f2 := dec_lt hp2
          have f3 := dec_gt hp3
          rw [hp2, hp3, decide_eq_true c1] at hfin
          have HF := Lib.hid hfin
          clear hkn hkn' hc2 hM hm hfin c1 hp2 hp3
          go_wp2
          go_ret
          exact ⟨by rw [HF.out]; rfl, HB.out.alloc HB.out.size _⟩
      · have f1 : decide ((M : Int) ≤ (m : Int)) = false := decide_eq_false (by omega)
        have f1' : decide (M ≤ m) = false := decide_eq_false c1
        rw [decide_eq_false c1] at hfin
        have HF := Lib.hid hfin
        clear hkn hkn' hc2 hM hm hfin c1
        go_wp2
        go_ret
        exact ⟨by rw [HF.out]; rfl, HB.out.alloc HB.out.size _⟩

set_option maxHeartbeats 2000000 in
set_option maxRecDepth 100000 in
theorem begins_long (s : ByteArray) (l : List UInt8) (hsl : s.data.toList = l) (x : UInt8) (h1 : 0 < s.size) (hx : s[0]'h1 = x) (hl0 : l.getD 0 0 = x) (n : Nat) (hlg : lg x.toNat = n) (hn : n ≤ s.size) (w : World) :
    Calls Tryz.prog 41 #[.string s] w fun e w' => e = .returned (.bool (!full l)) ∧ Below w.heap.size w w' := by
  have hsz : s.size = l.length := by rw [Lib.size_eq, hsl]
  have HR := Lib.hid (show full l = true from full_long (by omega) (by rw [hl0, hlg]; omega))
  have HL := Lib.hid (fun W => long_u x n hlg W)
  have d1 : decide ((n : Int) ≤ (s.size : Int)) = true := decide_eq_true (by omega)
  have d2 : decide (n ≤ s.size) = true := decide_eq_true hn
  clear hsl hl0 hlg hsz hn
  go_enter Tryz.func41, Tryz.ntmps41
  go_wp2_with (go_at_call 50; (with_reducible refine (HL.out _).mono ?_); rintro e w1 ⟨rfl, rfl⟩)
  go_ret
  exact ⟨by rw [HR.out]; rfl, Below.refl _ _⟩
theorem begins_any (s : ByteArray) (l : List UInt8) (hsl : s.data.toList = l) (h1 : 0 < s.size) (w : World) :
    Calls Tryz.prog 41 #[.string s] w fun e w' => e = .returned (.bool (!full l)) ∧ Below w.heap.size w w' := by
  have hl0 : l.getD 0 0 = s[0] := getD_at s l hsl 0 h1
  have hi := lg_inv (s[0]).toNat
  by_cases hn : lg (s[0]).toNat ≤ s.size
  · exact begins_long s l hsl _ h1 rfl hl0 _ rfl hn w
  · rcases (show lg (s[0]).toNat = 2 ∨ lg (s[0]).toNat = 3 ∨ lg (s[0]).toNat = 4 by omega) with h | h | h
    · exact begins_2 s l hsl _ h1 (by omega) rfl hl0 h (by omega) w
    · exact begins_3 s l hsl _ h1 (by omega) rfl hl0 h (by omega) w
    · exact begins_4 s l hsl _ h1 (by omega) rfl hl0 h (by omega) w
end Go.Proofs.YtodmlgbomhmbpaaGreatDoor
