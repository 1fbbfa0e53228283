/-
  What is proved here: the contract of the reference's Next; conditions: those that each fact states.
-/
import Derived.Test.YtodmlgbomhmbpaaGreatDoorRefN
import Derived.Deep.RegionLaw
import Derived.Deep.RegionHeld3
namespace Go.Proofs.YtodmlgbomhmbpaaGreatDoor
open Go.RowKit Ut Go.Lib

theorem long_u (x : UInt8) (n : Nat) (h : lg x.toNat = n) (w : World) : Calls Tryz.prog 50 #[.int .u8 (x.toNat : Int)] w fun e w' => e = .returned (.int .i64 (n : Int)) ∧ w = w' := by
  subst h
  exact long_any x.toNat w x.toNat_lt
theorem st_val (v y : Nat) (hv : v < 33554432) (hy : y < 256) : wrap64 (wrap64 (64 * (v : Int)) + (wrap64 (y : Int)).tmod 64) = ((64 * v + y % 64 : Nat) : Int) := by
  have e1 : wrap64 (y : Int) = (y : Int) := by unfold wrap64; omega
  have e2 : wrap64 (64 * (v : Int)) = 64 * (v : Int) := by unfold wrap64; omega
  have e3 : ((y : Int)).tmod 64 = ((y % 64 : Nat) : Int) := rfl
  rw [e1, e2, e3]
  unfold wrap64
  omega
theorem first_val (x b : Nat) (hx : x < 256) (hb : b ≤ x) : wrap64 (wrap64 (x : Int) - (b : Int)) = ((x - b : Nat) : Int) := by
  unfold wrap64; omega
theorem w32_val (v : Nat) (h : v < 33554432) : wrap32 (v : Int) = (v : Int) := by unfold wrap32; omega
theorem getD_at (s : ByteArray) (l : List UInt8) (hsl : s.data.toList = l) (j : Nat) (hj : j < s.size) : l.getD j 0 = s[j]'hj := by
  subst hsl
  rw [List.getD_eq_getElem?_getD, List.getElem?_eq_getElem (by simpa using hj)]
  rfl
theorem ext_take (s : ByteArray) (l : List UInt8) (hsl : s.data.toList = l) (n : Nat) : (s.extract 0 n).toList = l.take n := by
  subst hsl
  rw [Lib.toList_data]
  simp
theorem strL_list (l : List UInt8) : (str l).toList = l := by
  rw [Lib.toList_data]
  simp [str]
theorem rnx_at {l : List UInt8} {n V : Nat} (hn : 0 < n) (hl : lg (l.getD 0 0).toNat = n) (hlen : n ≤ l.length) (hV : vp l n n = V) :
    rnx l = if scal V ∧ enc V = l.take n then (V, n, true) else (0, 0, false) := by
  unfold rnx
  have : l ≠ [] := by intro h; subst h; simp at hlen; omega
  rw [if_neg this, hl, if_neg (by omega), hV]
/-- What the reference's Put answers. -/
def puR (r : Nat) : Value := .tuple #[.string (str (if scal r then enc r else [])), .bool (decide (scal r))]
theorem refPut_nat (r : Nat) (w : World) (h : r < 33554432) : Calls Tryz.prog 49 #[.int .i32 (r : Int)] w fun e w' => e = .returned (puR r) ∧ Below w.heap.size w w' := by
  by_cases hs : scal r
  · unfold puR
    rw [if_pos hs, decide_eq_true hs]
    exact refPut_yes r w hs
  · unfold puR
    rw [if_neg hs, decide_eq_false hs]
    refine refPut_no (r : Int) w ?_ (by unfold wrap64; omega)
    unfold scal at hs
    unfold Lib.validRune
    grind
theorem vp_lt (l : List UInt8) (n k : Nat) (h : (l.getD 0 0).toNat - hd n < 128) (hk : k ≤ 4) : vp l n k < 2 * 64 ^ k := by
  induction k with
  | zero => simp [vp]
  | succ k ih =>
    cases k with
    | zero => simp [vp]; exact h
    | succ k =>
      have := ih (by omega)
      unfold vp
      rw [Nat.pow_succ]
      omega
theorem lg_rng {c n : Nat} (h : lg c = n) (hc : c < 256) : (n = 0) ∨ (n = 1 ∧ c < 128) ∨ (n = 2 ∧ 194 ≤ c ∧ c < 224) ∨ (n = 3 ∧ 224 ≤ c ∧ c < 240) ∨ (n = 4 ∧ 240 ≤ c ∧ c < 245) := by
  unfold lg at h
  split at h
  · omega
  · split at h
    · omega
    · split at h
      · omega
      · split at h <;> omega
theorem size_pos_hd (s : ByteArray) (x : UInt8) (l : List UInt8) (hsl : s.data.toList = l) (h : 0 < s.size) (hx : s[0]'h = x) : l.getD 0 0 = x := by
  rw [getD_at s l hsl 0 h, hx]
set_option maxHeartbeats 2000000 in
set_option maxRecDepth 1000000 in
theorem refNext_1 (s : ByteArray) (w : World) (x : UInt8) (h2 : 1 ≤ s.size) (hx : s[0]'(by omega) = x) (hl : lg x.toNat = 1) (hb : 0 ≤ x.toNat ∧ x.toNat - 0 < 128)
    (l : List UInt8) (hsl : s.data.toList = l) (hl0 : (l.getD 0 0) = x) :
    Calls Tryz.prog 40 #[.string s] w fun e w' => e = .returned (nxR (rnx s.data.toList)) ∧ Below w.heap.size w w' := by
  have HL := Lib.hid (fun W => long_u x 1 hl W)
  have d1 : decide ((s.size : Int) < 1) = false := decide_eq_false (by omega)
  have hsz : 0 < s.size := by omega
  have hv1 : wrap64 (wrap64 (x.toNat : Int)) = ((vp l 1 1 : Nat) : Int) := by
    have e : vp l 1 1 = x.toNat - 0 := by unfold vp hd; rw [hl0]; rfl
    rw [e]
    have := x.toNat_lt
    unfold wrap64
    omega
  have HV1 := Lib.hid hv1
  have hvl : ∀ k, k ≤ 4 → vp l 1 k < 2 * 64 ^ k := fun k hk => vp_lt l 1 k (by rw [hl0]; exact hb.2) hk
  have HVL := Lib.hid hvl
  have HX := Lib.hid hb
  clear hv1 hvl hb
  go_enter Tryz.func40, Tryz.ntmps40
  go_wp2_with (go_at_call 50; (with_reducible refine (HL.out _).mono ?_); rintro e w1 ⟨rfl, rfl⟩)
  go_region
  rw [HV1.out]
  go_wp2
  go_loop [6, 7] (fun v i => ∃ k : Nat, 1 ≤ k ∧ k ≤ 1 ∧ i = .int .i64 k ∧ v = .int .i64 (vp l 1 k)) (fun _ i => 2 - (RowKit.intOf i).toNat)
  case atStart => exact ⟨1, by omega, by omega, rfl, rfl⟩
  case round =>
    obtain ⟨k, hk1, hk2, rfl, rfl⟩ := hrel
    have hvk := HVL.out k (by omega)
    have h64 : (64 : Nat) ^ k ≤ 64 ^ 4 := Nat.pow_le_pow_right (by omega) (by omega)
    have hvb : vp l 1 k < 33554432 := by omega
    have HVB := Lib.hid hvb
    clear hvk h64 hvb
    by_cases hlt : k < 1
    · omega
    · have hkn : k = 1 := by omega
      subst hkn
      clear hlt hk1 hk2
      obtain ⟨V, hV⟩ : ∃ V, vp l 1 1 = V := ⟨_, rfl⟩
      rw [hV] at HVB ⊢
      have HW := Lib.hid (w32_val V HVB.out)
      have HPU := Lib.hid (fun W => refPut_nat V W HVB.out)
      have hlen : 1 ≤ l.length := by rw [← hsl]; simpa using h2
      have hrx := rnx_at (by omega) (by rw [hl0]; exact hl) hlen hV
      have HEX := Lib.hid (ext_take s l hsl 1)
      rw [← hsl] at hrx
      have HRX := Lib.hid hrx
      clear hrx hlen
      by_cases hs : scal V
      · have hpu : puR V = .tuple #[.string (str (enc V)), .bool true] := by unfold puR; rw [if_pos hs, decide_eq_true hs]
        rw [hpu] at HPU
        clear hpu
        go_wp2_with (go_at_call 49; rw [HW.out]; (with_reducible refine (HPU.out _).mono ?_); rintro e w1 ⟨rfl, hb⟩; have HB := Lib.hid hb; clear hb)
        · rename_i hq
          rw [strL_list, HEX.out] at hq
          have hne : ¬ (scal V ∧ enc V = l.take 1) := by rintro ⟨_, h⟩; rw [h] at hq; simp at hq
          have hr := HRX.out
          rw [hsl] at hr
          rw [if_neg hne] at hr
          have HR := Lib.hid hr
          clear hr hq hne
          go_ret3
          exact ⟨by rw [hsl, HR.out]; rfl, ((Below.refl _ _).alloc (Nat.le_refl _) _).drew.trans (HB.out.mono (by simp))⟩
        · rename_i hq
          rw [strL_list, HEX.out] at hq
          have hne : (scal V ∧ enc V = l.take 1) := ⟨hs, by simpa using hq⟩
          have hr := HRX.out
          rw [hsl] at hr
          rw [if_pos hne] at hr
          have HR := Lib.hid hr
          clear hr hq hne
          rw [HW.out]
          go_ret3
          exact ⟨by rw [hsl, HR.out]; rfl, ((Below.refl _ _).alloc (Nat.le_refl _) _).drew.trans (HB.out.mono (by simp))⟩
      · have hpu : puR V = .tuple #[.string (str []), .bool false] := by unfold puR; rw [if_neg hs, decide_eq_false hs]
        rw [hpu] at HPU
        clear hpu
        go_wp2_with (go_at_call 49; rw [HW.out]; (with_reducible refine (HPU.out _).mono ?_); rintro e w1 ⟨rfl, hb⟩; have HB := Lib.hid hb; clear hb)
        have hne : ¬ (scal V ∧ enc V = l.take 1) := by rintro ⟨h, _⟩; exact hs h
        have hr := HRX.out
        rw [hsl] at hr
        rw [if_neg hne] at hr
        have HR := Lib.hid hr
        clear hr hne
        go_ret3
        exact ⟨by rw [hsl, HR.out]; rfl, ((Below.refl _ _).alloc (Nat.le_refl _) _).drew.trans (HB.out.mono (by simp))⟩
set_option maxHeartbeats 2000000 in
set_option maxRecDepth 1000000 in
theorem refNext_2 (s : ByteArray) (w : World) (x : UInt8) (h2 : 2 ≤ s.size) (hx : s[0]'(by omega) = x) (hl : lg x.toNat = 2) (hb : 192 ≤ x.toNat ∧ x.toNat - 192 < 128)
    (l : List UInt8) (hsl : s.data.toList = l) (hl0 : (l.getD 0 0) = x) :
    Calls Tryz.prog 40 #[.string s] w fun e w' => e = .returned (nxR (rnx s.data.toList)) ∧ Below w.heap.size w w' := by
  have HL := Lib.hid (fun W => long_u x 2 hl W)
  have d1 : decide ((s.size : Int) < 2) = false := decide_eq_false (by omega)
  have hsz : 0 < s.size := by omega
  have hv1 : wrap64 (wrap64 (x.toNat : Int) - 192) = ((vp l 2 1 : Nat) : Int) := by
    have e : vp l 2 1 = x.toNat - 192 := by unfold vp hd; rw [hl0]; rfl
    rw [e]
    exact first_val _ 192 x.toNat_lt hb.1
  have HV1 := Lib.hid hv1
  have hvl : ∀ k, k ≤ 4 → vp l 2 k < 2 * 64 ^ k := fun k hk => vp_lt l 2 k (by rw [hl0]; exact hb.2) hk
  have HVL := Lib.hid hvl
  have HX := Lib.hid hb
  clear hv1 hvl hb
  go_enter Tryz.func40, Tryz.ntmps40
  go_wp2_with (go_at_call 50; (with_reducible refine (HL.out _).mono ?_); rintro e w1 ⟨rfl, rfl⟩)
  go_region
  rw [HV1.out]
  go_wp2
  go_loop [6, 7] (fun v i => ∃ k : Nat, 1 ≤ k ∧ k ≤ 2 ∧ i = .int .i64 k ∧ v = .int .i64 (vp l 2 k)) (fun _ i => 3 - (RowKit.intOf i).toNat)
  case atStart => exact ⟨1, by omega, by omega, rfl, rfl⟩
  case round =>
    obtain ⟨k, hk1, hk2, rfl, rfl⟩ := hrel
    have hvk := HVL.out k (by omega)
    have h64 : (64 : Nat) ^ k ≤ 64 ^ 4 := Nat.pow_le_pow_right (by omega) (by omega)
    have hvb : vp l 2 k < 33554432 := by omega
    have HVB := Lib.hid hvb
    clear hvk h64 hvb
    by_cases hlt : k < 2
    · obtain ⟨y, hy⟩ : ∃ y, s[k]'(by omega) = y := ⟨_, rfl⟩
      have hyn : vp l 2 (k + 1) = 64 * vp l 2 k + y.toNat % 64 := by
        obtain ⟨j, rfl⟩ : ∃ j, k = j + 1 := ⟨k - 1, by omega⟩
        show 64 * vp l 2 (j + 1) + (l.getD (j + 1) 0).toNat % 64 = _
        rw [getD_at s l hsl (j + 1) (by omega), hy]
      have hst : wrap64 (wrap64 (64 * (vp l 2 k : Int)) + (wrap64 (y.toNat : Int)).tmod 64) = ((vp l 2 (k + 1) : Nat) : Int) := by
        rw [hyn]
        exact st_val _ _ HVB.out y.toNat_lt
      have HST := Lib.hid hst
      clear hst hyn
      go_wp2
      go_round
      case rel => 
        exact ⟨k + 1, by omega, by omega, by go_num, by rw [HST.out]⟩
      case measure => simp [RowKit.intOf]; omega
    · have hkn : k = 2 := by omega
      subst hkn
      clear hlt hk1 hk2
      obtain ⟨V, hV⟩ : ∃ V, vp l 2 2 = V := ⟨_, rfl⟩
      rw [hV] at HVB ⊢
      have HW := Lib.hid (w32_val V HVB.out)
      have HPU := Lib.hid (fun W => refPut_nat V W HVB.out)
      have hlen : 2 ≤ l.length := by rw [← hsl]; simpa using h2
      have hrx := rnx_at (by omega) (by rw [hl0]; exact hl) hlen hV
      have HEX := Lib.hid (ext_take s l hsl 2)
      rw [← hsl] at hrx
      have HRX := Lib.hid hrx
      clear hrx hlen
      by_cases hs : scal V
      · have hpu : puR V = .tuple #[.string (str (enc V)), .bool true] := by unfold puR; rw [if_pos hs, decide_eq_true hs]
        rw [hpu] at HPU
        clear hpu
        go_wp2_with (go_at_call 49; rw [HW.out]; (with_reducible refine (HPU.out _).mono ?_); rintro e w1 ⟨rfl, hb⟩; have HB := Lib.hid hb; clear hb)
        · rename_i hq
          rw [strL_list, HEX.out] at hq
          have hne : ¬ (scal V ∧ enc V = l.take 2) := by rintro ⟨_, h⟩; rw [h] at hq; simp at hq
          have hr := HRX.out
          rw [hsl] at hr
          rw [if_neg hne] at hr
          have HR := Lib.hid hr
          clear hr hq hne
          go_ret3
          exact ⟨by rw [hsl, HR.out]; rfl, ((Below.refl _ _).alloc (Nat.le_refl _) _).drew.trans (HB.out.mono (by simp))⟩
        · rename_i hq
          rw [strL_list, HEX.out] at hq
          have hne : (scal V ∧ enc V = l.take 2) := ⟨hs, by simpa using hq⟩
          have hr := HRX.out
          rw [hsl] at hr
          rw [if_pos hne] at hr
          have HR := Lib.hid hr
          clear hr hq hne
          rw [HW.out]
          go_ret3
          exact ⟨by rw [hsl, HR.out]; rfl, ((Below.refl _ _).alloc (Nat.le_refl _) _).drew.trans (HB.out.mono (by simp))⟩
      · have hpu : puR V = .tuple #[.string (str []), .bool false] := by unfold puR; rw [if_neg hs, decide_eq_false hs]
        rw [hpu] at HPU
        clear hpu
        go_wp2_with (go_at_call 49; rw [HW.out]; (with_reducible refine (HPU.out _).mono ?_); rintro e w1 ⟨rfl, hb⟩; have HB := Lib.hid hb; clear hb)
        have hne : ¬ (scal V ∧ enc V = l.take 2) := by rintro ⟨h, _⟩; exact hs h
        have hr := HRX.out
        rw [hsl] at hr
        rw [if_neg hne] at hr
        have HR := Lib.hid hr
        clear hr hne
        go_ret3
        exact ⟨by rw [hsl, HR.out]; rfl, ((Below.refl _ _).alloc (Nat.le_refl _) _).drew.trans (HB.out.mono (by simp))⟩
set_option maxHeartbeats 2000000 in
set_option maxRecDepth 1000000 in
theorem refNext_3 (s : ByteArray) (w : World) (x : UInt8) (h2 : 3 ≤ s.size) (hx : s[0]'(by omega) = x) (hl : lg x.toNat = 3) (hb : 224 ≤ x.toNat ∧ x.toNat - 224 < 128)
    (l : List UInt8) (hsl : s.data.toList = l) (hl0 : (l.getD 0 0) = x) :
    Calls Tryz.prog 40 #[.string s] w fun e w' => e = .returned (nxR (rnx s.data.toList)) ∧ Below w.heap.size w w' := by
  have HL := Lib.hid (fun W => long_u x 3 hl W)
  have d1 : decide ((s.size : Int) < 3) = false := decide_eq_false (by omega)
  have hsz : 0 < s.size := by omega
  have hv1 : wrap64 (wrap64 (x.toNat : Int) - 224) = ((vp l 3 1 : Nat) : Int) := by
    have e : vp l 3 1 = x.toNat - 224 := by unfold vp hd; rw [hl0]; rfl
    rw [e]
    exact first_val _ 224 x.toNat_lt hb.1
  have HV1 := Lib.hid hv1
  have hvl : ∀ k, k ≤ 4 → vp l 3 k < 2 * 64 ^ k := fun k hk => vp_lt l 3 k (by rw [hl0]; exact hb.2) hk
  have HVL := Lib.hid hvl
  have HX := Lib.hid hb
  clear hv1 hvl hb
  go_enter Tryz.func40, Tryz.ntmps40
  go_wp2_with (go_at_call 50; (with_reducible refine (HL.out _).mono ?_); rintro e w1 ⟨rfl, rfl⟩)
  go_region
  rw [HV1.out]
  go_wp2
  go_loop [6, 7] (fun v i => ∃ k : Nat, 1 ≤ k ∧ k ≤ 3 ∧ i = .int .i64 k ∧ v = .int .i64 (vp l 3 k)) (fun _ i => 4 - (RowKit.intOf i).toNat)
  case atStart => exact ⟨1, by omega, by omega, rfl, rfl⟩
  case round =>
    obtain ⟨k, hk1, hk2, rfl, rfl⟩ := hrel
    have hvk := HVL.out k (by omega)
    have h64 : (64 : Nat) ^ k ≤ 64 ^ 4 := Nat.pow_le_pow_right (by omega) (by omega)
    have hvb : vp l 3 k < 33554432 := by omega
    have HVB := Lib.hid hvb
    clear hvk h64 hvb
    by_cases hlt : k < 3
    · obtain ⟨y, hy⟩ : ∃ y, s[k]'(by omega) = y := ⟨_, rfl⟩
      have hyn : vp l 3 (k + 1) = 64 * vp l 3 k + y.toNat % 64 := by
        obtain ⟨j, rfl⟩ : ∃ j, k = j + 1 := ⟨k - 1, by omega⟩
        show 64 * vp l 3 (j + 1) + (l.getD (j + 1) 0).toNat % 64 = _
        rw [getD_at s l hsl (j + 1) (by omega), hy]
      have hst : wrap64 (wrap64 (64 * (vp l 3 k : Int)) + (wrap64 (y.toNat : Int)).tmod 64) = ((vp l 3 (k + 1) : Nat) : Int) := by
        rw [hyn]
        exact st_val _ _ HVB.out y.toNat_lt
      have HST := Lib.hid hst
      clear hst hyn
      go_wp2
      go_round
      case rel => 
        exact ⟨k + 1, by omega, by omega, by go_num, by rw [HST.out]⟩
      case measure => simp [RowKit.intOf]; omega
    · have hkn : k = 3 := by omega
      subst hkn
      clear hlt hk1 hk2
      obtain ⟨V, hV⟩ : ∃ V, vp l 3 3 = V := ⟨_, rfl⟩
      rw [hV] at HVB ⊢
      have HW := Lib.hid (w32_val V HVB.out)
      have HPU := Lib.hid (fun W => refPut_nat V W HVB.out)
      have hlen : 3 ≤ l.length := by rw [← hsl]; simpa using h2
      have hrx := rnx_at (by omega) (by rw [hl0]; exact hl) hlen hV
      have HEX := Lib.hid (ext_take s l hsl 3)
      rw [← hsl] at hrx
      have HRX := Lib.hid hrx
      clear hrx hlen
      by_cases hs : scal V
      · have hpu : puR V = .tuple #[.string (str (enc V)), .bool true] := by unfold puR; rw [if_pos hs, decide_eq_true hs]
        rw [hpu] at HPU
        clear hpu
        go_wp2_with (go_at_call 49; rw [HW.out]; (with_reducible refine (HPU.out _).mono ?_); rintro e w1 ⟨rfl, hb⟩; have HB := Lib.hid hb; clear hb)
        · rename_i hq
          rw [strL_list, HEX.out] at hq
          have hne : ¬ (scal V ∧ enc V = l.take 3) := by rintro ⟨_, h⟩; rw [h] at hq; simp at hq
          have hr := HRX.out
          rw [hsl] at hr
          rw [if_neg hne] at hr
          have HR := Lib.hid hr
          clear hr hq hne
          go_ret3
          exact ⟨by rw [hsl, HR.out]; rfl, ((Below.refl _ _).alloc (Nat.le_refl _) _).drew.trans (HB.out.mono (by simp))⟩
        · rename_i hq
          rw [strL_list, HEX.out] at hq
          have hne : (scal V ∧ enc V = l.take 3) := ⟨hs, by simpa using hq⟩
          have hr := HRX.out
          rw [hsl] at hr
          rw [if_pos hne] at hr
          have HR := Lib.hid hr
          clear hr hq hne
          rw [HW.out]
          go_ret3
          exact ⟨by rw [hsl, HR.out]; rfl, ((Below.refl _ _).alloc (Nat.le_refl _) _).drew.trans (HB.out.mono (by simp))⟩
      · have hpu : puR V = .tuple #[.string (str []), .bool false] := by unfold puR; rw [if_neg hs, decide_eq_false hs]
        rw [hpu] at HPU
        clear hpu
        go_wp2_with (go_at_call 49; rw [HW.out]; (with_reducible refine (HPU.out _).mono ?_); rintro e w1 ⟨rfl, hb⟩; have HB := Lib.hid hb; clear hb)
        have hne : ¬ (scal V ∧ enc V = l.take 3) := by rintro ⟨h, _⟩; exact hs h
        have hr := HRX.out
        rw [hsl] at hr
        rw [if_neg hne] at hr
        have HR := Lib.hid hr
        clear hr hne
        go_ret3
        exact ⟨by rw [hsl, HR.out]; rfl, ((Below.refl _ _).alloc (Nat.le_refl _) _).drew.trans (HB.out.mono (by simp))⟩
set_option maxHeartbeats 2000000 in
set_option maxRecDepth 1000000 in
theorem refNext_4 (s : ByteArray) (w : World) (x : UInt8) (h2 : 4 ≤ s.size) (hx : s[0]'(by omega) = x) (hl : lg x.toNat = 4) (hb : 240 ≤ x.toNat ∧ x.toNat - 240 < 128)
    (l : List UInt8) (hsl : s.data.toList = l) (hl0 : (l.getD 0 0) = x) :
    Calls Tryz.prog 40 #[.string s] w fun e w' => e = .returned (nxR (rnx s.data.toList)) ∧ Below w.heap.size w w' := by
  have HL := Lib.hid (fun W => long_u x 4 hl W)
  have d1 : decide ((s.size : Int) < 4) = false := decide_eq_false (by omega)
  have hsz : 0 < s.size := by omega
  have hv1 : wrap64 (wrap64 (x.toNat : Int) - 240) = ((vp l 4 1 : Nat) : Int) := by
    have e : vp l 4 1 = x.toNat - 240 := by unfold vp hd; rw [hl0]; rfl
    rw [e]
    exact first_val _ 240 x.toNat_lt hb.1
  have HV1 := Lib.hid hv1
  have hvl : ∀ k, k ≤ 4 → vp l 4 k < 2 * 64 ^ k := fun k hk => vp_lt l 4 k (by rw [hl0]; exact hb.2) hk
  have HVL := Lib.hid hvl
  have HX := Lib.hid hb
  clear hv1 hvl hb
  go_enter Tryz.func40, Tryz.ntmps40
  go_wp2_with (go_at_call 50; (with_reducible refine (HL.out _).mono ?_); rintro e w1 ⟨rfl, rfl⟩)
  go_region
  rw [HV1.out]
  go_wp2
  go_loop [6, 7] (fun v i => ∃ k : Nat, 1 ≤ k ∧ k ≤ 4 ∧ i = .int .i64 k ∧ v = .int .i64 (vp l 4 k)) (fun _ i => 5 - (RowKit.intOf i).toNat)
  case atStart => exact ⟨1, by omega, by omega, rfl, rfl⟩
  case round =>
    obtain ⟨k, hk1, hk2, rfl, rfl⟩ := hrel
    have hvk := HVL.out k (by omega)
    have h64 : (64 : Nat) ^ k ≤ 64 ^ 4 := Nat.pow_le_pow_right (by omega) (by omega)
    have hvb : vp l 4 k < 33554432 := by omega
    have HVB := Lib.hid hvb
    clear hvk h64 hvb
    by_cases hlt : k < 4
    · obtain ⟨y, hy⟩ : ∃ y, s[k]'(by omega) = y := ⟨_, rfl⟩
      have hyn : vp l 4 (k + 1) = 64 * vp l 4 k + y.toNat % 64 := by
        obtain ⟨j, rfl⟩ : ∃ j, k = j + 1 := ⟨k - 1, by omega⟩
        show 64 * vp l 4 (j + 1) + (l.getD (j + 1) 0).toNat % 64 = _
        rw [getD_at s l hsl (j + 1) (by omega), hy]
      have hst : wrap64 (wrap64 (64 * (vp l 4 k : Int)) + (wrap64 (y.toNat : Int)).tmod 64) = ((vp l 4 (k + 1) : Nat) : Int) := by
        rw [hyn]
        exact st_val _ _ HVB.out y.toNat_lt
      have HST := Lib.hid hst
      clear hst hyn
      go_wp2
      go_round
      case rel => 
        exact ⟨k + 1, by omega, by omega, by go_num, by rw [HST.out]⟩
      case measure => simp [RowKit.intOf]; omega
    · have hkn : k = 4 := by omega
      subst hkn
      clear hlt hk1 hk2
      obtain ⟨V, hV⟩ : ∃ V, vp l 4 4 = V := ⟨_, rfl⟩
      rw [hV] at HVB ⊢
      have HW := Lib.hid (w32_val V HVB.out)
      have HPU := Lib.hid (fun W => refPut_nat V W HVB.out)
      have hlen : 4 ≤ l.length := by rw [← hsl]; simpa using h2
      have hrx := rnx_at (by omega) (by rw [hl0]; exact hl) hlen hV
      have HEX := Lib.hid (ext_take s l hsl 4)
      rw [← hsl] at hrx
      have HRX := Lib.hid hrx
      clear hrx hlen
      by_cases hs : scal V
      · have hpu : puR V = .tuple #[.string (str (enc V)), .bool true] := by unfold puR; rw [if_pos hs, decide_eq_true hs]
        rw [hpu] at HPU
        clear hpu
        go_wp2_with (go_at_call 49; rw [HW.out]; (with_reducible refine (HPU.out _).mono ?_); rintro e w1 ⟨rfl, hb⟩; have HB := Lib.hid hb; clear hb)
        · rename_i hq
          rw [strL_list, HEX.out] at hq
          have hne : ¬ (scal V ∧ enc V = l.take 4) := by rintro ⟨_, h⟩; rw [h] at hq; simp at hq
          have hr := HRX.out
          rw [hsl] at hr
          rw [if_neg hne] at hr
          have HR := Lib.hid hr
          clear hr hq hne
          go_ret3
          exact ⟨by rw [hsl, HR.out]; rfl, ((Below.refl _ _).alloc (Nat.le_refl _) _).drew.trans (HB.out.mono (by simp))⟩
        · rename_i hq
          rw [strL_list, HEX.out] at hq
          have hne : (scal V ∧ enc V = l.take 4) := ⟨hs, by simpa using hq⟩
          have hr := HRX.out
          rw [hsl] at hr
          rw [if_pos hne] at hr
          have HR := Lib.hid hr
          clear hr hq hne
          rw [HW.out]
          go_ret3
          exact ⟨by rw [hsl, HR.out]; rfl, ((Below.refl _ _).alloc (Nat.le_refl _) _).drew.trans (HB.out.mono (by simp))⟩
      · have hpu : puR V = .tuple #[.string (str []), .bool false] := by unfold puR; rw [if_neg hs, decide_eq_false hs]
        rw [hpu] at HPU
        clear hpu
        go_wp2_with (go_at_call 49; rw [HW.out]; (with_reducible refine (HPU.out _).mono ?_); rintro e w1 ⟨rfl, hb⟩; have HB := Lib.hid hb; clear hb)
        have hne : ¬ (scal V ∧ enc V = l.take 4) := by rintro ⟨h, _⟩; exact hs h
        have hr := HRX.out
        rw [hsl] at hr
        rw [if_neg hne] at hr
        have HR := Lib.hid hr
        clear hr hne
        go_ret3
        exact ⟨by rw [hsl, HR.out]; rfl, ((Below.refl _ _).alloc (Nat.le_refl _) _).drew.trans (HB.out.mono (by simp))⟩
set_option maxHeartbeats 2000000 in
set_option maxRecDepth 1000000 in
theorem refNext_any (s : ByteArray) (w : World) :
    Calls Tryz.prog 40 #[.string s] w fun e w' => e = .returned (nxR (nx s.data.toList)) ∧ Below w.heap.size w w' := by
  rw [← rnx_nx]
  by_cases h0 : s.size = 0
  · have hl : s.data.toList = [] := by
      have : s.data.toList.length = 0 := by simpa using h0
      exact List.length_eq_zero_iff.mp this
    have hr : rnx s.data.toList = (0, 0, false) := by rw [hl]; rfl
    have HR := Lib.hid hr
    clear hr hl
    go_enter Tryz.func40, Tryz.ntmps40
    go_wp2
    go_ret3
    exact ⟨by rw [HR.out]; rfl, Below.refl _ _⟩
  have hp : 0 < s.size := by omega
  obtain ⟨x, hx⟩ : ∃ x, s[0]'hp = x := ⟨_, rfl⟩
  obtain ⟨l, hsl⟩ : ∃ l, s.data.toList = l := ⟨_, rfl⟩
  have hl0 := size_pos_hd s x l hsl hp hx
  obtain ⟨n, hn⟩ : ∃ n, lg x.toNat = n := ⟨_, rfl⟩
  have hxl := x.toNat_lt
  have hlen : l.length = s.size := by rw [← hsl]; simp
  by_cases hbad : n = 0 ∨ s.size < n
  · have hr : rnx l = (0, 0, false) := by
      unfold rnx
      rw [if_neg (by intro h; subst h; simp at hlen; omega), hl0, hn, if_pos (by rw [hlen]; exact hbad)]
    have HR := Lib.hid hr
    have HL := Lib.hid (fun W => long_u x n hn W)
    have HSL := Lib.hid hsl
    clear hr hlen hn hl0 hsl hxl
    by_cases hn0 : n = 0
    · subst hn0
      clear hbad h0
      go_enter Tryz.func40, Tryz.ntmps40
      go_wp2_with (go_at_call 50; (with_reducible refine (HL.out _).mono ?_); rintro e w1 ⟨rfl, rfl⟩)
      go_ret3
      exact ⟨by rw [HSL.out, HR.out]; rfl, Below.refl _ _⟩
    · have hlt : s.size < n := by omega
      have d1 : decide ((s.size : Int) < (n : Int)) = true := decide_eq_true (by omega)
      have d2 : ((n : Int) == 0) = false := by simp; omega
      clear hbad h0 d1 hn0
      go_enter Tryz.func40, Tryz.ntmps40
      go_wp2_with (go_at_call 50; (with_reducible refine (HL.out _).mono ?_); rintro e w1 ⟨rfl, rfl⟩)
      go_ret3
      exact ⟨by rw [HSL.out, HR.out]; rfl, Below.refl _ _⟩
  have hg := lg_rng hn hxl
  rcases hg with h | ⟨h, h1⟩ | ⟨h, h1⟩ | ⟨h, h1⟩ | ⟨h, h1⟩
  · omega
  · subst h; exact refNext_1 s w x (by omega) hx hn (by omega) l hsl hl0
  · subst h; exact refNext_2 s w x (by omega) hx hn (by omega) l hsl hl0
  · subst h; exact refNext_3 s w x (by omega) hx hn (by omega) l hsl hl0
  · subst h; exact refNext_4 s w x (by omega) hx hn (by omega) l hsl hl0
end Go.Proofs.YtodmlgbomhmbpaaGreatDoor
