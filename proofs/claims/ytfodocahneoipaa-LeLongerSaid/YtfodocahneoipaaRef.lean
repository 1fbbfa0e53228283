/-
  What is proved here: contracts of the reference implementation of layer 1 (Load, LoadInt): its results are those that the specification gives; condition: the slice has at most 60000 bytes.
-/
import Derived.Test.YtfodocahneoipaaWorks
namespace Go.Proofs.Ytfodocahneoipaa
open Go.RowKit Le

theorem look_any (A : Option Addr) (n c : Nat) (at' x : Int) (w : World) (hn : n ≤ 60000) :
    Calls Try.prog 28 #[.slice A n c, .int .i64 at', .int .i64 x] w fun e w' => e = .returned (.int .i64 (lookE n at' x)) ∧ w = w' := by
  rcases look_cases n at' x with h | ⟨h, h6⟩ | ⟨h, h0, h1⟩
  · rw [look2_of h]
    have H := Lib.hid h
    clear h
    go_enter Try.func28, Try.ntmps28
    go_wp2_with (go_at_call 36; refine (wide_any _ _).mono ?_; rintro e w' ⟨rfl, rfl⟩; rw [H.out])
    go_ret
    exact ⟨rfl, rfl⟩
  · rw [look6_of h h6]
    have hx := isW_bd h
    have H := Lib.hid h
    clear h
    by_cases h0 : at' < 0
    · have d0 : decide (at' < 0) = true := by simpa using h0
      clear h6
      go_enter Try.func28, Try.ntmps28
      go_wp2_with (go_at_call 36; refine (wide_any _ _).mono ?_; rintro e w' ⟨rfl, rfl⟩; rw [H.out])
      go_ret
      exact ⟨rfl, rfl⟩
    · have d0 : decide (at' < 0) = false := by simpa using h0
      have h0' : 0 ≤ at' := by omega
      by_cases h7 : (n : Int) < x
      · have d1 : decide ((n : Int) < x) = true := by simpa using h7
        clear h6
        go_enter Try.func28, Try.ntmps28
        go_wp2_with (go_at_call 36; refine (wide_any _ _).mono ?_; rintro e w' ⟨rfl, rfl⟩; rw [H.out])
        go_ret
        exact ⟨rfl, rfl⟩
      · have d1 : decide ((n : Int) < x) = false := by simpa using h7
        have d2 : decide ((n : Int) - x < at') = true := by simp; omega
        clear h6
        go_enter Try.func28, Try.ntmps28
        go_wp2_with (go_at_call 36; refine (wide_any _ _).mono ?_; rintro e w' ⟨rfl, rfl⟩; rw [H.out])
        go_ret
        exact ⟨rfl, rfl⟩
  · rw [look0_of h h0 h1]
    have hx := isW_bd h
    have H := Lib.hid h
    have d0 : decide (at' < 0) = false := by simp; omega
    have d1 : decide ((n : Int) < x) = false := by simp; omega
    have d2 : decide ((n : Int) - x < at') = false := by simp; omega
    clear h
    go_enter Try.func28, Try.ntmps28
    go_wp2_with (go_at_call 36; refine (wide_any _ _).mono ?_; rintro e w' ⟨rfl, rfl⟩; rw [H.out])
    go_ret
    exact ⟨rfl, rfl⟩

theorem rload_no (A : Option Addr) (n c : Nat) (xs : List UInt8) (at' x : Int) (w : World) (hr : Rds w A n c xs) (hn : n ≤ 60000) (he : ¬ lookE n at' x = 0) :
    Calls Try.prog 12 #[.slice A n c, .int .i64 at', .int .i64 x] w fun e w' => e = .returned (.tuple #[.int .u64 (loadU xs at' x), .int .i64 (lookE xs.length at' x)]) ∧ w = w' := by
  have e1 : loadU xs at' x = 0 := by rw [loadU, hr.1, if_neg he]
  rw [e1, hr.1]
  have hl := look_any A n c at' x w hn
  obtain ⟨er, her⟩ : ∃ er, lookE n at' x = er := ⟨_, rfl⟩
  rw [her] at he hl ⊢
  have hb : (er != 0) = true := by simpa using he
  have hb' : (er == 0) = false := by simpa using he
  have HL := Lib.hid hl
  clear hl her e1 hr he
  go_enter Try.func12, Try.ntmps12
  go_wp2_with (go_at_call 28; refine HL.out.mono ?_; rintro e w' ⟨rfl, rfl⟩)
  go_ret2
  exact ⟨rfl, rfl⟩

theorem rload_in (b off n c a m : Nat) (xs : List UInt8) (w : World) (hr : Rds w (some ⟨b, off, none⟩) n c xs) (hn : n ≤ 60000) (h : isW (m : Int) = true) (ham : a + m ≤ n) :
    Calls Try.prog 12 #[.slice (some ⟨b, off, none⟩) n c, .int .i64 (a : Int), .int .i64 (m : Int)] w fun e w' => e = .returned (.tuple #[.int .u64 (loadU xs a m), .int .i64 (lookE xs.length a m)]) ∧ w = w' := by
  have e2 : lookE n a m = 0 := look0_of h (by omega) (by omega)
  have e1 : loadU xs a m = (dec ((xs.drop a).take m) : Nat) := by rw [loadU, hr.1, e2, seg_nat]; rfl
  rw [hr.1, e2, e1]
  have hm : 1 ≤ m ∧ m ≤ 8 := isW_nat h
  have hl := look_any (some ⟨b, off, none⟩) n c a m w hn
  rw [e2] at hl
  have hcut := hr.cut (lo := a) (m := m) (c' := m) ham (Nat.le_refl _)
  obtain ⟨ys, hys⟩ : ∃ ys, (xs.drop a).take m = ys := ⟨_, rfl⟩
  rw [hys] at hcut ⊢
  have hcell : ∀ j x, ys[j]? = some x → w.cell? ⟨b, off + a + j, none⟩ = some (.int .u8 (x.toNat : Int)) := by
    obtain ⟨b', off', he, _, hc⟩ := hcut.2.2 (by omega)
    simp only [Option.some.injEq, Addr.mk.injEq, and_true] at he
    obtain ⟨rfl, rfl⟩ := he
    exact hc
  have HC := Lib.hid hcell
  have HY := Lib.hid hcut.1
  have HL := Lib.hid hl
  clear hl h e1 e2 hr hcut hys hcell
  go_enter Try.func12, Try.ntmps12
  go_wp2_with (go_at_call 28; refine HL.out.mono ?_; rintro e w' ⟨rfl, rfl⟩)
  go_loop [9, 10] (fun u i => ∃ k d : Nat, k ≤ m ∧ i = .int .i64 ((k : Int) - 1) ∧ u = .int .u64 d ∧ Hid (d = dec (ys.drop k))) (fun _ i => (intOf i + 1).toNat)
  case atStart => exact ⟨m, 0, Nat.le_refl _, rfl, rfl, by show 0 = _; rw [List.drop_eq_nil_of_le (by rw [HY.out]; exact Nat.le_refl _)]; rfl⟩
  case round =>
    obtain ⟨k, d, hk, rfl, rfl, HD⟩ := hrel
    rcases k with _ | j
    · go_wp2
      go_ret2
      have hd := HD.out
      rw [List.drop_zero] at hd
      subst hd
      exact ⟨rfl, rfl⟩
    · obtain ⟨x, hx⟩ : ∃ x, ys[j]? = some x := ⟨_, List.getElem?_eq_getElem (by rw [HY.out]; omega)⟩
      have hc := HC.out j x hx
      rw [Nat.add_assoc] at hc
      have hx256 : (x.toNat : Int) ≤ 255 := by have := x.toNat_lt; omega
      have hdlt : (d : Int) ≤ 72057594037927935 := by
        have h1 := dec_lt (ys.drop (j + 1))
        rw [← HD.out, List.length_drop, HY.out] at h1
        have h2 : 256 ^ (m - (j + 1)) ≤ 256 ^ 7 := Nat.pow_le_pow_right (by decide) (by omega)
        have h3 : (256 : Nat) ^ 7 = 72057594037927936 := by decide
        omega
      have HX := Lib.hid hx
      clear hx
      go_wp2
      go_round
      case rel =>
        have e : ys.drop j = x :: ys.drop (j + 1) := by
          have hj : j < ys.length := by rw [HY.out]; omega
          rw [List.drop_eq_getElem_cons hj]
          have := HX.out
          rw [List.getElem?_eq_getElem hj] at this
          injection this with this
          rw [this]
        refine ⟨j, 256 * d + x.toNat, by omega, by go_num, by go_num, ?_⟩
        show 256 * d + x.toNat = dec (ys.drop j)
        rw [e, dec, ← HD.out]
        omega
      case measure => simp [intOf]

theorem rload_any (v : Value) (xs : List UInt8) (at' x : Int) (w : World) (h : Rd w v xs) (hn : xs.length ≤ 60000) :
    Calls Try.prog 12 #[v, .int .i64 at', .int .i64 x] w fun e w' => e = .returned (.tuple #[.int .u64 (loadU xs at' x), .int .i64 (lookE xs.length at' x)]) ∧ w = w' := by
  obtain ⟨A, n, c, rfl, hr⟩ := h
  rw [hr.1] at hn
  rcases look_cases n at' x with h2 | ⟨h1, h6⟩ | ⟨h1, h0, hle⟩
  · exact rload_no A n c xs at' x w hr hn (by rw [look2_of h2]; decide)
  · exact rload_no A n c xs at' x w hr hn (by rw [look6_of h1 h6]; decide)
  · have hx := isW_bd h1
    obtain ⟨a, rfl⟩ := Int.eq_ofNat_of_zero_le h0
    obtain ⟨m, rfl⟩ := Int.eq_ofNat_of_zero_le (show 0 ≤ x by omega)
    obtain ⟨b, off, rfl, _⟩ := hr.2.2 (by omega)
    exact rload_in b off n c a m xs w hr hn h1 (by omega)

theorem loadU_bd {xs : List UInt8} {at' x : Int} (h : lookE xs.length at' x = 0) : 0 ≤ loadU xs at' x ∧ loadU xs at' x < pw x := by
  obtain ⟨h1, h0, hle⟩ := look0 h
  rw [loadU, if_pos h]
  exact ⟨by omega, seg_lt h1 h0 hle⟩
theorem loadI_eq {xs : List UInt8} {at' x : Int} (h : lookE xs.length at' x = 0) : loadI xs at' x = sgn x (loadU xs at' x) := by
  rw [loadI, loadU, if_pos h, if_pos h]

theorem rloadInt_any (v : Value) (xs : List UInt8) (at' x : Int) (w : World) (h : Rd w v xs) (hn : xs.length ≤ 60000) :
    Calls Try.prog 14 #[v, .int .i64 at', .int .i64 x] w fun e w' => e = .returned (.tuple #[.int .i64 (loadI xs at' x), .int .i64 (lookE xs.length at' x)]) ∧ w = w' := by
  have hl := rload_any v xs at' x w h hn
  by_cases he : lookE xs.length at' x = 0
  · obtain ⟨h1, _, _⟩ := look0 he
    obtain ⟨u0, u1⟩ := loadU_bd he
    rw [loadI_eq he]
    rw [he] at hl ⊢
    obtain ⟨U, hU⟩ : ∃ U, loadU xs at' x = U := ⟨_, rfl⟩
    rw [hU] at hl u0 u1 ⊢
    have HL := Lib.hid hl
    clear hl he hU h
    rcases isW_iff.1 h1 with rfl | rfl | rfl | rfl
    · rw [pw1] at u1
      by_cases hs : U < 128
      · rw [sgn_lo (by rw [pw1]; omega)]
        go_enter Try.func14, Try.ntmps14
        go_wp2_with (go_at_call 12; refine HL.out.mono ?_; rintro e w' ⟨rfl, rfl⟩)
        go_ret2
        exact ⟨rfl, rfl⟩
      · rw [sgn_hi (by rw [pw1]; omega), pw1]
        go_enter Try.func14, Try.ntmps14
        go_wp2_with (go_at_call 12; refine HL.out.mono ?_; rintro e w' ⟨rfl, rfl⟩)
        go_ret2
        exact ⟨rfl, rfl⟩
    · rw [pw2] at u1
      by_cases hs : U < 32768
      · rw [sgn_lo (by rw [pw2]; omega)]
        go_enter Try.func14, Try.ntmps14
        go_wp2_with (go_at_call 12; refine HL.out.mono ?_; rintro e w' ⟨rfl, rfl⟩)
        go_ret2
        exact ⟨rfl, rfl⟩
      · rw [sgn_hi (by rw [pw2]; omega), pw2]
        go_enter Try.func14, Try.ntmps14
        go_wp2_with (go_at_call 12; refine HL.out.mono ?_; rintro e w' ⟨rfl, rfl⟩)
        go_ret2
        exact ⟨rfl, rfl⟩
    · rw [pw4] at u1
      by_cases hs : U < 2147483648
      · rw [sgn_lo (by rw [pw4]; omega)]
        go_enter Try.func14, Try.ntmps14
        go_wp2_with (go_at_call 12; refine HL.out.mono ?_; rintro e w' ⟨rfl, rfl⟩)
        go_ret2
        exact ⟨rfl, rfl⟩
      · rw [sgn_hi (by rw [pw4]; omega), pw4]
        go_enter Try.func14, Try.ntmps14
        go_wp2_with (go_at_call 12; refine HL.out.mono ?_; rintro e w' ⟨rfl, rfl⟩)
        go_ret2
        exact ⟨rfl, rfl⟩
    · rw [pw8] at u1
      have HS := Lib.hid (sgn_8 u0 u1)
      have hw : wrap64 U = sgn 8 U := by rw [wrap64]; exact HS.out
      have HW := Lib.hid hw
      clear hw
      have HU1 := Lib.hid u1
      clear u1
      go_enter Try.func14, Try.ntmps14
      go_wp2_with (go_at_call 12; refine HL.out.mono ?_; rintro e w' ⟨rfl, rfl⟩)
      go_ret2
      rw [← HW.out]
      exact ⟨rfl, rfl⟩
  · have e1 : loadI xs at' x = 0 := by rw [loadI, if_neg he]
    rw [e1]
    obtain ⟨er, her⟩ : ∃ er, lookE xs.length at' x = er := ⟨_, rfl⟩
    rw [her] at he hl ⊢
    have hb : (er != 0) = true := by simpa using he
    have hb' : (er == 0) = false := by simpa using he
    have HL := Lib.hid hl
    clear hl her e1 h he
    go_enter Try.func14, Try.ntmps14
    go_wp2_with (go_at_call 12; refine HL.out.mono ?_; rintro e w' ⟨rfl, rfl⟩)
    go_ret2
    exact ⟨rfl, rfl⟩
end Go.Proofs.Ytfodocahneoipaa
