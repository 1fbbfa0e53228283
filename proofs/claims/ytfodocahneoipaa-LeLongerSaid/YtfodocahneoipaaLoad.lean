/-
  What is proved here: contracts of le.Load and le.LoadInt: their results are those that the specification of layer 1 gives; condition: the slice has at most 60000 bytes.
-/
import Derived.Test.YtfodocahneoipaaCode
namespace Go.Proofs.Ytfodocahneoipaa
open Go.RowKit Le

theorem load1_any (v : Value) (xs : List UInt8) (g : Nat) (y : Value) (w : World) (h : Rd w v xs) (h0 : 0 < xs.length) (h8 : xs.length ≤ 8) (hc : w.cell? ⟨g, 0, none⟩ = some y) (hf : w.frozen? ⟨g, 0, none⟩ = false) :
    Calls Try.prog 26 #[v, .pointer (some ⟨g, 0, none⟩)] w fun e w' => e = .returned (.int .i64 0) ∧ w.setCell ⟨g, 0, none⟩ (.int .u64 ((dec xs : Nat) : Int)) = w' := by
  have H := Lib.hid h
  clear h
  go_enter Try.func26, Try.ntmps26
  go_wp2_with (go_at_call 27; refine (decode_any v xs _ H.out h0 h8).mono ?_; rintro e w' ⟨rfl, rfl⟩)
  go_ret
  exact ⟨rfl, rfl⟩

theorem loadInt1_any (v : Value) (xs : List UInt8) (g : Nat) (y : Value) (w : World) (A : Option Addr) (n c : Nat) (hv : v = .slice A n c) (h : Rds w A n c xs) (hw : isW (n : Int) = true) (h8 : n ≤ 8) (h0 : 0 < n) (hc : w.cell? ⟨g, 0, none⟩ = some y) (hf : w.frozen? ⟨g, 0, none⟩ = false) :
    Calls Try.prog 29 #[v, .pointer (some ⟨g, 0, none⟩)] w fun e w' => e = .returned (.int .i64 0) ∧ w.setCell ⟨g, 0, none⟩ (.int .i64 (sgn n ((dec xs : Nat) : Int))) = w' := by
  subst hv
  have hlt : ((dec xs : Nat) : Int) < pw n := by
    rw [pw_eq hw]
    have := dec_lt xs
    rw [h.1] at this
    exact Int.ofNat_lt.2 (by simpa using this)
  have H := Lib.hid h
  have HW := Lib.hid hw
  have HL := Lib.hid hlt
  clear h hw hlt
  go_enter Try.func29, Try.ntmps29
  go_wp2_with (first
    | (go_at_call 27; refine (decode_any _ xs _ ⟨A, n, c, rfl, H.out⟩ (by rw [H.out.1]; exact h0) (by rw [H.out.1]; exact h8)).mono ?_; rintro e w' ⟨rfl, rfl⟩)
    | (go_at_call 30; refine (signed_any _ _ _ HW.out (by omega) HL.out).mono ?_; rintro e w' ⟨rfl, rfl⟩))
  go_ret
  exact ⟨rfl, rfl⟩

theorem load_bad (v : Value) (xs : List UInt8) (at' x : Int) (w : World) (h : isW x = false) :
    Calls Try.prog 11 #[v, .int .i64 at', .int .i64 x] w fun e w' => e = .returned (.tuple #[.int .u64 (loadU xs at' x), .int .i64 (lookE xs.length at' x)]) ∧ Below w.heap.size w w' := by
  have e1 : loadU xs at' x = 0 := by rw [loadU, look2_of h]; rfl
  rw [look2_of h, e1]
  have H := Lib.hid h
  clear h e1
  go_enter Try.func11, Try.ntmps11
  go_wp2_with (first
    | (go_at_call 33; refine (isWidth_any _ _).mono ?_; rintro e w' ⟨rfl, rfl⟩; rw [H.out])
    | go_in)
  go_ret2
  exact ⟨rfl, (Below.refl _ _).alloc (Nat.le_refl _) _⟩

theorem load_far (A : Option Addr) (n c : Nat) (xs : List UInt8) (at' x : Int) (w : World) (hr : Rds w A n c xs) (hn : n ≤ 60000) (h : isW x = true) (h6 : at' < 0 ∨ (n : Int) - x < at') :
    Calls Try.prog 11 #[.slice A n c, .int .i64 at', .int .i64 x] w fun e w' => e = .returned (.tuple #[.int .u64 (loadU xs at' x), .int .i64 (lookE xs.length at' x)]) ∧ Below w.heap.size w w' := by
  have e2 : lookE xs.length at' x = 6 := look6_of h (by rw [hr.1]; exact h6)
  have e1 : loadU xs at' x = 0 := by rw [loadU, e2]; rfl
  rw [e2, e1]
  have hx : 1 ≤ x ∧ x ≤ 8 := by rcases isW_iff.1 h with rfl | rfl | rfl | rfl <;> decide
  have H := Lib.hid h
  clear h e1 e2 hr
  by_cases h0 : at' < 0
  · go_enter Try.func11, Try.ntmps11
    go_wp2_with (first
      | (go_at_call 33; refine (isWidth_any _ _).mono ?_; rintro e w' ⟨rfl, rfl⟩; rw [H.out])
      | go_in)
    go_ret2
    exact ⟨rfl, (Below.refl _ _).alloc (Nat.le_refl _) _⟩
  · have h7 : (n : Int) - x < at' := by omega
    have h0' : 0 ≤ at' := by omega
    clear h6
    go_enter Try.func11, Try.ntmps11
    go_wp2_with (first
      | (go_at_call 33; refine (isWidth_any _ _).mono ?_; rintro e w' ⟨rfl, rfl⟩; rw [H.out])
      | go_in)
    go_ret2
    exact ⟨rfl, (Below.refl _ _).alloc (Nat.le_refl _) _⟩

theorem cut_len {w : World} {A : Option Addr} {n c a m : Nat} {xs : List UInt8} (hr : Rds w A n c xs) (ham : a + m ≤ n) : ((xs.drop a).take m).length = m := by
  rw [List.length_take, List.length_drop, hr.1]; omega

theorem load_in (b off n c a m : Nat) (xs : List UInt8) (w : World) (hr : Rds w (some ⟨b, off, none⟩) n c xs) (hn : n ≤ 60000) (h : isW (m : Int) = true) (ham : a + m ≤ n) :
    Calls Try.prog 11 #[.slice (some ⟨b, off, none⟩) n c, .int .i64 (a : Int), .int .i64 (m : Int)] w fun e w' => e = .returned (.tuple #[.int .u64 (loadU xs a m), .int .i64 (lookE xs.length a m)]) ∧ Below w.heap.size w w' := by
  have e2 : lookE xs.length a m = 0 := look0_of h (by omega) (by rw [hr.1]; omega)
  have e1 : loadU xs a m = (dec ((xs.drop a).take m) : Nat) := by rw [loadU, e2, seg_nat]; rfl
  rw [e2, e1]
  have hm : 1 ≤ m ∧ m ≤ 8 := isW_nat h
  have hc := hr.2.1
  have H := Lib.hid h
  have HR := Lib.hid hr
  have HL := Lib.hid (cut_len hr ham)
  clear h e1 e2 hr
  go_enter Try.func11, Try.ntmps11
  go_wp2_with (first
    | (go_at_call 33; refine (isWidth_any _ _).mono ?_; rintro e w' ⟨rfl, rfl⟩; rw [H.out])
    | (go_at_call 26; refine (load1_any _ ((xs.drop a).take m) _ (.int .u64 0) _ ⟨_, _, _, rfl, (HR.out.cut (lo := a) (m := m) ham (by omega)).alloc _⟩ (by rw [HL.out]; omega) (by rw [HL.out]; omega) (by simp) (by simp)).mono ?_; rintro e w' ⟨rfl, rfl⟩)
    | (go_at_call 25; go_in))
  go_ret2
  exact ⟨rfl, (Below.refl _ _).alloc (Nat.le_refl _) _⟩

theorem load_any (v : Value) (xs : List UInt8) (at' x : Int) (w : World) (h : Rd w v xs) (hn : xs.length ≤ 60000) :
    Calls Try.prog 11 #[v, .int .i64 at', .int .i64 x] w fun e w' => e = .returned (.tuple #[.int .u64 (loadU xs at' x), .int .i64 (lookE xs.length at' x)]) ∧ Below w.heap.size w w' := by
  obtain ⟨A, n, c, rfl, hr⟩ := h
  rw [hr.1] at hn
  rcases look_cases n at' x with h2 | ⟨h1, h6⟩ | ⟨h1, h0, hle⟩
  · exact load_bad _ xs at' x w h2
  · exact load_far A n c xs at' x w hr hn h1 h6
  · have hx := isW_bd h1
    obtain ⟨a, rfl⟩ := Int.eq_ofNat_of_zero_le h0
    obtain ⟨m, rfl⟩ := Int.eq_ofNat_of_zero_le (show 0 ≤ x by omega)
    obtain ⟨b, off, rfl, _⟩ := hr.2.2 (by omega)
    exact load_in b off n c a m xs w hr hn h1 (by omega)

theorem loadInt_bad (v : Value) (xs : List UInt8) (at' x : Int) (w : World) (h : isW x = false) :
    Calls Try.prog 13 #[v, .int .i64 at', .int .i64 x] w fun e w' => e = .returned (.tuple #[.int .i64 (loadI xs at' x), .int .i64 (lookE xs.length at' x)]) ∧ Below w.heap.size w w' := by
  have e1 : loadI xs at' x = 0 := by rw [loadI, look2_of h]; rfl
  rw [look2_of h, e1]
  have H := Lib.hid h
  clear h e1
  go_enter Try.func13, Try.ntmps13
  go_wp2_with (first
    | (go_at_call 33; refine (isWidth_any _ _).mono ?_; rintro e w' ⟨rfl, rfl⟩; rw [H.out])
    | go_in)
  go_ret2
  exact ⟨rfl, (Below.refl _ _).alloc (Nat.le_refl _) _⟩

theorem loadInt_far (A : Option Addr) (n c : Nat) (xs : List UInt8) (at' x : Int) (w : World) (hr : Rds w A n c xs) (hn : n ≤ 60000) (h : isW x = true) (h6 : at' < 0 ∨ (n : Int) - x < at') :
    Calls Try.prog 13 #[.slice A n c, .int .i64 at', .int .i64 x] w fun e w' => e = .returned (.tuple #[.int .i64 (loadI xs at' x), .int .i64 (lookE xs.length at' x)]) ∧ Below w.heap.size w w' := by
  have e2 : lookE xs.length at' x = 6 := look6_of h (by rw [hr.1]; exact h6)
  have e1 : loadI xs at' x = 0 := by rw [loadI, e2]; rfl
  rw [e2, e1]
  have hx : 1 ≤ x ∧ x ≤ 8 := isW_bd h
  have H := Lib.hid h
  clear h e1 e2 hr
  by_cases h0 : at' < 0
  · go_enter Try.func13, Try.ntmps13
    go_wp2_with (first
      | (go_at_call 33; refine (isWidth_any _ _).mono ?_; rintro e w' ⟨rfl, rfl⟩; rw [H.out])
      | go_in)
    go_ret2
    exact ⟨rfl, (Below.refl _ _).alloc (Nat.le_refl _) _⟩
  · have h7 : (n : Int) - x < at' := by omega
    have h0' : 0 ≤ at' := by omega
    clear h6
    go_enter Try.func13, Try.ntmps13
    go_wp2_with (first
      | (go_at_call 33; refine (isWidth_any _ _).mono ?_; rintro e w' ⟨rfl, rfl⟩; rw [H.out])
      | go_in)
    go_ret2
    exact ⟨rfl, (Below.refl _ _).alloc (Nat.le_refl _) _⟩

theorem loadInt_in (b off n c a m : Nat) (xs : List UInt8) (w : World) (hr : Rds w (some ⟨b, off, none⟩) n c xs) (hn : n ≤ 60000) (h : isW (m : Int) = true) (ham : a + m ≤ n) :
    Calls Try.prog 13 #[.slice (some ⟨b, off, none⟩) n c, .int .i64 (a : Int), .int .i64 (m : Int)] w fun e w' => e = .returned (.tuple #[.int .i64 (loadI xs a m), .int .i64 (lookE xs.length a m)]) ∧ Below w.heap.size w w' := by
  have e2 : lookE xs.length a m = 0 := look0_of h (by omega) (by rw [hr.1]; omega)
  have e1 : loadI xs a m = sgn m (dec ((xs.drop a).take m) : Nat) := by rw [loadI, e2, seg_nat]; rfl
  rw [e2, e1]
  have hm : 1 ≤ m ∧ m ≤ 8 := isW_nat h
  have hc := hr.2.1
  have H := Lib.hid h
  have HR := Lib.hid hr
  clear h e1 e2 hr
  go_enter Try.func13, Try.ntmps13
  go_wp2_with (first
    | (go_at_call 33; refine (isWidth_any _ _).mono ?_; rintro e w' ⟨rfl, rfl⟩; rw [H.out])
    | (go_at_call 29; refine (loadInt1_any _ ((xs.drop a).take m) _ (.int .i64 0) _ _ _ _ rfl ((HR.out.cut (lo := a) (m := m) ham (by omega)).alloc _) H.out (by omega) (by omega) (by simp) (by simp)).mono ?_; rintro e w' ⟨rfl, rfl⟩)
    | (go_at_call 25; go_in))
  go_ret2
  exact ⟨rfl, (Below.refl _ _).alloc (Nat.le_refl _) _⟩

theorem loadInt_any (v : Value) (xs : List UInt8) (at' x : Int) (w : World) (h : Rd w v xs) (hn : xs.length ≤ 60000) :
    Calls Try.prog 13 #[v, .int .i64 at', .int .i64 x] w fun e w' => e = .returned (.tuple #[.int .i64 (loadI xs at' x), .int .i64 (lookE xs.length at' x)]) ∧ Below w.heap.size w w' := by
  obtain ⟨A, n, c, rfl, hr⟩ := h
  rw [hr.1] at hn
  rcases look_cases n at' x with h2 | ⟨h1, h6⟩ | ⟨h1, h0, hle⟩
  · exact loadInt_bad _ xs at' x w h2
  · exact loadInt_far A n c xs at' x w hr hn h1 h6
  · have hx := isW_bd h1
    obtain ⟨a, rfl⟩ := Int.eq_ofNat_of_zero_le h0
    obtain ⟨m, rfl⟩ := Int.eq_ofNat_of_zero_le (show 0 ≤ x by omega)
    obtain ⟨b, off, rfl, _⟩ := hr.2.2 (by omega)
    exact loadInt_in b off n c a m xs w hr hn h1 (by omega)
end Go.Proofs.Ytfodocahneoipaa
