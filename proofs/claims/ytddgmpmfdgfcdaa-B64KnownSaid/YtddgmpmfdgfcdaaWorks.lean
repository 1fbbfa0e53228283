/-
  What is proved here: contracts of the laws' helpers cut, got, fails and works and of accordionref00.Short and Bring; conditions: those that each fact states.
-/
import Derived.Test.YtddgmpmfdgfcdaaGetW
namespace Go.Proofs.Ytddgmpmfdgfcdaa
open Go.RowKit Bs

/-- A slice that reads as the bytes, of a capacity that Go allows. -/
def Rdm (w : World) (v : Value) (xs : List UInt8) : Prop := ∃ A n c, v = .slice A n c ∧ Rds w A n c xs ∧ c ≤ maxLen
theorem Rdm.below {w w' : World} {v : Value} {xs : List UInt8} (h : Rdm w v xs) (hb : Below w.heap.size w w') : Rdm w' v xs := by
  obtain ⟨A, n, c, rfl, hr, hc⟩ := h
  exact ⟨A, n, c, rfl, hr.below hb, hc⟩
theorem Rdm.rd {w : World} {v : Value} {xs : List UInt8} (h : Rdm w v xs) : Rd w v xs := by
  obtain ⟨A, n, c, rfl, hr, _⟩ := h
  exact ⟨A, n, c, rfl, hr⟩
theorem Rdm.own {w : World} {B : Nat} {v : Value} {xs : List UInt8} (h : Own w B v xs) : Rdm w v xs := by
  obtain ⟨A, n, c, rfl, hr⟩ := Rd.of_own h
  refine ⟨A, n, c, rfl, hr, ?_⟩
  rcases h.2 with ⟨hv, _⟩ | ⟨g, cap, cur, hv, hb, hg, hnc, hcm, _⟩
  · injection hv with _ _ h3
    rw [h3]
    exact Nat.zero_le _
  · injection hv with _ _ h3
    rw [h3]
    exact hcm
theorem put_S {w0 w : World} (v : Value) (xs : List UInt8) (hr : Rdm w v xs) (hn : xs.length ≤ 10000) (hb : Below w0.heap.size w0 w) :
    Calls Try.prog 12 #[v] w fun e w' => e = .returned (.string (str (enc xs))) ∧ Below w.heap.size w w' ∧ Below w0.heap.size w0 w' := by
  obtain ⟨A, n, c, rfl, hr, hc⟩ := hr
  refine (put_any A n c xs w hr (by rw [← hr.1]; exact hn) hc).mono ?_
  rintro e w' ⟨rfl, h⟩
  exact ⟨rfl, h, hb.trans (h.mono hb.size)⟩
theorem get_S {w0 w : World} (s : ByteArray) (l : List UInt8) (hl : s.data.toList = l) (hs : s.size ≤ 65536) (hb : Below w0.heap.size w0 w) :
    Calls Try.prog 17 #[.string s] w fun e w' => ∃ v, e = .returned (.tuple #[v, .int .i64 ((dec l).2 : Nat), .int .i64 (if (dec l).1.isSome then 0 else 50)]) ∧ Own w' w.heap.size v ((dec l).1.getD []) ∧ Below w.heap.size w w' ∧ Below w0.heap.size w0 w' := by
  subst hl
  refine (get_any s w hs).mono ?_
  rintro e w' ⟨v, rfl, ho, h⟩
  exact ⟨v, rfl, ho, h, hb.trans (h.mono hb.size)⟩
def SE (w0 : World) (v : Value) (e : Ending) (w' : World) : Prop := e = .returned v ∧ Below w0.heap.size w0 w'
def gtB (s want : ByteArray) : Bool := (dec s.data.toList).1 == some want.data.toList
def flB (s : ByteArray) (at_ : Int) : Bool := (dec s.data.toList).1 == none && ((dec s.data.toList).2 : Int) == at_
theorem str_list (a : ByteArray) : str a.data.toList = a := by simp [str]
theorem str_data (l : List UInt8) : (str l).data.toList = l := by simp [str]
theorem str_size (l : List UInt8) : (str l).size = l.length := by simp [str, ByteArray.size]
set_option maxRecDepth 100000 in
theorem got_S {w0 w : World} (s want : ByteArray) (h : gtB s want = true) (hs : s.size ≤ 65536) (hb : Below w0.heap.size w0 w) :
    Calls Try.prog 20 #[.string s, .string want] w (SE w0 (.bool true)) := by
  have C := get_S s _ rfl hs hb
  unfold gtB at h
  rw [beq_iff_eq] at h
  rcases hd : dec s.data.toList with ⟨o, k⟩
  rw [hd] at C h
  dsimp only at h
  subst h
  obtain rfl : k = 0 := (enc_dec _ _ _ hd).1
  have HC := Lib.hid C
  clear C hd hb
  go_enter Try.func20, Try.ntmps20
  go_wp2_with (go_at_call 17; refine HC.out.mono ?_; rintro e w1 ⟨v, rfl, ho, hb1, hb⟩; obtain ⟨A, n, c, rfl, hr⟩ := Rd.of_own ho; have hst := run_str hr; have HB := Lib.hid hb; clear hb ho hb1 hr)
  go_ret
  exact ⟨ret_bool (by simp), HB.out⟩
set_option maxRecDepth 100000 in
theorem fails_S {w0 w : World} (s : ByteArray) (at_ : Int) (h : flB s at_ = true) (hs : s.size ≤ 65536) (hb : Below w0.heap.size w0 w) :
    Calls Try.prog 22 #[.string s, .int .i64 at_] w (SE w0 (.bool true)) := by
  have C := get_S s _ rfl hs hb
  unfold flB at h
  simp only [Bool.and_eq_true, beq_iff_eq] at h
  rcases hd : dec s.data.toList with ⟨o, k⟩
  rw [hd] at C h
  dsimp only at h
  obtain ⟨h1, h2⟩ := h
  subst h1 h2
  have HC := Lib.hid C
  clear C hd hb
  go_enter Try.func22, Try.ntmps22
  go_wp2_with (go_at_call 17; refine HC.out.mono ?_; rintro e w1 ⟨v, rfl, ho, hb1, hb⟩; obtain ⟨A, n, c, rfl, hr⟩ := Rd.of_own ho; have hn : n = 0 := hr.1.symm; subst hn; have HB := Lib.hid hb; clear hb ho hb1 hr)
  go_ret
  exact ⟨ret_bool (by simp), HB.out⟩
theorem extract_str (s : ByteArray) (n : Nat) : s.extract 0 n = str (s.data.toList.take n) := by
  unfold str
  cases s with
  | mk a =>
    apply ByteArray.ext
    simp [ByteArray.data_extract]
    apply Array.ext'
    simp
theorem min_take (s : ByteArray) (m : Nat) : s.extract 0 (min (s.size : Int) (m : Int)).toNat = str (s.data.toList.take m) := by
  rw [extract_str]
  have hsz := Lib.size_eq s
  rcases Nat.le_total m s.size with h | h
  · rw [show (min (s.size : Int) (m : Int)).toNat = m by omega]
  · rw [show (min (s.size : Int) (m : Int)).toNat = s.size by omega, hsz, List.take_length, List.take_of_length_le (by omega)]
theorem short_any (s : ByteArray) (m : Nat) (w : World) (hs : s.size ≤ 9223372036854775807) :
    Calls Try.prog 16 #[.string s, .int .i64 (m : Int)] w fun e w' => e = .returned (.string (str (s.data.toList.take m))) ∧ w = w' := by
  have HE := Lib.hid (min_take s m)
  go_enter Try.func16, Try.ntmps16
  go_wp2
  go_ret
  exact ⟨by rw [← HE.out]; rfl, rfl⟩
theorem bring_any (t n : Int) (w : World) (h0 : -9223372036854775808 ≤ t) (h1 : t ≤ 9223372036854775807) (hn : 1 ≤ n) (hn2 : n ≤ 100000) :
    Calls Try.prog 21 #[.int .i64 t, .int .i64 n] w fun e w' => e = .returned (.int .i64 (t % n)) ∧ w = w' := by
  have d0 : (n == 0) = false := by simp; omega
  by_cases h : t < 0
  · obtain ⟨r, hr⟩ : ∃ r, t.tmod n = r := ⟨_, rfl⟩
    obtain ⟨k, rfl⟩ : ∃ k : Int, t = -k := ⟨-t, by omega⟩
    have e1 : r = -(k % n) := by rw [← hr, Int.neg_tmod, Int.tmod_eq_emod_of_nonneg (by omega)]
    have b0 := Int.emod_nonneg k (show n ≠ 0 by omega)
    have b1 := Int.emod_lt_of_pos k (show 0 < n by omega)
    by_cases hz : r = 0
    · have hz' : k % n = 0 := by omega
      have e2 : -k % n = 0 := Int.emod_eq_zero_of_dvd (Int.dvd_neg.2 (Int.dvd_of_emod_eq_zero hz'))
      rw [e2]
      rw [hz] at hr
      clear e1 b0 b1 hz hz' e2
      go_enter Try.func21, Try.ntmps21
      go_wp2
      go_ret
      exact ⟨rfl, rfl⟩
    · have hneg : r < 0 := by omega
      have e2 : -k % n = r + n := by
        have e3 : -k = (r + n) + n * (-(k / n) - 1) := by
          have := Int.mul_ediv_add_emod k n
          rw [e1, Int.mul_sub, Int.mul_neg]
          omega
        rw [e3, Int.add_mul_emod_self_left, Int.emod_eq_of_lt (by omega) (by omega)]
      rw [e2]
      have g0 : -100000 ≤ r := by omega
      clear e1 b0 b1 hz e2 h0 h1 h
      go_enter Try.func21, Try.ntmps21
      go_wp2
      go_ret
      exact ⟨rfl, rfl⟩
  · have h' : 0 ≤ t := by omega
    have b0 := Int.emod_nonneg t (show n ≠ 0 by omega)
    have d1 : decide (t % n < 0) = false := by simp; omega
    have e1 : t.tmod n = t % n := Int.tmod_eq_emod_of_nonneg h'
    clear h h0 h1
    go_enter Try.func21, Try.ntmps21
    go_wp2
    go_ret
    exact ⟨rfl, rfl⟩

theorem cut_any (A : Option Addr) (n c : Nat) (xs : List UInt8) (w : World) (hr : Rds w A n c xs) (hc : c ≤ maxLen) :
    Calls Try.prog 19 #[.slice A n c] w fun e w' => ∃ v', e = .returned v' ∧ Own w' w.heap.size v' (xs.take 300) ∧ Below w.heap.size w w' := by
  unfold maxLen at hc
  have hnc := hr.2.1
  have hxn := hr.1
  obtain ⟨m, hm⟩ : ∃ m : Nat, min (n : Int) 300 = (m : Int) := ⟨min n 300, by omega⟩
  have hmn : m ≤ n := by omega
  have ht : xs.take 300 = xs.take m := by
    rcases Nat.le_total n 300 with h | h
    · rw [List.take_of_length_le (by omega), List.take_of_length_le (by omega)]
    · rw [show m = 300 by omega]
  rw [ht]
  have HP := Lib.hid (show Rd w (.slice A m c) (xs.take m) from ⟨_, _, _, rfl, hr.pre hmn⟩)
  have HL := Lib.hid (show (xs.take m).length ≤ 60000 by rw [List.length_take]; omega)
  have HM := Lib.hid hm
  have hm2 : min (300 : Int) (n : Int) = (m : Int) := by omega
  clear hr ht hxn
  go_enter Try.func19, Try.ntmps19
  go_wp2_with (go_at_call 11; go_loud (refine (copyBytes_any _ _ _ HP.out HL.out).mono ?_); rintro e w1 ⟨v, rfl, ho, hb⟩; have HO := Lib.hid ho; have HB := Lib.hid hb; clear ho hb)
  go_ret
  exact ⟨_, rfl, HO.out, HB.out⟩
end Go.Proofs.Ytddgmpmfdgfcdaa
