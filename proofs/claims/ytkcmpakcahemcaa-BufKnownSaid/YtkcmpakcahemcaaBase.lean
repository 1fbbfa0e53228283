/-
  What is proved here: rows of bytes that the call owns, contracts of SpoilBytes, Short and Bring; conditions: the numbers are in the range of their types where stated.
-/
import Derived.Test.YtkcmpakcahemcaaPut
import Derived.StillTailTactics
namespace Go.Proofs.Ytkcmpakcahemcaa
open Go.RowKit Le

theorem rds_lit (w : World) (g : Nat) (cs : Array Value) (n : Nat) (xs : List UInt8) (hg : g = w.heap.size) (h : cs = (bv xs).toArray) (hn : xs.length = n) : Rds (w.alloc (.cells cs 5)) (some ⟨g, 0, none⟩) n n xs := by
  subst h
  subst hg
  refine ⟨hn, Nat.le_refl _, fun _ => ⟨w.heap.size, 0, rfl, by simp, fun j x hx => ?_⟩⟩
  rw [Nat.zero_add, World.cell?_alloc_new]
  simpa using bv_at hx
theorem own_below {w w' : World} {base n : Nat} {v : Value} {xs : List Value} (h : w.ownsRow base 5 1 v n xs) (hb : Below w.heap.size w w') : w'.ownsRow base 5 1 v n xs := by
  refine h.kept (row := none) ⟨hb.os, hb.tape, hb.output, hb.size, fun k hk _ => hb.block k hk⟩ ?_
  cases v.ownBlock with
  | none => exact .inl rfl
  | some k => exact .inr (by simp)
theorem byte_mod (X : Nat) : (#[Value.int .u8 ((X : Int) % 256)] : Array Value) = (bv [UInt8.ofNat X]).toArray := by
  have e : ((UInt8.ofNat X).toNat : Int) = (X : Int) % 256 := by
    rw [UInt8.toNat_ofNat']
    have e8 : (2 : Nat) ^ 8 = 256 := by decide
    rw [e8]; omega
  simp only [bv, List.map_cons, List.map_nil, e]
theorem own_shape0 {w : World} {base : Nat} {v : Value} {xs : List Value} (h : w.ownsRow base 5 1 v 0 xs) : ∃ A c, v = .slice A 0 c := by
  rcases h.2 with ⟨rfl, _⟩ | ⟨g, cap, cur, rfl, _⟩
  · exact ⟨_, _, rfl⟩
  · exact ⟨_, _, rfl⟩
theorem own_shape {w : World} {base n : Nat} {v : Value} {xs : List UInt8} (h : w.ownsRow base 5 1 v n (bv xs)) (h0 : 0 < n) : ∃ g c, v = .slice (some ⟨g, 0, none⟩) n c ∧ Rds w (some ⟨g, 0, none⟩) n c xs := by
  obtain ⟨A, n', c', he, hr⟩ := Rd.of_own h
  rcases h.2 with ⟨_, h1⟩ | ⟨g, cap, cur, rfl, _⟩
  · omega
  · injection he with h1 h2 h3
    subst h1; subst h2; subst h3
    exact ⟨g, cap, rfl, hr⟩
theorem spoil_xor (x : UInt8) : bits .xor .u8 (x.toNat : Int) 165 = (((x ^^^ 165).toNat : Nat) : Int) := by
  have := u8_xor_nat x.toNat 165 x.toNat_lt (by decide)
  rw [UInt8.toNat_xor]
  exact this

theorem spoil_any (v : Value) (xs : List UInt8) (base n : Nat) (w : World) (h : w.ownsRow base 5 1 v n (bv xs)) (hn : n ≤ 65536) :
    Calls Try.prog 18 #[v] w fun e w' => e = .returned (.tuple #[]) ∧ w.grownBy w' v.ownBlock := by
  by_cases h0 : n = 0
  · subst h0
    obtain ⟨A, c, rfl⟩ := own_shape0 h
    clear h
    go_enter Try.func18, Try.ntmps18
    go_wp2
    refine wp_loop_rounds 1 ?_
    rw [rounds_succ]
    go_wp2
    go_end0
    exact ⟨rfl, World.grownBy.refl w _⟩
  · obtain ⟨g, c, rfl, _⟩ := own_shape h (by omega)
    have HO := Lib.hid h
    clear h
    go_enter Try.func18, Try.ntmps18
    go_wp2
    go_loopw [2] (fun i wr => ∃ (j : Nat) (ys : List UInt8), j ≤ n ∧ i = .int .i64 j ∧ Hid (wr.ownsRow base 5 1 (.slice (some ⟨g, 0, none⟩) n c) n (bv ys)) ∧ Hid (w.grownBy wr (some g))) (fun i _ => n - (intOf i).toNat)
    case atStart => exact ⟨0, xs, Nat.zero_le _, rfl, HO, World.grownBy.refl w _⟩
    case round =>
      obtain ⟨j, ys, hj, rfl, HR, HB⟩ := hrel
      by_cases hlt : j < n
      · have hlen : ys.length = n := by have := HR.out.1; rw [bv_length] at this; omega
        obtain ⟨x, hx⟩ : ∃ x, ys[j]? = some x := ⟨_, List.getElem?_eq_getElem (by omega)⟩
        have hc := HR.out.cellAt j (by omega)
        rw [bv_at hx] at hc
        have hfz := HR.out.frozenAt j
        have hsx := spoil_xor x
        have HX := Lib.hid hx
        clear hx hlen
        go_wp2
        go_roundw
        case rel =>
          have hst := HR.out.stored j (.int .u8 (((x ^^^ 165).toNat : Nat) : Int))
          have eset : (bv ys).set j (.int .u8 (((x ^^^ 165).toNat : Nat) : Int)) = bv (ys.set j (x ^^^ 165)) := by simp [bv, List.map_set]
          rw [eset] at hst
          refine ⟨j + 1, ys.set j (x ^^^ 165), by omega, by go_num, ?_, ?_⟩
          · exact hst.1
          · have h1 := HB.out
            have h2 := hst.2
            exact ⟨h2.os.trans h1.os, h2.tape.trans h1.tape, h2.output.trans h1.output, Nat.le_trans h1.size h2.size, fun k hk hne => (h2.block k (Nat.lt_of_lt_of_le hk h1.size) hne).trans (h1.block k hk hne)⟩
        case measure => simp [intOf]; omega
      · go_wp2
        go_end0
        exact ⟨rfl, HB.out⟩
theorem own_mono {w : World} {base base' n : Nat} {v : Value} {xs : List Value} (h : w.ownsRow base 5 1 v n xs) (hb : base' ≤ base) : w.ownsRow base' 5 1 v n xs := by
  refine ⟨h.1, ?_⟩
  rcases h.2 with h0 | ⟨g, cap, cur, h1, h2, h3⟩
  · exact .inl h0
  · exact .inr ⟨g, cap, cur, h1, Nat.le_trans hb h2, h3⟩
theorem own_cap {w : World} {base n : Nat} {v : Value} {xs : List Value} (h : w.ownsRow base 5 1 v n xs) : ∀ A m c, v = .slice A m c → c ≤ 9223372036854775807 := by
  intro A m c hv
  rcases h.2 with ⟨rfl, _⟩ | ⟨g, cap, cur, rfl, _, _, _, hm, _⟩
  · injection hv with _ _ h3; omega
  · injection hv with _ _ h3; simp only [maxLen] at hm; omega
theorem extract_str (s : ByteArray) (n : Nat) : s.extract 0 n = str (s.data.toList.take n) := by
  unfold str
  cases s with
  | mk a =>
    apply ByteArray.ext
    simp [ByteArray.data_extract]
    apply Array.ext'
    simp
theorem short_any (s : ByteArray) (m : Nat) (w : World) (_hs : s.size ≤ 9223372036854775807) :
    Calls Try.prog 24 #[.string s, .int .i64 (m : Int)] w fun e w' => e = .returned (.string (str (s.data.toList.take m))) ∧ w = w' := by
  have hsz : s.size = s.data.toList.length := by rw [Array.length_toList]; rfl
  by_cases h : m < s.size
  · have h1 : (m : Int) < (s.size : Int) := by omega
    have HE := Lib.hid (extract_str s m)
    clear hsz
    go_enter Try.func24, Try.ntmps24
    go_wp2
    go_ret
    exact ⟨by rw [← HE.out]; rfl, rfl⟩
  · have h1 : (s.size : Int) ≤ (m : Int) := by omega
    have h2 : ¬ (m : Int) < (s.size : Int) := by omega
    have HE : Hid (s = str (s.data.toList.take m)) := Lib.hid (by rw [List.take_of_length_le (by omega)]; unfold str; simp)
    clear hsz
    go_enter Try.func24, Try.ntmps24
    go_wp2
    go_ret
    exact ⟨by rw [← HE.out]; rfl, rfl⟩
theorem bring_any (t n : Int) (w : World) (h0 : -9223372036854775808 ≤ t) (h1 : t ≤ 9223372036854775807) (hn : 1 ≤ n) (hn2 : n ≤ 100000) :
    Calls Try.prog 21 #[.int .i64 t, .int .i64 n] w fun e w' => e = .returned (.int .i64 (t % n)) ∧ w = w' := by
  have d0 : (n == 0) = false := by simp; omega
  by_cases h : t < 0
  · obtain ⟨r, hr⟩ : ∃ r, t.tmod n = r := ⟨_, rfl⟩
    obtain ⟨k, rfl⟩ : ∃ k : Int, t = -k := ⟨-t, by omega⟩
    have e1 : r = -(k % n) := by rw [← hr, Int.neg_tmod, Int.tmod_eq_emod_of_nonneg (by omega)]
    have b0 := Int.emod_nonneg k (show n ≠ 0 by omega)
    have b1 := Int.emod_lt_of_pos k (show 0 < n by omega)
    by_cases hz : r = 0
    · have hz' : k % n = 0 := by omega
      have e2 : -k % n = 0 := Int.emod_eq_zero_of_dvd (Int.dvd_neg.2 (Int.dvd_of_emod_eq_zero hz'))
      rw [e2]
      rw [hz] at hr
      clear e1 b0 b1 hz hz' e2
      go_enter Try.func21, Try.ntmps21
      go_wp2
      go_ret
      exact ⟨rfl, rfl⟩
    · have hneg : r < 0 := by omega
      have e2 : -k % n = r + n := by
        have e3 : -k = (r + n) + n * (-(k / n) - 1) := by
          have := Int.mul_ediv_add_emod k n
          rw [e1, Int.mul_sub, Int.mul_neg]
          omega
        rw [e3, Int.add_mul_emod_self_left, Int.emod_eq_of_lt (by omega) (by omega)]
      rw [e2]
      have g0 : -100000 ≤ r := by omega
      clear e1 b0 b1 hz e2 h0 h1 h
      go_enter Try.func21, Try.ntmps21
      go_wp2
      go_ret
      exact ⟨rfl, rfl⟩
  · have h' : 0 ≤ t := by omega
    have b0 := Int.emod_nonneg t (show n ≠ 0 by omega)
    have d1 : decide (t % n < 0) = false := by simp; omega
    have e1 : t.tmod n = t % n := Int.tmod_eq_emod_of_nonneg h'
    clear h h0 h1
    go_enter Try.func21, Try.ntmps21
    go_wp2
    go_ret
    exact ⟨rfl, rfl⟩


end Go.Proofs.Ytkcmpakcahemcaa
