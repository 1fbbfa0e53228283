/-
  What is proved here: the walk of accordionlaw05.B64Cut; condition: the number is an int.
-/
import Derived.Test.YtddgmpmfdgfcdaaWBack
import Derived.StillTailTactics
namespace Go.Proofs.Ytddgmpmfdgfcdaa
open Go.RowKit Bs

theorem bring_is {t n r : Int} (w : World) (h0 : -9223372036854775808 ≤ t) (h1 : t ≤ 9223372036854775807) (hn : 1 ≤ n) (hn2 : n ≤ 100000) (h : t % n = r) :
    Calls Try.prog 21 #[.int .i64 t, .int .i64 n] w fun e w' => e = .returned (.int .i64 r) ∧ w = w' := h ▸ bring_any t n w h0 h1 hn hn2
theorem ext_take (l : List UInt8) (k : Nat) : (str l).extract 0 k = str (l.take k) := by rw [extract_str, str_data]
set_option maxHeartbeats 2000000 in
set_option maxRecDepth 1000000 in
theorem b64Cut_walk (A : Option Addr) (n c : Nat) (xs : List UInt8) (t : Int) (w : World) (hr : Rds w A n c xs) (hc : c ≤ maxLen) (ht0 : -9223372036854775808 ≤ t) (ht1 : t ≤ 9223372036854775807) :
    Calls Try.prog 8 #[.slice A n c, .int .i64 t] w fun e w' => e = .returned (.bool true) ∧ Below w.heap.size w w' := by
  have hS0 := Below.refl w.heap.size w
  have HCUT := Lib.hid (cut_S (w0 := w) A n c xs hr hc hS0)
  obtain ⟨ys, hys⟩ : ∃ ys, xs.take 300 = ys := ⟨_, rfl⟩
  have hyl : ys.length ≤ 300 := by rw [← hys, List.length_take]; omega
  rw [hys] at HCUT
  have hel := enc_len ys
  obtain ⟨E, hE⟩ : ∃ E, enc ys = E := ⟨_, rfl⟩
  rw [hE] at hel
  have hsz : (str E).size = E.length := str_size E
  obtain ⟨k, hk⟩ : ∃ k : Nat, t % ((E.length : Int) + 1) = (k : Int) := by
    have h1 := Int.emod_nonneg t (show (E.length : Int) + 1 ≠ 0 by omega)
    exact ⟨_, (Int.toNat_of_nonneg h1).symm⟩
  have hkl : k ≤ E.length := by
    have := Int.emod_lt_of_pos t (show 0 < (E.length : Int) + 1 by omega)
    omega
  have HBR := Lib.hid (fun W => bring_is W ht0 ht1 (show (1 : Int) ≤ (E.length : Int) + 1 by omega) (by omega) hk)
  have hdc := dec_cut ys k (by rw [hE]; exact hkl)
  rw [hE] at hdc
  have HPUT := Lib.hid (fun (W : World) (v : Value) (h1 : Rdm W v ys) (h : Below w.heap.size w W) => put_S (w0 := w) (w := W) v ys h1 (by omega) h)
  rw [hE] at HPUT
  have hks : k ≤ (str E).size := by rw [hsz]; exact hkl
  have HSZ := Lib.hid (show wrap64 (((str E).size : Int) + 1) = (E.length : Int) + 1 by rw [hsz]; unfold wrap64; omega)
  have HEX := Lib.hid (ext_take E k)
  have htl : (E.take k).length ≤ 65536 := by rw [List.length_take]; omega
  by_cases h4 : k % 4 = 0
  · rw [if_pos h4] at hdc
    have HGOT := Lib.hid (fun (W : World) (h : Below w.heap.size w W) => got_str (w0 := w) (w := W) (E.take k) _ hdc htl h)
    have d1 : ((k : Int) % 4 == 0) = true := by rw [beq_iff_eq]; omega
    obtain ⟨m, hm⟩ : ∃ m : Nat, min (ys.length : Int) ((k : Int) / 4 * 3) = (m : Int) := ⟨min ys.length (k / 4 * 3), by omega⟩
    have hmy : m ≤ ys.length := by omega
    have hmt : ys.take (k / 4 * 3) = ys.take m := by
      rcases Nat.le_total ys.length (k / 4 * 3) with h | h
      · rw [List.take_of_length_le h, List.take_of_length_le (by omega)]
      · rw [show m = k / 4 * 3 by omega]
    rw [hmt] at HGOT
    have hm2 : min ((k : Int) / 4 * 3) (ys.length : Int) = (m : Int) := by omega
    have HX1 := Lib.hid (show IntKind.i64.wrap ((k : Int) / 4) = (k : Int) / 4 from IntWalk.i64_in _ (by omega))
    have HX2 := Lib.hid (show IntKind.i64.wrap ((k : Int) / 4 * 3) = (k : Int) / 4 * 3 from IntWalk.i64_in _ (by omega))
    have HK := Lib.hid h4
    clear hys hyl hel hr hc hE hsz hk hkl hdc htl hmt h4 ht0 ht1
    go_enter Try.func8, Try.ntmps8
    go_wp2_with (go_at_call 19; (with_reducible refine HCUT.out.mono ?_); rintro e w1 ⟨A', n', c', rfl, hr', hc', hn', _, hS1⟩; have HR := Lib.hid hr'; have HC := Lib.hid hc'; clear hr' hc')
    have hn : n' = ys.length := HR.out.1.symm
    subst hn
    have HRM := Lib.hid (show Rdm w1 (.slice A' ys.length c') ys from ⟨_, _, _, rfl, HR.out, HC.out⟩)
    go_wp2_with (first
      | (go_at_call 12; (with_reducible refine (HPUT.out _ _ HRM.out (by assumption)).mono ?_); rintro e w2 ⟨rfl, hbb, hS2⟩; have hst := run_str (((HR.out.below hbb).below ((Below.refl _ _).drew)).pre hmy); have hst1 := run_str ((HR.out.below hbb).pre hmy); clear hbb)
      | (go_at_call 21; rw [HSZ.out]; (with_reducible refine (HBR.out _).mono ?_); rintro e w3 ⟨rfl, rfl⟩))
    have hSd := hS2.drew
    have hcap := HR.out.2.1
    have x1 := HX1.out
    have x2 := HX2.out
    have x3 : (0 : Int) ≤ (m : Int) := by omega
    have x4 : (m : Int) ≤ (c' : Int) := by omega
    go_still_tail 12, (by kernel_rfl)
    change wpList _ _ _ _ _ w2.drew
    clear x1 x2 x3 x4
    go_wp2_with (first
      | (go_at_call 20; rw [HEX.out]; (with_reducible refine (HGOT.out _ (by assumption)).mono ?_); rintro e w3 ⟨rfl, hS3⟩)
      | (go_at_call 15; refine (works_S (w0 := w) (by assumption)).mono ?_; rintro e w4 ⟨rfl, hS4⟩))
    go_ret
    exact ⟨rfl, by assumption⟩
  · rw [if_neg h4] at hdc
    have HFL := Lib.hid (fun (W : World) (h : Below w.heap.size w W) => fails_str (w0 := w) (w := W) (E.take k) k hdc htl h)
    have d1 : ((k : Int) % 4 == 0) = false := by rw [Bool.eq_false_iff, ne_eq, beq_iff_eq]; omega
    have HK := Lib.hid h4
    clear hys hyl hel hr hc hE hsz hk hkl hdc htl h4 ht0 ht1
    go_enter Try.func8, Try.ntmps8
    go_wp2_with (go_at_call 19; (with_reducible refine HCUT.out.mono ?_); rintro e w1 ⟨A', n', c', rfl, hr', hc', hn', _, hS1⟩; have HR := Lib.hid hr'; have HC := Lib.hid hc'; clear hr' hc')
    have hn : n' = ys.length := HR.out.1.symm
    subst hn
    have HRM := Lib.hid (show Rdm w1 (.slice A' ys.length c') ys from ⟨_, _, _, rfl, HR.out, HC.out⟩)
    go_wp2_with (first
      | (go_at_call 12; (with_reducible refine (HPUT.out _ _ HRM.out (by assumption)).mono ?_); rintro e w2 ⟨rfl, hbb, hS2⟩; clear hbb)
      | (go_at_call 21; rw [HSZ.out]; (with_reducible refine (HBR.out _).mono ?_); rintro e w3 ⟨rfl, rfl⟩)
      | (go_at_call 22; rw [HEX.out]; (with_reducible refine (HFL.out _ (by assumption)).mono ?_); rintro e w3 ⟨rfl, hS3⟩)
      | (go_at_call 15; refine (works_S (w0 := w) (by assumption)).mono ?_; rintro e w4 ⟨rfl, hS4⟩))
    go_ret
    exact ⟨rfl, by assumption⟩
end Go.Proofs.Ytddgmpmfdgfcdaa
