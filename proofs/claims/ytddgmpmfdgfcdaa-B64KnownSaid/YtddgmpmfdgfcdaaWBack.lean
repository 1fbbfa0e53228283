/-
  What is proved here: the walk of accordionlaw05.B64Back; no condition.
-/
import Derived.Test.YtddgmpmfdgfcdaaWOnly
namespace Go.Proofs.Ytddgmpmfdgfcdaa
open Go.RowKit Bs

theorem cut_S {w0 w : World} (A : Option Addr) (n c : Nat) (xs : List UInt8) (hr : Rds w A n c xs) (hc : c ≤ maxLen) (hS : Below w0.heap.size w0 w) :
    Calls Try.prog 19 #[.slice A n c] w fun e w' => ∃ A' n' c', e = .returned (.slice A' n' c') ∧ Rds w' A' n' c' (xs.take 300) ∧ c' ≤ maxLen ∧ n' ≤ 300 ∧ Below w.heap.size w w' ∧ Below w0.heap.size w0 w' := by
  refine (cut_any A n c xs w hr hc).mono ?_
  rintro e w' ⟨v, rfl, ho, hb⟩
  obtain ⟨A', n', c', rfl, hr', hc'⟩ := Rdm.own ho
  exact ⟨A', n', c', rfl, hr', hc', by rw [← hr'.1, List.length_take]; omega, hb, hS.trans (hb.mono hS.size)⟩
theorem got_str {w0 w : World} (l m : List UInt8) (h : dec l = (some m, 0)) (hs : l.length ≤ 65536) (hS : Below w0.heap.size w0 w) : Calls Try.prog 20 #[.string (str l), .string (str m)] w (SE w0 (.bool true)) :=
  got_S _ _ (by unfold gtB; rw [str_data, h, str_data]; simp) (by rw [str_size]; exact hs) hS
theorem fails_str {w0 w : World} (l : List UInt8) (k : Nat) (h : dec l = (none, k)) (hs : l.length ≤ 65536) (hS : Below w0.heap.size w0 w) : Calls Try.prog 22 #[.string (str l), .int .i64 (k : Int)] w (SE w0 (.bool true)) :=
  fails_S _ _ (by unfold flB; rw [str_data, h]; simp) (by rw [str_size]; exact hs) hS
set_option maxHeartbeats 2000000 in
set_option maxRecDepth 1000000 in
theorem b64Back_walk (A : Option Addr) (n c : Nat) (xs : List UInt8) (w : World) (hr : Rds w A n c xs) (hc : c ≤ maxLen) :
    Calls Try.prog 5 #[.slice A n c] w fun e w' => e = .returned (.bool true) ∧ Below w.heap.size w w' := by
  have hS0 := Below.refl w.heap.size w
  have HCUT := Lib.hid (cut_S (w0 := w) A n c xs hr hc hS0)
  obtain ⟨ys, hys⟩ : ∃ ys, xs.take 300 = ys := ⟨_, rfl⟩
  have hyl : ys.length ≤ 300 := by rw [← hys, List.length_take]; omega
  rw [hys] at HCUT
  have hel := enc_len ys
  have HGOT := Lib.hid (fun (W : World) (h : Below w.heap.size w W) => got_str (w0 := w) (w := W) (enc ys) ys (dec_enc ys) (by omega) h)
  have HYL := Lib.hid hyl
  have HEL := Lib.hid hel
  clear hys hyl hel hr hc
  go_enter Try.func5, Try.ntmps5
  go_wp2_with (go_at_call 19; (with_reducible refine HCUT.out.mono ?_); rintro e w1 ⟨A', n', c', rfl, hr', hc', hn', _, hS1⟩; have HR := Lib.hid hr'; have HC := Lib.hid hc'; clear hr' hc')
  have hn : n' = ys.length := HR.out.1.symm
  subst hn
  have HRM := Lib.hid (show Rdm w1 (.slice A' ys.length c') ys from ⟨_, _, _, rfl, HR.out, HC.out⟩)
  go_wp2_with (go_at_call 12; (with_reducible refine (put_S (w0 := w) _ _ HRM.out (by have := HYL.out; omega) (by assumption)).mono ?_); rintro e w2 ⟨rfl, hbb, hS2⟩; have hst := run_str (HR.out.below hbb); clear hbb)
  have ht : ((ys.length : Int) + 2) / 3 * 4 = ((str (enc ys)).size : Int) := by rw [str_size, HEL.out]; omega
  have hb : (((str (enc ys)).size : Int) == ((ys.length : Int) + 2) / 3 * 4) = true := by rw [ht]; simp
  have HT := Lib.hid ht
  clear ht
  go_wp2_with (first
    | (go_at_call 20; (with_reducible refine (HGOT.out _ (by assumption)).mono ?_); rintro e w3 ⟨rfl, hS3⟩)
    | (go_at_call 15; refine (works_S (w0 := w) (by assumption)).mono ?_; rintro e w4 ⟨rfl, hS4⟩))
  go_ret
  exact ⟨rfl, by assumption⟩
end Go.Proofs.Ytddgmpmfdgfcdaa
