/-
  What is proved here: the walk of accordionlaw05.B64Puts; no condition.
-/
import Derived.Test.YtddgmpmfdgfcdaaRefP
import Derived.Deep.RegionLaw
import Derived.Deep.RegionHeld3
namespace Go.Proofs.Ytddgmpmfdgfcdaa
open Go.RowKit Bs

/-- Between two calls. -/
def KP (w0 : World) (v : Value) (ys : List UInt8) (w : World) : Prop := Below w0.heap.size w0 w ∧ Rdm w v ys
theorem KP.step {w0 w w' : World} {v : Value} {ys : List UInt8} (h : KP w0 v ys w) (hb : Below w.heap.size w w') : KP w0 v ys w' := ⟨h.1.trans (hb.mono h.1.size), h.2.below hb⟩
theorem put_K {w0 w : World} {v : Value} {ys : List UInt8} (h : KP w0 v ys w) (hn : ys.length ≤ 10000) :
    Calls Try.prog 12 #[v] w fun e w' => e = .returned (.string (str (enc ys))) ∧ KP w0 v ys w' := by
  refine (put_S (w0 := w0) v ys h.2 hn h.1).mono ?_
  rintro e w' ⟨rfl, hb, _⟩
  exact ⟨rfl, h.step hb⟩
theorem rput_K {w0 w : World} {v : Value} {ys : List UInt8} (h : KP w0 v ys w) (hn : ys.length ≤ 1000) :
    Calls Try.prog 13 #[v] w fun e w' => e = .returned (.string (str (enc ys))) ∧ KP w0 v ys w' := by
  obtain ⟨A, n, c, hv, hr, hc⟩ := h.2
  have h2 := h
  subst hv
  refine (refPut_any A n c ys w hr (by rw [← hr.1]; exact hn)).mono ?_
  rintro e w' ⟨rfl, hb⟩
  exact ⟨rfl, h2.step hb⟩
set_option maxHeartbeats 4000000 in
set_option maxRecDepth 1000000 in
theorem b64Puts_walk (A : Option Addr) (n c : Nat) (xs : List UInt8) (w : World) (hr : Rds w A n c xs) (hc : c ≤ maxLen) :
    Calls Try.prog 3 #[.slice A n c] w fun e w' => e = .returned (.bool true) ∧ Below w.heap.size w w' := by
  have hS0 := Below.refl w.heap.size w
  unfold maxLen at hc
  have hnc := hr.2.1
  obtain ⟨m, hm⟩ : ∃ m : Nat, min (n : Int) 400 = (m : Int) := ⟨min n 400, by omega⟩
  have hmn : m ≤ n := by omega
  have hm4 : m ≤ 400 := by omega
  obtain ⟨ys, hys⟩ : ∃ ys, xs.take m = ys := ⟨_, rfl⟩
  have hp := hr.pre hmn
  rw [hys] at hp
  have hyl : ys.length = m := hp.1
  have HP := Lib.hid hp
  have HRD := Lib.hid (show Rd w (.slice A m c) ys from ⟨_, _, _, rfl, hp⟩)
  have HYL := Lib.hid hyl
  have hm2 : min (400 : Int) (n : Int) = (m : Int) := by omega
  have i1 : (m : Int) ≤ (c : Int) := by omega
  have i2 : (0 : Int) ≤ (m : Int) := by omega
  clear hr hp hyl hys
  go_enter Try.func3, Try.ntmps3
  go_wp2_with (first
    | (go_at_call 11; refine (copyBytes_any _ ys w HRD.out (by rw [HYL.out]; omega)).mono ?_; rintro e w1 ⟨v1, rfl, ho, hb⟩; have HO := Lib.hid (show Own w1 w.heap.size v1 ys from ho); have HB := Lib.hid hb; clear ho hb))
  have hK : KP w v1 ys w1 := ⟨HB.out, Rdm.own HO.out⟩
  have HLN := Lib.hid (show ys.length ≤ 1000 by rw [HYL.out]; omega)
  have HPK := Lib.hid (fun (W : World) (h : KP w v1 ys W) => put_K h (by have := HLN.out; omega))
  have HRK := Lib.hid (fun (W : World) (h : KP w v1 ys W) => rput_K h HLN.out)
  have HEK := Lib.hid (fun (W : World) (h : KP w v1 ys W) => eqBytes_any v1 (.slice A m c) ys ys W h.2.rd (HRD.out.below h.1))
  clear HO HB HYL
  go_wp2_with (first
    | (go_at_call 12; (with_reducible refine (HPK.out _ (by assumption)).mono ?_); rintro e w2 ⟨rfl, hK2⟩)
    | (go_at_call 13; (with_reducible refine (HRK.out _ (by assumption)).mono ?_); rintro e w3 ⟨rfl, hK3⟩)
    | (go_at_call 14; (with_reducible refine (HEK.out _ (by assumption)).mono ?_); rintro e w4 ⟨rfl, rfl⟩; rw [beq_self_eq_true])
    | (go_at_call 15; refine (works_S (w0 := w) (show KP w v1 ys _ by assumption).1).mono ?_; rintro e w5 ⟨rfl, hS5⟩))
  go_ret
  exact ⟨rfl, by assumption⟩
end Go.Proofs.Ytddgmpmfdgfcdaa
