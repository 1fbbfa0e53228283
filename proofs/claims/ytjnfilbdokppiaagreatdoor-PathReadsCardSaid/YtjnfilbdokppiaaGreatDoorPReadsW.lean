/-
  What is proved here: the walk of PathReads: true for every string; conditions: the tables hold what is laid.
-/
import Derived.Test.YtjnfilbdokppiaaGreatDoorPwM
import Derived.Test.YtjnfilbdokppiaaGreatDoorPrd2
namespace Go.Proofs.YtjnfilbdokppiaaGreatDoor
open Go.RowKit U U.Ut

theorem parseP_len (l : List UInt8) : (parseP l).1.length ≤ 64 := by
  obtain ⟨ga, gb⟩ := parse_again l
  by_cases h : (parseP l).2.2 = 0
  · obtain ⟨_, _, _, _, _, _, h64, _⟩ := ga h
    exact h64
  · rw [(gb h).1]
    exact Nat.zero_le _

set_option maxRecDepth 100000 in
set_option maxHeartbeats 2000000 in
theorem pathReads_walk (s : ByteArray) (w : World) (hL : LP w.heap.size w) (hs : s.size ≤ maxLen) :
    Calls Tryz.prog 4 #[.string s] w fun e w' => e = .returned (.bool true) ∧ Below w.heap.size w w' := by
  have HSH := Lib.hid (U.short_any s 600 w hs)
  have HS0 := Lib.hid (SP.start hL)
  have HW := Lib.hid (fun W (hS : SP w W) => works_any W hS.lp)
  have h6 : (s.data.toList.take 600).length ≤ 600 := by rw [List.length_take]; omega
  obtain ⟨l, hl⟩ : ∃ l, s.data.toList.take 600 = l := ⟨_, rfl⟩
  rw [hl] at h6
  have HSH : Hid (Calls Tryz.prog 18 #[.string s, .int .i64 600] w fun e w' => e = .returned (.string (str l)) ∧ w = w') := Lib.hid (by rw [← hl]; exact HSH.out)
  clear hl hs hL
  have hsz : (str l).size = l.length := str_size l
  have HPA : Hid (∀ W, SP w W → Calls Tryz.prog 19 #[.string (str l)] W (PE W (parseP l))) := Lib.hid fun W hS => parse_any (str l) l rfl W hS.lp (by rw [hsz]; omega)
  have HPR : Hid (∀ W, Calls Tryz.prog 20 #[.string (str l)] W (PE W (parseP l))) := Lib.hid fun W => refParse_any (str l) l rfl W (by rw [hsz]; omega)
  have h64 := parseP_len l
  obtain ⟨R, hR⟩ : ∃ R, parseP l = R := ⟨_, rfl⟩
  rw [hR] at HPA HPR h64
  obtain ⟨ps, n, E⟩ := R
  simp only at h64
  have HPA : Hid (∀ W, SP w W → Calls Tryz.prog 19 #[.string (str l)] W fun e w' => (∃ q, e = .returned (.tuple #[q, .int .i64 (n : Nat), .int .i64 (E : Nat)]) ∧ RdP w' q ps) ∧ Below W.heap.size W w') := Lib.hid fun W hS => HPA.out W hS
  have HPR : Hid (∀ W, Calls Tryz.prog 20 #[.string (str l)] W fun e w' => (∃ q, e = .returned (.tuple #[q, .int .i64 (n : Nat), .int .i64 (E : Nat)]) ∧ RdP w' q ps) ∧ Below W.heap.size W w') := Lib.hid fun W => HPR.out W
  have HEQ : Hid (∀ a b W, RdP W a ps → RdP W b ps → Calls Tryz.prog 16 #[a, b] W fun e w' => e = .returned (.bool true) ∧ Below W.heap.size W w') := Lib.hid fun a b W ha hb => by
    refine (eqSteps_any ps ps a b W ha hb (by omega)).mono ?_
    rintro e w' ⟨⟨β, rfl, hβ⟩, hb⟩
    rw [hβ.2 rfl]
    exact ⟨rfl, hb⟩
  have hnn : (((n : Nat) : Int) == ((n : Nat) : Int)) = true := by simp
  have hEE : (((E : Nat) : Int) == ((E : Nat) : Int)) = true := by simp
  clear hR hsz h6 h64
  go_enter Tryz.func4, Tryz.ntmps4
  go_wp2_with (first
    | (go_at_call 18; (with_reducible refine HSH.out.mono ?_); rintro e w1 ⟨rfl, hw1⟩; subst hw1)
    | (go_at_call 19; (with_reducible refine (HPA.out _ HS0.out).mono ?_); rintro e w2 ⟨⟨p, rfl, hp⟩, hb2⟩; have HO2 := Lib.hid hp; have HS2 := Lib.hid (HS0.out.step hb2); clear hp hb2)
    | (go_at_call 20; (with_reducible refine (HPR.out _).mono ?_); rintro e w3 ⟨⟨q, rfl, hq⟩, hb3⟩; have HQ3 := Lib.hid hq; have HO3 := Lib.hid (HO2.out.below hb3); have HS3 := Lib.hid (HS2.out.step hb3); clear hq hb3)
    | (go_at_call 16; (with_reducible refine (HEQ.out _ _ _ HO3.out HQ3.out).mono ?_); rintro e w5 ⟨rfl, hb5⟩; have HS5 := Lib.hid (HS3.out.step hb5); clear hb5)
    | (go_at_call 17; (with_reducible refine (HW.out _ HS5.out).mono ?_); rintro e w7 ⟨rfl, hS7⟩; have HS7 := Lib.hid (HS5.out.step hS7.bl); clear hS7))
  go_ret
  exact ⟨rfl, HS7.out.bl⟩
end Go.Proofs.YtjnfilbdokppiaaGreatDoor
