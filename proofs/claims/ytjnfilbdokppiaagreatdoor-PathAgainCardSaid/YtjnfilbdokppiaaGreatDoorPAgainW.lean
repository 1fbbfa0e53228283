/-
  What is proved here: the walk of PathAgain: true for every string; conditions: the tables hold what is laid.
-/
import Derived.Test.YtjnfilbdokppiaaGreatDoorPwM
import Derived.Test.YtjnfilbdokppiaaGreatDoorPy
import Derived.Test.YtjnfilbdokppiaaGreatDoorPag
namespace Go.Proofs.YtjnfilbdokppiaaGreatDoor
open Go.RowKit U U.Ut

theorem noB_index : ∀ (l : List UInt8), ¬ (0 ≤ Lib.indexByte l 92) → NoB l
  | [], _ => fun c hc => by simp at hc
  | c :: l, h => by
    have e : Lib.indexByte (c :: l) 92 = if (c == 92) = true then 0 else if (Lib.indexByte l 92 == -1) = true then -1 else Lib.indexByte l 92 + 1 := rfl
    rw [e] at h
    by_cases h1 : (c == 92) = true
    · rw [if_pos h1] at h; omega
    · rw [if_neg h1] at h
      have hn : c.toNat ≠ 92 := fun hh => h1 (by rw [show c = 92 from UInt8.toNat_inj.1 hh]; rfl)
      have hl : ¬ (0 ≤ Lib.indexByte l 92) := by
        split at h
        · rename_i h2
          have := eq_of_beq h2
          omega
        · omega
      intro x hx
      rcases List.mem_cons.1 hx with rfl | hx
      · exact hn
      · exact noB_index l hl x hx

set_option maxRecDepth 100000 in
set_option maxHeartbeats 2000000 in
theorem pathAgain_walk (s : ByteArray) (w : World) (hL : LP w.heap.size w) (hs : s.size ≤ maxLen) :
    Calls Tryz.prog 8 #[.string s] w fun e w' => e = .returned (.bool true) ∧ Below w.heap.size w w' := by
  have HSH := Lib.hid (U.short_any s 600 w hs)
  have HS0 := Lib.hid (SP.start hL)
  have HW := Lib.hid (fun W (hS : SP w W) => works_any W hS.lp)
  have h6 : (s.data.toList.take 600).length ≤ 600 := by rw [List.length_take]; omega
  obtain ⟨l, hl⟩ : ∃ l, s.data.toList.take 600 = l := ⟨_, rfl⟩
  rw [hl] at h6
  have HSH : Hid (Calls Tryz.prog 18 #[.string s, .int .i64 600] w fun e w' => e = .returned (.string (str l)) ∧ w = w') := Lib.hid (by rw [← hl]; exact HSH.out)
  clear hl hs hL
  have hsz : (str l).size = l.length := str_size l
  have HPA : Hid (∀ W, SP w W → Calls Tryz.prog 19 #[.string (str l)] W (PE W (parseP l))) := Lib.hid fun W hS => parse_any (str l) l rfl W hS.lp (by rw [hsz]; omega)
  obtain ⟨ga, gb⟩ := parse_again l
  obtain ⟨R, hR⟩ : ∃ R, parseP l = R := ⟨_, rfl⟩
  rw [hR] at HPA ga gb
  obtain ⟨ps, n, E⟩ := R
  by_cases hE : E = 0
  · subst hE
    obtain ⟨hn, t, g1, g2, g3, g4, g5, g6⟩ := ga rfl
    simp only at hn g1 g2 g5
    subst hn
    have HPA : Hid (∀ W, SP w W → Calls Tryz.prog 19 #[.string (str l)] W fun e w' => (∃ q, e = .returned (.tuple #[q, .int .i64 0, .int .i64 0]) ∧ RdP w' q ps) ∧ Below W.heap.size W w') := Lib.hid fun W hS => HPA.out W hS
    have HKS : Hid (∀ s ∈ ps, s.k.size ≤ 60000) := Lib.hid (by
      intro x hx
      have h1 : x.k.size ≤ (bodyS x).length + 0 ∨ x.k.size = 0 := by
        have hok := List.all_eq_true.1 g6 x hx
        unfold okS at hok
        split at hok
        · rename_i hb
          left
          unfold bodyS
          rw [if_pos hb]
          have := quo_ge x.k.data.toList
          rw [Lib.size_eq]
          omega
        · simp only [Bool.and_eq_true, decide_eq_true_eq] at hok
          exact .inr hok.1
      have h2 : (txtS x).length ≤ t.length := by
        have e : t = ps.flatMap txtS := by
          have := g1
          unfold showR at this
          rw [if_neg (by omega), if_pos g6] at this
          exact (congrArg Prod.fst this).symm
        rw [e]
        exact flat_ge hx
      rw [txtS_body] at h2
      simp at h2
      omega)
    have HSHO : Hid (∀ v' W, SP w W → RdP W v' ps → Calls Tryz.prog 14 #[v'] W fun e w' => e = .returned (.tuple #[.string (str t), .int .i64 0]) ∧ Below W.heap.size W w') := Lib.hid fun v' W hS hp => by
      have := show_any ps v' W hS.lp hp HKS.out (by omega)
      rw [g1] at this
      exact this
    have htz : (str t).size = t.length := str_size t
    have HPB : Hid (∀ W, SP w W → Calls Tryz.prog 19 #[.string (str t)] W fun e w' => (∃ q, e = .returned (.tuple #[q, .int .i64 0, .int .i64 0]) ∧ RdP w' q ps) ∧ Below W.heap.size W w') := Lib.hid fun W hS => by
      have := parse_any (str t) t rfl W hS.lp (by rw [htz]; omega)
      rw [g2] at this
      exact this
    have HEQ : Hid (∀ a b W, RdP W a ps → RdP W b ps → Calls Tryz.prog 16 #[a, b] W fun e w' => e = .returned (.bool true) ∧ Below W.heap.size W w') := Lib.hid fun a b W ha hb => by
      refine (eqSteps_any ps ps a b W ha hb (by omega)).mono ?_
      rintro e w' ⟨⟨β, rfl, hβ⟩, hb⟩
      rw [hβ.2 rfl]
      exact ⟨rfl, hb⟩
    have hts : (str t).size ≤ (str l).size := by omega
    have hti : ((str t).size : Int) ≤ ((str l).size : Int) := by omega
    have HG4 := Lib.hid g4
    clear g4 g1 g2 g5 g6 hR ga gb HKS htz hsz h6 g3
    by_cases hc : 0 ≤ Lib.indexByte l 92
    · have HCO : Hid (∀ W, Calls Tryz.prog 28 #[.string (str l), .string ⟨#[92]⟩] W fun e w' => e = .returned (.bool true) ∧ w' = W) := Lib.hid fun W => by
        have := Tryz.strings_Contains_one (str l) 92 W
        rw [show (str l).data.toList = l from rfl, decide_eq_true hc] at this
        exact this
      clear hc HG4
      go_enter Tryz.func8, Tryz.ntmps8
      go_wp2_with (first
        | (go_at_call 18; (with_reducible refine HSH.out.mono ?_); rintro e w1 ⟨rfl, hw1⟩; subst hw1)
        | (go_at_call 19; (with_reducible refine (HPB.out _ HS3.out).mono ?_); rintro e w4 ⟨⟨q, rfl, hq⟩, hb4⟩; have HQ4 := Lib.hid hq; have HO4 := Lib.hid (HO3.out.below hb4); have HS4 := Lib.hid (HS3.out.step hb4); clear hq hb4)
        | (go_at_call 19; (with_reducible refine (HPA.out _ HS0.out).mono ?_); rintro e w2 ⟨⟨p, rfl, hp⟩, hb2⟩; have HO2 := Lib.hid hp; have HS2 := Lib.hid (HS0.out.step hb2); clear hp hb2)
        | (go_at_call 14; (with_reducible refine (HSHO.out _ _ HS2.out HO2.out).mono ?_); rintro e w3 ⟨rfl, hb3⟩; have HO3 := Lib.hid (HO2.out.below hb3); have HS3 := Lib.hid (HS2.out.step hb3); clear hb3)
        | (go_at_call 16; (with_reducible refine (HEQ.out _ _ _ HO4.out HQ4.out).mono ?_); rintro e w5 ⟨rfl, hb5⟩; have HS5 := Lib.hid (HS4.out.step hb5); clear hb5)
        | (go_at_call 28; (with_reducible refine (HCO.out _).mono ?_); rintro e w6 ⟨rfl, hw6⟩; subst hw6)
        | (go_at_call 17; (with_reducible refine (HW.out _ HS5.out).mono ?_); rintro e w7 ⟨rfl, hS7⟩; have HS7 := Lib.hid (HS5.out.step hS7.bl); clear hS7))
      go_ret
      exact ⟨rfl, HS7.out.bl⟩
    · have HCO : Hid (∀ W, Calls Tryz.prog 28 #[.string (str l), .string ⟨#[92]⟩] W fun e w' => e = .returned (.bool false) ∧ w' = W) := Lib.hid fun W => by
        have := Tryz.strings_Contains_one (str l) 92 W
        rw [show (str l).data.toList = l from rfl, decide_eq_false hc] at this
        exact this
      have htl : t = l := HG4.out (noB_index l hc)
      subst htl
      clear hc HG4
      go_enter Tryz.func8, Tryz.ntmps8
      go_wp2_with (first
        | (go_at_call 18; (with_reducible refine HSH.out.mono ?_); rintro e w1 ⟨rfl, hw1⟩; subst hw1)
        | (go_at_call 19; (with_reducible refine (HPB.out _ HS3.out).mono ?_); rintro e w4 ⟨⟨q, rfl, hq⟩, hb4⟩; have HQ4 := Lib.hid hq; have HO4 := Lib.hid (HO3.out.below hb4); have HS4 := Lib.hid (HS3.out.step hb4); clear hq hb4)
        | (go_at_call 19; (with_reducible refine (HPA.out _ HS0.out).mono ?_); rintro e w2 ⟨⟨p, rfl, hp⟩, hb2⟩; have HO2 := Lib.hid hp; have HS2 := Lib.hid (HS0.out.step hb2); clear hp hb2)
        | (go_at_call 14; (with_reducible refine (HSHO.out _ _ HS2.out HO2.out).mono ?_); rintro e w3 ⟨rfl, hb3⟩; have HO3 := Lib.hid (HO2.out.below hb3); have HS3 := Lib.hid (HS2.out.step hb3); clear hb3)
        | (go_at_call 16; (with_reducible refine (HEQ.out _ _ _ HO4.out HQ4.out).mono ?_); rintro e w5 ⟨rfl, hb5⟩; have HS5 := Lib.hid (HS4.out.step hb5); clear hb5)
        | (go_at_call 28; (with_reducible refine (HCO.out _).mono ?_); rintro e w6 ⟨rfl, hw6⟩; subst hw6)
        | (go_at_call 17; (with_reducible refine (HW.out _ HS5.out).mono ?_); rintro e w7 ⟨rfl, hS7⟩; have HS7 := Lib.hid (HS5.out.step hS7.bl); clear hS7))
      go_ret
      exact ⟨rfl, HS7.out.bl⟩
  · obtain ⟨hps, hnl⟩ := gb hE
    simp only at hps hnl
    subst hps
    have HPA : Hid (∀ W, SP w W → Calls Tryz.prog 19 #[.string (str l)] W fun e w' => (∃ q c, e = .returned (.tuple #[.slice q 0 c, .int .i64 (n : Nat), .int .i64 (E : Nat)])) ∧ Below W.heap.size W w') := Lib.hid fun W hS => (HPA.out W hS).mono (by
      rintro e w' ⟨⟨q, rfl, hq⟩, hb⟩
      obtain ⟨A, m, c, rfl, hm, _⟩ := hq
      obtain rfl : m = 0 := hm.symm
      exact ⟨⟨A, c, rfl⟩, hb⟩)
    have hEi : ((E : Nat) : Int) ≠ 0 := by omega
    have hEb := neB hEi
    have hn1 : (0 : Int) ≤ (n : Int) := by omega
    have hn2 : (n : Int) ≤ ((str l).size : Int) := by omega
    clear ga gb hR hE hsz h6 hnl
    go_enter Tryz.func8, Tryz.ntmps8
    go_wp2_with (first
      | (go_at_call 18; (with_reducible refine HSH.out.mono ?_); rintro e w1 ⟨rfl, hw1⟩; subst hw1)
      | (go_at_call 19; (with_reducible refine (HPA.out _ HS0.out).mono ?_); rintro e w2 ⟨⟨q, c, rfl⟩, hb2⟩; have HS2 := Lib.hid (HS0.out.step hb2); clear hb2)
      | (go_at_call 17; (with_reducible refine (HW.out _ HS2.out).mono ?_); rintro e w7 ⟨rfl, hS7⟩; have HS7 := Lib.hid (HS2.out.step hS7.bl); clear hS7))
    go_ret
    exact ⟨rfl, HS7.out.bl⟩
end Go.Proofs.YtjnfilbdokppiaaGreatDoor
