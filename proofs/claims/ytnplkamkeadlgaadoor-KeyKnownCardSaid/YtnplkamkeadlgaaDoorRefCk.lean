/-
  What is proved here: contracts of the reference's (*walk).check and Check: they answer what the program's Check answers; conditions: at most 100000 nodes.
-/
import Derived.Test.YtnplkamkeadlgaaDoorSuch
import Derived.Test.YtnplkamkeadlgaaDoorChkZ
import Derived.Test.YtnplkamkeadlgaaDoorCutR
namespace Go.Proofs.YtnplkamkeadlgaaDoor
open Go.RowKit

theorem chkL_app : ∀ (a b : List (Nat × T)) (i : Nat), chkL (a ++ b) i = if chkL a i ≠ 0 then chkL a i else chkL b (i + a.length)
  | [], b, i => by simp [chkL]
  | x :: a, b, i => by
    have ih := chkL_app a b (i + 1)
    have e1 : ∀ r, chkL (x :: r) i = if stepE i x ≠ 0 then stepE i x else chkL r (i + 1) := fun r => rfl
    rw [List.cons_append, e1, e1, ih]
    by_cases h : stepE i x = 0
    · rw [if_neg (by simp [h]), if_neg (show ¬ stepE i x ≠ 0 by simp [h])]
      rw [show i + 1 + a.length = i + (x :: a).length by simp; omega]
    · rw [if_pos h, if_pos (by rw [if_pos h]; exact h), if_pos h]
/-- A walk without an error has met at most 4096 nodes. -/
theorem chkL_len : ∀ (l : List (Nat × T)) (i : Nat), i ≤ 4096 → chkL l i = 0 → i + l.length ≤ 4096
  | [], i, hi, _ => by simpa using hi
  | x :: r, i, hi, h => by
    have e1 : chkL (x :: r) i = if stepE i x ≠ 0 then stepE i x else chkL r (i + 1) := rfl
    rw [e1] at h
    by_cases h0 : stepE i x = 0
    · rw [if_neg (by simp [h0])] at h
      have := ((stepE_zero _ _).1 h0).1
      have := chkL_len r (i + 1) (by omega) h
      simp only [List.length_cons]
      omega
    · rw [if_pos h0] at h
      exact absurd h h0
def kE (ks : List ByteArray) (j : Nat) : Nat := keysE (ks.take j) (ks.drop j)
theorem kE_end (ks : List ByteArray) : kE ks ks.length = 0 := by unfold kE; rw [List.drop_length]; rfl
theorem kE_step {ks : List ByteArray} {j : Nat} {x : ByteArray} (h : ks[j]? = some x) : kE ks j = if hasZ x = true then 70 else if ((ks.take j).any fun d => d.data.toList == x.data.toList) = true then 71 else kE ks (j + 1) := by
  have hj := List.getElem?_eq_some_iff.1 h
  have e : ks.take (j + 1) = ks.take j ++ [x] := by rw [List.take_add_one, h]; rfl
  unfold kE
  rw [e, List.drop_eq_getElem_cons hj.1, hj.2]
  rfl

theorem preT_eq (k n u : Int) (s : ByteArray) (ks : List ByteArray) (L : List T) (b : Nat) : preT (.mk k n u s ks L) b = (b, .mk k n u s ks L) :: preL L (b + 1) := rfl
theorem preL_len : ∀ (l : List T) (d : Nat), (preL l d).length = szL l
  | [], _ => rfl
  | t :: ts, d => by
    show (preT t d ++ preL ts d).length = sz t + szL ts
    rw [List.length_append, preT_length, preL_len ts d]
/-- What the children from the j-th on add, where those ahead of it are without an error. -/
theorem chk_kids {L : List T} {j : Nat} {t : T} (ht : L[j]? = some t) (b c : Nat) : chkL (preL (L.drop j) b) c = if chkL (preT t b) c ≠ 0 then chkL (preT t b) c else chkL (preL (L.drop (j + 1)) b) (c + sz t) := by
  have hj := List.getElem?_eq_some_iff.1 ht
  rw [List.drop_eq_getElem_cons hj.1, hj.2]
  show chkL (preT t b ++ preL (L.drop (j + 1)) b) c = _
  rw [chkL_app, preT_length]
theorem chk_node (k n u : Int) (s : ByteArray) (ks : List ByteArray) (L : List T) (b c : Nat) : chkL (preT (.mk k n u s ks L) b) c = if stepE c (b, .mk k n u s ks L) ≠ 0 then stepE c (b, .mk k n u s ks L) else chkL (preL L (b + 1)) (c + 1) := rfl

theorem dec_lt (a b : Nat) (h : a < b) : decide ((a : Int) < (b : Int)) = true := decide_eq_true (by omega)
theorem dec_nlt (a b : Nat) (h : ¬ a < b) : decide ((a : Int) < (b : Int)) = false := decide_eq_false (by omega)
theorem dec_le (a b : Nat) (h : a ≤ b) : decide ((a : Int) ≤ (b : Int)) = true := decide_eq_true (by omega)
theorem dec_nle (a b : Nat) (h : ¬ a ≤ b) : decide ((a : Int) ≤ (b : Int)) = false := decide_eq_false (by omega)
theorem int_le (a b : Nat) (h : a ≤ b) : (a : Int) ≤ (b : Int) := by omega
theorem succ_int {c c1 : Nat} (h : c + 1 = c1) : (c : Int) + 1 = (c1 : Int) := by omega
theorem small_of {c c1 : Nat} (h : c + 1 = c1) (h2 : c ≤ 4096) : c1 < 2000000 := by omega
/-- Three boxes of a call of check: the node's, and the counter behind the pointer. -/
def WB (w : World) (R : Nat) (v0 v1 v2 v3 v4 v5 : Value) (N : Nat) (W : World) : Prop := Ex R w W ∧ R < w.heap.size ∧ w.heap.size < W.heap.size ∧ Bx W w.heap.size v0 v1 v2 v3 v4 v5 ∧ Blk W R 79 #[.int .i64 (N : Int)]
theorem WB.below {w W W2 : World} {R : Nat} {v0 v1 v2 v3 v4 v5 : Value} {N : Nat} (h : WB w R v0 v1 v2 v3 v4 v5 N W) (hb : Below W.heap.size W W2) : WB w R v0 v1 v2 v3 v4 v5 N W2 :=
  ⟨h.1.trans (Ex.of_below hb), h.2.1, Nat.lt_of_lt_of_le h.2.2.1 hb.size, Blk.below h.2.2.2.1 hb (Blk.lt h.2.2.2.1), Blk.below h.2.2.2.2 hb (Blk.lt h.2.2.2.2)⟩
theorem WB.go {w W W2 : World} {R : Nat} {v0 v1 v2 v3 v4 v5 : Value} {N M : Nat} (h : WB w R v0 v1 v2 v3 v4 v5 N W) (he : Ex R W W2) (hr : Blk W2 R 79 #[.int .i64 (M : Int)]) : WB w R v0 v1 v2 v3 v4 v5 M W2 :=
  ⟨h.1.trans he, h.2.1, Nat.lt_of_lt_of_le h.2.2.1 he.size, he.blk h.2.2.2.1 (by have := h.2.1; omega), hr⟩

set_option maxRecDepth 100000 in
set_option maxHeartbeats 4000000 in
theorem walkCheck_any (w0 : World) (R : Nat) (hR : w0.heap.size ≤ R) (k : Nat) : ∀ (t : T) (cs : List Value) (b c : Nat) (w : World), dp t ≤ k → sz t ≤ 100000 → b ≤ 200 → c ≤ 4096 → Nd w0 t cs → Below w0.heap.size w0 w → Blk w R 79 #[.int .i64 (c : Int)] →
    Calls Tryd.prog 61 #[.pointer (some ⟨R, 0, none⟩), .agg cs.toArray, .int .i64 (b : Int)] w fun e w' => e = .returned (.int .i64 ((chkL (preT t b) c : Nat) : Int)) ∧ Ex R w w' ∧ ∃ M : Nat, Blk w' R 79 #[.int .i64 (M : Int)] ∧ (chkL (preT t b) c = 0 → M = c + sz t) := by
  induction k with
  | zero => intro t cs b c w h; exact absurd h (by have := dp_pos t; omega)
  | succ k ih =>
    intro t cs b c w hk hsz hbd hc hnd hbw hRb
    have HSU : Hid (∀ W, Below w0.heap.size w0 W → Calls Tryd.prog 74 #[.agg cs.toArray] W fun e w' => e = .returned (.bool (suchT t)) ∧ Below W.heap.size W w') := Lib.hid fun W h => refSuch_any t cs W (hnd.bel h) (by
      have h1 : t.l.length ≤ szL t.l := len_le_szL _
      have h2 : sz t = 1 + szL t.l := by cases t; rfl
      omega)
    rcases t with ⟨kk, nn, uu, s, ks, L⟩
    obtain ⟨hr, hs, kv, A, m, cc, rfl, hks, hl, hm, hmm, hL⟩ := hnd
    obtain ⟨B, d, e, rfl, hkl, hde, hem, hkz, hB⟩ := hks.at
    simp only [dp] at hk
    simp only [sz] at hsz
    have hmx : m ≤ 100000 := by have := len_le_szL L; omega
    have hRl := hRb.lt
    have q0 : w.cell? ⟨R, 0, none⟩ = some (.int .i64 (c : Int)) := (hRb.cell 0).trans rfl
    have g0 := hRb.frozen 0
    obtain ⟨c1, hc1⟩ : ∃ c1, c + 1 = c1 := ⟨_, rfl⟩
    have hci : (c : Int) + 1 = (c1 : Int) := succ_int hc1
    have hcw : wrap64 (c1 : Int) = (c1 : Int) := wrap64_small c1 (small_of hc1 hc)
    have HW : Hid (WB w R (.int .i64 kk) (.int .i64 nn) (.int .u64 uu) (.string s) (.slice B d e) (.slice A m cc) c1 ((w.setCell ⟨R, 0, none⟩ (.int .i64 (c1 : Int))).alloc (.cells #[.int .i64 kk, .int .i64 nn, .int .u64 uu, .string s, .slice B d e, .slice A m cc] 31))) := Lib.hid ⟨(Ex.set w R 0 _).trans (Ex.of_below ((Below.refl _ _).alloc (Nat.le_refl _) _)), hRl, by simp, by
      have := Blk.new (w.setCell ⟨R, 0, none⟩ (.int .i64 (c1 : Int))) 31 #[.int .i64 kk, .int .i64 nn, .int .u64 uu, .string s, .slice B d e, .slice A m cc]
      rwa [World.size_setCell] at this, (hRb.put 0 _).alloc _⟩
    have HOUT : Hid (∀ W N, WB w R (.int .i64 kk) (.int .i64 nn) (.int .u64 uu) (.string s) (.slice B d e) (.slice A m cc) N W → Ex R w W ∧ Blk W R 79 #[.int .i64 (N : Int)]) := Lib.hid fun W N h => ⟨h.1, h.2.2.2.2⟩
    rw [chk_node]
    obtain ⟨E, hE⟩ : ∃ E, stepE c (b, .mk kk nn uu s ks L) = E := ⟨_, rfl⟩
    obtain ⟨β, hβ⟩ : ∃ β, suchT (.mk kk nn uu s ks L) = β := ⟨_, rfl⟩
    obtain ⟨K, hK⟩ : ∃ K, kE ks 0 = K := ⟨_, rfl⟩
    have e0 : E = if 4096 < c1 then 5 else if 64 ≤ b then 61 else if β = false then 60 else if kk = 5 ∧ hasZ s = true then 70 else K := by rw [← hE, ← hβ, ← hK, ← hc1]; rfl
    rw [hE]
    have HKE := Lib.hid hK
    rw [hβ] at HSU
    clear hE hβ hK
    by_cases h4 : 4096 < c1
    · rw [if_pos h4] at e0
      have hdec : decide ((4096 : Int) < (c1 : Int)) = true := by
        exact dec_lt 4096 c1 h4
      subst e0
      clear h4 hc hc1 HSU hL hks hB
      go_enter Tryd.func61, Tryd.ntmps61
      go_wp2_with fail
      go_ret
      refine ⟨rfl, HW.out.1, c1, ?_⟩
      simpa using HW.out.2.2.2.2
    rw [if_neg h4] at e0
    have hdec : decide ((4096 : Int) < (c1 : Int)) = false := by
      exact dec_nlt 4096 c1 h4
    have HC1 : Hid (c1 ≤ 4096) := Lib.hid (Nat.le_of_not_lt h4)
    have HCC := Lib.hid hc1
    clear h4 hc hc1
    by_cases hb6 : 64 ≤ b
    · rw [if_pos hb6] at e0
      have hbe : decide ((64 : Int) ≤ (b : Int)) = true := by
        exact dec_le 64 b hb6
      subst e0
      clear hb6 HSU hL hks hB
      go_enter Tryd.func61, Tryd.ntmps61
      go_wp2_with fail
      go_ret
      refine ⟨rfl, HW.out.1, c1, ?_⟩
      simpa using HW.out.2.2.2.2
    rw [if_neg hb6] at e0
    have hbe : decide ((64 : Int) ≤ (b : Int)) = false := by
      exact dec_nle 64 b hb6
    have HB6 := Lib.hid hb6
    clear hb6
    have hbB : (b : Int) ≤ 200 := by
      exact int_le b 200 hbd
    have HSW : Hid (∀ W, Hid (WB w R (.int .i64 kk) (.int .i64 nn) (.int .u64 uu) (.string s) (.slice B d e) (.slice A m cc) c1 W) → Calls Tryd.prog 74 #[.agg #[.int .i64 kk, .int .i64 nn, .int .u64 uu, .string s, .slice B d e, .slice A m cc]] W fun e' w' => e' = .returned (.bool β) ∧ Hid (WB w R (.int .i64 kk) (.int .i64 nn) (.int .u64 uu) (.string s) (.slice B d e) (.slice A m cc) c1 w')) := Lib.hid fun W H => (HSU.out W (hbw.trans (H.out.1.below hbw.size hR))).mono fun e' w' h => ⟨h.1, Lib.hid (H.out.below h.2)⟩
    clear HSU
    have HCL : Hid (∀ W N, Hid (WB w R (.int .i64 kk) (.int .i64 nn) (.int .u64 uu) (.string s) (.slice B d e) (.slice A m cc) N W) → W.cell? ⟨w.heap.size, 0, none⟩ = some (.int .i64 kk) ∧ W.cell? ⟨w.heap.size, 3, none⟩ = some (.string s) ∧ W.cell? ⟨w.heap.size, 4, none⟩ = some (.slice B d e) ∧ W.cell? ⟨w.heap.size, 5, none⟩ = some (.slice A m cc)) := Lib.hid fun W N H => ⟨H.out.2.2.2.1.all.1, H.out.2.2.2.1.all.2.2.2.1, H.out.2.2.2.1.all.2.2.2.2.1, H.out.2.2.2.1.all.2.2.2.2.2⟩
    have HZS : Hid (∀ W x, x.size ≤ maxLen → Calls Tryd.prog 41 #[.string x] W fun e' w' => e' = .returned (.bool (hasZ x)) ∧ Below W.heap.size W w') := Lib.hid fun W x h => refZero_any x W h
    cases β with
    | false =>
      rw [if_pos rfl] at e0
      subst e0
      clear hL hks hB HCL HZS
      go_enter Tryd.func61, Tryd.ntmps61
      go_wp2_with (go_at_call 74; refine (HSW.out _ HW).mono ?_; rintro e' w2 ⟨rfl, HW2⟩)
      go_ret
      refine ⟨rfl, HW2.out.1, c1, ?_⟩
      simpa using HW2.out.2.2.2.2
    | true =>
    rw [if_neg (by simp)] at e0
    by_cases hz : kk = 5 ∧ hasZ s = true
    · rw [if_pos hz] at e0
      obtain ⟨rfl, hz⟩ := hz
      subst e0
      clear hL hks hB
      go_enter Tryd.func61, Tryd.ntmps61
      go_wp2_with (first
        | (go_at_call 74; refine (HSW.out _ HW).mono ?_; rintro e' w2 ⟨rfl, HW2⟩; obtain ⟨x0, x3, x4, x5⟩ := HCL.out _ _ HW2)
        | (go_at_call 41; refine (HZS.out _ s hs).mono ?_; rintro e' w3 ⟨rfl, hb3⟩; rw [hz]; have HW3 := Lib.hid (HW2.out.below hb3)))
      go_ret
      refine ⟨rfl, HW3.out.1, c1, ?_⟩
      simpa using HW3.out.2.2.2.2
    rw [if_neg hz] at e0
    subst e0
    obtain ⟨Z, hZ⟩ : ∃ Z, (if E ≠ 0 then E else chkL (preL L (b + 1)) (c + 1)) = Z := ⟨_, rfl⟩
    rw [hZ]
    have HZ := Lib.hid hZ
    clear hZ
    have hcase : (kk == 5) = false ∨ (kk = 5 ∧ hasZ s = false) := by
      by_cases h5 : kk = 5
      · refine .inr ⟨h5, ?_⟩
        cases h : hasZ s
        · rfl
        · exact absurd ⟨h5, h⟩ hz
      · exact .inl (by simpa using h5)
    clear hz
    have HKB : Hid (∀ W N, Hid (WB w R (.int .i64 kk) (.int .i64 nn) (.int .u64 uu) (.string s) (.slice B d e) (.slice A m cc) N W) → Below w0.heap.size w0 W) := Lib.hid fun W N H => hbw.trans (H.out.1.below hbw.size hR)
    have HIH : Hid (∀ j t0 v0 v1 v2 v3 v4 v5 (c2 : Nat) W, L[j]? = some t0 → c2 ≤ 4096 → Hid (WB w R (.int .i64 kk) (.int .i64 nn) (.int .u64 uu) (.string s) (.slice B d e) (.slice A m cc) c2 W) → Nd w0 t0 [v0, v1, v2, v3, v4, v5] → Calls Tryd.prog 61 #[.pointer (some ⟨R, 0, none⟩), .agg #[v0, v1, v2, v3, v4, v5], .int .i64 ((b : Int) + 1)] W fun e' w' => e' = .returned (.int .i64 ((chkL (preT t0 (b + 1)) c2 : Nat) : Int)) ∧ ∃ M : Nat, Hid (WB w R (.int .i64 kk) (.int .i64 nn) (.int .u64 uu) (.string s) (.slice B d e) (.slice A m cc) M w') ∧ Hid (chkL (preT t0 (b + 1)) c2 = 0 → M = c2 + sz t0)) := Lib.hid fun j t0 v0 v1 v2 v3 v4 v5 c2 W ht hc2 H hn => by
      have hd := dp_le_of ht
      have hz := sz_le_of ht
      have hb6 := HB6.out
      refine (ih t0 _ (b + 1) c2 W (by omega) (by omega) (by omega) hc2 hn (HKB.out W c2 H) H.out.2.2.2.2).mono ?_
      rintro e' w' ⟨rfl, hex, M, hM, hi⟩
      exact ⟨rfl, M, Lib.hid (H.out.go hex hM), Lib.hid hi⟩
    clear ih
    have hdd : d ≤ 9223372036854775807 := Nat.le_trans hde hem
    rcases hcase with h5 | ⟨rfl, h5⟩
    · go_enter Tryd.func61, Tryd.ntmps61
      go_wp2_with (first
        | (go_at_call 74; refine (HSW.out _ HW).mono ?_; rintro e' w3 ⟨rfl, HW3⟩; obtain ⟨x0, x3, x4, x5⟩ := HCL.out _ _ HW3))
      clear HW HSW x0 x3 x4 x5
      have HPB : Hid (∀ N W W2, WB w R (.int .i64 kk) (.int .i64 nn) (.int .u64 uu) (.string s) (.slice B d e) (.slice A m cc) N W → Below W.heap.size W W2 → WB w R (.int .i64 kk) (.int .i64 nn) (.int .u64 uu) (.string s) (.slice B d e) (.slice A m cc) N W2) := Lib.hid fun N W W2 h k => h.below k
      have HPO : Hid (∀ N W, WB w R (.int .i64 kk) (.int .i64 nn) (.int .u64 uu) (.string s) (.slice B d e) (.slice A m cc) N W → Ex R w W ∧ Blk W R 79 #[.int .i64 (N : Int)]) := Lib.hid fun N W h => ⟨h.1, h.2.2.2.2⟩
      generalize hP : WB w R (.int .i64 kk) (.int .i64 nn) (.int .u64 uu) (.string s) (.slice B d e) (.slice A m cc) = P at HCL HKB HIH HW3 HPB HPO
      clear hP hcw hci hdec hbe q0 g0
      have HPQ : Hid (∀ W, P c1 W → ∀ q, Ex R w (W.drewN q) ∧ Blk (W.drewN q) R 79 #[.int .i64 (c1 : Int)]) := Lib.hid fun W h q => HPO.out _ _ (HPB.out _ _ _ h ((Below.refl _ _).drewN q))
      go_loopw [7] (fun i wr => ∃ j : Nat, j ≤ d ∧ i = .int .i64 (j : Int) ∧ Hid (kE ks j = E) ∧ Hid (P c1 wr)) (fun i _ => d - (intOf i).toNat)
      case atStart => exact ⟨0, Nat.zero_le _, rfl, HKE, HW3⟩
      case round =>
        obtain ⟨j, hj, rfl, HK, HX⟩ := hrel
        obtain ⟨x0, x3, x4, x5⟩ := HCL.out _ _ HX
        by_cases hjd : j < d
        · obtain ⟨x, hx⟩ : ∃ x, ks[j]? = some x := ⟨_, List.getElem?_eq_getElem (by omega)⟩
          obtain ⟨b1, o1, rfl, _, hcell⟩ := hB (by omega)
          have HCELL := Lib.hid hcell
          have y1 := hcell wr (HKB.out _ _ HX) j x hx
          have hxs := hkz x (List.mem_of_getElem? hx)
          have HST := Lib.hid (HK.out.symm.trans (kE_step hx))
          have HXX := Lib.hid hx
          clear hx hcell
          by_cases hzx : hasZ x = true
          · have HE : Hid (E = 70) := Lib.hid (by have := HST.out; rw [if_pos hzx] at this; exact this)
            go_wp2_with (go_at_call 41; refine (HZS.out _ x hxs).mono ?_; rintro e' w4 ⟨rfl, hb4⟩; rw [hzx]; have HW4 := Lib.hid (HPB.out _ _ _ HX.out hb4); clear hb4)
            go_ret
            have hZ := HZ.out
            rw [HE.out] at hZ
            subst hZ
            refine ⟨rfl, (HPO.out _ _ HW4.out).1, c1, ?_⟩
            simpa using (HPO.out _ _ HW4.out).2
          · have hzf : hasZ x = false := by simpa using hzx
            have HST2 : Hid (E = if ((ks.take j).any fun d => d.data.toList == x.data.toList) = true then 71 else kE ks (j + 1)) := Lib.hid (by have := HST.out; rw [if_neg hzx] at this; exact this)
            clear hzx HST
            go_wp2_with (go_at_call 41; refine (HZS.out _ x hxs).mono ?_; rintro e' w4 ⟨rfl, hb4⟩; rw [hzf]; have HW4 := Lib.hid (HPB.out _ _ _ HX.out hb4); clear hb4)
            clear x0 x3 x4 x5 y1
            go_loopw [8] (fun i wr => ∃ q : Nat, q ≤ j ∧ i = .int .i64 (q : Int) ∧ Hid (((ks.take q).any fun d => d.data.toList == x.data.toList) = false) ∧ Hid (P c1 wr)) (fun i _ => j - (intOf i).toNat)
            case atStart => exact ⟨0, Nat.zero_le _, rfl, Lib.hid rfl, HW4⟩
            case round =>
              obtain ⟨q, hq, rfl, HQ, HY⟩ := hrel
              obtain ⟨x0, x3, x4, x5⟩ := HCL.out _ _ HY
              have y1 := HCELL.out wr (HKB.out _ _ HY) j x HXX.out
              by_cases hqj : q < j
              · obtain ⟨y, hy⟩ : ∃ y, ks[q]? = some y := ⟨_, List.getElem?_eq_getElem (by omega)⟩
                have y2 := HCELL.out wr (HKB.out _ _ HY) q y hy
                have HYY := Lib.hid hy
                clear hy
                by_cases hxy : y = x
                · have hT := strEq_true hxy
                  have HE : Hid (E = 71) := Lib.hid (by
                    have := HST2.out
                    rw [if_pos ?_] at this
                    · exact this
                    · rw [List.any_eq_true]
                      exact ⟨y, List.mem_of_getElem? (i := q) (by rw [List.getElem?_take, if_pos hqj]; exact HYY.out), by rw [hxy]; simp⟩)
                  clear hxy
                  go_wp2_with fail
                  go_quiet (fail)
                  go_wp2_with fail
                  go_ret
                  have hZ := HZ.out
                  rw [HE.out] at hZ
                  subst hZ
                  refine ⟨rfl, (HPQ.out _ HY.out _).1, c1, ?_⟩
                  first | exact (HPQ.out _ HY.out _).2 | exact ⟨(HPQ.out _ HY.out _).2, fun h => absurd h (by simp)⟩
                · have hF := strEq_false hxy
                  have HQ2 : Hid (((ks.take (q + 1)).any fun d => d.data.toList == x.data.toList) = false) := Lib.hid (by
                    rw [List.take_add_one, HYY.out, List.any_append, HQ.out]
                    simp
                    exact fun e => hxy (bytes_ext (by rw [e])))
                  clear hxy
                  go_wp2_with fail
                  go_quiet (fail)
                  go_wp2_with fail
                  go_roundw
                  case rel => exact ⟨q + 1, by omega, by simp, HQ2, Lib.hid (HPB.out _ _ _ HY.out ((Below.refl _ _).drewN _))⟩
                  case measure => simp [intOf]; omega
              · obtain rfl : q = j := by omega
                have HK2 : Hid (kE ks (q + 1) = E) := Lib.hid (by
                  have := HST2.out
                  rw [if_neg (by rw [HQ.out]; simp)] at this
                  exact this.symm)
                go_wp2_with fail
                refine ⟨⟨q + 1, by omega, by simp, HK2, HY⟩, ?_⟩
                simp [intOf]
                omega
        · obtain rfl : j = d := by omega
          have HE0 : Hid (E = 0) := Lib.hid (by rw [← HK.out, ← hkl]; exact kE_end ks)
          have HZ0 : Hid (chkL (preL L (b + 1)) c1 = Z) := Lib.hid (by
            have := HZ.out
            rw [HE0.out, if_neg (by simp), HCC.out] at this
            exact this)
          clear HK HKE HZ HB6
          have HX1 := HX
          clear HX HZS
          go_wp2_with fail
          clear x0 x3 x4 x5
          go_loopw [9] (fun i wr => ∃ j C : Nat, j ≤ m ∧ i = .int .i64 (j : Int) ∧ Hid (C = c1 + szL (L.take j) ∧ C ≤ 4096) ∧ Hid (chkL (preL (L.drop j) (b + 1)) C = Z) ∧ Hid (P C wr)) (fun i _ => m - (intOf i).toNat)
          case atStart => exact ⟨0, c1, Nat.zero_le _, rfl, Lib.hid ⟨rfl, HC1.out⟩, HZ0, HX1⟩
          case round =>
            obtain ⟨j, C, hj, rfl, HCJ, HZJ, HX⟩ := hrel
            obtain ⟨x0, x3, x4, x5⟩ := HCL.out _ _ HX
            by_cases hjm : j < m
            · obtain ⟨bb, off, rfl, hbb, hN⟩ := hL (by omega)
              obtain ⟨t0, ht0⟩ : ∃ t, L[j]? = some t := ⟨_, List.getElem?_eq_getElem (by omega)⟩
              obtain ⟨v0, v1, v2, v3, v4, v5, hS, hn0⟩ := hN.six' (Below.refl _ _) hbb ht0
              obtain ⟨k1, i1, u1, s1, A1, m1, c1', A2, m2, c2', rfl, rfl, rfl, rfl, rfl, rfl⟩ := hn0.shape6
              obtain ⟨a0, a1, a2, a3, a4, a5⟩ := hS.below (HKB.out _ _ HX) hbb
              obtain ⟨r, hr2⟩ : ∃ r, chkL (preT t0 (b + 1)) C = r := ⟨_, rfl⟩
              have HCALL : Hid (Calls Tryd.prog 61 #[.pointer (some ⟨R, 0, none⟩), .agg #[.int .i64 k1, .int .i64 i1, .int .u64 u1, .string s1, .slice A1 m1 c1', .slice A2 m2 c2'], .int .i64 ((b : Int) + 1)] wr fun e' w' => e' = .returned (.int .i64 (r : Int)) ∧ ∃ M : Nat, Hid (P M w') ∧ Hid (r = 0 → M = C + sz t0)) := Lib.hid (by
                have := HIH.out j t0 _ _ _ _ _ _ C wr ht0 HCJ.out.2 HX hn0
                rw [hr2] at this
                exact this)
              have HKK : Hid (Z = if r ≠ 0 then r else chkL (preL (L.drop (j + 1)) (b + 1)) (C + sz t0)) := Lib.hid (by
                have := HZJ.out
                rw [chk_kids ht0, hr2] at this
                exact this.symm)
              have HLE : Hid (r = 0 → C + sz t0 = c1 + szL (L.take (j + 1)) ∧ C + sz t0 ≤ 4096) := Lib.hid fun h => by
                have h1 := chkL_len (preT t0 (b + 1)) C HCJ.out.2 (by rw [hr2, h])
                rw [preT_length] at h1
                have h2 := HCJ.out.1
                have h3 := szL_take ht0
                exact ⟨by omega, h1⟩
              clear hS hn0 hN hbb ht0 hr2 HZJ HIH
              have hjs : j ≤ 100000 := by omega
              by_cases hr0 : r = 0
              · subst hr0
                have HLE2 := Lib.hid (HLE.out rfl)
                have HZ2 : Hid (chkL (preL (L.drop (j + 1)) (b + 1)) (C + sz t0) = Z) := Lib.hid (by have := HKK.out; rw [if_neg (by simp)] at this; exact this.symm)
                go_wp2_with (go_at_call 61; refine HCALL.out.mono ?_; clear HCALL; rintro e' w6 ⟨rfl, M, HPM, HM⟩; obtain rfl := HM.out rfl)
                go_roundw
                case rel => exact ⟨j + 1, C + sz t0, by omega, by simp, HLE2, HZ2, HPM⟩
                case measure => simp [intOf]; omega
              · have hrn : ((r : Int) != 0) = true := by simpa using hr0
                have HZ2 : Hid (Z = r) := Lib.hid (by have := HKK.out; rw [if_pos hr0] at this; exact this)
                have HR0 := Lib.hid hr0
                clear hr0
                go_wp2_with (go_at_call 61; refine HCALL.out.mono ?_; clear HCALL; rintro e' w6 ⟨rfl, M, HPM, HM⟩)
                go_ret
                refine ⟨by rw [HZ2.out]; rfl, (HPO.out _ _ HPM.out).1, M, (HPO.out _ _ HPM.out).2, fun h => absurd (HZ2.out.symm.trans h) HR0.out⟩
            · obtain rfl : j = m := by omega
              have HZE : Hid (Z = 0) := Lib.hid (by
                have := HZJ.out
                rw [← hl, List.drop_length] at this
                exact this.symm)
              go_wp2_with fail
              go_ret
              refine ⟨by rw [HZE.out]; rfl, (HPO.out _ _ HX.out).1, C, (HPO.out _ _ HX.out).2, fun _ => ?_⟩
              have h1 := HCJ.out.1
              rw [List.take_of_length_le (by omega)] at h1
              have h2 := HCC.out
              simp only [sz]
              omega
    · go_enter Tryd.func61, Tryd.ntmps61
      go_wp2_with (first
        | (go_at_call 74; refine (HSW.out _ HW).mono ?_; rintro e' w2 ⟨rfl, HW2⟩; obtain ⟨x0, x3, x4, x5⟩ := HCL.out _ _ HW2)
        | (go_at_call 41; refine (HZS.out _ s hs).mono ?_; rintro e' w3 ⟨rfl, hb3⟩; rw [h5]; have HW3 := Lib.hid (HW2.out.below hb3); clear x0 x3 x4 x5; obtain ⟨x0, x3, x4, x5⟩ := HCL.out _ _ HW3))
      clear HW HSW HW2 x0 x3 x4 x5
      have HPB : Hid (∀ N W W2, WB w R (.int .i64 5) (.int .i64 nn) (.int .u64 uu) (.string s) (.slice B d e) (.slice A m cc) N W → Below W.heap.size W W2 → WB w R (.int .i64 5) (.int .i64 nn) (.int .u64 uu) (.string s) (.slice B d e) (.slice A m cc) N W2) := Lib.hid fun N W W2 h k => h.below k
      have HPO : Hid (∀ N W, WB w R (.int .i64 5) (.int .i64 nn) (.int .u64 uu) (.string s) (.slice B d e) (.slice A m cc) N W → Ex R w W ∧ Blk W R 79 #[.int .i64 (N : Int)]) := Lib.hid fun N W h => ⟨h.1, h.2.2.2.2⟩
      generalize hP : WB w R (.int .i64 5) (.int .i64 nn) (.int .u64 uu) (.string s) (.slice B d e) (.slice A m cc) = P at HCL HKB HIH HW3 HPB HPO
      clear hP hcw hci hdec hbe q0 g0
      have HPQ : Hid (∀ W, P c1 W → ∀ q, Ex R w (W.drewN q) ∧ Blk (W.drewN q) R 79 #[.int .i64 (c1 : Int)]) := Lib.hid fun W h q => HPO.out _ _ (HPB.out _ _ _ h ((Below.refl _ _).drewN q))
      go_loopw [7] (fun i wr => ∃ j : Nat, j ≤ d ∧ i = .int .i64 (j : Int) ∧ Hid (kE ks j = E) ∧ Hid (P c1 wr)) (fun i _ => d - (intOf i).toNat)
      case atStart => exact ⟨0, Nat.zero_le _, rfl, HKE, HW3⟩
      case round =>
        obtain ⟨j, hj, rfl, HK, HX⟩ := hrel
        obtain ⟨x0, x3, x4, x5⟩ := HCL.out _ _ HX
        by_cases hjd : j < d
        · obtain ⟨x, hx⟩ : ∃ x, ks[j]? = some x := ⟨_, List.getElem?_eq_getElem (by omega)⟩
          obtain ⟨b1, o1, rfl, _, hcell⟩ := hB (by omega)
          have HCELL := Lib.hid hcell
          have y1 := hcell wr (HKB.out _ _ HX) j x hx
          have hxs := hkz x (List.mem_of_getElem? hx)
          have HST := Lib.hid (HK.out.symm.trans (kE_step hx))
          have HXX := Lib.hid hx
          clear hx hcell
          by_cases hzx : hasZ x = true
          · have HE : Hid (E = 70) := Lib.hid (by have := HST.out; rw [if_pos hzx] at this; exact this)
            go_wp2_with (go_at_call 41; refine (HZS.out _ x hxs).mono ?_; rintro e' w4 ⟨rfl, hb4⟩; rw [hzx]; have HW4 := Lib.hid (HPB.out _ _ _ HX.out hb4); clear hb4)
            go_ret
            have hZ := HZ.out
            rw [HE.out] at hZ
            subst hZ
            refine ⟨rfl, (HPO.out _ _ HW4.out).1, c1, ?_⟩
            simpa using (HPO.out _ _ HW4.out).2
          · have hzf : hasZ x = false := by simpa using hzx
            have HST2 : Hid (E = if ((ks.take j).any fun d => d.data.toList == x.data.toList) = true then 71 else kE ks (j + 1)) := Lib.hid (by have := HST.out; rw [if_neg hzx] at this; exact this)
            clear hzx HST
            go_wp2_with (go_at_call 41; refine (HZS.out _ x hxs).mono ?_; rintro e' w4 ⟨rfl, hb4⟩; rw [hzf]; have HW4 := Lib.hid (HPB.out _ _ _ HX.out hb4); clear hb4)
            clear x0 x3 x4 x5 y1
            go_loopw [8] (fun i wr => ∃ q : Nat, q ≤ j ∧ i = .int .i64 (q : Int) ∧ Hid (((ks.take q).any fun d => d.data.toList == x.data.toList) = false) ∧ Hid (P c1 wr)) (fun i _ => j - (intOf i).toNat)
            case atStart => exact ⟨0, Nat.zero_le _, rfl, Lib.hid rfl, HW4⟩
            case round =>
              obtain ⟨q, hq, rfl, HQ, HY⟩ := hrel
              obtain ⟨x0, x3, x4, x5⟩ := HCL.out _ _ HY
              have y1 := HCELL.out wr (HKB.out _ _ HY) j x HXX.out
              by_cases hqj : q < j
              · obtain ⟨y, hy⟩ : ∃ y, ks[q]? = some y := ⟨_, List.getElem?_eq_getElem (by omega)⟩
                have y2 := HCELL.out wr (HKB.out _ _ HY) q y hy
                have HYY := Lib.hid hy
                clear hy
                by_cases hxy : y = x
                · have hT := strEq_true hxy
                  have HE : Hid (E = 71) := Lib.hid (by
                    have := HST2.out
                    rw [if_pos ?_] at this
                    · exact this
                    · rw [List.any_eq_true]
                      exact ⟨y, List.mem_of_getElem? (i := q) (by rw [List.getElem?_take, if_pos hqj]; exact HYY.out), by rw [hxy]; simp⟩)
                  clear hxy
                  go_wp2_with fail
                  go_quiet (fail)
                  go_wp2_with fail
                  go_ret
                  have hZ := HZ.out
                  rw [HE.out] at hZ
                  subst hZ
                  refine ⟨rfl, (HPQ.out _ HY.out _).1, c1, ?_⟩
                  first | exact (HPQ.out _ HY.out _).2 | exact ⟨(HPQ.out _ HY.out _).2, fun h => absurd h (by simp)⟩
                · have hF := strEq_false hxy
                  have HQ2 : Hid (((ks.take (q + 1)).any fun d => d.data.toList == x.data.toList) = false) := Lib.hid (by
                    rw [List.take_add_one, HYY.out, List.any_append, HQ.out]
                    simp
                    exact fun e => hxy (bytes_ext (by rw [e])))
                  clear hxy
                  go_wp2_with fail
                  go_quiet (fail)
                  go_wp2_with fail
                  go_roundw
                  case rel => exact ⟨q + 1, by omega, by simp, HQ2, Lib.hid (HPB.out _ _ _ HY.out ((Below.refl _ _).drewN _))⟩
                  case measure => simp [intOf]; omega
              · obtain rfl : q = j := by omega
                have HK2 : Hid (kE ks (q + 1) = E) := Lib.hid (by
                  have := HST2.out
                  rw [if_neg (by rw [HQ.out]; simp)] at this
                  exact this.symm)
                go_wp2_with fail
                refine ⟨⟨q + 1, by omega, by simp, HK2, HY⟩, ?_⟩
                simp [intOf]
                omega
        · obtain rfl : j = d := by omega
          have HE0 : Hid (E = 0) := Lib.hid (by rw [← HK.out, ← hkl]; exact kE_end ks)
          have HZ0 : Hid (chkL (preL L (b + 1)) c1 = Z) := Lib.hid (by
            have := HZ.out
            rw [HE0.out, if_neg (by simp), HCC.out] at this
            exact this)
          clear HK HKE HZ HB6
          have HX1 := HX
          clear HX HZS
          go_wp2_with fail
          clear x0 x3 x4 x5
          go_loopw [9] (fun i wr => ∃ j C : Nat, j ≤ m ∧ i = .int .i64 (j : Int) ∧ Hid (C = c1 + szL (L.take j) ∧ C ≤ 4096) ∧ Hid (chkL (preL (L.drop j) (b + 1)) C = Z) ∧ Hid (P C wr)) (fun i _ => m - (intOf i).toNat)
          case atStart => exact ⟨0, c1, Nat.zero_le _, rfl, Lib.hid ⟨rfl, HC1.out⟩, HZ0, HX1⟩
          case round =>
            obtain ⟨j, C, hj, rfl, HCJ, HZJ, HX⟩ := hrel
            obtain ⟨x0, x3, x4, x5⟩ := HCL.out _ _ HX
            by_cases hjm : j < m
            · obtain ⟨bb, off, rfl, hbb, hN⟩ := hL (by omega)
              obtain ⟨t0, ht0⟩ : ∃ t, L[j]? = some t := ⟨_, List.getElem?_eq_getElem (by omega)⟩
              obtain ⟨v0, v1, v2, v3, v4, v5, hS, hn0⟩ := hN.six' (Below.refl _ _) hbb ht0
              obtain ⟨k1, i1, u1, s1, A1, m1, c1', A2, m2, c2', rfl, rfl, rfl, rfl, rfl, rfl⟩ := hn0.shape6
              obtain ⟨a0, a1, a2, a3, a4, a5⟩ := hS.below (HKB.out _ _ HX) hbb
              obtain ⟨r, hr2⟩ : ∃ r, chkL (preT t0 (b + 1)) C = r := ⟨_, rfl⟩
              have HCALL : Hid (Calls Tryd.prog 61 #[.pointer (some ⟨R, 0, none⟩), .agg #[.int .i64 k1, .int .i64 i1, .int .u64 u1, .string s1, .slice A1 m1 c1', .slice A2 m2 c2'], .int .i64 ((b : Int) + 1)] wr fun e' w' => e' = .returned (.int .i64 (r : Int)) ∧ ∃ M : Nat, Hid (P M w') ∧ Hid (r = 0 → M = C + sz t0)) := Lib.hid (by
                have := HIH.out j t0 _ _ _ _ _ _ C wr ht0 HCJ.out.2 HX hn0
                rw [hr2] at this
                exact this)
              have HKK : Hid (Z = if r ≠ 0 then r else chkL (preL (L.drop (j + 1)) (b + 1)) (C + sz t0)) := Lib.hid (by
                have := HZJ.out
                rw [chk_kids ht0, hr2] at this
                exact this.symm)
              have HLE : Hid (r = 0 → C + sz t0 = c1 + szL (L.take (j + 1)) ∧ C + sz t0 ≤ 4096) := Lib.hid fun h => by
                have h1 := chkL_len (preT t0 (b + 1)) C HCJ.out.2 (by rw [hr2, h])
                rw [preT_length] at h1
                have h2 := HCJ.out.1
                have h3 := szL_take ht0
                exact ⟨by omega, h1⟩
              clear hS hn0 hN hbb ht0 hr2 HZJ HIH
              have hjs : j ≤ 100000 := by omega
              by_cases hr0 : r = 0
              · subst hr0
                have HLE2 := Lib.hid (HLE.out rfl)
                have HZ2 : Hid (chkL (preL (L.drop (j + 1)) (b + 1)) (C + sz t0) = Z) := Lib.hid (by have := HKK.out; rw [if_neg (by simp)] at this; exact this.symm)
                go_wp2_with (go_at_call 61; refine HCALL.out.mono ?_; clear HCALL; rintro e' w6 ⟨rfl, M, HPM, HM⟩; obtain rfl := HM.out rfl)
                go_roundw
                case rel => exact ⟨j + 1, C + sz t0, by omega, by simp, HLE2, HZ2, HPM⟩
                case measure => simp [intOf]; omega
              · have hrn : ((r : Int) != 0) = true := by simpa using hr0
                have HZ2 : Hid (Z = r) := Lib.hid (by have := HKK.out; rw [if_pos hr0] at this; exact this)
                have HR0 := Lib.hid hr0
                clear hr0
                go_wp2_with (go_at_call 61; refine HCALL.out.mono ?_; clear HCALL; rintro e' w6 ⟨rfl, M, HPM, HM⟩)
                go_ret
                refine ⟨by rw [HZ2.out]; rfl, (HPO.out _ _ HPM.out).1, M, (HPO.out _ _ HPM.out).2, fun h => absurd (HZ2.out.symm.trans h) HR0.out⟩
            · obtain rfl : j = m := by omega
              have HZE : Hid (Z = 0) := Lib.hid (by
                have := HZJ.out
                rw [← hl, List.drop_length] at this
                exact this.symm)
              go_wp2_with fail
              go_ret
              refine ⟨by rw [HZE.out]; rfl, (HPO.out _ _ HX.out).1, C, (HPO.out _ _ HX.out).2, fun _ => ?_⟩
              have h1 := HCJ.out.1
              rw [List.take_of_length_le (by omega)] at h1
              have h2 := HCC.out
              simp only [sz]
              omega

set_option maxRecDepth 100000 in
set_option maxHeartbeats 4000000 in
/-- The reference's Check answers what the program's answers. -/
theorem refCheck_any (t : T) (cs : List Value) (w : World) (hsz : sz t ≤ 100000) (hnd : Nd w t cs) : Calls Tryd.prog 45 #[.agg cs.toArray] w fun e w' => e = .returned (.int .i64 ((chk t : Nat) : Int)) ∧ Below w.heap.size w w' := by
  obtain ⟨k, n, u, s, A1, m1, c1, A2, m2, c2, rfl⟩ := hnd.shape
  have hB : Blk ((w.alloc (.cells #[.int .i64 k, .int .i64 n, .int .u64 u, .string s, .slice A1 m1 c1, .slice A2 m2 c2] 31)).alloc (.cells #[.int .i64 0] 79)) (w.heap.size + 1) 79 #[.int .i64 0] := by
    have := Blk.new (w.alloc (.cells #[.int .i64 k, .int .i64 n, .int .u64 u, .string s, .slice A1 m1 c1, .slice A2 m2 c2] 31)) 79 #[.int .i64 0]
    rwa [World.size_alloc] at this
  have hb := ((Below.refl w.heap.size w).alloc (Nat.le_refl _) (.cells #[.int .i64 k, .int .i64 n, .int .u64 u, .string s, .slice A1 m1 c1, .slice A2 m2 c2] 31)).alloc (by simp) (.cells #[.int .i64 0] 79)
  have HC := Lib.hid (walkCheck_any w (w.heap.size + 1) (Nat.le_succ _) (dp t) t _ 0 0 _ (Nat.le_refl _) hsz (Nat.zero_le _) (Nat.zero_le _) hnd hb hB)
  have HB := Lib.hid hb
  clear hB hb
  go_enter Tryd.func45, Tryd.ntmps45
  go_wp2_with (go_at_call 61; refine HC.out.mono ?_; clear HC; rintro e' w6 ⟨rfl, hex, -⟩)
  go_ret
  exact ⟨rfl, HB.out.trans (hex.below HB.out.size (Nat.le_succ _))⟩
end Go.Proofs.YtnplkamkeadlgaaDoor
