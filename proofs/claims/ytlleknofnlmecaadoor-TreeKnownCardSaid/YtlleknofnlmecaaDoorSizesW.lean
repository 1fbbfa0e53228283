/-
  What is proved here: TreeSizes returns true and leaves old memory as it was; condition: the table holds what is laid.
-/
import Derived.Test.YtlleknofnlmecaaDoorChkZ
import Derived.Test.YtlleknofnlmecaaDoorSame
import Derived.Test.YtlleknofnlmecaaDoorWork
namespace Go.Proofs.YtlleknofnlmecaaDoor
open Go.RowKit

theorem atT_zero (t : T) : atT t 0 = some t := by cases t; rfl
theorem atL_take : ∀ (L : List T) (j : Nat) (t : T), L[j]? = some t → atL L (szL (L.take j)) = some t
  | [], j, t, h => by simp at h
  | x :: xs, 0, t, h => by
    obtain rfl : x = t := by simpa using h
    show atL (x :: xs) 0 = _
    unfold atL
    rw [if_pos (sz_pos x), atT_zero]
  | x :: xs, j + 1, t, h => by
    have h' : xs[j]? = some t := by simpa using h
    show atL (x :: xs) (sz x + szL (xs.take j)) = _
    unfold atL
    rw [if_neg (by omega), Nat.add_sub_cancel_left]
    exact atL_take xs j t h'
theorem szL_take' {L : List T} {j : Nat} {t : T} (h : L[j]? = some t) : szL (L.take (j + 1)) = szL (L.take j) + sz t := by
  rw [List.take_add_one, h, szL_app]
  simp [szL]
theorem dpL_take' {L : List T} {j : Nat} {t : T} (h : L[j]? = some t) : dpL (L.take (j + 1)) = max (dpL (L.take j)) (dp t) := by
  rw [List.take_add_one, h, dpL_app]
  simp [dpL]
theorem atI_some {X : T} {n : Int} (h0 : 0 ≤ n) (h1 : n < (sz X : Int)) : (atI X n).isSome = true := by
  unfold atI
  rw [if_neg (by omega)]
  obtain ⟨x, hx⟩ := atT_some X n.toNat (by omega)
  rw [hx]; rfl
theorem atI_neg {X : T} {n : Int} (h0 : n < 0) : (atI X n).isSome = false := by unfold atI; rw [if_pos h0]; rfl
theorem atI_big {X : T} {n : Int} (h1 : (sz X : Int) ≤ n) : (atI X n).isSome = false := by
  unfold atI
  have := sz_pos X
  rw [if_neg (by omega), atT_none X n.toNat (by omega)]; rfl

set_option maxRecDepth 100000 in
set_option maxHeartbeats 4000000 in
theorem treeSizes_walk (t : T) (cs : List Value) (nn : Int) (w : World) (hT : Tab w) (hnd : Nd w t cs) : Calls Tryd.prog 11 #[.agg cs.toArray, .int .i64 nn] w fun e w' => e = .returned (.bool true) ∧ Below w.heap.size w w' := by
  obtain ⟨k, n, u, s, A1, m1, c1, A2, m2, c2, rfl⟩ := hnd.shape
  have HFW := Lib.hid fun W (h : Below w.heap.size w W) => few_any t _ W (hnd.bel h)
  go_enter Tryd.func11, Tryd.ntmps11
  go_wp2_with fail
  refine (HFW.out _ (al0 _ _)).mono ?_
  rintro e w2 ⟨⟨cs', rfl, hno⟩, hb2⟩
  obtain ⟨k8, i8, u8, s8, C1', m1', d1', C2', m2', d2', rfl⟩ := hno.shape6
  have HI : Hid (Below w.heap.size w (w2.alloc (.cells #[.int .i64 k8, .int .i64 i8, .int .u64 u8, .string s8, .slice C1' m1' d1', .slice C2' m2' d2'] 26)) ∧ Bx (w2.alloc (.cells #[.int .i64 k8, .int .i64 i8, .int .u64 u8, .string s8, .slice C1' m1' d1', .slice C2' m2' d2'] 26)) w2.heap.size (.int .i64 k8) (.int .i64 i8) (.int .u64 u8) (.string s8) (.slice C1' m1' d1') (.slice C2' m2' d2') ∧ Nd (w2.alloc (.cells #[.int .i64 k8, .int .i64 i8, .int .u64 u8, .string s8, .slice C1' m1' d1', .slice C2' m2' d2'] 26)) (fewT t) [.int .i64 k8, .int .i64 i8, .int .u64 u8, .string s8, .slice C1' m1' d1', .slice C2' m2' d2']) := Lib.hid ⟨tr (al0 _ _) (tr hb2 (al0 _ _)), Blk.new _ _ _, (NdO.nd _ _ hno).bel (al0 _ _)⟩
  have hQ : QQ (fewT t) := ⟨Nat.le_trans (fewT_sz t) (by omega), fewT_sm t⟩
  have hz120 := fewT_sz t
  clear hno hb2 HFW
  go_wp2_with fail
  obtain ⟨ib, hi⟩ : ∃ ib, w2.heap.size = ib := ⟨_, rfl⟩
  rw [hi] at HI
  simp only [hi]
  clear hi
  obtain ⟨W3, hW⟩ : ∃ W3, w2.alloc (.cells #[.int .i64 k8, .int .i64 i8, .int .u64 u8, .string s8, .slice C1' m1' d1', .slice C2' m2' d2'] 26) = W3 := ⟨_, rfl⟩
  rw [hW] at HI
  rw [hW]
  clear hW
  obtain ⟨X, hX⟩ : ∃ X, fewT t = X := ⟨_, rfl⟩
  rw [hX] at HI hQ hz120
  have HQ := Lib.hid hQ
  clear hX hQ
  have HT3 := Lib.hid (hT.keep HI.out.1)
  obtain ⟨kX, nX, uX, sX, ksX, L⟩ := X
  obtain ⟨-, -, kv0, B0, m0, c0, he, -, hl, hm, hmm, hL⟩ := HI.out.2.2
  injection he with _ he
  injection he with _ he
  injection he with _ he
  injection he with _ he
  injection he with hkv he
  injection he with he _
  injection he with e1 e2 e3
  subst e1 e2 e3
  subst hkv
  obtain ⟨X, hX⟩ : ∃ X, T.mk kX nX uX sX ksX L = X := ⟨_, rfl⟩
  have hszX : sz X = 1 + szL L := by rw [← hX]; rfl
  have hdpX : dp X = 1 + dpL L := by rw [← hX]; rfl
  have HatX : Hid (∀ j c, L[j]? = some c → atI X ((1 + szL (L.take j) : Nat) : Int) = some c) := Lib.hid fun j c h => by
    unfold atI
    rw [if_neg (by omega), Int.toNat_natCast, ← hX]
    unfold atT
    rw [if_neg (by omega), Nat.add_sub_cancel_left]
    exact atL_take L j c h
  have HQL : Hid (∀ c ∈ L, QQ c) := Lib.hid (QQ_sub _ HQ.out)
  rw [hX] at HI HQ hz120
  clear hX
  have hcells : ∀ W, C0 W3 W → C0 W3 W ∧ W.cell? ⟨ib, 0, none⟩ = some (.int .i64 k8) ∧ W.cell? ⟨ib, 1, none⟩ = some (.int .i64 i8) ∧ W.cell? ⟨ib, 2, none⟩ = some (.int .u64 u8) ∧ W.cell? ⟨ib, 3, none⟩ = some (.string s8) ∧ W.cell? ⟨ib, 4, none⟩ = some (.slice C1' m1' d1') ∧ W.cell? ⟨ib, 5, none⟩ = some (.slice C2' m2' d2') := fun W h => ⟨h, Bx.all (Blk.below HI.out.2.1 h (Blk.lt HI.out.2.1))⟩
  have hdl : dpL L ≤ szL L := dp_le_szL L
  have HAT : Hid (∀ i W, C0 W3 W → Calls Tryd.prog 25 #[.agg #[.int .i64 k8, .int .i64 i8, .int .u64 u8, .string s8, .slice C1' m1' d1', .slice C2' m2' d2'], .int .i64 i] W fun e w' => (∃ (k n u : Int) (s : ByteArray) (A1 : Option Addr) (m1 c1 : Nat) (A2 : Option Addr) (m2 c2 : Nat), e = .returned (.tuple #[.agg #[.int .i64 k, .int .i64 n, .int .u64 u, .string s, .slice A1 m1 c1, .slice A2 m2 c2], .bool (atI X i).isSome]) ∧ Hid (Nd w' ((atI X i).getD T0) [.int .i64 k, .int .i64 n, .int .u64 u, .string s, .slice A1 m1 c1, .slice A2 m2 c2])) ∧ C0 W3 w') := Lib.hid fun i W h => by
    refine (at_any X _ i W HQ.out.1 HQ.out.2 (HI.out.2.2.bel h)).mono ?_
    rintro e w' ⟨⟨cs', rfl, hn⟩, hb⟩
    have hn' := NdO.nd _ _ hn
    obtain ⟨k, n, u, s, A1, m1, c1, A2, m2, c2, rfl⟩ := hn'.shape
    exact ⟨⟨k, n, u, s, A1, m1, c1, A2, m2, c2, rfl, hn'⟩, h.go hb⟩
  have HR0 : Hid (C0 W3 W3) := Lib.hid (Below.refl _ _)
  go_loopw [6, 7, 8] (fun sv dv i wr => ∃ j S D : Nat, j ≤ m2' ∧ i = .int .i64 (j : Int) ∧ sv = .int .i64 (S : Int) ∧ dv = .int .i64 (D : Int) ∧ Hid (S = 1 + szL (L.take j) ∧ D = dpL (L.take j)) ∧ Hid (C0 W3 wr)) (fun _ _ i _ => m2' - (intOf i).toNat)
  case atStart => exact ⟨0, 1, 0, Nat.zero_le _, rfl, rfl, rfl, Lib.hid ⟨rfl, rfl⟩, HR0⟩
  case round =>
    obtain ⟨j, S, D, hj, rfl, rfl, rfl, HSD, HC⟩ := hrel
    obtain ⟨-, a0, a1, a2, a3, a4, a5⟩ := hcells wr HC.out
    by_cases hjs : j < m2'
    · obtain ⟨bb, off, rfl, hbw, hN⟩ := hL (by omega)
      obtain ⟨c, hc⟩ : ∃ c, L[j]? = some c := ⟨_, List.getElem?_eq_getElem (by omega)⟩
      obtain ⟨v0, v1, v2, v3, v4, v5, hS, hn1⟩ := hN.six' (Below.refl _ _) hbw hc
      obtain ⟨kc, ic, uc, sc, Ac, ac, bc, Cc, cc, dc, rfl, rfl, rfl, rfl, rfl, rfl⟩ := hn1.shape6
      have HNc := Lib.hid hn1
      have HS := Lib.hid hS
      have HQc := Lib.hid (HQL.out c (List.mem_of_getElem? hc))
      have hle := sz_le_of hc
      have hdc := dp_le_sz c
      have hs1 := szL_take' hc
      have hd1 := dpL_take' hc
      have hdt : dpL (L.take j) ≤ szL (L.take j) := dp_le_szL _
      have hai := HatX.out j c hc
      obtain ⟨hS0, hD0⟩ := HSD.out
      rw [← hS0] at hai
      have hS2 : (S : Int) ≤ 1000 := by omega
      have hD2 : (D : Int) ≤ 1000 := by omega
      obtain ⟨z, hz⟩ : ∃ z, sz c = z := ⟨_, rfl⟩
      obtain ⟨y, hy⟩ : ∃ y, dp c = y := ⟨_, rfl⟩
      have hz2 : (z : Int) ≤ 1000 := by omega
      have hy2 : (y : Int) ≤ 1000 := by omega
      have HNX : Hid (S + z = 1 + szL (L.take (j + 1)) ∧ max D y = dpL (L.take (j + 1))) := Lib.hid ⟨by omega, by rw [hd1, hD0, hy]⟩
      have hall : ∀ W, C0 W3 W → C0 W3 W ∧ W.cell? ⟨ib, 0, none⟩ = some (.int .i64 k8) ∧ W.cell? ⟨ib, 1, none⟩ = some (.int .i64 i8) ∧ W.cell? ⟨ib, 2, none⟩ = some (.int .u64 u8) ∧ W.cell? ⟨ib, 3, none⟩ = some (.string s8) ∧ W.cell? ⟨ib, 4, none⟩ = some (.slice C1' m1' d1') ∧ W.cell? ⟨ib, 5, none⟩ = some (.slice (some ⟨bb, off, none⟩) m2' d2') ∧ W.cell? ⟨bb, off + j * 6, none⟩ = some (.int .i64 kc) ∧ W.cell? ⟨bb, off + j * 6 + 1, none⟩ = some (.int .i64 ic) ∧ W.cell? ⟨bb, off + j * 6 + 2, none⟩ = some (.int .u64 uc) ∧ W.cell? ⟨bb, off + j * 6 + 3, none⟩ = some (.string sc) ∧ W.cell? ⟨bb, off + j * 6 + 4, none⟩ = some (.slice Ac ac bc) ∧ W.cell? ⟨bb, off + j * 6 + 5, none⟩ = some (.slice Cc cc dc) := fun W h => by
        obtain ⟨-, g0, g1, g2, g3, g4, g5⟩ := hcells W h
        obtain ⟨f0, f1, f2, f3, f4, f5⟩ := HS.out.below h hbw
        exact ⟨h, g0, g1, g2, g3, g4, g5, f0, f1, f2, f3, f4, f5⟩
      have HA1 : Hid (∀ W, C0 W3 W → Calls Tryd.prog 25 #[.agg #[.int .i64 k8, .int .i64 i8, .int .u64 u8, .string s8, .slice C1' m1' d1', .slice (some ⟨bb, off, none⟩) m2' d2'], .int .i64 (S : Int)] W fun e w' => (∃ (k n u : Int) (s : ByteArray) (A1 : Option Addr) (m1 c1 : Nat) (A2 : Option Addr) (m2 c2 : Nat), e = .returned (.tuple #[.agg #[.int .i64 k, .int .i64 n, .int .u64 u, .string s, .slice A1 m1 c1, .slice A2 m2 c2], .bool true]) ∧ Hid (Nd w' c [.int .i64 k, .int .i64 n, .int .u64 u, .string s, .slice A1 m1 c1, .slice A2 m2 c2])) ∧ C0 W3 w') := Lib.hid fun W h => by
        have := HAT.out (S : Int) W h
        rw [hai] at this
        exact this
      have HZ1 := Lib.hid hz
      have HY1 := Lib.hid hy
      have hlm : m2' ≤ 1000 := by have := len_le_szL L; omega
      have hjb3 : (j : Int) ≤ 1000 := by omega
      have hjb : (0 : Int) ≤ (j : Int) := by omega
      have hjb2 : (j : Int) < (m2' : Int) := by omega
      clear hS hn1 hN hL hc hle hdc hs1 hd1 hdt hai hS0 hD0 HSD hz hy hl hm hmm hdl hszX hdpX hz120
      go_wp2_with (go_at_call 25; refine (HA1.out _ HC.out).mono ?_; rintro e w5 ⟨⟨k9, i9, u9, s9, A9, a9, b9, C9, c9, d9, rfl, HNx⟩, hC5⟩)
      obtain ⟨W6, hW⟩ : ∃ W6, w5.alloc (.cells #[.int .i64 k9, .int .i64 i9, .int .u64 u9, .string s9, .slice A9 a9 b9, .slice C9 c9 d9] 26) = W6 := ⟨_, rfl⟩
      have HX6 : Hid (C0 W3 W6 ∧ Bx W6 w5.heap.size (.int .i64 k9) (.int .i64 i9) (.int .u64 u9) (.string s9) (.slice A9 a9 b9) (.slice C9 c9 d9) ∧ Nd W6 c [.int .i64 k9, .int .i64 i9, .int .u64 u9, .string s9, .slice A9 a9 b9, .slice C9 c9 d9]) := Lib.hid (by rw [← hW]; exact ⟨C0.al hC5, Blk.new _ _ _, HNx.out.bel (al0 _ _)⟩)
      rw [hW]
      clear hW
      obtain ⟨xb, hxb⟩ : ∃ xb, w5.heap.size = xb := ⟨_, rfl⟩
      rw [hxb] at HX6
      simp only [hxb]
      clear hxb
      have hC6 := HX6.out.1
      have hall6 : ∀ W, C0 W6 W → C0 W6 W ∧ W.cell? ⟨ib, 0, none⟩ = some (.int .i64 k8) ∧ W.cell? ⟨ib, 1, none⟩ = some (.int .i64 i8) ∧ W.cell? ⟨ib, 2, none⟩ = some (.int .u64 u8) ∧ W.cell? ⟨ib, 3, none⟩ = some (.string s8) ∧ W.cell? ⟨ib, 4, none⟩ = some (.slice C1' m1' d1') ∧ W.cell? ⟨ib, 5, none⟩ = some (.slice (some ⟨bb, off, none⟩) m2' d2') ∧ W.cell? ⟨bb, off + j * 6, none⟩ = some (.int .i64 kc) ∧ W.cell? ⟨bb, off + j * 6 + 1, none⟩ = some (.int .i64 ic) ∧ W.cell? ⟨bb, off + j * 6 + 2, none⟩ = some (.int .u64 uc) ∧ W.cell? ⟨bb, off + j * 6 + 3, none⟩ = some (.string sc) ∧ W.cell? ⟨bb, off + j * 6 + 4, none⟩ = some (.slice Ac ac bc) ∧ W.cell? ⟨bb, off + j * 6 + 5, none⟩ = some (.slice Cc cc dc) ∧ W.cell? ⟨xb, 0, none⟩ = some (.int .i64 k9) ∧ W.cell? ⟨xb, 1, none⟩ = some (.int .i64 i9) ∧ W.cell? ⟨xb, 2, none⟩ = some (.int .u64 u9) ∧ W.cell? ⟨xb, 3, none⟩ = some (.string s9) ∧ W.cell? ⟨xb, 4, none⟩ = some (.slice A9 a9 b9) ∧ W.cell? ⟨xb, 5, none⟩ = some (.slice C9 c9 d9) := fun W h => by
        obtain ⟨-, g0, g1, g2, g3, g4, g5, f0, f1, f2, f3, f4, f5⟩ := hall W (hC6.go h)
        exact ⟨h, g0, g1, g2, g3, g4, g5, f0, f1, f2, f3, f4, f5, Bx.all (Blk.below HX6.out.2.1 h (Blk.lt HX6.out.2.1))⟩
      have hXd : C0 W6 W6.drew := (Below.refl _ _).drew
      have HSM6 : Hid (∀ W, C0 W6 W → Calls Tryd.prog 26 #[.agg #[.int .i64 k9, .int .i64 i9, .int .u64 u9, .string s9, .slice A9 a9 b9, .slice C9 c9 d9], .agg #[.int .i64 kc, .int .i64 ic, .int .u64 uc, .string sc, .slice Ac ac bc, .slice Cc cc dc]] W fun e w' => e = .returned (.bool true) ∧ C0 W6 w') := Lib.hid fun W h => (same_any (dp c) c c _ _ W (Nat.le_refl _) HQc.out.1 (HX6.out.2.2.bel h) (HNc.out.bel (hC6.go h))).mono fun e w' hk => by
        obtain ⟨⟨β, rfl, hβ⟩, hb⟩ := hk
        rw [hβ.2 rfl]
        exact ⟨rfl, h.go hb⟩
      have HSZ6 : Hid (∀ W, C0 W6 W → Calls Tryd.prog 20 #[.agg #[.int .i64 kc, .int .i64 ic, .int .u64 uc, .string sc, .slice Ac ac bc, .slice Cc cc dc]] W fun e w' => e = .returned (.int .i64 (z : Int)) ∧ C0 W6 w') := Lib.hid fun W h => (size_any c _ W HQc.out.1 (HNc.out.bel (hC6.go h))).mono fun e w' k => ⟨by rw [k.1, HZ1.out], h.go k.2⟩
      have HDP6 : Hid (∀ W, C0 W6 W → Calls Tryd.prog 21 #[.agg #[.int .i64 kc, .int .i64 ic, .int .u64 uc, .string sc, .slice Ac ac bc, .slice Cc cc dc]] W fun e w' => e = .returned (.int .i64 (y : Int)) ∧ C0 W6 w') := Lib.hid fun W h => (deep_any c _ W HQc.out.1 (HNc.out.bel (hC6.go h))).mono fun e w' k => ⟨by rw [k.1, HY1.out], h.go k.2⟩
      clear hC5
      go_region_held3 (fun W => C0 W6 W ∧ W.cell? ⟨ib, 0, none⟩ = some (.int .i64 k8) ∧ W.cell? ⟨ib, 1, none⟩ = some (.int .i64 i8) ∧ W.cell? ⟨ib, 2, none⟩ = some (.int .u64 u8) ∧ W.cell? ⟨ib, 3, none⟩ = some (.string s8) ∧ W.cell? ⟨ib, 4, none⟩ = some (.slice C1' m1' d1') ∧ W.cell? ⟨ib, 5, none⟩ = some (.slice (some ⟨bb, off, none⟩) m2' d2') ∧ W.cell? ⟨bb, off + j * 6, none⟩ = some (.int .i64 kc) ∧ W.cell? ⟨bb, off + j * 6 + 1, none⟩ = some (.int .i64 ic) ∧ W.cell? ⟨bb, off + j * 6 + 2, none⟩ = some (.int .u64 uc) ∧ W.cell? ⟨bb, off + j * 6 + 3, none⟩ = some (.string sc) ∧ W.cell? ⟨bb, off + j * 6 + 4, none⟩ = some (.slice Ac ac bc) ∧ W.cell? ⟨bb, off + j * 6 + 5, none⟩ = some (.slice Cc cc dc) ∧ W.cell? ⟨xb, 0, none⟩ = some (.int .i64 k9) ∧ W.cell? ⟨xb, 1, none⟩ = some (.int .i64 i9) ∧ W.cell? ⟨xb, 2, none⟩ = some (.int .u64 u9) ∧ W.cell? ⟨xb, 3, none⟩ = some (.string s9) ∧ W.cell? ⟨xb, 4, none⟩ = some (.slice A9 a9 b9) ∧ W.cell? ⟨xb, 5, none⟩ = some (.slice C9 c9 d9)) (first | (with_reducible exact hall6 _ (by assumption)))
        (first | (go_at_call 26; (with_reducible refine (HSM6.out _ (by assumption)).mono ?_); rintro e V ⟨rfl, hC7⟩))
      have hVd := C0.dr hC7
      go_wp2_with fail
      go_region_held3 (fun W => C0 W6 W ∧ W.cell? ⟨ib, 0, none⟩ = some (.int .i64 k8) ∧ W.cell? ⟨ib, 1, none⟩ = some (.int .i64 i8) ∧ W.cell? ⟨ib, 2, none⟩ = some (.int .u64 u8) ∧ W.cell? ⟨ib, 3, none⟩ = some (.string s8) ∧ W.cell? ⟨ib, 4, none⟩ = some (.slice C1' m1' d1') ∧ W.cell? ⟨ib, 5, none⟩ = some (.slice (some ⟨bb, off, none⟩) m2' d2') ∧ W.cell? ⟨bb, off + j * 6, none⟩ = some (.int .i64 kc) ∧ W.cell? ⟨bb, off + j * 6 + 1, none⟩ = some (.int .i64 ic) ∧ W.cell? ⟨bb, off + j * 6 + 2, none⟩ = some (.int .u64 uc) ∧ W.cell? ⟨bb, off + j * 6 + 3, none⟩ = some (.string sc) ∧ W.cell? ⟨bb, off + j * 6 + 4, none⟩ = some (.slice Ac ac bc) ∧ W.cell? ⟨bb, off + j * 6 + 5, none⟩ = some (.slice Cc cc dc) ∧ W.cell? ⟨xb, 0, none⟩ = some (.int .i64 k9) ∧ W.cell? ⟨xb, 1, none⟩ = some (.int .i64 i9) ∧ W.cell? ⟨xb, 2, none⟩ = some (.int .u64 u9) ∧ W.cell? ⟨xb, 3, none⟩ = some (.string s9) ∧ W.cell? ⟨xb, 4, none⟩ = some (.slice A9 a9 b9) ∧ W.cell? ⟨xb, 5, none⟩ = some (.slice C9 c9 d9)) (first | (with_reducible exact hall6 _ (by assumption)))
        (first
          | (go_at_call 20; (with_reducible refine (HSZ6.out _ (by assumption)).mono ?_); rintro e V8 ⟨rfl, hC8⟩)
          | (go_at_call 21; (with_reducible refine (HDP6.out _ (by assumption)).mono ?_); rintro e V9 ⟨rfl, hC9⟩))
      obtain ⟨S2, hS2e⟩ : ∃ S2 : Nat, S + z = S2 := ⟨_, rfl⟩
      obtain ⟨D2, hD2e⟩ : ∃ D2 : Nat, max D y = D2 := ⟨_, rfl⟩
      rw [hS2e, hD2e] at HNX
      have hwr : IntKind.i64.wrap ((S : Int) + (z : Int)) = (S2 : Int) := by
        rw [← hS2e, ← wrap_small (S + z) (by omega)]
        simp
      have hmx : max (D : Int) (y : Int) = (D2 : Int) := by rw [← hD2e]; omega
      rw [hwr, hmx]
      clear hwr hmx hS2e hD2e hS2 hD2 hz2 hy2
      have hC3 := hC6.go hC9
      go_wp2_with fail
      go_roundw
      case rel => exact ⟨j + 1, S2, D2, by omega, by simp, rfl, rfl, HNX, Lib.hid hC3⟩
      case measure => simp [intOf]; omega
    · have hjm : j = m2' := by omega
      obtain ⟨hS0, hD0⟩ := HSD.out
      rw [List.take_of_length_le (by omega)] at hS0 hD0
      have hSX : S = sz X := by omega
      have hDX : D + 1 = dp X := by omega
      have hS2 : (S : Int) ≤ 1000 := by omega
      have hS1 : (1 : Int) ≤ (S : Int) := by omega
      have hD2 : (D : Int) ≤ 1000 := by omega
      have HL1 : Hid ((atI X ((S : Int) - 1)).isSome = true) := Lib.hid (atI_some (by omega) (by omega))
      have HL2 : Hid ((atI X (S : Int)).isSome = false) := Lib.hid (atI_big (by omega))
      have HSZX : Hid (∀ W, C0 W3 W → Calls Tryd.prog 20 #[.agg #[.int .i64 k8, .int .i64 i8, .int .u64 u8, .string s8, .slice C1' m1' d1', .slice C2' m2' d2']] W fun e w' => e = .returned (.int .i64 (S : Int)) ∧ C0 W3 w') := Lib.hid fun W h => (size_any X _ W HQ.out.1 (HI.out.2.2.bel h)).mono fun e w' k => ⟨by rw [k.1, hSX], h.go k.2⟩
      have HDPX : Hid (∀ W, C0 W3 W → Calls Tryd.prog 21 #[.agg #[.int .i64 k8, .int .i64 i8, .int .u64 u8, .string s8, .slice C1' m1' d1', .slice C2' m2' d2']] W fun e w' => e = .returned (.int .i64 ((D : Int) + 1)) ∧ C0 W3 w') := Lib.hid fun W h => (deep_any X _ W HQ.out.1 (HI.out.2.2.bel h)).mono fun e w' k => ⟨by rw [k.1, ← hDX]; rfl, h.go k.2⟩
      have HWK : Hid (∀ W, C0 W3 W → Calls Tryd.prog 13 #[] W fun e w' => e = .returned (.bool true) ∧ C0 W3 w') := Lib.hid fun W h => (works_true W (HT3.out.keep h)).mono fun e w' k => ⟨k.1, h.go k.2⟩
      have hpos : (nn < 0 ∧ (atI X nn).isSome = false) ∨ (0 ≤ nn ∧ nn < (S : Int) ∧ (atI X nn).isSome = true) ∨ (0 ≤ nn ∧ (S : Int) ≤ nn ∧ (atI X nn).isSome = false) := by
        by_cases h0 : nn < 0
        · exact .inl ⟨h0, atI_neg h0⟩
        · by_cases h1 : nn < (S : Int)
          · exact .inr (.inl ⟨by omega, h1, atI_some (by omega) (by omega)⟩)
          · exact .inr (.inr ⟨by omega, by omega, atI_big (by omega)⟩)
      have HATn := Lib.hid (HAT.out nn)
      have HATl := Lib.hid (HAT.out ((S : Int) - 1))
      have HATs := Lib.hid (HAT.out (S : Int))
      rw [HL1.out] at HATl
      rw [HL2.out] at HATs
      clear hS0 hD0 HSD hL hl hm hmm hszX hdpX hz120 hdl hSX hDX HatX HQL HAT hjm
      rcases hpos with ⟨h0, hb⟩ | ⟨h0, h1, hb⟩ | ⟨h0, h1, hb⟩
      all_goals
        rw [hb] at HATn
        clear hb
        go_wp2_with fail
        refine (HATn.out _ HC.out).mono ?_
        rintro e w5 ⟨⟨k5, i5, u5, s5, A5, a5, b5, C5, c5, d5, rfl, -⟩, hC5⟩
        obtain ⟨-, r0, r1, r2, r3, r4, r5⟩ := hcells (w5.alloc (.cells #[.int .i64 k5, .int .i64 i5, .int .u64 u5, .string s5, .slice A5 a5 b5, .slice C5 c5 d5] 26)) (C0.al hC5)
        go_wp2_with fail
        refine (HATl.out _ (C0.al hC5)).mono ?_
        rintro e w6 ⟨⟨k6, i6, u6, s6, A6, a6, b6, C6, c6, d6, rfl, -⟩, hC6⟩
        obtain ⟨-, x0, x1, x2, x3, x4, x5⟩ := hcells (w6.alloc (.cells #[.int .i64 k6, .int .i64 i6, .int .u64 u6, .string s6, .slice A6 a6 b6, .slice C6 c6 d6] 26)) (C0.al hC6)
        go_wp2_with fail
        refine (HATs.out _ (C0.al hC6)).mono ?_
        rintro e w7 ⟨⟨k7, i7, u7, s7, A7, a7, b7, C7, c7, d7, rfl, -⟩, hC7⟩
        obtain ⟨-, y0, y1, y2, y3, y4, y5⟩ := hcells (w7.alloc (.cells #[.int .i64 k7, .int .i64 i7, .int .u64 u7, .string s7, .slice A7 a7 b7, .slice C7 c7 d7] 26)) (C0.al hC7)
        go_wp2_with (first
          | (go_at_call 20; refine (HSZX.out _ (C0.al hC7)).mono ?_; rintro e w8 ⟨rfl, hC8⟩; obtain ⟨-, z0, z1, z2, z3, z4, z5⟩ := hcells w8 hC8)
          | (go_at_call 21; refine (HDPX.out _ hC8).mono ?_; rintro e w9 ⟨rfl, hC9⟩)
          | (go_at_call 13; refine (HWK.out _ hC9).mono ?_; rintro e w10 ⟨rfl, hC10⟩))
        go_ret
        refine ⟨?_, HI.out.1.trans (Below.mono hC10 HI.out.1.size)⟩
        first | rfl | (simp; done) | (simp; omega)
end Go.Proofs.YtlleknofnlmecaaDoor
