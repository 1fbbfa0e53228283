/-
  What is proved here: TreeParts returns true and leaves old memory as it was; condition: the table holds what is laid.
-/
import Derived.Test.YtpcbkocimkdecaaDoorChkZ
import Derived.Test.YtpcbkocimkdecaaDoorSame
import Derived.Test.YtpcbkocimkdecaaDoorWork
namespace Go.Proofs.YtpcbkocimkdecaaDoor
open Go.RowKit

set_option maxRecDepth 100000 in
set_option maxHeartbeats 4000000 in
theorem treeParts_walk (t : T) (cs : List Value) (w : World) (hT : Tab w) (hnd : Nd w t cs) : Calls Tryd.prog 6 #[.agg cs.toArray] w fun e w' => e = .returned (.bool true) ∧ Below w.heap.size w w' := by
  obtain ⟨k, n, u, s, A1, m1, c1, A2, m2, c2, rfl⟩ := hnd.shape
  have HWK := Lib.hid fun W (h : Below w.heap.size w W) => works_true W (hT.keep h)
  have HFW := Lib.hid fun W (h : Below w.heap.size w W) => few_any t _ W (hnd.bel h)
  go_enter Tryd.func6, Tryd.ntmps6
  go_wp2_with fail
  refine (HWK.out _ (al0 _ _)).mono ?_
  rintro e w1 ⟨rfl, hb1⟩
  obtain ⟨a0, a1, a2, a3, a4, a5⟩ := Bx.all (Blk.below (Blk.new w 26 #[.int .i64 k, .int .i64 n, .int .u64 u, .string s, .slice A1 m1 c1, .slice A2 m2 c2]) hb1 (by simp))
  have HB1 := Lib.hid (tr (al0 w _) hb1)
  clear hb1
  go_wp2_with fail
  refine (HFW.out _ HB1.out).mono ?_
  rintro e w2 ⟨⟨cs', rfl, hno⟩, hb2⟩
  obtain ⟨k8, i8, u8, s8, C1', m1', d1', C2', m2', d2', rfl⟩ := hno.shape6
  have HI : Hid (Below w.heap.size w (w2.alloc (.cells #[.int .i64 k8, .int .i64 i8, .int .u64 u8, .string s8, .slice C1' m1' d1', .slice C2' m2' d2'] 26)) ∧ Bx (w2.alloc (.cells #[.int .i64 k8, .int .i64 i8, .int .u64 u8, .string s8, .slice C1' m1' d1', .slice C2' m2' d2'] 26)) w2.heap.size (.int .i64 k8) (.int .i64 i8) (.int .u64 u8) (.string s8) (.slice C1' m1' d1') (.slice C2' m2' d2') ∧ Nd (w2.alloc (.cells #[.int .i64 k8, .int .i64 i8, .int .u64 u8, .string s8, .slice C1' m1' d1', .slice C2' m2' d2'] 26)) (fewT t) [.int .i64 k8, .int .i64 i8, .int .u64 u8, .string s8, .slice C1' m1' d1', .slice C2' m2' d2']) := Lib.hid ⟨tr HB1.out (tr hb2 (al0 _ _)), Blk.new _ _ _, (NdO.nd _ _ hno).bel (al0 _ _)⟩
  have hQ : QQ (fewT t) := ⟨Nat.le_trans (fewT_sz t) (by omega), fewT_sm t⟩
  have HZ := Lib.hid (fewT_sz t)
  clear a0 a1 a2 a3 a4 a5 hno hb2 HB1
  go_wp2_with fail
  obtain ⟨ib, hi⟩ : ∃ ib, w2.heap.size = ib := ⟨_, rfl⟩
  rw [hi] at HI
  simp only [hi]
  clear hi
  obtain ⟨W3, hW⟩ : ∃ W3, w2.alloc (.cells #[.int .i64 k8, .int .i64 i8, .int .u64 u8, .string s8, .slice C1' m1' d1', .slice C2' m2' d2'] 26) = W3 := ⟨_, rfl⟩
  rw [hW] at HI
  rw [hW]
  clear hW
  obtain ⟨X, hX⟩ : ∃ X, fewT t = X := ⟨_, rfl⟩
  rw [hX] at HI hQ HZ
  have HQ := Lib.hid hQ
  clear hX hQ
  have HT3 := Lib.hid (hT.keep HI.out.1)
  have hcells : ∀ W, C0 W3 W → C0 W3 W ∧ W.cell? ⟨ib, 0, none⟩ = some (.int .i64 k8) ∧ W.cell? ⟨ib, 1, none⟩ = some (.int .i64 i8) ∧ W.cell? ⟨ib, 2, none⟩ = some (.int .u64 u8) ∧ W.cell? ⟨ib, 3, none⟩ = some (.string s8) ∧ W.cell? ⟨ib, 4, none⟩ = some (.slice C1' m1' d1') ∧ W.cell? ⟨ib, 5, none⟩ = some (.slice C2' m2' d2') := fun W h => ⟨h, Bx.all (Blk.below HI.out.2.1 h (Blk.lt HI.out.2.1))⟩
  by_cases hc : chk X = 0
  case neg =>
    have hne : (((chk X : Nat) : Int) != 0) = true := by simp; omega
    refine (check_any X _ W3 HT3.out HQ.out.1 HQ.out.2 HI.out.2.2).mono ?_
    rintro e w4 ⟨rfl, hb4⟩
    go_wp2_with fail
    go_ret
    exact ⟨rfl, tr HI.out.1 hb4⟩
  refine (chk_C HT3.out (Below.refl _ W3) HQ.out hc HI.out.2.2).mono ?_
  rintro e w4 ⟨rfl, hb4⟩
  have HSZ : Hid (∀ W, C0 W3 W → Calls Tryd.prog 18 #[.agg #[.int .i64 k8, .int .i64 i8, .int .u64 u8, .string s8, .slice C1' m1' d1', .slice C2' m2' d2']] W fun e w' => e = .returned (.int .i64 ((sz X : Nat) : Int)) ∧ C0 W3 w') := Lib.hid fun W h => (size_any X _ W HQ.out.1 (HI.out.2.2.bel h)).mono fun e w' k => ⟨k.1, h.go k.2⟩
  have HR0 := Lib.hid hb4
  clear hb4
  go_wp2_with fail
  clear HWK HFW
  go_loopw [4] (fun i wr => ∃ j : Nat, j ≤ sz X ∧ i = .int .i64 (j : Int) ∧ Hid (C0 W3 wr)) (fun i _ => sz X - (intOf i).toNat)
  case atStart => exact ⟨0, Nat.zero_le _, rfl, HR0⟩
  case round =>
    obtain ⟨j, hj, rfl, HC⟩ := hrel
    obtain ⟨-, a0, a1, a2, a3, a4, a5⟩ := hcells wr HC.out
    have hz120 : sz X ≤ 120 := HZ.out
    by_cases hjs : j < sz X
    case neg =>
      obtain rfl : j = sz X := by omega
      go_wp2_with (go_at_call 18; refine (HSZ.out _ HC.out).mono ?_; rintro e V ⟨rfl, hC⟩)
      go_ret
      exact ⟨rfl, HI.out.1.trans (Below.mono hC HI.out.1.size)⟩
    obtain ⟨x, hx⟩ := atT_some X j hjs
    have HQx := Lib.hid (at_QQ HQ.out hx)
    have HCx := Lib.hid (chk_sub hc hx)
    have hai : atI X (j : Int) = some x := by unfold atI; rw [if_neg (by omega)]; exact hx
    have HAT : Hid (∀ W, C0 W3 W → Calls Tryd.prog 26 #[.agg #[.int .i64 k8, .int .i64 i8, .int .u64 u8, .string s8, .slice C1' m1' d1', .slice C2' m2' d2'], .int .i64 (j : Int)] W fun e w' => (∃ (k n u : Int) (s : ByteArray) (A1 : Option Addr) (m1 c1 : Nat) (A2 : Option Addr) (m2 c2 : Nat), e = .returned (.tuple #[.agg #[.int .i64 k, .int .i64 n, .int .u64 u, .string s, .slice A1 m1 c1, .slice A2 m2 c2], .bool true]) ∧ Hid (Nd w' x [.int .i64 k, .int .i64 n, .int .u64 u, .string s, .slice A1 m1 c1, .slice A2 m2 c2])) ∧ C0 W3 w') := Lib.hid fun W h => by
      refine (at_any X _ (j : Int) W HQ.out.1 HQ.out.2 (HI.out.2.2.bel h)).mono ?_
      rintro e w' ⟨⟨cs', rfl, hn⟩, hb⟩
      rw [hai] at hn ⊢
      have hn' := NdO.nd _ _ hn
      obtain ⟨k, n, u, s, A1, m1, c1, A2, m2, c2, rfl⟩ := hn'.shape
      exact ⟨⟨k, n, u, s, A1, m1, c1, A2, m2, c2, rfl, hn'⟩, h.go hb⟩
    have HCK : Hid (∀ W cs, C0 W3 W → Nd W x cs → Calls Tryd.prog 12 #[.agg cs.toArray] W fun e w' => e = .returned (.int .i64 0) ∧ C0 W3 w' ∧ Ch W w') := Lib.hid fun W cs h hn => (check_any x cs W (HT3.out.keep h) HQx.out.1 HQx.out.2 hn).mono fun e w' k => ⟨by rw [k.1, HCx.out]; rfl, h.go k.2, k.2⟩
    have HZJ : Hid (j = 0 → x = X) := Lib.hid (fun e => by
      subst e
      cases X
      exact (Option.some.inj hx).symm)
    clear hx hai
    by_cases hj0 : j = 0
    · have hbe : ((j : Int) == 0) = true := by simp [hj0]
      have hxX := HZJ.out hj0
      subst hxX
      clear hj0 HZJ
      go_wp2_with (first
        | (go_at_call 18; refine (HSZ.out _ HC.out).mono ?_; rintro e V ⟨rfl, hC⟩; obtain ⟨-, r0, r1, r2, r3, r4, r5⟩ := hcells V hC)
        | (go_at_call 26; refine (HAT.out _ hC).mono ?_; rintro e w5 ⟨⟨k9, i9, u9, s9, A9, a9, b9, C9, c9, d9, rfl, HNx⟩, hC5⟩; obtain ⟨f0, f1, f2, f3, f4, f5⟩ := Bx.all (Blk.new w5 26 #[.int .i64 k9, .int .i64 i9, .int .u64 u9, .string s9, .slice A9 a9 b9, .slice C9 c9 d9]); obtain ⟨-, g0, g1, g2, g3, g4, g5⟩ := hcells (w5.alloc (.cells #[.int .i64 k9, .int .i64 i9, .int .u64 u9, .string s9, .slice A9 a9 b9, .slice C9 c9 d9] 26)) (C0.al hC5))
        | (go_at_call 12; refine (HCK.out _ _ (C0.al hC5) (HNx.out.bel (al0 _ _))).mono ?_; rintro e w6 ⟨rfl, hC6, hh6⟩; obtain ⟨y0, y1, y2, y3, y4, y5⟩ := Bx.all (Blk.below (Blk.new w5 26 #[.int .i64 k9, .int .i64 i9, .int .u64 u9, .string s9, .slice A9 a9 b9, .slice C9 c9 d9]) hh6 (by simp)); obtain ⟨-, z0, z1, z2, z3, z4, z5⟩ := hcells w6 hC6; have HN6 := Lib.hid ((HNx.out.bel (al0 w5 (.cells #[.int .i64 k9, .int .i64 i9, .int .u64 u9, .string s9, .slice A9 a9 b9, .slice C9 c9 d9] 26))).bel hh6))
        | (go_at_call 24; refine (same_any (dp x) x x _ _ w6 (Nat.le_refl _) HQ.out.1 HN6.out (HI.out.2.2.bel hC6)).mono ?_; rintro e w7 ⟨⟨β, rfl, hβ⟩, hb7⟩; obtain rfl := hβ.2 rfl; have hC7 := C0.go hC6 hb7; clear hb7))
      go_roundw
      case rel => exact ⟨j + 1, by omega, by simp, Lib.hid hC7⟩
      case measure => simp [intOf]; omega
    · have hbe : ((j : Int) == 0) = false := by simp [hj0]
      clear hj0 HZJ
      go_wp2_with (first
        | (go_at_call 18; refine (HSZ.out _ HC.out).mono ?_; rintro e V ⟨rfl, hC⟩; obtain ⟨-, r0, r1, r2, r3, r4, r5⟩ := hcells V hC)
        | (go_at_call 26; refine (HAT.out _ hC).mono ?_; rintro e w5 ⟨⟨k9, i9, u9, s9, A9, a9, b9, C9, c9, d9, rfl, HNx⟩, hC5⟩; obtain ⟨f0, f1, f2, f3, f4, f5⟩ := Bx.all (Blk.new w5 26 #[.int .i64 k9, .int .i64 i9, .int .u64 u9, .string s9, .slice A9 a9 b9, .slice C9 c9 d9]); obtain ⟨-, g0, g1, g2, g3, g4, g5⟩ := hcells (w5.alloc (.cells #[.int .i64 k9, .int .i64 i9, .int .u64 u9, .string s9, .slice A9 a9 b9, .slice C9 c9 d9] 26)) (C0.al hC5))
        | (go_at_call 12; refine (HCK.out _ _ (C0.al hC5) (HNx.out.bel (al0 _ _))).mono ?_; rintro e w6 ⟨rfl, hC6, hh6⟩; obtain ⟨y0, y1, y2, y3, y4, y5⟩ := Bx.all (Blk.below (Blk.new w5 26 #[.int .i64 k9, .int .i64 i9, .int .u64 u9, .string s9, .slice A9 a9 b9, .slice C9 c9 d9]) hh6 (by simp)); obtain ⟨-, z0, z1, z2, z3, z4, z5⟩ := hcells w6 hC6; have HN6 := Lib.hid ((HNx.out.bel (al0 w5 (.cells #[.int .i64 k9, .int .i64 i9, .int .u64 u9, .string s9, .slice A9 a9 b9, .slice C9 c9 d9] 26))).bel hh6)))
      go_roundw
      case rel => exact ⟨j + 1, by omega, by simp, Lib.hid hC6⟩
      case measure => simp [intOf]; omega
end Go.Proofs.YtpcbkocimkdecaaDoor
