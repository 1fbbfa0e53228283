/-
  What is proved here: TreeNodes returns true and leaves old memory as it was; condition: the table holds what is laid.
-/
import Derived.Test.YtpcbkocimkdecaaDoorFlat
import Derived.Test.YtpcbkocimkdecaaDoorBring
import Derived.Test.YtpcbkocimkdecaaDoorWork
namespace Go.Proofs.YtpcbkocimkdecaaDoor
open Go.RowKit

theorem infoN2 : (Tryd.prog.info? 26).map (fun i => (i.zero, i.size, i.bytes)) = some (some (.agg #[.int .i64 0, .int .i64 0, .int .u64 0, .string ⟨#[]⟩, .slice none 0 0, .slice none 0 0]), 6, 88) := by kernel_rfl
theorem mk_nodes (w : World) (n : Nat) (hn : n ≤ 5000) : ∃ w', (Instr.makeSlice 24 (.int .i64 (n : Int)) (.int .i64 (n : Int))).run Tryd.prog w = .ok (.slice (some ⟨w.heap.size, 0, none⟩) n n) w' ∧ Hid (∃ zs, zs.length = n * 6 ∧ w'.ownsRow 0 26 6 (.slice (some ⟨w.heap.size, 0, none⟩) n n) n zs ∧ Below w.heap.size w w' ∧ w.heap.size < w'.heap.size) := by
  obtain ⟨i0, hi, hz0, hz1, hz2⟩ := info_parts infoN2
  obtain ⟨w', h1, h2, h3⟩ := run_make_full w 0 24 26 i0 _ 6 Tryd.underlying24 hi hz0 hz1 .i64 .i64 n (by rw [hz2]; omega) (by unfold maxLen; omega) (Nat.zero_le _)
  refine ⟨w', h1, _, ?_, h2, ⟨h3.os, h3.tape, h3.output, h3.size, fun k hk => h3.block k hk (by simp)⟩, ?_⟩
  · rw [Array.length_toList]; exact size_madeCells _ _
  · exact (h2.lt _ rfl).2

set_option maxRecDepth 100000 in
set_option maxHeartbeats 4000000 in
theorem treeNodes_walk (many : Int) (w : World) (hT : Tab w) : Calls Tryd.prog 9 #[.int .i64 many] w fun e w' => e = .returned (.bool true) ∧ Below w.heap.size w w' := by
  have HBR : Hid (∀ W, Calls Tryd.prog 28 #[.int .i64 many, .int .i64 5001] W fun e w' => ∃ n : Nat, e = .returned (.int .i64 (n : Int)) ∧ Hid (n ≤ 5000) ∧ w' = W) := Lib.hid fun W => (bring_small many 5001 W (by omega) (by omega)).mono fun e w' h => by
    have b0 := Int.emod_nonneg many (show (5001 : Int) ≠ 0 by omega)
    have b1 := Int.emod_lt_of_pos many (show (0 : Int) < 5001 by omega)
    refine ⟨(many % 5001).toNat, ?_, ?_, h.2.symm⟩
    · rw [h.1, Int.toNat_of_nonneg b0]
    · show (many % 5001).toNat ≤ 5000
      omega
  have HMK := Lib.hid mk_nodes
  go_enter Tryd.func9, Tryd.ntmps9
  go_wp2_with fail
  refine (HBR.out _).mono ?_
  rintro e w1 ⟨n, rfl, HN, rfl⟩
  obtain ⟨w2, hmk, HW2⟩ := HMK.out w1 n HN.out
  go_wp2_with fail
  refine (vec_any _ _ _ _).mono ?_
  rintro e w3 ⟨rfl, hb3⟩
  have HB3 := Lib.hid hb3
  clear hb3 hmk
  obtain ⟨g, hg⟩ : ∃ g, w1.heap.size = g := ⟨_, rfl⟩
  simp only [hg] at HW2 ⊢
  have HG := Lib.hid hg
  clear hg
  go_wp2_with fail
  have HR0 : Hid (∃ zs, zs.length = (n - 0) * 6 ∧ NR w1 g w3.heap.size n 0 zs (w3.alloc (.cells #[.int .i64 10, .int .i64 0, .int .u64 0, .string ⟨#[]⟩, .slice none 0 0, .slice (some ⟨g, 0, none⟩) n n] 26))) := by
    obtain ⟨zs, hz, ho, hb, hl⟩ := HW2.out
    have hg := HG.out
    have hs := HB3.out.size
    rw [← hg] at hb
    refine Lib.hid ⟨zs, hz, ⟨tr hb (tr HB3.out (al0 _ _)), by omega, by omega, Blk.new _ _ _, ?_⟩⟩
    have hO : Ow (fun _ => True) w2 26 6 (.slice (some ⟨g, 0, none⟩) n n) n (NY 0 ++ zs) := ⟨ho, fun _ _ => trivial⟩
    exact hO.step fun b _ hlt => ⟨(tr HB3.out (al0 _ _)).block b hlt, trivial⟩
  obtain ⟨tb, ht⟩ : ∃ tb, w3.heap.size = tb := ⟨_, rfl⟩
  rw [ht] at HR0
  simp only [ht]
  obtain ⟨W9, hW⟩ : ∃ W9, w3.alloc (.cells #[.int .i64 10, .int .i64 0, .int .u64 0, .string ⟨#[]⟩, .slice none 0 0, .slice (some ⟨g, 0, none⟩) n n] 26) = W9 := ⟨_, rfl⟩
  rw [hW] at HR0
  rw [hW]
  clear hW ht HB3 HW2 HG HMK HBR
  go_loopw [5] (fun i wr => ∃ j : Nat, j ≤ n ∧ i = .int .i64 (j : Int) ∧ Hid (∃ zs, zs.length = (n - j) * 6 ∧ NR w1 g tb n j zs wr)) (fun i _ => n - (intOf i).toNat)
  case atStart => exact ⟨0, Nat.zero_le _, rfl, HR0⟩
  case round =>
    obtain ⟨j, hj, rfl, HZ⟩ := hrel
    by_cases hjn : j < n
    · obtain ⟨zs, hz, hN⟩ := HZ.out
      obtain ⟨b0, b1, b2, b3, b4, b5, zs', rfl⟩ : ∃ b0 b1 b2 b3 b4 b5 zs', zs = [b0, b1, b2, b3, b4, b5] ++ zs' := by
        have h6 : 6 ≤ zs.length := by rw [hz]; omega
        match zs, h6 with
        | b0 :: b1 :: b2 :: b3 :: b4 :: b5 :: zs', _ => exact ⟨b0, b1, b2, b3, b4, b5, zs', rfl⟩
      have HNR := Lib.hid hN
      have HZL : Hid (zs'.length = (n - (j + 1)) * 6) := Lib.hid (by simp at hz; omega)
      have HLT : Hid (j < n) := Lib.hid hjn
      have HNM : Hid (∀ W, Hid (NR w1 g tb n j ([b0, b1, b2, b3, b4, b5] ++ zs') W) → Calls Tryd.prog 30 #[.int .i64 (j : Int)] W fun e w' => e = .returned (.agg #[.int .i64 3, .int .i64 (j : Int), .int .u64 0, .string ⟨#[]⟩, .slice none 0 0, .slice none 0 0]) ∧ Hid (NR w1 g tb n j ([b0, b1, b2, b3, b4, b5] ++ zs') w')) := Lib.hid fun W H => (num_any _ W).mono fun e w' k => ⟨k.1, Lib.hid (H.out.below k.2)⟩
      have hall : ∀ W, Hid (NR w1 g tb n j ([b0, b1, b2, b3, b4, b5] ++ zs') W) → Hid (NR w1 g tb n j ([b0, b1, b2, b3, b4, b5] ++ zs') W) ∧ W.cell? ⟨tb, 5, none⟩ = some (.slice (some ⟨g, 0, none⟩) n n) ∧ (W.frozen? ⟨g, j * 6, none⟩ = false ∧ W.frozen? ⟨g, j * 6 + 1, none⟩ = false ∧ W.frozen? ⟨g, j * 6 + 2, none⟩ = false ∧ W.frozen? ⟨g, j * 6 + 3, none⟩ = false ∧ W.frozen? ⟨g, j * 6 + 4, none⟩ = false ∧ W.frozen? ⟨g, j * 6 + 5, none⟩ = false) ∧
          W.cell? ⟨g, j * 6, none⟩ = some b0 ∧ W.cell? ⟨g, j * 6 + 1, none⟩ = some b1 ∧ W.cell? ⟨g, j * 6 + 2, none⟩ = some b2 ∧ W.cell? ⟨g, j * 6 + 3, none⟩ = some b3 ∧ W.cell? ⟨g, j * 6 + 4, none⟩ = some b4 ∧ W.cell? ⟨g, j * 6 + 5, none⟩ = some b5 := by
        intro W H
        have hO := H.out.ow
        have hyl := NY_len j
        have hcl : ∀ i, i < 6 → W.cell? ⟨g, j * 6 + i, none⟩ = [b0, b1, b2, b3, b4, b5][i]? := by
          intro i hi
          have hlt := HLT.out
          rw [hO.1.cellAt _ (by omega), List.getElem?_append_right (by omega), hyl, Nat.add_sub_cancel_left, List.getElem?_append_left (by simpa using hi)]
        exact ⟨H, (Bx.all H.out.bx).2.2.2.2.2, ⟨hO.1.frozenAt _, hO.1.frozenAt _, hO.1.frozenAt _, hO.1.frozenAt _, hO.1.frozenAt _, hO.1.frozenAt _⟩, hcl 0 (by omega), hcl 1 (by omega), hcl 2 (by omega), hcl 3 (by omega), hcl 4 (by omega), hcl 5 (by omega)⟩
      have HPUT : Hid (∀ W, Hid (NR w1 g tb n j ([b0, b1, b2, b3, b4, b5] ++ zs') W) → Hid (NR w1 g tb n (j + 1) zs' ((((((W.setCell ⟨g, j * 6, none⟩ (.int .i64 3)).setCell ⟨g, j * 6 + 1, none⟩ (.int .i64 (j : Int))).setCell ⟨g, j * 6 + 2, none⟩ (.int .u64 0)).setCell ⟨g, j * 6 + 3, none⟩ (.string ⟨#[]⟩)).setCell ⟨g, j * 6 + 4, none⟩ (.slice none 0 0)).setCell ⟨g, j * 6 + 5, none⟩ (.slice none 0 0)))) := Lib.hid fun W H => Lib.hid H.out.put
      have hn5 : (n : Int) ≤ 100000 := by have := HN.out; omega
      have hjb : (0 : Int) ≤ (j : Int) := by omega
      have hjb2 : (j : Int) < (n : Int) := by omega
      have HNd : Hid (NR w1 g tb n j ([b0, b1, b2, b3, b4, b5] ++ zs') wr.drew) := Lib.hid (hN.below (Below.refl _ _).drew)
      clear hN hz HZ
      go_wp2_with fail
      go_region_held3 (fun W => W.cell? ⟨tb, 5, none⟩ = some (.slice (some ⟨g, 0, none⟩) n n)) (first | (with_reducible exact (hall _ (by assumption)).2.1) | (with_reducible exact (hall _ HNd).2.1) | (with_reducible exact (Bx.all (Hid.out (HPUT.out _ (by assumption))).bx).2.2.2.2.2))
        (first | (go_at_call 30; (with_reducible refine (HNM.out _ (by first | assumption | exact HNd)).mono ?_); rintro e w6 ⟨rfl, HC6⟩; obtain ⟨_, _, ⟨f0, f1, f2, f3, f4, f5⟩, c0, c1, c2, c3, c4, c5⟩ := hall _ HC6))
      go_wp2_with fail
      go_roundw
      case rel => exact ⟨j + 1, by omega, by simp, Lib.hid ⟨zs', HZL.out, (HPUT.out _ HC6).out⟩⟩
      case measure => simp [intOf]; omega
    · obtain rfl : j = n := by omega
      obtain ⟨zs, hz, hN⟩ := HZ.out
      obtain rfl : zs = [] := List.eq_nil_of_length_eq_zero (by simpa using hz)
      have HNR := Lib.hid hN
      have hcells : ∀ W, C0 wr W → C0 wr W ∧ W.cell? ⟨tb, 0, none⟩ = some (.int .i64 10) ∧ W.cell? ⟨tb, 1, none⟩ = some (.int .i64 0) ∧ W.cell? ⟨tb, 2, none⟩ = some (.int .u64 0) ∧ W.cell? ⟨tb, 3, none⟩ = some (.string ⟨#[]⟩) ∧ W.cell? ⟨tb, 4, none⟩ = some (.slice none 0 0) ∧ W.cell? ⟨tb, 5, none⟩ = some (.slice (some ⟨g, 0, none⟩) j j) := fun W h =>
        ⟨h, Bx.all (HNR.out.below h).bx⟩
      have HC00 : C0 wr wr := Below.refl _ _
      have HBL := Lib.hid HNR.out.bl
      have HTr := Lib.hid (hT.keep HNR.out.bl)
      have hn5 : (j : Int) ≤ 100000 := by have := HN.out; omega
      have HWK : Hid (∀ W, C0 wr W → Calls Tryd.prog 15 #[] W fun e w' => e = .returned (.bool true) ∧ C0 wr w') := Lib.hid fun W h => (works_true W (HTr.out.keep h)).mono fun e w' k => ⟨k.1, h.go k.2⟩
      have HSZ : Hid (∀ W, C0 wr W → Calls Tryd.prog 18 #[.agg #[.int .i64 10, .int .i64 0, .int .u64 0, .string ⟨#[]⟩, .slice none 0 0, .slice (some ⟨g, 0, none⟩) j j]] W fun e w' => e = .returned (.int .i64 ((j : Int) + 1)) ∧ C0 wr w') := Lib.hid fun W h => (size_any (FL j) _ W (by rw [sz_FL]; have := HN.out; omega) ((HNR.out.below h).nd HN.out)).mono fun e w' k => ⟨by rw [k.1, sz_FL]; rfl, h.go k.2⟩
      by_cases hlim : j < 4096
      · have HCK : Hid (∀ W, C0 wr W → Calls Tryd.prog 12 #[.agg #[.int .i64 10, .int .i64 0, .int .u64 0, .string ⟨#[]⟩, .slice none 0 0, .slice (some ⟨g, 0, none⟩) j j]] W fun e w' => e = .returned (.int .i64 0) ∧ C0 wr w') := Lib.hid fun W h => chk_C HTr.out h ⟨by rw [sz_FL]; have := HN.out; omega, sm_FL j⟩ (chk_lo hlim) ((HNR.out.below h).nd HN.out)
        have hdec : decide (4096 ≤ (j : Int)) = false := decide_eq_false (by omega)
        clear hlim hN hz HZ HNR hj hjn
        obtain ⟨-, a0, a1, a2, a3, a4, a5⟩ := hcells wr HC00
        go_wp2_with (first
          | (go_at_call 12; (with_reducible refine (HCK.out _ HC00).mono ?_); rintro e V1 ⟨rfl, hC1⟩; obtain ⟨-, x0, x1, x2, x3, x4, x5⟩ := hcells _ hC1)
          | (go_at_call 18; (with_reducible refine (HSZ.out _ hC1).mono ?_); rintro e V2 ⟨rfl, hC2⟩; obtain ⟨-, y0, y1, y2, y3, y4, y5⟩ := hcells _ hC2)
          | (go_at_call 15; (with_reducible refine (HWK.out _ hC2).mono ?_); rintro e V3 ⟨rfl, hC3⟩))
        go_ret
        exact ⟨rfl, HBL.out.trans (Below.mono hC3 HBL.out.size)⟩
      · have HCK : Hid (∀ W, C0 wr W → Calls Tryd.prog 12 #[.agg #[.int .i64 10, .int .i64 0, .int .u64 0, .string ⟨#[]⟩, .slice none 0 0, .slice (some ⟨g, 0, none⟩) j j]] W fun e w' => e = .returned (.int .i64 5) ∧ C0 wr w') := Lib.hid fun W h => chk_C HTr.out h ⟨by rw [sz_FL]; have := HN.out; omega, sm_FL j⟩ (chk_hi (by omega)) ((HNR.out.below h).nd HN.out)
        have hdec : decide (4096 ≤ (j : Int)) = true := decide_eq_true (by omega)
        clear hlim hN hz HZ HNR hj hjn
        obtain ⟨-, a0, a1, a2, a3, a4, a5⟩ := hcells wr HC00
        go_wp2_with (first
          | (go_at_call 12; (with_reducible refine (HCK.out _ HC00).mono ?_); rintro e V1 ⟨rfl, hC1⟩; obtain ⟨-, x0, x1, x2, x3, x4, x5⟩ := hcells _ hC1)
          | (go_at_call 18; (with_reducible refine (HSZ.out _ hC1).mono ?_); rintro e V2 ⟨rfl, hC2⟩; obtain ⟨-, y0, y1, y2, y3, y4, y5⟩ := hcells _ hC2)
          | (go_at_call 15; (with_reducible refine (HWK.out _ hC2).mono ?_); rintro e V3 ⟨rfl, hC3⟩))
        go_ret
        exact ⟨rfl, HBL.out.trans (Below.mono hC3 HBL.out.size)⟩
end Go.Proofs.YtpcbkocimkdecaaDoor
