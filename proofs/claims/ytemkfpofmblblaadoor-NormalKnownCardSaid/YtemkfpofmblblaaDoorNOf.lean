/-
  What is proved here: contract of normal.Of; conditions: the table of package tree holds what is laid; at most 100000 nodes, strings and lists of at most 1000.
-/
import Derived.Test.YtemkfpofmblblaaDoorApply
namespace Go.Proofs.YtemkfpofmblblaaDoor
open Go.RowKit Go.Sort Go.Maps

mutual
theorem NdS.bd {U : Nat → Prop} {w : World} : ∀ {t : T} {cs : List Value}, NdS U w t cs → NdS (fun b => U b ∧ b < w.heap.size) w t cs
  | .mk k n u s ks l, cs, h => by
    obtain ⟨hr, hs, hks, kv, lv, xs, C, rfl, h1, h2, h3, h4⟩ := h
    exact ⟨hr, hs, hks, kv, lv, xs, fun b => C b ∧ b < w.heap.size, rfl, h1.self.imp fun b hb => ⟨⟨hb.2.1.1, hb.2.2⟩, fun h => hb.2.1.2.1 h.1, hb.2.1.2.2⟩, h2.self.imp fun b hb => ⟨⟨hb.2.1.1, hb.2.2⟩, fun h => hb.2.1.2 h.1⟩, NdSL.bd h3, fun b hb => ⟨h4 b hb.1, hb.2⟩⟩
theorem NdSL.bd {U : Nat → Prop} {w : World} : ∀ {l : List T} {xs : List Value}, NdSL U w l xs → NdSL (fun b => U b ∧ b < w.heap.size) w l xs
  | [], _, h => h
  | t :: ts, xs, h => by
    obtain ⟨cs, ys, C, D, rfl, h1, h2, h3, h4⟩ := h
    exact ⟨cs, ys, fun b => C b ∧ b < w.heap.size, fun b => D b ∧ b < w.heap.size, rfl, NdS.bd h1, NdSL.bd h2, fun b hb => ⟨⟨(h3 b hb.1).1, hb.2⟩, fun hd => (h3 b hb.1).2 hd.1⟩, fun b hb => ⟨h4 b hb.1, hb.2⟩⟩
end
theorem trB {a b c : World} (h : Below a.heap.size a b) (k : Below b.heap.size b c) : Below a.heap.size a c := h.trans (k.mono h.size)
theorem alB (w : World) (o : Obj) : Below w.heap.size w (w.alloc o) := (Below.refl _ w).alloc (Nat.le_refl _) o
/-- The end of Of. -/
theorem of_fin {w W1 wB w4 w5 : World} {t' : T} {U : Nat → Prop} {v0 v1 v2 v3 v4 v5 : Value} (h0 : Below w.heap.size w wB) (hw1 : w.heap.size + 2 ≤ W1.heap.size) (hbx : Bx w4 (w.heap.size + 1) (.int .i64 0) (.int .i64 0) (.int .u64 0) (.string ⟨#[]⟩) (.slice none 0 0) (.slice none 0 0)) (h4 : Below wB.heap.size wB w4)
    (hU : ∀ b, U b → W1.heap.size ≤ b) (h5 : Fx U w4 w5) (hw4 : W1.heap.size ≤ w4.heap.size) (hn : NdS (fun b => U b ∨ (w4.heap.size ≤ b ∧ b < w5.heap.size)) w5 t' [v0, v1, v2, v3, v4, v5]) :
    Bx (put6 w5 (w.heap.size + 1) 0 v0 v1 v2 v3 v4 v5) (w.heap.size + 1) v0 v1 v2 v3 v4 v5 ∧ Below w.heap.size w (put6 w5 (w.heap.size + 1) 0 v0 v1 v2 v3 v4 v5) ∧ NdO (fun b => w.heap.size ≤ b) (put6 w5 (w.heap.size + 1) 0 v0 v1 v2 v3 v4 v5) t' [v0, v1, v2, v3, v4, v5] := by
  have hx5 : Bx w5 (w.heap.size + 1) (.int .i64 0) (.int .i64 0) (.int .u64 0) (.string ⟨#[]⟩) (.slice none 0 0) (.slice none 0 0) := (h5.block _ hbx.lt fun hu => by have := hU _ hu; omega).trans hbx
  have hb5 : Below w.heap.size w w5 := (trB h0 h4).trans (Fx.below h5 (Nat.le_trans h0.size h4.size) fun b hb => by have := hU b hb; omega)
  refine ⟨Bx.put6 hx5 _ _ _ _ _ _, put6_below hb5 _ _ _ _ _ _ _ _ (by omega), NdO.step (fun b hb _ => ⟨put6_other _ _ _ _ _ _ _ _ _ _ ?_, ?_⟩) _ _ (NdS.ndo _ _ hn)⟩
  · rcases hb with hb | hb
    · have := hU b hb; omega
    · omega
  · rcases hb with hb | hb
    · have := hU b hb; omega
    · omega

set_option maxRecDepth 100000 in
set_option maxHeartbeats 4000000 in
theorem of_any (t : T) (cs : List Value) (w : World) (hT : Tab w) (hq : QQ t) (hnd : Nd w t cs) :
    Calls Tryd.prog 14 #[.agg cs.toArray] w fun e w' => Below w.heap.size w w' ∧ ((chk t ≠ 0 ∧ e = .returned (.tuple #[.agg #[.int .i64 0, .int .i64 0, .int .u64 0, .string ⟨#[]⟩, .slice none 0 0, .slice none 0 0], .int .i64 ((chk t : Nat) : Int)])) ∨
      (chk t = 0 ∧ ∃ cs' t', e = .returned (.tuple #[.agg cs'.toArray, .int .i64 0]) ∧ Srt t t' ∧ NdO (fun b => w.heap.size ≤ b) w' (nfT t') cs')) := by
  obtain ⟨ka0, na0, ua0, sa0, EA0, qa0, fa0, GA0, ra0, ha0, rfl⟩ := hnd.shape
  have hT0 := Two.start w (.int .i64 ka0) (.int .i64 na0) (.int .u64 ua0) (.string sa0) (.slice EA0 qa0 fa0) (.slice GA0 ra0 ha0) (.int .i64 0) (.int .i64 0) (.int .u64 0) (.string ⟨#[]⟩) (.slice none 0 0) (.slice none 0 0)
  obtain ⟨W1, hW1⟩ : ∃ W1, ((w.alloc (.cells #[.int .i64 ka0, .int .i64 na0, .int .u64 ua0, .string sa0, .slice EA0 qa0 fa0, .slice GA0 ra0 ha0] 27)).alloc (.cells #[.int .i64 0, .int .i64 0, .int .u64 0, .string ⟨#[]⟩, .slice none 0 0, .slice none 0 0] 27)) = W1 := ⟨_, rfl⟩
  rw [hW1] at hT0
  have HT0 := Lib.hid hT0
  have HS := Lib.hid (sorted_any t _ _ (hT.keep hT0.1) hq (hnd.bel hT0.1))
  obtain ⟨x, hx⟩ : ∃ x, chk t = x := ⟨_, rfl⟩
  rw [hx] at HS ⊢
  have HQ := Lib.hid hq
  have HX := Lib.hid hx
  obtain ⟨c0, c1, c2, c3, c4, c5⟩ := hT0.2.2.1.all
  clear hT0 hT hnd hq hx
  go_enter Tryd.func14, Tryd.ntmps14
  go_wp2_with fail
  (try rw [hW1])
  clear hW1
  refine HS.out.mono ?_
  rintro e w3 ⟨hb3, ⟨h0, rfl⟩ | ⟨h0, cs3, t', rfl, hs, hn⟩⟩
  · have HB3 := Lib.hid (trB HT0.out.1 (trB hb3 (alB w3 (.cells #[.int .i64 0, .int .i64 0, .int .u64 0, .string ⟨#[]⟩, .slice none 0 0, .slice none 0 0] 27))))
    have HX3 := Lib.hid (Blk.below HT0.out.2.2.2 (trB hb3 (alB w3 (.cells #[.int .i64 0, .int .i64 0, .int .u64 0, .string ⟨#[]⟩, .slice none 0 0, .slice none 0 0] 27))) HT0.out.2.2.2.lt)
    have hx0 : ((x : Int) != 0) = true := by simp; omega
    have h0' := Lib.hid h0
    obtain ⟨⟨z0, z1, z2, z3, z4, z5⟩, y0, y1, y2, y3, y4, y5⟩ := Bx.both HX3.out
    clear hb3 h0 c0 c1 c2 c3 c4 c5
    go_wp2_with fail
    refine ret_six2 (p := 2) (q := 3) (g := w.heap.size + 1) rfl rfl rfl (Bx.put6 HX3.out _ _ _ _ _ _) rfl ?_
    exact ⟨put6_below HB3.out _ _ _ _ _ _ _ _ (by omega), .inl ⟨h0'.out, rfl⟩⟩
  · obtain ⟨ka3, na3, ua3, sa3, EA3, qa3, fa3, GA3, ra3, ha3, rfl⟩ := (NdS.ndo _ _ hn).shape6
    have H0 := Lib.hid h0
    clear h0
    have HSR := Lib.hid hs
    have HNS := Lib.hid hn.bd
    have HB3 := Lib.hid hb3
    have HOK := Lib.hid ((chk_zero t).1 (HX.out.trans H0.out)).1
    have HSZ : Hid (sz t' ≤ 100000) := Lib.hid (by rw [Srt.sz (okT_mpT HOK.out) hs]; exact HQ.out.1)
    clear hs hn hb3 c0 c1 c2 c3 c4 c5 HS
    go_wp2_with fail
    obtain ⟨wB, hwB⟩ : ∃ wB, w3.alloc (.cells #[.int .i64 ka3, .int .i64 na3, .int .u64 ua3, .string sa3, .slice EA3 qa3 fa3, .slice GA3 ra3 ha3] 27) = wB := ⟨_, rfl⟩
    obtain ⟨bx, hbx⟩ : ∃ bx, w3.heap.size = bx := ⟨_, rfl⟩
    have H3B : Hid (Below w3.heap.size w3 wB) := Lib.hid (by rw [← hwB]; exact alB _ _)
    have HBX : Hid (Bx wB bx (.int .i64 ka3) (.int .i64 na3) (.int .u64 ua3) (.string sa3) (.slice EA3 qa3 fa3) (.slice GA3 ra3 ha3)) := Lib.hid (by rw [← hwB, ← hbx]; exact Blk.new _ _ _)
    (try rw [hwB])
    (try rw [hbx])
    (try simp only [hbx])
    clear hwB
    have HLT : Hid (w3.heap.size = bx) := Lib.hid hbx
    clear hbx
    have hall : ∀ W, Hid (Below wB.heap.size wB W) → Hid (Below wB.heap.size wB W) ∧ W.cell? ⟨bx, 0, none⟩ = some (.int .i64 ka3) ∧ W.cell? ⟨bx, 1, none⟩ = some (.int .i64 na3) ∧ W.cell? ⟨bx, 2, none⟩ = some (.int .u64 ua3) ∧ W.cell? ⟨bx, 3, none⟩ = some (.string sa3) ∧ W.cell? ⟨bx, 4, none⟩ = some (.slice EA3 qa3 fa3) ∧ W.cell? ⟨bx, 5, none⟩ = some (.slice GA3 ra3 ha3) := fun W H => ⟨H, Bx.all (HBX.out.below H.out HBX.out.lt)⟩
    have HR1 : Hid (Below W1.heap.size W1 wB) := Lib.hid (trB HB3.out H3B.out)
    have HRU : Hid (∀ W, Hid (Below wB.heap.size wB W) → Calls Tryd.prog 24 #[] W fun e w' => ∃ (mb : Nat), e = .returned (.map (some mb)) ∧ Hid (Below wB.heap.size wB w') ∧ Hid (∃ (n : Nat) (D : DataW Unit), wB.heap.size ≤ mb ∧ w'.ownsMap Tryd.prog 3 elF mb n D ∧ Ct D rulesL)) := Lib.hid fun W H => by
      refine (rules_any W).mono ?_
      rintro e w' ⟨mb, n, D, rfl, h1, h2, h3, h4⟩
      exact ⟨mb, rfl, Lib.hid (trB H.out h2), Lib.hid ⟨n, D, Nat.le_trans H.out.size h1, h3, h4⟩⟩
    have HAP : Hid (∀ (W : World) (mb : Nat), Hid (Below wB.heap.size wB W) → Hid (∃ (n : Nat) (D : DataW Unit), wB.heap.size ≤ mb ∧ W.ownsMap Tryd.prog 3 elF mb n D ∧ Ct D rulesL) → Calls Tryd.prog 23 #[.map (some mb), .agg #[.int .i64 ka3, .int .i64 na3, .int .u64 ua3, .string sa3, .slice EA3 qa3 fa3, .slice GA3 ra3 ha3]] W fun e w' => ∃ (ka5 na5 ua5 : Int) (sa5 : ByteArray) (EA5 : Option Addr) (qa5 fa5 : Nat) (GA5 : Option Addr) (ra5 ha5 : Nat), e = .returned (.agg #[.int .i64 ka5, .int .i64 na5, .int .u64 ua5, .string sa5, .slice EA5 qa5 fa5, .slice GA5 ra5 ha5]) ∧
        Hid (NdS (fun b => (W1.heap.size ≤ b ∧ b < w3.heap.size) ∨ (W.heap.size ≤ b ∧ b < w'.heap.size)) w' (nfT t') [.int .i64 ka5, .int .i64 na5, .int .u64 ua5, .string sa5, .slice EA5 qa5 fa5, .slice GA5 ra5 ha5] ∧ Fx (fun b => W1.heap.size ≤ b ∧ b < w3.heap.size) W w')) := Lib.hid fun W mb H H2 => by
      obtain ⟨n, D, h1, h2, h3⟩ := H2.out
      have hs3 := H3B.out.size
      refine (apply_any mb n D h3 (dp t') t' _ W (fun b => W1.heap.size ≤ b ∧ b < w3.heap.size) (Nat.le_refl _) HSZ.out (NdS.step (fun b hb _ => (H.out.block b (by omega)).trans (H3B.out.block b hb.2)) _ _ HNS.out) (fun b hb => by have := H.out.size; omega) (fun hb => by omega) h2).mono ?_
      rintro e w' ⟨cs', rfl, g1, g2⟩
      obtain ⟨ka5, na5, ua5, sa5, EA5, qa5, fa5, GA5, ra5, ha5, rfl⟩ := (NdS.ndo _ _ g1).shape6
      exact ⟨ka5, na5, ua5, sa5, EA5, qa5, fa5, GA5, ra5, ha5, rfl, Lib.hid ⟨g1, g2⟩⟩
    have HBd : Hid (Below wB.heap.size wB wB.drew) := Lib.hid (Below.refl _ wB).drew
    have HRB : Hid (Bx wB (w.heap.size + 1) (.int .i64 0) (.int .i64 0) (.int .u64 0) (.string ⟨#[]⟩) (.slice none 0 0) (.slice none 0 0)) := Lib.hid (HT0.out.2.2.2.below HR1.out HT0.out.2.2.2.lt)
    have HNE : Hid (bx ≠ w.heap.size + 1 ∧ W1.heap.size ≤ bx) := Lib.hid (by have h1 := HLT.out; have h2 := HB3.out.size; have h3 := HT0.out.2.1; exact ⟨by omega, by omega⟩)
    have hall2 : ∀ W, Hid (Bx W bx (.int .i64 ka3) (.int .i64 na3) (.int .u64 ua3) (.string sa3) (.slice EA3 qa3 fa3) (.slice GA3 ra3 ha3)) → Hid (Bx W bx (.int .i64 ka3) (.int .i64 na3) (.int .u64 ua3) (.string sa3) (.slice EA3 qa3 fa3) (.slice GA3 ra3 ha3)) ∧ W.cell? ⟨bx, 0, none⟩ = some (.int .i64 ka3) ∧ W.cell? ⟨bx, 1, none⟩ = some (.int .i64 na3) ∧ W.cell? ⟨bx, 2, none⟩ = some (.int .u64 ua3) ∧ W.cell? ⟨bx, 3, none⟩ = some (.string sa3) ∧ W.cell? ⟨bx, 4, none⟩ = some (.slice EA3 qa3 fa3) ∧ W.cell? ⟨bx, 5, none⟩ = some (.slice GA3 ra3 ha3) := fun W H => ⟨H, Bx.all H.out⟩
    have HXd : Hid (Bx wB.drew bx (.int .i64 ka3) (.int .i64 na3) (.int .u64 ua3) (.string sa3) (.slice EA3 qa3 fa3) (.slice GA3 ra3 ha3)) := Lib.hid HBX.out
    have hc2 : ∀ (W : World) (a0 a1 a2 a3 a4 a5 : Value), Hid (Bx W bx (.int .i64 ka3) (.int .i64 na3) (.int .u64 ua3) (.string sa3) (.slice EA3 qa3 fa3) (.slice GA3 ra3 ha3)) → Hid (Bx ((((((W.setCell ⟨w.heap.size + 1, 0, none⟩ a0).setCell ⟨w.heap.size + 1, 1, none⟩ a1).setCell ⟨w.heap.size + 1, 2, none⟩ a2).setCell ⟨w.heap.size + 1, 3, none⟩ a3).setCell ⟨w.heap.size + 1, 4, none⟩ a4).setCell ⟨w.heap.size + 1, 5, none⟩ a5) bx (.int .i64 ka3) (.int .i64 na3) (.int .u64 ua3) (.string sa3) (.slice EA3 qa3 fa3) (.slice GA3 ra3 ha3)) ∧ ((((((W.setCell ⟨w.heap.size + 1, 0, none⟩ a0).setCell ⟨w.heap.size + 1, 1, none⟩ a1).setCell ⟨w.heap.size + 1, 2, none⟩ a2).setCell ⟨w.heap.size + 1, 3, none⟩ a3).setCell ⟨w.heap.size + 1, 4, none⟩ a4).setCell ⟨w.heap.size + 1, 5, none⟩ a5).cell? ⟨bx, 0, none⟩ = some (.int .i64 ka3) ∧ ((((((W.setCell ⟨w.heap.size + 1, 0, none⟩ a0).setCell ⟨w.heap.size + 1, 1, none⟩ a1).setCell ⟨w.heap.size + 1, 2, none⟩ a2).setCell ⟨w.heap.size + 1, 3, none⟩ a3).setCell ⟨w.heap.size + 1, 4, none⟩ a4).setCell ⟨w.heap.size + 1, 5, none⟩ a5).cell? ⟨bx, 1, none⟩ = some (.int .i64 na3) ∧ ((((((W.setCell ⟨w.heap.size + 1, 0, none⟩ a0).setCell ⟨w.heap.size + 1, 1, none⟩ a1).setCell ⟨w.heap.size + 1, 2, none⟩ a2).setCell ⟨w.heap.size + 1, 3, none⟩ a3).setCell ⟨w.heap.size + 1, 4, none⟩ a4).setCell ⟨w.heap.size + 1, 5, none⟩ a5).cell? ⟨bx, 2, none⟩ = some (.int .u64 ua3) ∧ ((((((W.setCell ⟨w.heap.size + 1, 0, none⟩ a0).setCell ⟨w.heap.size + 1, 1, none⟩ a1).setCell ⟨w.heap.size + 1, 2, none⟩ a2).setCell ⟨w.heap.size + 1, 3, none⟩ a3).setCell ⟨w.heap.size + 1, 4, none⟩ a4).setCell ⟨w.heap.size + 1, 5, none⟩ a5).cell? ⟨bx, 3, none⟩ = some (.string sa3) ∧ ((((((W.setCell ⟨w.heap.size + 1, 0, none⟩ a0).setCell ⟨w.heap.size + 1, 1, none⟩ a1).setCell ⟨w.heap.size + 1, 2, none⟩ a2).setCell ⟨w.heap.size + 1, 3, none⟩ a3).setCell ⟨w.heap.size + 1, 4, none⟩ a4).setCell ⟨w.heap.size + 1, 5, none⟩ a5).cell? ⟨bx, 4, none⟩ = some (.slice EA3 qa3 fa3) ∧ ((((((W.setCell ⟨w.heap.size + 1, 0, none⟩ a0).setCell ⟨w.heap.size + 1, 1, none⟩ a1).setCell ⟨w.heap.size + 1, 2, none⟩ a2).setCell ⟨w.heap.size + 1, 3, none⟩ a3).setCell ⟨w.heap.size + 1, 4, none⟩ a4).setCell ⟨w.heap.size + 1, 5, none⟩ a5).cell? ⟨bx, 5, none⟩ = some (.slice GA3 ra3 ha3) := fun W a0 a1 a2 a3 a4 a5 H => hall2 _ (Lib.hid (put6_blk H.out HNE.out.1 a0 a1 a2 a3 a4 a5))
    clear hall
    go_region_held3 (fun W => Hid (Bx W bx (.int .i64 ka3) (.int .i64 na3) (.int .u64 ua3) (.string sa3) (.slice EA3 qa3 fa3) (.slice GA3 ra3 ha3)) ∧ W.cell? ⟨bx, 0, none⟩ = some (.int .i64 ka3) ∧ W.cell? ⟨bx, 1, none⟩ = some (.int .i64 na3) ∧ W.cell? ⟨bx, 2, none⟩ = some (.int .u64 ua3) ∧ W.cell? ⟨bx, 3, none⟩ = some (.string sa3) ∧ W.cell? ⟨bx, 4, none⟩ = some (.slice EA3 qa3 fa3) ∧ W.cell? ⟨bx, 5, none⟩ = some (.slice GA3 ra3 ha3)) (first | (with_reducible exact hall2 _ (by assumption)) | (with_reducible exact hall2 _ HXd) | (with_reducible exact hc2 _ _ _ _ _ _ _ (by assumption)))
      (first
        | (go_at_call 24; (with_reducible refine (HRU.out _ HBd).mono ?_); rintro e w4 ⟨mb, rfl, HB4, HM4⟩; have HX4 : Hid (Bx w4 bx (.int .i64 ka3) (.int .i64 na3) (.int .u64 ua3) (.string sa3) (.slice EA3 qa3 fa3) (.slice GA3 ra3 ha3)) := Lib.hid (HBX.out.below HB4.out HBX.out.lt))
        | (go_at_call 23; (with_reducible refine (HAP.out _ _ HB4 HM4).mono ?_); rintro e w5 ⟨ka5, na5, ua5, sa5, EA5, qa5, fa5, GA5, ra5, ha5, rfl, H5⟩; have HX5 : Hid (Bx w5 bx (.int .i64 ka3) (.int .i64 na3) (.int .u64 ua3) (.string sa3) (.slice EA3 qa3 fa3) (.slice GA3 ra3 ha3)) := Lib.hid ((H5.out.2.block _ HX4.out.lt (fun hu => by have h1 := HLT.out; have h2 := hu.2; omega)).trans HX4.out); have HR4 : Hid (Bx w4 (w.heap.size + 1) (.int .i64 0) (.int .i64 0) (.int .u64 0) (.string ⟨#[]⟩) (.slice none 0 0) (.slice none 0 0)) := Lib.hid (HRB.out.below HB4.out HRB.out.lt); have HR5 : Hid (Bx w5 (w.heap.size + 1) (.int .i64 0) (.int .i64 0) (.int .u64 0) (.string ⟨#[]⟩) (.slice none 0 0) (.slice none 0 0)) := Lib.hid ((H5.out.2.block _ HR4.out.lt (fun hu => by have h1 := HT0.out.2.1; have h2 := hu.1; omega)).trans HR4.out); obtain ⟨⟨z0, z1, z2, z3, z4, z5⟩, y0, y1, y2, y3, y4, y5⟩ := Bx.both HR5.out))
    have HF := Lib.hid (of_fin (trB HT0.out.1 HR1.out) HT0.out.2.1 HR4.out HB4.out (fun b hb => hb.1) H5.out.2 (Nat.le_trans HR1.out.size HB4.out.size) H5.out.1)
    clear z0 z1 z2 z3 z4 z5 y0 y1 y2 y3 y4 y5
    go_wp2_with fail
    refine ret_six2 (p := 2) (q := 3) (g := w.heap.size + 1) rfl rfl rfl HF.out.1 rfl ?_
    exact ⟨HF.out.2.1, Or.inr ⟨H0.out, _, t', rfl, HSR.out, HF.out.2.2⟩⟩
end Go.Proofs.YtemkfpofmblblaaDoor
