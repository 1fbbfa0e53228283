/-
  What is proved here: contract of normal.apply: it turns a tree whose rows lie apart into its normal form; conditions: at most 100000 nodes; the map of the rules lies elsewhere.
-/
import Derived.Test.YtemkfpofmblblaaDoorNfR
import Derived.Test.YtemkfpofmblblaaDoorNf
import Derived.Deep.RegionHeld3
namespace Go.Proofs.YtemkfpofmblblaaDoor
open Go.RowKit Go.Maps

theorem _root_.Go.World.ownsMap.fx {H : Type} {P : Program} {k : TypeId} {R : Value → Option (DataW H × List MemPlace)} {b n : Nat} {D : DataW H} {U : Nat → Prop} {w w' : World} (h : w.ownsMap P k R b n D) (hf : Fx U w w') (hb : ¬ U b) : w'.ownsMap P k R b n D := by
  have hlt := h.lt
  obtain ⟨es, clock, hc, F, hs, hD⟩ := h
  exact ⟨es, clock, (hf.block b hlt hb).trans hc, F, hs, hD⟩
/-- 'v, ok := rules[k]' where the map has the key. -/
theorem look_yes {w : World} {ops : Array Oper} {rest : List Oper} {o : Oper} {a : Act} {Q : Exit → Act → World → Prop} {b n f : Nat} {D : DataW Unit} {ps : List (Int × Nat)} {kk : Int} (hg : o.guard = none) (m x : Operand) (hop : o.op = Op.lookup 43 m x true)
    (hm : a.eval m = .map (some b)) (hx : a.eval x = .int .i64 kk) (hown : w.ownsMap Tryd.prog 3 elF b n D) (hD : Ct D ps) (hw : (Lit.int .i64 kk).wf = true) (hf : lk ps kk = some f)
    (hK : wpList Tryd.prog ops Q rest (a.put o.dst (.tuple #[.func (.func f) #[] #[], .bool true])) w) : wpList Tryd.prog ops Q (o :: rest) a w := by
  refine wpList_lookup_own_ok w hg m x _ hop 3 50 keyI underR elF (zeroR w) _ [] elF_nil b n D hm hown _ _ hx (keyOf_int_mk Tryd.underlying3 hw) ?_
  intro v q hv
  obtain ⟨h1, h2⟩ := hD.get kk
  rw [h2 f hf] at hv
  rw [h1, hf]
  rcases elF_inv hv with ⟨h, _⟩ | ⟨n', h, rfl⟩
  · omega
  · obtain rfl : n' = f := by omega
    exact hK
/-- .. and where it has not. -/
theorem look_no {w : World} {ops : Array Oper} {rest : List Oper} {o : Oper} {a : Act} {Q : Exit → Act → World → Prop} {b n : Nat} {D : DataW Unit} {ps : List (Int × Nat)} {kk : Int} (hg : o.guard = none) (m x : Operand) (hop : o.op = Op.lookup 43 m x true)
    (hm : a.eval m = .map (some b)) (hx : a.eval x = .int .i64 kk) (hown : w.ownsMap Tryd.prog 3 elF b n D) (hD : Ct D ps) (hw : (Lit.int .i64 kk).wf = true) (hf : lk ps kk = none)
    (hK : wpList Tryd.prog ops Q rest (a.put o.dst (.tuple #[.nilFunc, .bool false])) w) : wpList Tryd.prog ops Q (o :: rest) a w := by
  refine wpList_lookup_own_ok w hg m x _ hop 3 50 keyI underR elF (zeroR w) _ [] elF_nil b n D hm hown _ _ hx (keyOf_int_mk Tryd.underlying3 hw) ?_
  intro v q hv
  obtain ⟨h1, h2⟩ := hD.get kk
  have hn : Maps.has D (.int .i64 kk) = false := by rw [h1, hf]; rfl
  rw [atKey_of_not_has hn] at hv
  rw [hn]
  rcases elF_inv hv with ⟨_, rfl⟩ | ⟨n', h, _⟩
  · exact hK
  · omega
theorem lk_uint {k : Int} (h : k = 4 ∨ k = 9) : lk rulesL k = some 35 := by rcases h with rfl | rfl <;> rfl
theorem lk_int : lk rulesL 8 = some 33 := rfl
theorem lk_key : lk rulesL 5 = some 36 := rfl
theorem lk_vec {k : Int} (h : 11 ≤ k ∧ k ≤ 16) : lk rulesL k = some 37 := by
  rcases (show k = 11 ∨ k = 12 ∨ k = 13 ∨ k = 14 ∨ k = 15 ∨ k = 16 by omega) with rfl | rfl | rfl | rfl | rfl | rfl <;> rfl
theorem lk_else {k : Int} (h4 : ¬ (k = 4 ∨ k = 9)) (h8 : k ≠ 8) (h5 : k ≠ 5) (h : ¬ (11 ≤ k ∧ k ≤ 16)) : lk rulesL k = none := by
  unfold rulesL
  simp only [lk]
  rw [if_neg (by omega), if_neg (by omega), if_neg (by omega), if_neg (by omega), if_neg (by omega), if_neg (by omega), if_neg (by omega), if_neg (by omega), if_neg (by omega), if_neg (by omega)]
theorem nds_leaf {U : Nat → Prop} {w : World} {k n u : Int} {s : ByteArray} (hr : Rng k n u) (hs : s.size ≤ maxLen) : NdS U w (.mk k n u s [] []) [.int .i64 k, .int .i64 n, .int .u64 u, .string s, .slice none 0 0, .slice none 0 0] :=
  ⟨hr, hs, by simp, .slice none 0 0, .slice none 0 0, [], fun _ => False, rfl, ⟨World.ownsRow_nil _ _ _ _, by simp [Value.ownBlock]⟩, ⟨World.ownsRow_nil _ _ _ _, by simp [Value.ownBlock]⟩, rfl, fun b h => h.elim⟩
/-- The end: the result is written into its box. -/
theorem sm_fin {U V D : Nat → Prop} {w wr w7 : World} {N : Nat} {kk nn uu : Int} {s : ByteArray} {v4 v5 : Value} {ks : List ByteArray} {m : Nat} {L1 : List T} {ys : List Value} (hM : SM U V D w N kk nn uu s v4 v5 ks m L1 [] ys [] wr) (hU : ∀ b, U b → b < w.heap.size) (hb : Below wr.heap.size wr w7) (a0 a1 a2 a3 a4 a5 : Value) :
    Bx (put6 w7 (w.heap.size + 1) 0 a0 a1 a2 a3 a4 a5) (w.heap.size + 1) a0 a1 a2 a3 a4 a5 ∧ Fx U w (put6 w7 (w.heap.size + 1) 0 a0 a1 a2 a3 a4 a5) ∧ wr.heap.size ≤ (put6 w7 (w.heap.size + 1) 0 a0 a1 a2 a3 a4 a5).heap.size ∧
    (∀ b, (U b ∨ V b) → b < wr.heap.size → (put6 w7 (w.heap.size + 1) 0 a0 a1 a2 a3 a4 a5).heap[b]? = wr.heap[b]?) ∧ (∀ b, V b → U b ∨ (w.heap.size ≤ b ∧ b < wr.heap.size)) := by
  have hb1 : Bx w7 (w.heap.size + 1) (.int .i64 0) (.int .i64 0) (.int .u64 0) (.string ⟨#[]⟩) (.slice none 0 0) (.slice none 0 0) := (hb.block _ hM.b1.lt).trans hM.b1
  have hV : ∀ b, V b → b ≠ w.heap.size + 1 ∧ (U b ∨ (w.heap.size ≤ b ∧ b < wr.heap.size)) := by
    intro b hb
    have h1 := hM.hN
    rcases hM.hV b hb with h | h
    · have := hU b h
      exact ⟨by omega, .inl h⟩
    · exact ⟨by omega, .inr ⟨by omega, by omega⟩⟩
  refine ⟨Bx.put6 hb1 _ _ _ _ _ _, (hM.fx.trans (Fx.of_below (U := fun _ => False) hb) fun _ h => h.elim).put6 _ _ _ _ _ _ _ _ fun h => absurd h (by omega), by rw [put6_size]; exact hb.size, fun b hv hl => ?_, fun b hb => (hV b hb).2⟩
  have hne : b ≠ w.heap.size + 1 := by
    rcases hv with h | h
    · have := hU b h; omega
    · exact (hV b h).1
  rw [put6_other _ _ _ _ _ _ _ _ _ _ hne]
  exact hb.block b hl
set_option maxRecDepth 100000 in
set_option maxHeartbeats 4000000 in
theorem apply_any (mb nD : Nat) (D : DataW Unit) (hD : Ct D rulesL) (k : Nat) : ∀ (t : T) (cs : List Value) (w : World) (U : Nat → Prop), dp t ≤ k → sz t ≤ 100000 → NdS U w t cs → (∀ b, U b → b < w.heap.size) → ¬ U mb → w.ownsMap Tryd.prog 3 elF mb nD D →
    Calls Tryd.prog 23 #[.map (some mb), .agg cs.toArray] w fun e w' => ∃ cs', e = .returned (.agg cs'.toArray) ∧ NdS (fun b => U b ∨ (w.heap.size ≤ b ∧ b < w'.heap.size)) w' (nfT t) cs' ∧ Fx U w w' := by
  induction k with
  | zero => intro t cs w U h; exact absurd h (by have := dp_pos t; omega)
  | succ k ih =>
    rintro ⟨kk, nn, uu, s, ks, L⟩ cs w U hk hsz ⟨hr, hs, hks, v4, v5, xs, C0, rfl, hk4, hrow, hch, hC0⟩ hU hmU hmap
    simp only [dp] at hk
    simp only [sz] at hsz
    obtain ⟨B, d, rfl⟩ := hk4.shape
    obtain ⟨G, e, rfl⟩ := hrow.shape
    have HMU := Lib.hid hmU
    have HMAP : Hid (∀ W, Fx U w W → W.ownsMap Tryd.prog 3 elF mb nD D) := Lib.hid fun W hf => hmap.fx hf hmU
    have HDC := Lib.hid hD
    clear hmU hmap hD
    obtain ⟨m, hml⟩ : ∃ m, L.length = m := ⟨_, rfl⟩
    have hmx : m ≤ 100000 := by have := len_le_szL L; omega
    have hT0 := Two.start w (.int .i64 kk) (.int .i64 nn) (.int .u64 uu) (.string s) (.slice B ks.length d) (.slice G L.length e) (.int .i64 0) (.int .i64 0) (.int .u64 0) (.string ⟨#[]⟩) (.slice none 0 0) (.slice none 0 0)
    have HS0 : Hid (∃ V D N L1 ys zs, L1 = nfL (L.take 0) ∧ SM U V D w N kk nn uu s (.slice B ks.length d) (.slice G L.length e) ks L.length L1 (L.drop 0) ys zs ((w.alloc (.cells #[.int .i64 kk, .int .i64 nn, .int .u64 uu, .string s, .slice B ks.length d, .slice G L.length e] 27)).alloc (.cells #[.int .i64 0, .int .i64 0, .int .u64 0, .string ⟨#[]⟩, .slice none 0 0, .slice none 0 0] 27))) := by
      refine Lib.hid ⟨fun _ => False, C0, 0, [], [], xs, rfl, Fx.of_below hT0.1, hT0.2.1, Nat.zero_le _, hT0.2.2.1, hT0.2.2.2, ?_, ?_, rfl, ?_, fun b h => h.elim, fun b hb => ⟨hC0 b hb, fun h => h⟩⟩
      · exact hk4.step fun b hb hl => ⟨hT0.1.block b hl, hb.1, fun h => h, hb.2⟩
      · exact hrow.step fun b hb hl => ⟨hT0.1.block b hl, hb.1, fun h => h, hb.2⟩
      · exact NdSL.step (fun b _ hl => hT0.1.block b hl) _ _ hch
    obtain ⟨W0, hW0⟩ : ∃ W0, ((w.alloc (.cells #[.int .i64 kk, .int .i64 nn, .int .u64 uu, .string s, .slice B ks.length d, .slice G L.length e] 27)).alloc (.cells #[.int .i64 0, .int .i64 0, .int .u64 0, .string ⟨#[]⟩, .slice none 0 0, .slice none 0 0] 27)) = W0 := ⟨_, rfl⟩
    rw [hml] at hT0 HS0 hW0
    have HML := Lib.hid hml
    rw [hml]
    clear hml hT0 hk4 hrow hch hC0
    rw [hW0] at HS0
    obtain ⟨V0, D0, N0, L10, ys0, zs0, _, hSM0⟩ := HS0.out
    obtain ⟨c0, c1, c2, c3, c4, c5⟩ := hSM0.b0.all
    clear hSM0
    go_enter Tryd.func23, Tryd.ntmps23
    go_wp2_with fail
    clear c0 c1 c2 c3 c4 c5 hW0
    go_loopw [12] (fun i wr => ∃ j : Nat, j ≤ m ∧ i = .int .i64 (j : Int) ∧ Hid (∃ V D N L1 ys zs, L1 = nfL (L.take j) ∧ SM U V D w N kk nn uu s (.slice B ks.length d) (.slice G m e) ks m L1 (L.drop j) ys zs wr)) (fun i _ => m - (intOf i).toNat)
    case atStart => exact ⟨0, Nat.zero_le _, rfl, HS0⟩
    case round =>
      obtain ⟨j, hj, rfl, HW⟩ := hrel
      clear HS0
      by_cases hjm : j < m
      · obtain ⟨V, D, N, L1, ys, zs', hSL, hSM⟩ := HW.out
        obtain ⟨t0, ht0⟩ : ∃ t0, L[j]? = some t0 := ⟨_, List.getElem?_eq_getElem (by rw [HML.out]; exact hjm)⟩
        have hdr : L.drop j = t0 :: L.drop (j + 1) := by
          obtain ⟨h1, h2⟩ := List.getElem?_eq_some_iff.1 ht0
          rw [List.drop_eq_getElem_cons h1, h2]
        rw [hdr] at hSM
        obtain ⟨C, D', cs0, zs, rfl, hn0, hSC⟩ := hSM.split
        obtain ⟨k0, i0, n0, s0, A1, m1, c1, A2, m2, c2, rfl⟩ := (NdS.ndo _ _ hn0).shape6
        have hl1 : L1.length = j := by rw [hSL, nfL_len, List.length_take, HML.out, Nat.min_eq_left hj]
        have hyl : ys.length = j * 6 := by rw [hSC.done.len, hl1]
        obtain ⟨_, _, e1, _, _, hcell⟩ := hSC.row.cells
        cases e1
        obtain ⟨g, rfl, hg, hUg, hcell⟩ := hcell (by omega)
        have hcl : ∀ i, i < 6 → wr.cell? ⟨g, j * 6 + i, none⟩ = ([.int .i64 k0, .int .i64 i0, .int .u64 n0, .string s0, .slice A1 m1 c1, .slice A2 m2 c2] : List Value)[i]? := by
          intro i hi
          rw [hcell _ (by omega), List.getElem?_append_right (by omega), hyl, Nat.add_sub_cancel_left, List.getElem?_append_left (by simpa using hi)]
        have p0 := hcl 0 (by omega)
        have p1 := hcl 1 (by omega)
        have p2 := hcl 2 (by omega)
        have p3 := hcl 3 (by omega)
        have p4 := hcl 4 (by omega)
        have p5 := hcl 5 (by omega)
        simp only [Nat.add_zero, List.getElem?_cons_zero, List.getElem?_cons_succ] at p0 p1 p2 p3 p4 p5
        clear hcl hcell
        have hle := sz_le_of ht0
        have hdl := dp_le_of ht0
        obtain ⟨cb, hcb⟩ : ∃ cb, wr.heap.size = cb := ⟨_, rfl⟩
        have hsz0 : w.heap.size + 2 ≤ cb := by rw [← hcb]; exact hSC.hs
        have hNc : N ≤ cb := by rw [← hcb]; exact hSC.hN
        have hgw : g < w.heap.size := hU g hUg.1
        have HSC : Hid (SC U V C D' w N kk nn uu s (.slice B ks.length d) (.slice (some ⟨g, 0, none⟩) m e) ks m L1 (L.drop (j + 1)) ys [.int .i64 k0, .int .i64 i0, .int .u64 n0, .string s0, .slice A1 m1 c1, .slice A2 m2 c2] zs wr) := Lib.hid hSC
        have HSL := Lib.hid hSL
        have HN0 := Lib.hid hn0
        have HUU := Lib.hid hU
        have HUG := Lib.hid hUg
        clear hSC hSL hn0 hSM HW hU hUg
        go_wp2_with fail
        obtain ⟨wc, hwc⟩ : ∃ wc, wr.alloc (.cells #[.int .i64 k0, .int .i64 i0, .int .u64 n0, .string s0, .slice A1 m1 c1, .slice A2 m2 c2] 27) = wc := ⟨_, rfl⟩
        have hbc : Below wr.heap.size wr wc := by rw [← hwc]; exact (Below.refl _ _).alloc (Nat.le_refl _) _
        have hnew : Bx wc cb (.int .i64 k0) (.int .i64 i0) (.int .u64 n0) (.string s0) (.slice A1 m1 c1) (.slice A2 m2 c2) := by
          have := Blk.new wr 27 #[.int .i64 k0, .int .i64 i0, .int .u64 n0, .string s0, .slice A1 m1 c1, .slice A2 m2 c2]
          rw [hcb, hwc] at this
          exact this
        have HDc : Hid (DE w kk nn uu s (.slice B ks.length d) (.slice (some ⟨g, 0, none⟩) m e) cb (.int .i64 k0) (.int .i64 i0) (.int .u64 n0) (.string s0) (.slice A1 m1 c1) (.slice A2 m2 c2) wc) := Lib.hid ⟨(HSC.out.go HUU.out (Fx.of_below hbc)).b0, hnew, by omega⟩
        have HE0 : Hid (SC U V C D' w N kk nn uu s (.slice B ks.length d) (.slice (some ⟨g, 0, none⟩) m e) ks m L1 (L.drop (j + 1)) ys [.int .i64 k0, .int .i64 i0, .int .u64 n0, .string s0, .slice A1 m1 c1, .slice A2 m2 c2] zs wc.drew ∧ DE w kk nn uu s (.slice B ks.length d) (.slice (some ⟨g, 0, none⟩) m e) cb (.int .i64 k0) (.int .i64 i0) (.int .u64 n0) (.string s0) (.slice A1 m1 c1) (.slice A2 m2 c2) wc.drew ∧ NdS C wc.drew t0 [.int .i64 k0, .int .i64 i0, .int .u64 n0, .string s0, .slice A1 m1 c1, .slice A2 m2 c2] ∧ wc.drew.heap.size = cb + 1) := by
          have hbd : Below wr.heap.size wr wc.drew := hbc.trans ((Below.refl _ wc).drew.mono hbc.size)
          refine Lib.hid ⟨HSC.out.go HUU.out (Fx.of_below hbd), ⟨HDc.out.1, HDc.out.2.1, HDc.out.2.2⟩, NdS.step (fun b _ hl => hbd.block b hl) _ _ HN0.out, ?_⟩
          show wc.heap.size = cb + 1
          rw [← hwc, ← hcb]; simp
        rw [hwc]
        have hall : ∀ W, Hid (DE w kk nn uu s (.slice B ks.length d) (.slice (some ⟨g, 0, none⟩) m e) cb (.int .i64 k0) (.int .i64 i0) (.int .u64 n0) (.string s0) (.slice A1 m1 c1) (.slice A2 m2 c2) W) → Hid (DE w kk nn uu s (.slice B ks.length d) (.slice (some ⟨g, 0, none⟩) m e) cb (.int .i64 k0) (.int .i64 i0) (.int .u64 n0) (.string s0) (.slice A1 m1 c1) (.slice A2 m2 c2) W) ∧ W.cell? ⟨w.heap.size, 5, none⟩ = some (.slice (some ⟨g, 0, none⟩) m e) ∧ W.cell? ⟨cb, 0, none⟩ = some (.int .i64 k0) ∧ W.cell? ⟨cb, 1, none⟩ = some (.int .i64 i0) ∧ W.cell? ⟨cb, 2, none⟩ = some (.int .u64 n0) ∧ W.cell? ⟨cb, 3, none⟩ = some (.string s0) ∧ W.cell? ⟨cb, 4, none⟩ = some (.slice A1 m1 c1) ∧ W.cell? ⟨cb, 5, none⟩ = some (.slice A2 m2 c2) := by
          intro W H
          exact ⟨H, (H.out.1.all).2.2.2.2.2, H.out.2.1.all⟩
        have hset6 : ∀ (W : World) (a0 a1 a2 a3 a4 a5 : Value), Hid (DE w kk nn uu s (.slice B ks.length d) (.slice (some ⟨g, 0, none⟩) m e) cb (.int .i64 k0) (.int .i64 i0) (.int .u64 n0) (.string s0) (.slice A1 m1 c1) (.slice A2 m2 c2) W) → Hid (DE w kk nn uu s (.slice B ks.length d) (.slice (some ⟨g, 0, none⟩) m e) cb (.int .i64 k0) (.int .i64 i0) (.int .u64 n0) (.string s0) (.slice A1 m1 c1) (.slice A2 m2 c2) ((((((W.setCell ⟨g, j * 6, none⟩ a0).setCell ⟨g, j * 6 + 1, none⟩ a1).setCell ⟨g, j * 6 + 2, none⟩ a2).setCell ⟨g, j * 6 + 3, none⟩ a3).setCell ⟨g, j * 6 + 4, none⟩ a4).setCell ⟨g, j * 6 + 5, none⟩ a5)) := fun W a0 a1 a2 a3 a4 a5 H => Lib.hid (H.out.set6 (j * 6) hgw a0 a1 a2 a3 a4 a5)
        have HCP : Hid (∀ W, Hid (SC U V C D' w N kk nn uu s (.slice B ks.length d) (.slice (some ⟨g, 0, none⟩) m e) ks m L1 (L.drop (j + 1)) ys [.int .i64 k0, .int .i64 i0, .int .u64 n0, .string s0, .slice A1 m1 c1, .slice A2 m2 c2] zs W ∧ DE w kk nn uu s (.slice B ks.length d) (.slice (some ⟨g, 0, none⟩) m e) cb (.int .i64 k0) (.int .i64 i0) (.int .u64 n0) (.string s0) (.slice A1 m1 c1) (.slice A2 m2 c2) W ∧ NdS C W t0 [.int .i64 k0, .int .i64 i0, .int .u64 n0, .string s0, .slice A1 m1 c1, .slice A2 m2 c2] ∧ W.heap.size = cb + 1) → Calls Tryd.prog 23 #[.map (some mb), .agg #[.int .i64 k0, .int .i64 i0, .int .u64 n0, .string s0, .slice A1 m1 c1, .slice A2 m2 c2]] W fun e' w' =>
            ∃ (k' n' u' : Int) (s' : ByteArray) (A1' : Option Addr) (m1' c1' : Nat) (A2' : Option Addr) (m2' c2' : Nat), e' = .returned (.agg #[.int .i64 k', .int .i64 n', .int .u64 u', .string s', .slice A1' m1' c1', .slice A2' m2' c2']) ∧
              Hid (∃ K t0', t0' = nfT t0 ∧ NdS K w' t0' [.int .i64 k', .int .i64 n', .int .u64 u', .string s', .slice A1' m1' c1', .slice A2' m2' c2'] ∧ ∀ b, K b → C b ∨ (cb + 1 ≤ b ∧ b < w'.heap.size)) ∧ Hid (SC U V C D' w N kk nn uu s (.slice B ks.length d) (.slice (some ⟨g, 0, none⟩) m e) ks m L1 (L.drop (j + 1)) ys [.int .i64 k0, .int .i64 i0, .int .u64 n0, .string s0, .slice A1 m1 c1, .slice A2 m2 c2] zs w') ∧ Hid (DE w kk nn uu s (.slice B ks.length d) (.slice (some ⟨g, 0, none⟩) m e) cb (.int .i64 k0) (.int .i64 i0) (.int .u64 n0) (.string s0) (.slice A1 m1 c1) (.slice A2 m2 c2) w')) := Lib.hid fun W H => by
          obtain ⟨h1, h2, h3, h4⟩ := H.out
          refine (ih t0 _ W C (by omega) (by omega) h3 (fun b hb => ?_) (fun hc => HMU.out (h1.hC _ hc).1) (HMAP.out W h1.fx)).mono ?_
          · have := HUU.out b (h1.hC b hb).1
            omega
          · rintro e' w' ⟨cs', rfl, hnd, hfx⟩
            obtain ⟨k', n', u', s', A1', m1', c1', A2', m2', c2', rfl⟩ := (NdS.ndo _ _ hnd).shape6
            refine ⟨k', n', u', s', A1', m1', c1', A2', m2', c2', rfl, Lib.hid ⟨_, _, rfl, hnd, fun b hb => ?_⟩, Lib.hid (h1.go HUU.out hfx), Lib.hid ⟨?_, ?_, h2.2.2⟩⟩
            · rcases hb with hb | hb
              · exact .inl hb
              · exact .inr ⟨by omega, hb.2⟩
            · exact (hfx.block _ h2.1.lt fun hc => by have := HUU.out _ (h1.hC _ hc).1; omega).trans h2.1
            · exact (hfx.block _ h2.2.1.lt fun hc => by have := HUU.out _ (h1.hC _ hc).1; omega).trans h2.2.1
        have HFZ : Hid (∀ W, Hid (SC U V C D' w N kk nn uu s (.slice B ks.length d) (.slice (some ⟨g, 0, none⟩) m e) ks m L1 (L.drop (j + 1)) ys [.int .i64 k0, .int .i64 i0, .int .u64 n0, .string s0, .slice A1 m1 c1, .slice A2 m2 c2] zs W) → (W.frozen? ⟨g, j * 6, none⟩ = false ∧ W.frozen? ⟨g, j * 6 + 1, none⟩ = false ∧ W.frozen? ⟨g, j * 6 + 2, none⟩ = false ∧ W.frozen? ⟨g, j * 6 + 3, none⟩ = false ∧ W.frozen? ⟨g, j * 6 + 4, none⟩ = false ∧ W.frozen? ⟨g, j * 6 + 5, none⟩ = false) ∧ W.cell? ⟨g, j * 6, none⟩ = some (.int .i64 k0) ∧ W.cell? ⟨g, j * 6 + 1, none⟩ = some (.int .i64 i0) ∧ W.cell? ⟨g, j * 6 + 2, none⟩ = some (.int .u64 n0) ∧ W.cell? ⟨g, j * 6 + 3, none⟩ = some (.string s0) ∧ W.cell? ⟨g, j * 6 + 4, none⟩ = some (.slice A1 m1 c1) ∧ W.cell? ⟨g, j * 6 + 5, none⟩ = some (.slice A2 m2 c2)) := Lib.hid fun W H => by
          have hO := H.out.row
          have hcl : ∀ i, i < 6 → W.cell? ⟨g, j * 6 + i, none⟩ = ([.int .i64 k0, .int .i64 i0, .int .u64 n0, .string s0, .slice A1 m1 c1, .slice A2 m2 c2] : List Value)[i]? := by
            intro i hi
            rw [hO.1.cellAt _ (by omega), List.getElem?_append_right (by omega), hyl, Nat.add_sub_cancel_left, List.getElem?_append_left (by simpa using hi)]
          exact ⟨⟨hO.1.frozenAt _, hO.1.frozenAt _, hO.1.frozenAt _, hO.1.frozenAt _, hO.1.frozenAt _, hO.1.frozenAt _⟩, hcl 0 (by omega), hcl 1 (by omega), hcl 2 (by omega), hcl 3 (by omega), hcl 4 (by omega), hcl 5 (by omega)⟩
        have HPUT : Hid (∀ (W : World) (a0 a1 a2 a3 a4 a5 : Value), Hid (SC U V C D' w N kk nn uu s (.slice B ks.length d) (.slice (some ⟨g, 0, none⟩) m e) ks m L1 (L.drop (j + 1)) ys [.int .i64 k0, .int .i64 i0, .int .u64 n0, .string s0, .slice A1 m1 c1, .slice A2 m2 c2] zs W) → Hid (∃ K t0', t0' = nfT t0 ∧ NdS K W t0' [a0, a1, a2, a3, a4, a5] ∧ ∀ b, K b → C b ∨ (cb + 1 ≤ b ∧ b < W.heap.size)) →
            Hid (∃ V D N L1 ys zs, L1 = nfL (L.take (j + 1)) ∧ SM U V D w N kk nn uu s (.slice B ks.length d) (.slice (some ⟨g, 0, none⟩) m e) ks m L1 (L.drop (j + 1)) ys zs ((((((W.setCell ⟨g, j * 6, none⟩ a0).setCell ⟨g, j * 6 + 1, none⟩ a1).setCell ⟨g, j * 6 + 2, none⟩ a2).setCell ⟨g, j * 6 + 3, none⟩ a3).setCell ⟨g, j * 6 + 4, none⟩ a4).setCell ⟨g, j * 6 + 5, none⟩ a5))) := Lib.hid fun W a0 a1 a2 a3 a4 a5 H1 H2 => by
          obtain ⟨K, t0', q1, q2, q3⟩ := H2.out
          refine Lib.hid ⟨_, _, _, L1 ++ [t0'], _, zs, ?_, H1.out.put HUU.out hyl q2 q3 hNc hsz0⟩
          rw [HSL.out, q1, nfL_map, nfL_map, List.take_add_one, ht0]
          simp
        have HDd := Lib.hid HE0.out.2.1
        obtain ⟨_, d5, e0, e1, e2, e3, e4, e5⟩ := hall wc HDc
        have hjb : (0 : Int) ≤ (j : Int) := by omega
        have hjb2 : (j : Int) < (m : Int) := by omega
        clear hbc hwc hyl HN0 HDc ht0 hle hdl hks ih hr hs p0 p1 p2 p3 p4 p5 hg hl1 hdr hnew HSC HSL
        go_region_held3 (fun W => Hid (DE w kk nn uu s (.slice B ks.length d) (.slice (some ⟨g, 0, none⟩) m e) cb (.int .i64 k0) (.int .i64 i0) (.int .u64 n0) (.string s0) (.slice A1 m1 c1) (.slice A2 m2 c2) W) ∧ W.cell? ⟨w.heap.size, 5, none⟩ = some (.slice (some ⟨g, 0, none⟩) m e) ∧ W.cell? ⟨cb, 0, none⟩ = some (.int .i64 k0) ∧ W.cell? ⟨cb, 1, none⟩ = some (.int .i64 i0) ∧ W.cell? ⟨cb, 2, none⟩ = some (.int .u64 n0) ∧ W.cell? ⟨cb, 3, none⟩ = some (.string s0) ∧ W.cell? ⟨cb, 4, none⟩ = some (.slice A1 m1 c1) ∧ W.cell? ⟨cb, 5, none⟩ = some (.slice A2 m2 c2)) (first | (with_reducible exact hall _ (by assumption)) | (with_reducible exact hall _ HDd) | (with_reducible exact hall _ (hset6 _ _ _ _ _ _ _ (by assumption))))
          (first | (go_at_call 23; (with_reducible refine (HCP.out _ (by assumption)).mono ?_); rintro e' w6 ⟨k', n', u', s', A1', m1', c1', A2', m2', c2', rfl, HN6, HC6, HD6⟩; obtain ⟨⟨z0, z1, z2, z3, z4, z5⟩, y0, y1, y2, y3, y4, y5⟩ := HFZ.out _ HC6))
        go_wp2_with fail
        go_roundw
        case rel => exact ⟨j + 1, by omega, by simp, HPUT.out _ _ _ _ _ _ _ HC6 HN6⟩
        case measure => simp [intOf]; omega
      · obtain ⟨V, D, N, L1, ys, zs, hSL, hSM⟩ := HW.out
        obtain rfl : j = m := by omega
        rw [List.drop_of_length_le (by rw [HML.out]; exact Nat.le_refl _)] at hSM
        rw [List.take_of_length_le (by rw [HML.out]; exact Nat.le_refl _)] at hSL
        obtain rfl : zs = [] := hSM.rest
        have hl1 : L1.length = j := by rw [hSL, nfL_len, HML.out]
        have hVB : ∀ b, V b → b ≠ w.heap.size ∧ b ≠ w.heap.size + 1 ∧ b < wr.heap.size ∧ (U b ∨ (w.heap.size ≤ b ∧ b < wr.heap.size)) := by
          intro b hb
          have h1 := hSM.hN
          have h2 := hSM.hs
          rcases hSM.hV b hb with h | h
          · have := hU b h
            exact ⟨by omega, by omega, by omega, .inl h⟩
          · exact ⟨by omega, by omega, by omega, .inr ⟨by omega, by omega⟩⟩
        have HM := Lib.hid hSM
        have HVB := Lib.hid hVB
        have HL1 := Lib.hid hl1
        have HSL := Lib.hid hSL
        have HUU := Lib.hid hU
        clear hSM hVB hl1 hSL hU HW
        obtain ⟨c0, c1, c2, c3, c4, c5⟩ := HM.out.b0.all
        have hwf : (Lit.int .i64 kk).wf = true := by
          have := hr
          simp [Lit.wf, IntKind.min, IntKind.max, IntKind.signed, IntKind.bits]
          exact ⟨this.1, this.2.1⟩
        have HMW := Lib.hid (HMAP.out wr HM.out.fx)
        rcases nf_cases kk with h49 | h8 | h5 | hv | ⟨g1, g2, g3, g4⟩
        · have HLK := Lib.hid (lk_uint h49)
          by_cases hu : uu ≤ 9223372036854775807
          · have HC := Lib.hid (ruleU_lo kk nn uu s B ks.length d G j e wr hr.2.2.2.2.1 hu)
            go_wp2_with (first
              | (at_lookup; refine look_yes rfl _ _ rfl rfl rfl HMW.out HDC.out hwf HLK.out ?_)
              | (go_at_call 35; refine HC.out.mono ?_; clear c0 c1 c2 c3 c4 c5; rintro e' w7 ⟨rfl, hb7⟩; have HB7 := Lib.hid hb7; clear hb7; obtain ⟨⟨o0, o1, o2, o3, o4, o5⟩, f0, f1, f2, f3, f4, f5⟩ := Bx.both (show Bx w7 (w.heap.size + 1) _ _ _ _ _ _ from (HB7.out.block _ HM.out.b1.lt).trans HM.out.b1)))
            obtain ⟨q1, q2, q3, q4, q5⟩ := sm_fin HM.out HUU.out HB7.out (.int .i64 3) (.int .i64 uu) (.int .u64 0) (.string ⟨#[]⟩) (.slice none 0 0) (.slice none 0 0)
            refine ret_six (p := 4) (g := w.heap.size + 1) rfl rfl q1 rfl ⟨_, rfl, (by rw [nf_uint h49, if_pos hu]; exact nds_leaf ⟨by omega, by omega, by have := hr.2.2.2.2.1; omega, hu, by omega, by omega⟩ (by decide)), q2⟩
          · have HC := Lib.hid (ruleU_hi kk nn uu s B ks.length d G j e wr hu)
            go_wp2_with (first
              | (at_lookup; refine look_yes rfl _ _ rfl rfl rfl HMW.out HDC.out hwf HLK.out ?_)
              | (go_at_call 35; refine HC.out.mono ?_; clear c0 c1 c2 c3 c4 c5; rintro e' w7 ⟨rfl, hb7⟩; have HB7 := Lib.hid hb7; clear hb7; obtain ⟨⟨o0, o1, o2, o3, o4, o5⟩, f0, f1, f2, f3, f4, f5⟩ := Bx.both (show Bx w7 (w.heap.size + 1) _ _ _ _ _ _ from (HB7.out.block _ HM.out.b1.lt).trans HM.out.b1)))
            obtain ⟨q1, q2, q3, q4, q5⟩ := sm_fin HM.out HUU.out HB7.out (.int .i64 4) (.int .i64 0) (.int .u64 uu) (.string ⟨#[]⟩) (.slice none 0 0) (.slice none 0 0)
            refine ret_six (p := 4) (g := w.heap.size + 1) rfl rfl q1 rfl ⟨_, rfl, (by rw [nf_uint h49, if_neg (show ¬ uu ≤ 9223372036854775807 by omega)]; exact nds_leaf ⟨by omega, by omega, by omega, by omega, hr.2.2.2.2.1, hr.2.2.2.2.2⟩ (by decide)), q2⟩
        · subst h8
          have HLK := Lib.hid lk_int
          have HC := Lib.hid (ruleI_any 8 nn uu s B ks.length d G j e wr)
          go_wp2_with (first
            | (at_lookup; refine look_yes rfl _ _ rfl rfl rfl HMW.out HDC.out hwf HLK.out ?_)
            | (go_at_call 33; refine HC.out.mono ?_; clear c0 c1 c2 c3 c4 c5; rintro e' w7 ⟨rfl, hb7⟩; have HB7 := Lib.hid hb7; clear hb7; obtain ⟨⟨o0, o1, o2, o3, o4, o5⟩, f0, f1, f2, f3, f4, f5⟩ := Bx.both (show Bx w7 (w.heap.size + 1) _ _ _ _ _ _ from (HB7.out.block _ HM.out.b1.lt).trans HM.out.b1)))
          obtain ⟨q1, q2, q3, q4, q5⟩ := sm_fin HM.out HUU.out HB7.out (.int .i64 3) (.int .i64 nn) (.int .u64 0) (.string ⟨#[]⟩) (.slice none 0 0) (.slice none 0 0)
          refine ret_six (p := 4) (g := w.heap.size + 1) rfl rfl q1 rfl ⟨_, rfl, (by rw [nf_int]; exact nds_leaf ⟨by omega, by omega, hr.2.2.1, hr.2.2.2.1, by omega, by omega⟩ (by decide)), q2⟩
        · subst h5
          have HLK := Lib.hid lk_key
          have HC := Lib.hid (ruleT_any 5 nn uu s B ks.length d G j e wr)
          go_wp2_with (first
            | (at_lookup; refine look_yes rfl _ _ rfl rfl rfl HMW.out HDC.out hwf HLK.out ?_)
            | (go_at_call 36; refine HC.out.mono ?_; clear c0 c1 c2 c3 c4 c5; rintro e' w7 ⟨rfl, hb7⟩; have HB7 := Lib.hid hb7; clear hb7; obtain ⟨⟨o0, o1, o2, o3, o4, o5⟩, f0, f1, f2, f3, f4, f5⟩ := Bx.both (show Bx w7 (w.heap.size + 1) _ _ _ _ _ _ from (HB7.out.block _ HM.out.b1.lt).trans HM.out.b1)))
          obtain ⟨q1, q2, q3, q4, q5⟩ := sm_fin HM.out HUU.out HB7.out (.int .i64 6) (.int .i64 0) (.int .u64 0) (.string s) (.slice none 0 0) (.slice none 0 0)
          refine ret_six (p := 4) (g := w.heap.size + 1) rfl rfl q1 rfl ⟨_, rfl, (by rw [nf_key]; exact nds_leaf ⟨by omega, by omega, by omega, by omega, by omega, by omega⟩ hs), q2⟩
        · have HLK := Lib.hid (lk_vec hv)
          have HC := Lib.hid (ruleV_any kk nn uu s B ks.length d G j e wr)
          go_wp2_with (first
            | (at_lookup; refine look_yes rfl _ _ rfl rfl rfl HMW.out HDC.out hwf HLK.out ?_)
            | (go_at_call 37; refine HC.out.mono ?_; clear c0 c1 c2 c3 c4 c5; rintro e' w7 ⟨rfl, hb7⟩; have HB7 := Lib.hid hb7; clear hb7; obtain ⟨⟨o0, o1, o2, o3, o4, o5⟩, f0, f1, f2, f3, f4, f5⟩ := Bx.both (show Bx w7 (w.heap.size + 1) _ _ _ _ _ _ from (HB7.out.block _ HM.out.b1.lt).trans HM.out.b1)))
          obtain ⟨q1, q2, q3, q4, q5⟩ := sm_fin HM.out HUU.out HB7.out (.int .i64 10) (.int .i64 0) (.int .u64 0) (.string ⟨#[]⟩) (.slice none 0 0) (.slice G j e)
          refine ret_six (p := 4) (g := w.heap.size + 1) rfl rfl q1 rfl ⟨_, rfl, ?_, q2⟩
          rw [nf_vec hv]
          refine ⟨⟨by omega, by omega, by omega, by omega, by omega, by omega⟩, by decide, by simp, .slice none 0 0, .slice G j e, ys, V, rfl, ⟨World.ownsRow_nil _ _ _ _, by simp [Value.ownBlock]⟩, ?_, ?_, ?_⟩
          · have := HM.out.row
            rw [List.append_nil] at this
            rw [nfL_len, HML.out]
            exact this.step fun b hb hl => ⟨q4 b (.inl hb.1) hl, .inl hb.1, hb.2.1⟩
          · have := HM.out.done
            rw [HSL.out] at this
            exact NdSL.step (fun b hb hl => q4 b (.inr hb) hl) _ _ this
          · intro b hb
            rcases q5 b hb with h | h
            · exact .inl h
            · exact .inr ⟨h.1, Nat.lt_of_lt_of_le h.2 q3⟩
        · have HLK := Lib.hid (lk_else g1 g2 g3 g4)
          obtain ⟨⟨o0, o1, o2, o3, o4, o5⟩, f0, f1, f2, f3, f4, f5⟩ := Bx.both HM.out.b1
          go_wp2_with (first | (at_lookup; refine look_no rfl _ _ rfl rfl rfl HMW.out HDC.out hwf HLK.out ?_))
          obtain ⟨q1, q2, q3, q4, q5⟩ := sm_fin HM.out HUU.out (Below.refl _ wr) (.int .i64 kk) (.int .i64 nn) (.int .u64 uu) (.string s) (.slice B ks.length d) (.slice G j e)
          refine ret_six (p := 4) (g := w.heap.size + 1) rfl rfl q1 rfl ⟨_, rfl, ?_, q2⟩
          rw [nf_else g1 g2 g3 g4]
          refine ⟨hr, hs, hks, _, _, ys, V, rfl, ?_, ?_, ?_, ?_⟩
          · exact HM.out.keys.step fun b hb hl => ⟨q4 b (.inl hb.1) hl, .inl hb.1, hb.2.1, hb.2.2.2⟩
          · have := HM.out.row
            rw [List.append_nil] at this
            rw [nfL_len, HML.out]
            exact this.step fun b hb hl => ⟨q4 b (.inl hb.1) hl, .inl hb.1, hb.2.1⟩
          · have := HM.out.done
            rw [HSL.out] at this
            exact NdSL.step (fun b hb hl => q4 b (.inr hb) hl) _ _ this
          · intro b hb
            rcases q5 b hb with h | h
            · exact .inl h
            · exact .inr ⟨h.1, Nat.lt_of_lt_of_le h.2 q3⟩
end Go.Proofs.YtemkfpofmblblaaDoor
