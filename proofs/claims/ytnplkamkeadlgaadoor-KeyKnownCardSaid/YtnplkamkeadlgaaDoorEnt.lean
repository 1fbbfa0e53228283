/-
  What is proved here: contract of key.sortedEntries; conditions: the two lists lie in rows of the call's own, at most 1000 keys, none twice.
-/
import Derived.Test.YtnplkamkeadlgaaDoorKSrtC
import Derived.Test.YtnplkamkeadlgaaDoorKLessQ
import Derived.Test.YtnplkamkeadlgaaDoorCopyS
namespace Go.Proofs.YtnplkamkeadlgaaDoor
open Go.RowKit Go.Sort

theorem infoS1 : (Tryd.prog.info? 9).map (fun i => (i.zero, i.size, i.bytes)) = some (some (.string ⟨#[]⟩), 1, 16) := by kernel_rfl
theorem infoN1 : (Tryd.prog.info? 31).map (fun i => (i.zero, i.size, i.bytes)) = some (some (.agg #[.int .i64 0, .int .i64 0, .int .u64 0, .string ⟨#[]⟩, .slice none 0 0, .slice none 0 0]), 6, 88) := by kernel_rfl
theorem mk_strs (w : World) (n : Nat) (hn : n ≤ 5000) : ∃ w', (Instr.makeSlice 22 (.int .i64 (n : Int)) (.int .i64 (n : Int))).run Tryd.prog w = .ok (.slice (some ⟨w.heap.size, 0, none⟩) n n) w' ∧
    Hid (∃ zs, zs.length = n ∧ Ow (fun b => b = w.heap.size) w' 9 1 (.slice (some ⟨w.heap.size, 0, none⟩) n n) n zs ∧ RowKit.Below w.heap.size w w' ∧ w.heap.size < w'.heap.size) := by
  obtain ⟨i0, hi, hz0, hz1, hz2⟩ := info_partsK infoS1
  obtain ⟨w', h1, h2, h3⟩ := run_make_full w 0 22 9 i0 _ 1 Tryd.underlying22 hi hz0 hz1 .i64 .i64 n (by rw [hz2]; omega) (by unfold maxLen; omega) (Nat.zero_le _)
  refine ⟨w', h1, _, ?_, ⟨h2, fun g hg => ?_⟩, ⟨h3.os, h3.tape, h3.output, h3.size, fun k hk => h3.block k hk (by simp)⟩, ?_⟩
  · rw [Array.length_toList]; exact (size_madeCells _ _).trans (Nat.mul_one n)
  · simpa [Value.ownBlock] using hg.symm
  · exact (h2.lt _ rfl).2
theorem mk_nodes1 (w : World) (n : Nat) (hn : n ≤ 5000) : ∃ w', (Instr.makeSlice 29 (.int .i64 (n : Int)) (.int .i64 (n : Int))).run Tryd.prog w = .ok (.slice (some ⟨w.heap.size, 0, none⟩) n n) w' ∧
    Hid (∃ zs, zs.length = n * 6 ∧ Ow (fun b => b = w.heap.size) w' 31 6 (.slice (some ⟨w.heap.size, 0, none⟩) n n) n zs ∧ RowKit.Below w.heap.size w w' ∧ w.heap.size < w'.heap.size) := by
  obtain ⟨i0, hi, hz0, hz1, hz2⟩ := info_partsK infoN1
  obtain ⟨w', h1, h2, h3⟩ := run_make_full w 0 29 31 i0 _ 6 Tryd.underlying29 hi hz0 hz1 .i64 .i64 n (by rw [hz2]; omega) (by unfold maxLen; omega) (Nat.zero_le _)
  refine ⟨w', h1, _, ?_, ⟨h2, fun g hg => ?_⟩, ⟨h3.os, h3.tape, h3.output, h3.size, fun k hk => h3.block k hk (by simp)⟩, ?_⟩
  · rw [Array.length_toList]; exact size_madeCells _ _
  · simpa [Value.ownBlock] using hg.symm
  · exact (h2.lt _ rfl).2

/-- The cells of the node at i. -/
def chunk (ys : List Value) (i : Nat) : List Value := (ys.drop (i * 6)).take 6
theorem six_of {l : List Value} (h : l.length = 6) : ∃ a b c d e f, l = [a, b, c, d, e, f] := by
  match l, h with
  | [a, b, c, d, e, f], _ => exact ⟨a, b, c, d, e, f, rfl⟩
theorem chunk_six {ys : List Value} {i n : Nat} (h : ys.length = n * 6) (hi : i < n) : ∃ a b c d e f, chunk ys i = [a, b, c, d, e, f] := six_of (by unfold chunk; rw [List.length_take, List.length_drop]; omega)
theorem chunk_at {ys : List Value} {i j : Nat} (hj : j < 6) : ys[i * 6 + j]? = (chunk ys i)[j]? := by
  unfold chunk
  rw [List.getElem?_take_of_lt hj, List.getElem?_drop]
theorem flat_len {ys : List Value} {n : Nat} (h : ys.length = n * 6) : ∀ (q : List Nat), (∀ i ∈ q, i < n) → (q.flatMap (chunk ys)).length = q.length * 6
  | [], _ => rfl
  | i :: q, hq => by
    obtain ⟨a, b, c, d, e, f, hc⟩ := chunk_six h (hq i (by simp))
    rw [List.flatMap_cons, List.length_append, flat_len h q fun j hj => hq j (by simp [hj]), hc]
    simp
    omega
def kyv (ks : List ByteArray) (i : Nat) : Value := .string (ky ks i)
/-- Between two rounds: j keys and nodes are in their places. -/
structure EI (ks : List ByteArray) (ys : List Value) (w : World) (n g1 g2 g3 : Nat) (q : List Nat) (j : Nat) (zs1 zs2 : List Value) (W : World) : Prop where
  hb : RowKit.Below w.heap.size w W
  r1 : Ow (fun b => b = g1) W 9 1 (.slice (some ⟨g1, 0, none⟩) n n) n ((q.take j).map (kyv ks) ++ zs1)
  r2 : Ow (fun b => b = g2) W 31 6 (.slice (some ⟨g2, 0, none⟩) n n) n ((q.take j).flatMap (chunk ys) ++ zs2)
  r3 : Ow (fun b => b = g3) W 3 1 (.slice (some ⟨g3, 0, none⟩) n n) n (q.map nx)
theorem Ow.put1 {w : World} {e : TypeId} {g n c o : Nat} {ys zs : List Value} {b0 : Value} (h : Ow (fun b => b = g) w e 1 (.slice (some ⟨g, 0, none⟩) n c) n (ys ++ b0 :: zs)) (ho : ys.length = o) (a0 : Value) :
    Ow (fun b => b = g) (w.setCell ⟨g, o, none⟩ a0) e 1 (.slice (some ⟨g, 0, none⟩) n c) n (ys ++ [a0] ++ zs) := by
  refine ⟨?_, h.2⟩
  have h1 := (h.1.stored o a0).1
  subst ho
  rw [List.set_append_right _ _ (Nat.le_refl _), Nat.sub_self, List.set_cons_zero] at h1
  simpa using h1
theorem EI.put {ks : List ByteArray} {ys : List Value} {w W : World} {n g1 g2 g3 i j : Nat} {q : List Nat} {z z0 z1 z2 z3 z4 z5 a0 a1 a2 a3 a4 a5 : Value} {zs1 zs2 : List Value}
    (h : EI ks ys w n g1 g2 g3 q j (z :: zs1) ([z0, z1, z2, z3, z4, z5] ++ zs2) W) (hq : q[j]? = some i) (hql : ∀ i ∈ q, i < n) (hyl : ys.length = n * 6) (hc : chunk ys i = [a0, a1, a2, a3, a4, a5])
    (h1 : w.heap.size ≤ g1) (h2 : w.heap.size ≤ g2) (h12 : g1 ≠ g2) (h13 : g1 ≠ g3) (h23 : g2 ≠ g3) :
    EI ks ys w n g1 g2 g3 q (j + 1) zs1 zs2 (put6 (W.setCell ⟨g1, j, none⟩ (kyv ks i)) g2 (j * 6) a0 a1 a2 a3 a4 a5) := by
  obtain ⟨hb, r1, r2, r3⟩ := h
  have hj : j < q.length := (List.getElem?_eq_some_iff.1 hq).1
  have l1 : ((q.take j).map (kyv ks)).length = j := by rw [List.length_map, List.length_take]; omega
  have l2 : ((q.take j).flatMap (chunk ys)).length = j * 6 := by
    rw [flat_len hyl _ fun i hi => hql i (List.mem_of_mem_take hi), List.length_take]
    rw [Nat.min_eq_left (by omega)]
  have e1 : q.take (j + 1) = q.take j ++ [i] := by rw [List.take_add_one, hq]; rfl
  have hne1 : ∀ b, b ≠ g1 → (W.setCell ⟨g1, j, none⟩ (kyv ks i)).heap[b]? = W.heap[b]? := fun b hb => heap_set_other _ _ _ _ _ hb
  have hbS : RowKit.Below w.heap.size w (W.setCell ⟨g1, j, none⟩ (kyv ks i)) := hb.setCell (p := ⟨g1, j, none⟩) h1 _
  refine ⟨put6_below hbS _ _ _ _ _ _ _ _ h2, ?_, ?_, ?_⟩
  · have := r1.put1 l1 (kyv ks i)
    rw [e1, List.map_append]
    exact this.step fun b hb _ => ⟨put6_other _ _ _ _ _ _ _ _ _ _ (by omega), hb⟩
  · rw [e1, List.flatMap_append, List.flatMap_cons, List.flatMap_nil, List.append_nil, hc]
    exact put6_ow (r2.step fun b hb _ => ⟨hne1 b (by omega), hb⟩) l2 _ _ _ _ _ _
  · exact r3.step fun b hb _ => ⟨(put6_other _ _ _ _ _ _ _ _ _ _ (by omega)).trans (hne1 b (by omega)), hb⟩
theorem EI.drew {ks : List ByteArray} {ys : List Value} {w W : World} {n g1 g2 g3 j : Nat} {q : List Nat} {zs1 zs2 : List Value} (h : EI ks ys w n g1 g2 g3 q j zs1 zs2 W) : EI ks ys w n g1 g2 g3 q j zs1 zs2 W.drew :=
  ⟨h.hb.drew, h.r1.step fun _ hb _ => ⟨rfl, hb⟩, h.r2.step fun _ hb _ => ⟨rfl, hb⟩, h.r3.step fun _ hb _ => ⟨rfl, hb⟩⟩
theorem rds_own {U : Nat → Prop} {w : World} {v : Value} {ks : List ByteArray} {n : Nat} (h : Ow U w 9 1 v n (ks.map Value.string)) (hn : ks.length = n) (hs : ∀ x ∈ ks, x.size ≤ maxLen) : RdS w v ks := by
  obtain ⟨A, c, rfl, hc, hm, hA⟩ := h.cells
  refine ⟨A, n, c, rfl, hn, hc, hm, hs, fun h0 => ?_⟩
  obtain ⟨g, rfl, hg, _, hcell⟩ := hA h0
  refine ⟨g, 0, rfl, hg, fun j x hx => ?_⟩
  have hj : j < ks.length := (List.getElem?_eq_some_iff.1 hx).1
  rw [Nat.zero_add, hcell j (by omega), List.getElem?_map, hx]
  rfl
set_option maxRecDepth 100000 in
set_option maxHeartbeats 2000000 in
theorem entries_any {U1 U2 : Nat → Prop} (ks : List ByteArray) (ys : List Value) (n : Nat) (kv lv : Value) (w : World) (hk : Ow U1 w 9 1 kv n (ks.map Value.string)) (hl : Ow U2 w 31 6 lv n ys)
    (hkn : ks.length = n) (hyl : ys.length = n * 6) (hn : n ≤ 1000) (hs : ∀ x ∈ ks, x.size ≤ maxLen) (hnd : ks.Nodup)
    (hsh : ∀ i, i < n → ∃ (k n u : Int) (s : ByteArray) (A1 : Option Addr) (m1 c1 : Nat) (A2 : Option Addr) (m2 c2 : Nat), chunk ys i = [.int .i64 k, .int .i64 n, .int .u64 u, .string s, .slice A1 m1 c1, .slice A2 m2 c2]) :
    Calls Tryd.prog 57 #[kv, lv] w fun e w' => ∃ g1 g2 q, e = .returned (.tuple #[.slice (some ⟨g1, 0, none⟩) n n, .slice (some ⟨g2, 0, none⟩) n n]) ∧ Hid (SQ ks q n ∧ w.heap.size ≤ g1 ∧ w.heap.size ≤ g2 ∧ g1 ≠ g2 ∧
      Ow (fun b => b = g1) w' 9 1 (.slice (some ⟨g1, 0, none⟩) n n) n (q.map (kyv ks)) ∧ Ow (fun b => b = g2) w' 31 6 (.slice (some ⟨g2, 0, none⟩) n n) n (q.flatMap (chunk ys)) ∧ RowKit.Below w.heap.size w w') := by
  have hrd := rds_own hk hkn hs
  obtain ⟨A1, c1, rfl, hc1, hm1, hA1⟩ := hk.cells
  obtain ⟨A2, c2, rfl, hc2, hm2, hA2⟩ := hl.cells
  obtain ⟨w1, hmk1, HW1⟩ := mk_strs w n (by omega)
  obtain ⟨w2, hmk2, HW2⟩ := mk_nodes1 w1 n (by omega)
  obtain ⟨g1, hg1⟩ : ∃ g, w.heap.size = g := ⟨_, rfl⟩
  obtain ⟨g2, hg2⟩ : ∃ g, w1.heap.size = g := ⟨_, rfl⟩
  have HB1 : Hid (RowKit.Below w.heap.size w w1 ∧ w.heap.size < w1.heap.size) := Lib.hid ⟨HW1.out.choose_spec.2.2.1, HW1.out.choose_spec.2.2.2⟩
  have HB2 : Hid (RowKit.Below w.heap.size w w2 ∧ w1.heap.size < w2.heap.size) := Lib.hid ⟨HB1.out.1.trans (HW2.out.choose_spec.2.2.1.mono HB1.out.1.size), HW2.out.choose_spec.2.2.2⟩
  have HIX := Lib.hid (indices_any ks (.slice A1 n c1) w2 (hrd.below HB2.out.1) (by omega))
  have HR : Hid (g1 = w.heap.size ∧ g2 = w1.heap.size) := Lib.hid ⟨hg1.symm, hg2.symm⟩
  rw [hg1] at hmk1
  rw [hg2] at hmk2
  have HK := Lib.hid hk
  have HL := Lib.hid hl
  have HA1 := Lib.hid hA1
  have HA2 := Lib.hid hA2
  have HKN := Lib.hid hkn
  have HYL := Lib.hid hyl
  have HND := Lib.hid hnd
  have HSH := Lib.hid hsh
  clear hg1 hg2 hk hl hA1 hA2 hkn hyl hnd hrd hs hsh
  go_enter Tryd.func57, Tryd.ntmps57
  go_wp2_with (go_at_call 39; refine HIX.out.mono ?_; rintro e w3 ⟨g3, n', p, rfl, hn', hp, ho, hb⟩; have HO := Lib.hid ho; have HP := Lib.hid hp; have HB3 := Lib.hid hb; clear ho hp hb)
  obtain rfl : n' = n := by rw [← hn']; exact HKN.out
  clear hn' hmk1 hmk2
  obtain ⟨q, hq⟩ : ∃ q, q = p.map Fin.val := ⟨_, rfl⟩
  have HQ : Hid (SQ ks q n' ∧ q.length = n' ∧ ∀ i ∈ q, i < n') := by
    have h := HP.out.sq HND.out
    rw [← hq, HKN.out] at h
    exact Lib.hid ⟨h, h.length, fun i hi => List.mem_range.1 (h.perm.mem_iff.1 hi)⟩
  have HG : Hid (w.heap.size ≤ g1 ∧ w.heap.size ≤ g2 ∧ g1 ≠ g2 ∧ g1 ≠ g3 ∧ g2 ≠ g3) := by
    have h1 := HR.out.1
    have h2 := HR.out.2
    have h3 := HB1.out.2
    have h4 : w2.heap.size ≤ g3 := (HO.out.lt g3 rfl).1
    have h5 := HB2.out.2
    exact Lib.hid ⟨by omega, by omega, by omega, by omega, by omega⟩
  have HI0 : Hid (∃ zs1 zs2, zs1.length = n' - 0 ∧ zs2.length = (n' - 0) * 6 ∧ EI ks ys w n' g1 g2 g3 q 0 zs1 zs2 w3) := by
    obtain ⟨zs1, e1, o1, b1, l1⟩ := HW1.out
    obtain ⟨zs2, e2, o2, b2, l2⟩ := HW2.out
    obtain ⟨r1, r2⟩ := HR.out
    have b3 := HB3.out
    rw [← r1] at o1
    rw [← r2] at o2
    refine Lib.hid ⟨zs1, zs2, e1, e2, HB2.out.1.trans (b3.mono HB2.out.1.size), ?_, ?_, ⟨⟨?_, ?_⟩, fun g hg => by simpa [Value.ownBlock] using hg.symm⟩⟩
    · exact o1.step fun b hb hlt => ⟨(b3.block b (Nat.lt_of_lt_of_le hlt b2.size)).trans (b2.block b hlt), hb⟩
    · exact o2.step fun b hb hlt => ⟨b3.block b hlt, hb⟩
    · rw [List.length_map, HQ.out.2.1, Nat.mul_one]
    · have := (own_base_le HO.out (Nat.zero_le _)).2
      have e : p.map (ix ks.length) = q.map nx := by rw [hq, List.map_map]; rfl
      rw [e, HKN.out] at this
      exact this
  clear HIX HO HP HB3 HW1 HW2 HND hq
  go_loopw [19] (fun i wr => ∃ j : Nat, j ≤ n' ∧ i = .int .i64 (j : Int) ∧ Hid (∃ zs1 zs2, zs1.length = n' - j ∧ zs2.length = (n' - j) * 6 ∧ EI ks ys w n' g1 g2 g3 q j zs1 zs2 wr)) (fun i _ => n' - (intOf i).toNat)
  case atStart => exact ⟨0, Nat.zero_le _, rfl, HI0⟩
  case round =>
    obtain ⟨j, hj, rfl, HW⟩ := hrel
    clear HI0
    by_cases hjn : j < n'
    · obtain ⟨i, hi⟩ : ∃ i, q[j]? = some i := ⟨_, List.getElem?_eq_getElem (by rw [HQ.out.2.1]; exact hjn)⟩
      have hin : i < n' := HQ.out.2.2 i (List.mem_of_getElem? hi)
      obtain ⟨z, z0, z1, z2, z3, z4, z5, zs1, zs2, hz1, hz2, HE⟩ : ∃ z z0 z1 z2 z3 z4 z5 zs1 zs2, zs1.length = n' - (j + 1) ∧ zs2.length = (n' - (j + 1)) * 6 ∧ Hid (EI ks ys w n' g1 g2 g3 q j (z :: zs1) ([z0, z1, z2, z3, z4, z5] ++ zs2) wr) := by
        obtain ⟨zs1, zs2, e1, e2, hE⟩ := HW.out
        match zs1, e1, hE with
        | [], e1, _ => simp at e1; omega
        | z :: zs1, e1, hE =>
          obtain ⟨z0, z1, z2, z3, z4, z5, h6⟩ := six_of (l := zs2.take 6) (by rw [List.length_take]; omega)
          refine ⟨z, z0, z1, z2, z3, z4, z5, zs1, zs2.drop 6, by simp at e1; omega, by rw [List.length_drop]; omega, ?_⟩
          rw [← h6, List.take_append_drop]
          exact Lib.hid hE
      obtain ⟨y0, y1, y2, y3, Y1, p1, r1, Y2, p2, r2, hch⟩ := HSH.out i hin
      have HPUT := Lib.hid (HE.out.put hi HQ.out.2.2 HYL.out hch HG.out.1 HG.out.2.1 HG.out.2.2.1 HG.out.2.2.2.1 HG.out.2.2.2.2)
      have hx : ks[i]? = some (ky ks i) := by unfold ky; rw [List.getD_eq_getElem?_getD, List.getElem?_eq_getElem (by rw [HKN.out]; exact hin)]; rfl
      obtain ⟨b1, rfl, hb1, _, hcl1⟩ := HA1.out (by omega)
      obtain ⟨b2, rfl, hb2, _, hcl2⟩ := HA2.out (by omega)
      obtain ⟨x, hxx⟩ : ∃ x, ky ks i = x := ⟨_, rfl⟩
      have hall : ∀ W, Hid (RowKit.Below w.heap.size w W) → Hid (RowKit.Below w.heap.size w W) ∧ W.cell? ⟨b1, i, none⟩ = some (.string x) ∧ W.cell? ⟨b2, i * 6, none⟩ = some (.int .i64 y0) ∧ W.cell? ⟨b2, i * 6 + 1, none⟩ = some (.int .i64 y1) ∧ W.cell? ⟨b2, i * 6 + 2, none⟩ = some (.int .u64 y2) ∧ W.cell? ⟨b2, i * 6 + 3, none⟩ = some (.string y3) ∧ W.cell? ⟨b2, i * 6 + 4, none⟩ = some (.slice Y1 p1 r1) ∧ W.cell? ⟨b2, i * 6 + 5, none⟩ = some (.slice Y2 p2 r2) := by
        intro W H
        have k1 : W.cell? ⟨b1, i, none⟩ = some (.string x) := by
          rw [H.out.cell (p := ⟨b1, i, none⟩) hb1, hcl1 i (by omega), List.getElem?_map, hx, ← hxx]
          rfl
        have k2 : ∀ t, t < 6 → W.cell? ⟨b2, i * 6 + t, none⟩ = ([.int .i64 y0, .int .i64 y1, .int .u64 y2, .string y3, .slice Y1 p1 r1, .slice Y2 p2 r2] : List Value)[t]? := by
          intro t ht
          rw [H.out.cell (p := ⟨b2, i * 6 + t, none⟩) hb2, hcl2 _ (by omega), chunk_at ht, hch]
        exact ⟨H, k1, k2 0 (by omega), k2 1 (by omega), k2 2 (by omega), k2 3 (by omega), k2 4 (by omega), k2 5 (by omega)⟩
      have HD0 := Lib.hid (HE.out.hb.drew)
      have HD1 : Hid (RowKit.Below w.heap.size w (wr.setCell ⟨g1, j, none⟩ (.string x)).drew) := Lib.hid ((HE.out.hb.setCell (p := ⟨g1, j, none⟩) HG.out.1 _).drew)
      have HD2 : Hid (RowKit.Below w.heap.size w (((((((wr.setCell ⟨g1, j, none⟩ (.string x)).setCell ⟨g2, j * 6, none⟩ (.int .i64 y0)).setCell ⟨g2, j * 6 + 1, none⟩ (.int .i64 y1)).setCell ⟨g2, j * 6 + 2, none⟩ (.int .u64 y2)).setCell ⟨g2, j * 6 + 3, none⟩ (.string y3)).setCell ⟨g2, j * 6 + 4, none⟩ (.slice Y1 p1 r1)).setCell ⟨g2, j * 6 + 5, none⟩ (.slice Y2 p2 r2)).drew) := Lib.hid ((put6_below (HE.out.hb.setCell (p := ⟨g1, j, none⟩) HG.out.1 _) g2 (j * 6) _ _ _ _ _ _ HG.out.2.1).drew)
      have m3 : wr.cell? ⟨g3, j, none⟩ = some (.int .i64 (i : Int)) := by
        have := HE.out.r3.1.cellAt j (by omega)
        rw [this, List.getElem?_map, hi]
        rfl
      have f1 : wr.frozen? ⟨g1, j, none⟩ = false := HE.out.r1.1.frozenAt j
      have m1 : wr.cell? ⟨g1, j, none⟩ = some z := by
        rw [HE.out.r1.1.cellAt j (by omega), List.getElem?_append_right (by rw [List.length_map, List.length_take, HQ.out.2.1]; omega), List.length_map, List.length_take, HQ.out.2.1, Nat.min_eq_left (by omega), Nat.sub_self]
        rfl
      have HPU2 : Hid (∀ W, Hid (RowKit.Below wr.heap.size wr W) → True) := Lib.hid fun _ _ => trivial
      have fr2 : ∀ t, wr.frozen? ⟨g2, t, none⟩ = false := fun t => HE.out.r2.1.frozenAt t
      have cl2 : ∀ t, t < 6 → wr.cell? ⟨g2, j * 6 + t, none⟩ = [z0, z1, z2, z3, z4, z5][t]? := by
        intro t ht
        have l2 : ((q.take j).flatMap (chunk ys)).length = j * 6 := by
          rw [flat_len HYL.out _ fun i hi => HQ.out.2.2 i (List.mem_of_mem_take hi), List.length_take, HQ.out.2.1, Nat.min_eq_left (by omega)]
        rw [HE.out.r2.1.cellAt _ (by omega), List.getElem?_append_right (by omega), l2, Nat.add_sub_cancel_left, List.getElem?_append_left (by simpa using ht)]
      have d0 := cl2 0 (by omega)
      have d1 := cl2 1 (by omega)
      have d2 := cl2 2 (by omega)
      have d3 := cl2 3 (by omega)
      have d4 := cl2 4 (by omega)
      have d5 := cl2 5 (by omega)
      have e0 := fr2 (j * 6)
      have e1 := fr2 (j * 6 + 1)
      have e2 := fr2 (j * 6 + 2)
      have e3 := fr2 (j * 6 + 3)
      have e4 := fr2 (j * 6 + 4)
      have e5 := fr2 (j * 6 + 5)
      simp only [Nat.add_zero, List.getElem?_cons_zero, List.getElem?_cons_succ] at d0 d1 d2 d3 d4 d5
      have n12 := HG.out.2.2.1
      have n21 := HG.out.2.2.1.symm
      have i1 : (0 : Int) ≤ (j : Int) := by omega
      have i2 : (j : Int) < (n' : Int) := by omega
      have i3 : (0 : Int) ≤ (i : Int) := by omega
      have i4 : (i : Int) < (n' : Int) := by omega
      have far : ∀ t u, wr.cell? ⟨g2, t, none⟩ = some u → (wr.setCell ⟨g1, j, none⟩ (.string x)).cell? ⟨g2, t, none⟩ = some u := fun t u h => by
        rw [World.cell?_setCell_far _ _ _ _ n12]
        exact h
      have q0 := far _ _ d0
      have q1 := far _ _ d1
      have q2 := far _ _ d2
      have q3 := far _ _ d3
      have q4 := far _ _ d4
      have q5 := far _ _ d5
      have HXX := Lib.hid hxx
      clear far d0 d1 d2 d3 d4 d5
      clear cl2 fr2 HPU2 hcl1 hcl2 hx hch hxx hi HA1 HA2 HK HL HYL HW HSH hb1 hb2 HB1 HB2 HR
      go_wp2_with fail
      go_region_held3 (fun W => Hid (RowKit.Below w.heap.size w W) ∧ W.cell? ⟨b1, i, none⟩ = some (.string x) ∧ W.cell? ⟨b2, i * 6, none⟩ = some (.int .i64 y0) ∧ W.cell? ⟨b2, i * 6 + 1, none⟩ = some (.int .i64 y1) ∧ W.cell? ⟨b2, i * 6 + 2, none⟩ = some (.int .u64 y2) ∧ W.cell? ⟨b2, i * 6 + 3, none⟩ = some (.string y3) ∧ W.cell? ⟨b2, i * 6 + 4, none⟩ = some (.slice Y1 p1 r1) ∧ W.cell? ⟨b2, i * 6 + 5, none⟩ = some (.slice Y2 p2 r2))
        (first | (with_reducible exact hall _ HD0) | (with_reducible exact hall _ HD1) | (with_reducible exact hall _ HD2)) (fail)
      go_wp2_with fail
      go_roundw
      case rel => exact ⟨j + 1, by omega, by simp, Lib.hid ⟨zs1, zs2, hz1, hz2, by rw [← HXX.out]; exact (HPUT.out.drew)⟩⟩
      case measure => simp [intOf]; omega
    · obtain rfl : j = n' := by omega
      obtain ⟨zs1, zs2, e1, e2, hE⟩ := HW.out
      obtain rfl : zs1 = [] := List.eq_nil_of_length_eq_zero (by omega)
      obtain rfl : zs2 = [] := List.eq_nil_of_length_eq_zero (by omega)
      have HE := Lib.hid hE
      clear hE HW
      go_wp2_with fail
      go_ret2
      have h := HE.out
      have r1 := h.r1
      have r2 := h.r2
      rw [List.take_of_length_le (by rw [HQ.out.2.1]; exact Nat.le_refl _), List.append_nil] at r1 r2
      exact ⟨g1, g2, q, rfl, Lib.hid ⟨HQ.out.1, HG.out.1, HG.out.2.1, HG.out.2.2.1, r1, r2, h.hb⟩⟩
end Go.Proofs.YtnplkamkeadlgaaDoor
