/-
  What is proved here: what key.sortedIndices answers; condition: the list is one that the form reads.
-/
import Derived.Test.YtnplkamkeadlgaaDoorKSrtB
namespace Go.Proofs.YtnplkamkeadlgaaDoor
open Go.RowKit Go.Sort Go.Shelf

theorem infoI : (Tryd.prog.info? 3).map (fun i => (i.zero, i.size, i.bytes)) = some (some (.int .i64 0), 1, 8) := by kernel_rfl
theorem info_partsK {i : Option TypeInfo} {z : Option Value} {s b : Nat} (h : i.map (fun i => (i.zero, i.size, i.bytes)) = some (z, s, b)) : ∃ i0, i = some i0 ∧ i0.zero = z ∧ i0.size = s ∧ i0.bytes = b := by
  cases i with
  | none => cases h
  | some i0 =>
    simp only [Option.map_some, Option.some.injEq, Prod.mk.injEq] at h
    exact ⟨i0, rfl, h.1, h.2.1, h.2.2⟩
theorem mk_ints (base : Nat) (w : World) (n : Nat) (hbase : base ≤ w.heap.size) (hn : n ≤ 100000) : ∃ w', (Instr.makeSlice 37 (.int .i64 (n : Int)) (.int .i64 (n : Int))).run Tryd.prog w = .ok (.slice (some ⟨w.heap.size, 0, none⟩) n n) w' ∧ Hid (∃ zs, zs.length = n ∧ w'.ownsRow base 3 1 (.slice (some ⟨w.heap.size, 0, none⟩) n n) n zs ∧ Below w.heap.size w w' ∧ w.heap.size < w'.heap.size) := by
  obtain ⟨i0, hi, hz0, hz1, hz2⟩ := info_partsK infoI
  obtain ⟨w', h1, h2, h3⟩ := run_make_full w base 37 3 i0 _ 1 Tryd.underlying37 hi hz0 hz1 .i64 .i64 n (by rw [hz2]; omega) (by unfold maxLen; omega) hbase
  refine ⟨w', h1, _, ?_, h2, ⟨h3.os, h3.tape, h3.output, h3.size, fun k hk => h3.block k hk (by simp)⟩, ?_⟩
  · rw [Array.length_toList, size_madeCells, Nat.mul_one]
  · exact (h2.lt _ rfl).2

abbrev nx (i : Nat) : Value := .int .i64 (i : Int)
structure FI (w : World) (B g n j : Nat) (v : Value) (zs : List Value) (W : World) : Prop where
  hb : RowKit.Below w.heap.size w W
  hB : W.heap[B]? = some (.cells #[v] 22 (0, 0))
  row : W.ownsRow w.heap.size 3 1 (.slice (some ⟨g, 0, none⟩) n n) n ((List.range j).map nx ++ zs)
  h1 : w.heap.size ≤ B
  h2 : B < g
theorem FI.put {w W : World} {B g n j : Nat} {v z : Value} {zs : List Value} (h : FI w B g n j v (z :: zs) W) : FI w B g n (j + 1) v zs (W.setCell ⟨g, j, none⟩ (nx j)) := by
  obtain ⟨hb, hB, hr, h1, h2⟩ := h
  obtain ⟨hr2, hg⟩ := hr.stored j (nx j)
  have hlt : B < W.heap.size := (Array.getElem?_eq_some_iff.1 hB).1
  refine ⟨hb.trans ⟨hg.os, hg.tape, hg.output, hg.size, fun k hk => hg.block k (Nat.lt_of_lt_of_le hk hb.size) (by simp; omega)⟩, (hg.block B hlt (by simp; omega)).trans hB, ?_, h1, h2⟩
  have e : ((List.range j).map nx ++ z :: zs).set j (nx j) = (List.range (j + 1)).map nx ++ zs := by
    rw [List.range_succ, List.map_append, List.set_append_right _ _ (by simp)]
    simp
  rw [← e]
  exact hr2
theorem map_fin (n : Nat) : (List.range n).map nx = (List.finRange n).map (ix n) := by
  apply List.ext_getElem
  · simp
  · intro i h1 h2
    simp

theorem sort_FI (l : List ByteArray) (w W : World) (A : Option Addr) (c B g : Nat) (hl : RdS w (.slice A l.length c) l) (hn : l.length ≤ 100000) (hF : FI w B g l.length l.length (.slice A l.length c) [] W) :
    Calls Tryd.prog 53 #[.slice (some ⟨g, 0, none⟩) l.length l.length, .func (.func 54) #[] #[.pointer (some ⟨B, 0, none⟩)]] W fun e w' =>
      e = .returned (.tuple #[]) ∧ Hid (∃ p, Asc l p ∧ w'.ownsRow w.heap.size 3 1 (.slice (some ⟨g, 0, none⟩) l.length l.length) l.length (p.map (ix l.length)) ∧ RowKit.Below w.heap.size w w') := by
  obtain ⟨hb, hB, hr, h1, h2⟩ := hF
  rw [List.append_nil, map_fin] at hr
  have hBl : B < W.heap.size := (Array.getElem?_eq_some_iff.1 hB).1
  by_cases h0 : 0 < l.length
  · obtain ⟨A', n', c', hv, hln, hnc, hc, hsz, hA⟩ := hl.at
    cases hv
    obtain ⟨b, off, rfl, hbw, hc1⟩ := hA h0
    rcases hr.2 with ⟨h', _⟩ | ⟨g', cap', cur, h', hbg, hg, hnc, hcm, hcs, htake⟩
    · simp at h'
    simp only [Value.slice.injEq, Option.some.injEq, Addr.mk.injEq, and_true, true_and] at h'
    obtain ⟨rfl, rfl⟩ := h'
    rw [Nat.mul_one] at htake
    have hws := hb.size
    refine (sortF_any l h0 hn W g B b off c l.length cur hg htake (cell_of_row W B 0 _ _ _ hB) (by omega) (by omega) hBl (by omega) (fun j s hj => hc1 W hb j s hj)).mono ?_
    rintro e w' ⟨rfl, p, hp, ⟨cur', hg', hs', ht'⟩, hG⟩
    refine ⟨rfl, Lib.hid ⟨p, hp, ⟨?_, .inr ⟨g, l.length, cur', rfl, hbg, hg', Nat.le_refl _, hcm, by rw [hs', hcs], by rw [Nat.mul_one]; exact ht'⟩⟩, ?_⟩⟩
    · rw [List.length_map, hp.1.length_eq, List.length_finRange, Nat.mul_one]
    · exact hb.trans ⟨hG.os, hG.tape, hG.output, hG.size, fun k hk => hG.block k (Nat.lt_of_lt_of_le hk hws) (by simp; omega)⟩
  · have hl0 : l = [] := List.eq_nil_of_length_eq_zero (by omega)
    subst hl0
    refine (sortF_none _ _ _ W).mono ?_
    rintro e w' ⟨rfl, rfl⟩
    exact ⟨rfl, Lib.hid ⟨[], ⟨by simp, List.Pairwise.nil⟩, by simpa using hr, hb⟩⟩

theorem sort_FI2 (l : List ByteArray) (w W : World) (A : Option Addr) (n c B g : Nat) (hln : l.length = n) (hl : RdS w (.slice A n c) l) (hn : l.length ≤ 100000) (hF : FI w B g n n (.slice A n c) [] W) :
    Calls Tryd.prog 53 #[.slice (some ⟨g, 0, none⟩) n n, .func (.func 54) #[] #[.pointer (some ⟨B, 0, none⟩)]] W fun e w' =>
      e = .returned (.tuple #[]) ∧ Hid (∃ p, Asc l p ∧ w'.ownsRow w.heap.size 3 1 (.slice (some ⟨g, 0, none⟩) n n) l.length (p.map (ix l.length)) ∧ RowKit.Below w.heap.size w w') := by
  subst hln
  exact sort_FI l w W A c B g hl hn hF

set_option maxRecDepth 100000 in
set_option maxHeartbeats 2000000 in
theorem indices_any (l : List ByteArray) (v : Value) (w : World) (hl : RdS w v l) (hn : l.length ≤ 100000) :
    Calls Tryd.prog 39 #[v] w fun e w' => ∃ g n p, e = .returned (.slice (some ⟨g, 0, none⟩) n n) ∧ l.length = n ∧ Asc l p ∧ w'.ownsRow w.heap.size 3 1 (.slice (some ⟨g, 0, none⟩) n n) l.length (p.map (ix l.length)) ∧ RowKit.Below w.heap.size w w' := by
  obtain ⟨A, n, c, rfl, hln, hnc, hc, hsz, hA⟩ := hl.at
  have hn1 : n ≤ 100000 := by omega
  obtain ⟨w2, hmk, HW2⟩ := mk_ints w.heap.size (w.alloc (.cells #[.slice A n c] 22)) n (by simp) hn1
  obtain ⟨w1, hw1⟩ : ∃ w1, w.alloc (.cells #[.slice A n c] 22) = w1 := ⟨_, rfl⟩
  obtain ⟨B, hBs⟩ : ∃ B, w.heap.size = B := ⟨_, rfl⟩
  obtain ⟨g, hgs⟩ : ∃ g, w1.heap.size = g := ⟨_, rfl⟩
  have hBlk : w1.heap[B]? = some (.cells #[.slice A n c] 22 (0, 0)) := by rw [← hw1, ← hBs]; exact heap_alloc_new w _
  have hw1s : g = B + 1 := by rw [← hgs, ← hw1, ← hBs]; simp
  have hb1 : RowKit.Below w.heap.size w w1 := by
    rw [← hw1]
    have h3 := World.grownBy_alloc w (.cells #[.slice A n c] 22) none
    exact ⟨h3.os, h3.tape, h3.output, h3.size, fun k hk => h3.block k hk (by simp)⟩
  have hcB : w1.cell? ⟨B, 0, none⟩ = some (.slice A n c) := cell_of_row w1 B 0 _ _ _ hBlk
  rw [hw1] at hmk HW2
  rw [hgs] at hmk HW2
  have HF0 : Hid (∃ zs, zs.length = n - 0 ∧ FI w B g n 0 (.slice A n c) zs w2) := by
    obtain ⟨zs, hz, ho, hb, hlt⟩ := HW2.out
    refine Lib.hid ⟨zs, by omega, hb1.trans (hb.mono (by omega)), (hb.block B (by omega)).trans hBlk, ho, by omega, by omega⟩
  have HG := Lib.hid hw1s
  have HBS := Lib.hid hBs
  clear HW2 hBlk hw1s hb1
  go_enter Tryd.func39, Tryd.ntmps39
  go_wp2_with fail
  clear hw1 hBs hgs hmk hcB
  go_loopw [10] (fun i wr => ∃ j : Nat, j ≤ n ∧ i = .int .i64 (j : Int) ∧ Hid (∃ zs, zs.length = n - j ∧ FI w B g n j (.slice A n c) zs wr)) (fun i _ => n - (intOf i).toNat)
  case atStart => exact ⟨0, Nat.zero_le _, rfl, HF0⟩
  case round =>
    obtain ⟨j, hj, rfl, HZ⟩ := hrel
    by_cases hjn : j < n
    · obtain ⟨z, zs', hz, HN⟩ : ∃ z zs', zs'.length = n - (j + 1) ∧ Hid (FI w B g n j (.slice A n c) (z :: zs') wr) := by
        obtain ⟨zs, hz, hN⟩ := HZ.out
        match zs, hz, hN with
        | [], hz, _ => simp at hz; omega
        | z :: zs', hz, hN => exact ⟨z, zs', by simp at hz; omega, Lib.hid hN⟩
      have hfz := HN.out.row.frozenAt j
      have hcl : wr.cell? ⟨g, j, none⟩ = some z := by
        have := HN.out.row.cellAt j (by omega)
        simpa using this
      have HN2 := Lib.hid HN.out.put
      clear HZ HF0 hA hsz
      have hj0 : (0 : Int) ≤ (j : Int) := by omega
      have hj1 : (j : Int) < (n : Int) := by omega
      go_wp2_with fail
      go_roundw
      case rel => exact ⟨j + 1, by omega, by simp, Lib.hid ⟨zs', hz, HN2.out⟩⟩
      case measure => simp [intOf]; omega
    · have hjn' : j = n := by omega
      subst hjn'
      obtain ⟨zs, hz, hN⟩ := HZ.out
      have hzn : zs = [] := List.eq_nil_of_length_eq_zero (by omega)
      subst hzn
      have hcall := sort_FI2 l w wr A j c B g hln hl hn hN
      have HLN := Lib.hid hln
      clear hA hsz HF0 HZ hN hl hln
      go_wp2_with (go_at_call 53; refine hcall.mono ?_; clear hcall; rintro e w3 ⟨rfl, HP⟩)
      obtain ⟨p, hp, ho, hb⟩ := HP.out
      go_ret
      exact ⟨_, _, p, rfl, HLN.out, hp, ho, hb⟩
end Go.Proofs.YtnplkamkeadlgaaDoor
