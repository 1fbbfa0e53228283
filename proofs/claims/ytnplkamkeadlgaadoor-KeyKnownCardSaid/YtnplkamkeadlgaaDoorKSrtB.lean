/-
  What is proved here: the library's sort of no element changes nothing; no condition; and: contract of the comparison that key.sortedIndices hands to the library's sort; no condition beyond that the list reads as it stands; and: what the library's sort answers at the indices of a list under key.sortedIndices' comparison: the indices permuted, no later key less than an earlier one; condition: at least one key.
-/
import Derived.Test.YtnplkamkeadlgaaDoorKIns
import Derived.Deep.RegionHeld3
import Derived.Shelf.SlSortCmp.Whole1
import Derived.Test.YtnplkamkeadlgaaDoorKShelf
namespace Go.Proofs.YtnplkamkeadlgaaDoor
open Go.RowKit Go.Sort Go.Shelf

set_option maxHeartbeats 2000000 in
theorem ins_none (p : Option Addr) (cap : Nat) (fv : Value) (w : World) :
    Calls Tryd.prog 75 #[.slice p 0 cap, .int .i64 0, .int .i64 0, fv] w fun e w' => e = .returned (.tuple #[]) ∧ w' = w := by
  go_enter Tryd.func75, Tryd.ntmps75
  go_wp2
  refine wp_loop_rounds 1 ?_
  rw [rounds_succ]
  go_wp2
  go_end0
  exact ⟨rfl, rfl⟩
set_option maxHeartbeats 2000000 in
theorem pdq_none (p : Option Addr) (cap : Nat) (lim : Int) (fv : Value) (w : World) :
    Calls Tryd.prog 69 #[.slice p 0 cap, .int .i64 0, .int .i64 0, .int .i64 lim, fv] w fun e w' => e = .returned (.tuple #[]) ∧ w' = w := by
  have hi := fun W => ins_none p cap fv W
  go_enter Tryd.func69, Tryd.ntmps69
  go_wp2
  refine wp_loop_rounds 1 ?_
  rw [rounds_succ]
  go_wp2_with (first | (go_at_call 75; refine (hi _).mono ?_; rintro e w' ⟨rfl, rfl⟩))
  (try simp only [Exit.inBlock, Exit.then]); refine bodyPost_ret (results_none rfl _ _ _) rfl ?_
  exact ⟨rfl, rfl⟩
set_option maxHeartbeats 2000000 in
theorem sortF_none (p : Option Addr) (cap : Nat) (fv : Value) (w : World) :
    Calls Tryd.prog 53 #[.slice p 0 cap, fv] w fun e w' => e = .returned (.tuple #[]) ∧ w' = w := by
  have hp := fun lim W => pdq_none p cap lim fv W
  have hl : ∀ W, Calls Tryd.prog 70 #[.int .u64 0] W fun e w' => e = .returned (.int .i64 (Lib.bitLen 0 : Nat)) ∧ w' = W := fun W => Tryd.bits_Len 0 W (by omega) (by omega)
  go_enter Tryd.func53, Tryd.ntmps53
  go_wp2_with (first | (go_at_call 70; refine (hl _).mono ?_; rintro e w' ⟨rfl, rfl⟩) | (go_at_call 69; refine (hp _ _).mono ?_; rintro e w' ⟨rfl, rfl⟩))
  go_end0
  exact ⟨rfl, rfl⟩
end Go.Proofs.YtnplkamkeadlgaaDoor
namespace Go.Proofs.YtnplkamkeadlgaaDoor
open Go.RowKit Go.Sort Go.Shelf

set_option maxRecDepth 100000 in
set_option maxHeartbeats 2000000 in
theorem clo_any (l : List ByteArray) (b off n c B : Nat) (i j : Nat) (x y : ByteArray) (w : World) (_ : l.length = n) (_ : n ≤ 100000)
    (hB : w.cell? { block := B, off := 0 } = some (.slice (some { block := b, off := off }) n c))
    (hx : w.cell? { block := b, off := off + i } = some (.string x)) (hy : w.cell? { block := b, off := off + j } = some (.string y)) (hi : i < n) (hj : j < n) :
    Calls Tryd.prog 54 #[.int .i64 ((i : Nat) : Int), .int .i64 ((j : Nat) : Int), .pointer (some { block := B, off := 0 })] w fun e w' => e = .returned (.int .i64 (Lib.compareBytes x.data.toList y.data.toList)) ∧ ∃ q, w' = w.drewN q := by
  have hcall := Tryd.strings_Compare x y w
  go_enter Tryd.func54, Tryd.ntmps54
  clear hcall
  have hall : ∀ W, (∃ q, W = w.drewN q) → W.cell? ⟨B, 0, none⟩ = some (.slice (some ⟨b, off, none⟩) n c) ∧ W.cell? ⟨b, off + i, none⟩ = some (.string x) ∧ W.cell? ⟨b, off + j, none⟩ = some (.string y) := by
    rintro W ⟨q, rfl⟩
    exact ⟨hB, hx, hy⟩
  have h0 : ∃ q, w.drew = w.drewN q := ⟨1, rfl⟩
  have hi0 : (0 : Int) ≤ (i : Int) := by omega
  have hj0 : (0 : Int) ≤ (j : Int) := by omega
  have hi1 : (i : Int) < (n : Int) := by omega
  have hj1 : (j : Int) < (n : Int) := by omega
  go_wp2_with fail
  go_region_held3 (fun W => (∃ q, W = w.drewN q) ∧ W.cell? ⟨B, 0, none⟩ = some (.slice (some ⟨b, off, none⟩) n c) ∧ W.cell? ⟨b, off + i, none⟩ = some (.string x) ∧ W.cell? ⟨b, off + j, none⟩ = some (.string y)) (first | exact hall _ (by assumption) | (rename_i h; obtain ⟨q, rfl⟩ := h; exact ⟨_, rfl⟩) | exact ⟨h0, hB, hx, hy⟩)
    (first | (go_at_call 55; (refine (Tryd.strings_Compare x y _).mono ?_); rintro e w2 ⟨rfl, rfl⟩))
  go_wp2_with fail
  go_ret
  exact ⟨rfl, 1, rfl⟩
end Go.Proofs.YtnplkamkeadlgaaDoor
namespace Go.Proofs.YtnplkamkeadlgaaDoor
open Go.RowKit Go.Sort Go.Shelf

def cfB (l : List ByteArray) (x y : Fin l.length) : Int := Lib.compareBytes (l[x]).data.toList (l[y]).data.toList

theorem ltOf_cfB (l : List ByteArray) (x y : Fin l.length) : ltOf (cfB l) x y = lt l[x] l[y] := by
  have h := cmp_lt (l[x]).data.toList (l[y]).data.toList
  unfold ltOf cfB lt
  rw [ByteArray.toList_eq, ByteArray.toList_eq]
  cases h2 : Op.bytesLess (l[x]).data.toList (l[y]).data.toList with
  | true => exact decide_eq_true (h.2 h2)
  | false => exact decide_eq_false fun h3 => by rw [h.1 h3] at h2; cases h2
theorem swo_cfB (l : List ByteArray) : SWO (ltOf (cfB l)) where
  irrefl x := by rw [ltOf_cfB]; exact lt_irrefl _
  trans x y z h k := by rw [ltOf_cfB] at *; exact lt_trans h k
  ntrans x y z h k := by rw [ltOf_cfB] at *; exact lt_ntrans h k
theorem cell_same {w w' : World} {k : Nat} (h : w'.heap[k]? = w.heap[k]?) (i : Nat) : w'.cell? ⟨k, i, none⟩ = w.cell? ⟨k, i, none⟩ := by
  simp [World.cell?, h]
theorem asc_of (l : List ByteArray) (hi : Inhabited (Fin l.length)) (d' : Array (Fin l.length)) (hp : PermIn 0 l.length (List.finRange l.length).toArray d')
    (hs : SortedIn (ltOf (cfB l)) 0 l.length d') : Asc l d'.toList := by
  have hsz : (List.finRange l.length).toArray.size = l.length := by simp
  obtain ⟨hz, _, hp⟩ := hp
  rw [hsz] at hz
  have e1 : d'.extract 0 l.length = d' := (congrArg (fun z => d'.extract 0 z) hz.symm).trans Array.extract_size
  have e2 : (List.finRange l.length).toArray.extract 0 l.length = (List.finRange l.length).toArray := (congrArg (fun z => (List.finRange l.length).toArray.extract 0 z) hsz.symm).trans Array.extract_size
  rw [e1, e2] at hp
  refine ⟨hp, ?_⟩
  rw [List.pairwise_iff_getElem]
  intro i j h1 h2 hij
  have h := hs i j (Nat.zero_le _) hij (Nat.lt_of_lt_of_eq (by simpa using h2) hz)
  rw [ltOf_cfB, getElem!_pos d' i (by simpa using h1), getElem!_pos d' j (by simpa using h2)] at h
  simpa using h

set_option maxHeartbeats 1000000 in
theorem sortF_any (l : List ByteArray) (h0 : 0 < l.length) (hn : l.length ≤ 100000) (w : World) (g B b off c cap : Nat) (cur : Array Value) (hb : w.heap[g]? = some (.cells cur 3 (0, 0))) (hcur : cur.toList.take l.length = (List.finRange l.length).map (ix l.length))
    (hB : w.cell? ⟨B, 0, none⟩ = some (.slice (some ⟨b, off, none⟩) l.length c)) (hBg : B ≠ g) (hbg : b ≠ g) (hBl : B < w.heap.size) (hbl : b < w.heap.size) (hc : ∀ j s, l[j]? = some s → w.cell? ⟨b, off + j, none⟩ = some (.string s)) :
    Calls Tryd.prog 53 #[.slice (some ⟨g, 0, none⟩) l.length cap, .func (.func 54) #[] #[.pointer (some ⟨B, 0, none⟩)]] w fun e w' =>
      e = .returned (.tuple #[]) ∧ ∃ p, Asc l p ∧ (∃ cur', w'.heap[g]? = some (.cells cur' 3 (0, 0)) ∧ cur'.size = cur.size ∧ cur'.toList.take l.length = p.map (ix l.length)) ∧ w.grownBy w' (some g) := by
  have hi : Inhabited (Fin l.length) := ⟨⟨0, h0⟩⟩
  have hg : g < w.heap.size := (Array.getElem?_eq_some_iff.1 hb).1
  have hsz : (List.finRange l.length).toArray.size = l.length := by simp
  have hcmp : CmpReads Tryd.prog 54 #[.pointer (some ⟨B, 0, none⟩)] (ix l.length) (cfB l) g 0 (List.finRange l.length).toArray.size w := by
    intro m os dk hdk x y
    have hG := grownBy_srt (enc := ix l.length) (n := m) (g := g) (w := w) (os := os) dk
    have e1 := hG.block B hBl (by simpa using hBg)
    have e2 := hG.block b hbl (by simpa using hbg)
    exact clo_any l b off l.length c B x y l[x] l[y] _ rfl hn (by rw [cell_same e1]; exact hB) (by rw [cell_same e2]; exact hc x l[x] (by simp)) (by rw [cell_same e2]; exact hc y l[y] (by simp)) x.2 y.2
  have hH : Holds (ix l.length) w g 0 (List.finRange l.length).toArray := holds_blk hb (by rw [List.length_finRange]; exact hcur)
  have h := Any.slices_SortFunc (P := Tryd.prog) (ρ := Tryd.sortK_ren) Tryd.sortK (ix l.length) (fun _ => rfl) (cfB l) (swo_cfB l) 54 #[.pointer (some ⟨B, 0, none⟩)] g 0 cap (List.finRange l.length).toArray w (enters_of Tryd.func54 (by kernel_rfl) rfl) hcmp.lays hH hg (by rw [hsz]; omega)
  rw [hsz] at h
  refine h.mono ?_
  rintro e w' ⟨rfl, d', m, os, hp, hs, rfl⟩
  have hpl : d'.toList.length = l.length := by have := hp.1; rw [hsz] at this; simpa using this
  have hcl : l.length ≤ cur.size := by
    have := congrArg List.length hcur
    simp only [List.length_take, List.length_map, List.length_finRange] at this
    have e : cur.toList.length = cur.size := Array.length_toList
    omega
  refine ⟨rfl, d'.toList, asc_of l hi d' hp hs, ⟨_, heap_srt d' hb, by simp [putCells], ?_⟩, grownBy_srt d'⟩
  have := take_put (enc := ix l.length) cur d'.toList (by rw [hpl]; exact hcl)
  rw [hpl] at this
  simpa using this
end Go.Proofs.YtnplkamkeadlgaaDoor
