/-
  What is proved here: the library's sort of no element changes nothing; no condition; and: contract of the comparison that key.sortedIndices hands to the library's sort; no condition beyond that the list reads as it stands.
-/
import Derived.Test.YtjbmghfgbdnjjaaDoorKOrd
import Derived.Deep.RegionHeld3
namespace Go.Proofs.YtjbmghfgbdnjjaaDoor
open Go.RowKit Go.Sort Go.Shelf

set_option maxHeartbeats 2000000 in
theorem ins_none (p : Option Addr) (cap : Nat) (fv : Value) (w : World) :
    Calls Tryd.prog 79 #[.slice p 0 cap, .int .i64 0, .int .i64 0, fv] w fun e w' => e = .returned (.tuple #[]) ∧ w' = w := by
  go_enter Tryd.func79, Tryd.ntmps79
  go_wp2
  refine wp_loop_rounds 1 ?_
  rw [rounds_succ]
  go_wp2
  go_end0
  exact ⟨rfl, rfl⟩
set_option maxHeartbeats 2000000 in
theorem pdq_none (p : Option Addr) (cap : Nat) (lim : Int) (fv : Value) (w : World) :
    Calls Tryd.prog 73 #[.slice p 0 cap, .int .i64 0, .int .i64 0, .int .i64 lim, fv] w fun e w' => e = .returned (.tuple #[]) ∧ w' = w := by
  have hi := fun W => ins_none p cap fv W
  go_enter Tryd.func73, Tryd.ntmps73
  go_wp2
  refine wp_loop_rounds 1 ?_
  rw [rounds_succ]
  go_wp2_with (first | (go_at_call 79; refine (hi _).mono ?_; rintro e w' ⟨rfl, rfl⟩))
  (try simp only [Exit.inBlock, Exit.then]); refine bodyPost_ret (results_none rfl _ _ _) rfl ?_
  exact ⟨rfl, rfl⟩
set_option maxHeartbeats 2000000 in
theorem sortF_none (p : Option Addr) (cap : Nat) (fv : Value) (w : World) :
    Calls Tryd.prog 57 #[.slice p 0 cap, fv] w fun e w' => e = .returned (.tuple #[]) ∧ w' = w := by
  have hp := fun lim W => pdq_none p cap lim fv W
  have hl : ∀ W, Calls Tryd.prog 74 #[.int .u64 0] W fun e w' => e = .returned (.int .i64 (Lib.bitLen 0 : Nat)) ∧ w' = W := fun W => Tryd.bits_Len 0 W (by omega) (by omega)
  go_enter Tryd.func57, Tryd.ntmps57
  go_wp2_with (first | (go_at_call 74; refine (hl _).mono ?_; rintro e w' ⟨rfl, rfl⟩) | (go_at_call 73; refine (hp _ _).mono ?_; rintro e w' ⟨rfl, rfl⟩))
  go_end0
  exact ⟨rfl, rfl⟩
end Go.Proofs.YtjbmghfgbdnjjaaDoor
namespace Go.Proofs.YtjbmghfgbdnjjaaDoor
open Go.RowKit Go.Sort Go.Shelf

set_option maxRecDepth 100000 in
set_option maxHeartbeats 2000000 in
theorem clo_any (l : List ByteArray) (b off n c B : Nat) (i j : Nat) (x y : ByteArray) (w : World) (_ : l.length = n) (_ : n ≤ 100000)
    (hB : w.cell? { block := B, off := 0 } = some (.slice (some { block := b, off := off }) n c))
    (hx : w.cell? { block := b, off := off + i } = some (.string x)) (hy : w.cell? { block := b, off := off + j } = some (.string y)) (hi : i < n) (hj : j < n) :
    Calls Tryd.prog 58 #[.int .i64 ((i : Nat) : Int), .int .i64 ((j : Nat) : Int), .pointer (some { block := B, off := 0 })] w fun e w' => e = .returned (.int .i64 (Lib.compareBytes x.data.toList y.data.toList)) ∧ ∃ q, w' = w.drewN q := by
  have hcall := Tryd.strings_Compare x y w
  go_enter Tryd.func58, Tryd.ntmps58
  clear hcall
  have hall : ∀ W, (∃ q, W = w.drewN q) → W.cell? ⟨B, 0, none⟩ = some (.slice (some ⟨b, off, none⟩) n c) ∧ W.cell? ⟨b, off + i, none⟩ = some (.string x) ∧ W.cell? ⟨b, off + j, none⟩ = some (.string y) := by
    rintro W ⟨q, rfl⟩
    exact ⟨hB, hx, hy⟩
  have h0 : ∃ q, w.drew = w.drewN q := ⟨1, rfl⟩
  have hi0 : (0 : Int) ≤ (i : Int) := by omega
  have hj0 : (0 : Int) ≤ (j : Int) := by omega
  have hi1 : (i : Int) < (n : Int) := by omega
  have hj1 : (j : Int) < (n : Int) := by omega
  go_wp2_with fail
  go_region_held3 (fun W => (∃ q, W = w.drewN q) ∧ W.cell? ⟨B, 0, none⟩ = some (.slice (some ⟨b, off, none⟩) n c) ∧ W.cell? ⟨b, off + i, none⟩ = some (.string x) ∧ W.cell? ⟨b, off + j, none⟩ = some (.string y)) (first | exact hall _ (by assumption) | (rename_i h; obtain ⟨q, rfl⟩ := h; exact ⟨_, rfl⟩) | exact ⟨h0, hB, hx, hy⟩)
    (first | (go_at_call 59; (refine (Tryd.strings_Compare x y _).mono ?_); rintro e w2 ⟨rfl, rfl⟩))
  go_wp2_with fail
  go_ret
  exact ⟨rfl, 1, rfl⟩
end Go.Proofs.YtjbmghfgbdnjjaaDoor
