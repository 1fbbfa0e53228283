/-
  What is proved here: what the table of package tag holds, that this stays so behind new memory, and the contracts of tag.lookup and Inline, and of the reference's Inline; condition: the tables hold what their initialisers lay.
-/
import Derived.Test.YtaeboneddndfkaaDoorRows
import Derived.Test.YtaeboneddndfkaaDoorMath
import Derived.WalkKit
import Derived.WalkSpells
import Derived.WalkLawsBesides
import Derived.Lib.Hide
import Derived.Lib.LaidTab
import Derived.OpenShut
import Derived.ProofKit
import Derived.LaidMore
import Derived.BigQuiet
import Derived.Deep.QuietTactic
namespace Go.Proofs.YtaeboneddndfkaaDoor
open Go.RowKit Tg
theorem ret_bool {a b : Bool} (h : a = b) : Ending.returned (.bool a) = .returned (.bool b) := by rw [h]

/-- The table holds what is laid. -/
def Tab (w : World) : Prop := 1 ≤ w.heap.size ∧
  ∀ k : Nat, k < 37 → w.cell? ⟨0, k * 3, none⟩ = some (.int .i64 (cls k)) ∧ w.cell? ⟨0, k * 3 + 1, none⟩ = some (.int .i64 (elm k)) ∧ w.cell? ⟨0, k * 3 + 2, none⟩ = some (.int .i64 (mny k))
theorem Tab.below {w w' : World} (h : Tab w) {n : Nat} (hn : 1 ≤ n) (hb : Below n w w') : Tab w' := by
  refine ⟨Nat.le_trans h.1 hb.size, fun k hk => ?_⟩
  obtain ⟨a, b, c⟩ := h.2 k hk
  exact ⟨(hb.cell (p := ⟨0, k * 3, none⟩) (by show 0 < n; omega)).trans a, (hb.cell (p := ⟨0, k * 3 + 1, none⟩) (by show 0 < n; omega)).trans b, (hb.cell (p := ⟨0, k * 3 + 2, none⟩) (by show 0 < n; omega)).trans c⟩
theorem Tab.keep {w w' : World} (h : Tab w) (hb : Below w.heap.size w w') : Tab w' := h.below h.1 hb
theorem Tab.alloc {w : World} (h : Tab w) (o : Obj) : Tab (w.alloc o) := h.keep ((Below.refl _ _).alloc (Nat.le_refl _) _)

theorem infoP : (Tryd.prog.info? 69).map (·.size) = some 3 := by kernel_rfl
theorem bel (w : World) (o : Obj) : Below w.heap.size w (w.alloc o) := (Below.refl _ _).alloc (Nat.le_refl _) _

theorem lookup_any (t : Int) (w : World) (hT : Tab w) :
    Calls Tryd.prog 44 #[.int .i64 t] w fun e w' => e = .returned (.agg #[.int .i64 (cls t), .int .i64 (elm t), .int .i64 (mny t)]) ∧ Below w.heap.size w w' := by
  rcases in_or (t := t) with h | ⟨k, rfl, hk⟩
  · have e0 : cls t = 0 := by rw [cls, prop_out h]
    have e1 : elm t = 0 := by rw [elm, prop_out h]
    have e2 : mny t = 0 := by rw [mny, prop_out h]
    rw [e0, e1, e2]
    clear e0 e1 e2 hT
    by_cases h0 : t < 0
    · have d0 : decide (t < 0) = true := by simpa using h0
      clear h
      go_enter Tryd.func44, Tryd.ntmps44
      go_wp2
      refine bodyPost_ret (results_cell_row rfl _ _ w.heap.size 69 #[.int .i64 0, .int .i64 0, .int .i64 0] (0, 0) _ rfl (heap_alloc_new w _) Tryd.underlying69 rfl infoP) rfl ?_
      exact ⟨rfl, bel _ _⟩
    · have d0 : decide (t < 0) = false := by simpa using h0
      have d1 : decide (37 ≤ t) = true := by simp; omega
      clear h
      go_enter Tryd.func44, Tryd.ntmps44
      go_wp2
      refine bodyPost_ret (results_cell_row rfl _ _ w.heap.size 69 #[.int .i64 0, .int .i64 0, .int .i64 0] (0, 0) _ rfl (heap_alloc_new w _) Tryd.underlying69 rfl infoP) rfl ?_
      exact ⟨rfl, bel _ _⟩
  · obtain ⟨c0, c1, c2⟩ := (hT.alloc (.cells #[.int .i64 0, .int .i64 0, .int .i64 0] 69)).2 k hk
    obtain ⟨a, ha⟩ : ∃ a, cls k = a := ⟨_, rfl⟩
    obtain ⟨b, hb⟩ : ∃ b, elm k = b := ⟨_, rfl⟩
    obtain ⟨c, hc⟩ : ∃ c, mny k = c := ⟨_, rfl⟩
    rw [ha] at c0 ⊢; rw [hb] at c1 ⊢; rw [hc] at c2 ⊢
    have d0 : decide ((k : Int) < 0) = false := by simp
    have d1 : decide (37 ≤ (k : Int)) = false := by simp; omega
    clear ha hb hc hT
    go_enter Tryd.func44, Tryd.ntmps44
    go_wp2
    refine bodyPost_ret (results_cell_row rfl _ _ w.heap.size 69 #[.int .i64 a, .int .i64 b, .int .i64 c] (0, 0) _ rfl (heap_alloc_new w _) Tryd.underlying69 rfl infoP) rfl ?_
    exact ⟨rfl, bel _ _⟩

theorem field_prop (a b c : Int) (W : World) : (Instr.field 69 (.agg #[.int .i64 a, .int .i64 b, .int .i64 c]) 0).run Tryd.prog W = .ok (.int .i64 a) W := by kernel_rfl
theorem belN {n : Nat} {w w' : World} (h : Below n w w') (m : Nat) : Below n w (w'.drewN m) := ⟨h.os, h.tape, h.output, h.size, h.block⟩

theorem inline_any (t : Int) (w : World) (hT : Tab w) :
    Calls Tryd.prog 36 #[.int .i64 t] w fun e w' => e = .returned (.bool (inl t)) ∧ Below w.heap.size w w' := by
  have hl := lookup_any t w hT
  rw [inl]
  obtain ⟨a, ha⟩ : ∃ a, cls t = a := ⟨_, rfl⟩
  rw [ha] at hl ⊢
  have hf := field_prop a (elm t) (mny t)
  have HL := Lib.hid hl
  clear hl ha hT
  go_enter Tryd.func36, Tryd.ntmps36
  go_wp2_with (go_at_call 44; refine HL.out.mono ?_; rintro e w1 ⟨rfl, hb⟩; have HB := Lib.hid hb; clear hb)
  go_ret
  exact ⟨rfl, HB.out⟩

theorem rinline_any (t : Int) (w : World) :
    Calls Tryd.prog 39 #[.int .i64 t] w fun e w' => e = .returned (.bool (inl t)) ∧ w = w' := by
  rcases in_or (t := t) with h | ⟨k, rfl, hk⟩
  · have e0 : inl t = false := by
      simp [inl, cls, prop_out h]
    simp only [e0]
    have b0 : (t == 0) = false := by simp; omega
    have b1 : (t == 1) = false := by simp; omega
    have b2 : (t == 2) = false := by simp; omega
    have b26 : (t == 26) = false := by simp; omega
    clear h e0
    go_enter Tryd.func39, Tryd.ntmps39
    go_wp2
    go_ret
    exact ⟨rfl, rfl⟩
  · rcases (show k = 0 ∨ k = 1 ∨ k = 2 ∨ k = 3 ∨ k = 4 ∨ k = 5 ∨ k = 6 ∨ k = 7 ∨ k = 8 ∨ k = 9 ∨ k = 10 ∨ k = 11 ∨ k = 12 ∨ k = 13 ∨ k = 14 ∨ k = 15 ∨ k = 16 ∨ k = 17 ∨ k = 18 ∨ k = 19 ∨ k = 20 ∨ k = 21 ∨ k = 22 ∨ k = 23 ∨ k = 24 ∨ k = 25 ∨ k = 26 ∨ k = 27 ∨ k = 28 ∨ k = 29 ∨ k = 30 ∨ k = 31 ∨ k = 32 ∨ k = 33 ∨ k = 34 ∨ k = 35 ∨ k = 36 by omega) with rfl | rfl | rfl | rfl | rfl | rfl | rfl | rfl | rfl | rfl | rfl | rfl | rfl | rfl | rfl | rfl | rfl | rfl | rfl | rfl | rfl | rfl | rfl | rfl | rfl | rfl | rfl | rfl | rfl | rfl | rfl | rfl | rfl | rfl | rfl | rfl | rfl
    all_goals
      clear hk
      go_enter Tryd.func39, Tryd.ntmps39
      go_wp2
      go_ret
      exact ⟨rfl, rfl⟩

end Go.Proofs.YtaeboneddndfkaaDoor
