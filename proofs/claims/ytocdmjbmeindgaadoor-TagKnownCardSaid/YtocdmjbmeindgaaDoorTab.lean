/-
  What is proved here: what the two package-level tables of package tag hold (read off the row's condition), that this stays so behind new memory, and the contracts of tag.lookup, Legal, Inline and Elem; condition: the tables hold what their initialisers lay.
-/
import Derived.Test.YtocdmjbmeindgaaDoorRows
import Derived.Test.YtocdmjbmeindgaaDoorMath
import Derived.WalkKit
import Derived.WalkSpells
import Derived.WalkLawsBesides
import Derived.Lib.Hide
import Derived.Lib.LaidTab
import Derived.OpenShut
import Derived.ProofKit
import Derived.LaidMore
import Derived.BigQuiet
import Derived.Deep.QuietTactic
namespace Go.Proofs.YtocdmjbmeindgaaDoor
open Go.RowKit Tg
theorem ret_bool {a b : Bool} (h : a = b) : Ending.returned (.bool a) = .returned (.bool b) := by rw [h]

/-- The tables hold what is laid. -/
def Tab (w : World) : Prop := 2 ≤ w.heap.size ∧ (∀ k : Nat, k < 4 → w.cell? ⟨0, k, none⟩ = some (.int .i64 (wid k))) ∧
  ∀ k : Nat, k < 37 → w.cell? ⟨1, k * 3, none⟩ = some (.int .i64 (cls k)) ∧ w.cell? ⟨1, k * 3 + 1, none⟩ = some (.int .i64 (elm k)) ∧ w.cell? ⟨1, k * 3 + 2, none⟩ = some (.int .i64 (mny k))
theorem Tab.below {w w' : World} (h : Tab w) {n : Nat} (hn : 2 ≤ n) (hb : Below n w w') : Tab w' := by
  refine ⟨Nat.le_trans h.1 hb.size, fun k hk => ?_, fun k hk => ?_⟩
  · exact (hb.cell (p := ⟨0, k, none⟩) (by show 0 < n; omega)).trans (h.2.1 k hk)
  · obtain ⟨a, b, c⟩ := h.2.2 k hk
    exact ⟨(hb.cell (p := ⟨1, k * 3, none⟩) (by show 1 < n; omega)).trans a, (hb.cell (p := ⟨1, k * 3 + 1, none⟩) (by show 1 < n; omega)).trans b, (hb.cell (p := ⟨1, k * 3 + 2, none⟩) (by show 1 < n; omega)).trans c⟩
theorem Tab.keep {w w' : World} (h : Tab w) (hb : Below w.heap.size w w') : Tab w' := h.below h.1 hb
theorem Tab.alloc {w : World} (h : Tab w) (o : Obj) : Tab (w.alloc o) := h.keep ((Below.refl _ _).alloc (Nat.le_refl _) _)

theorem infoP : (Tryd.prog.info? 48).map (·.size) = some 3 := by kernel_rfl
theorem bel (w : World) (o : Obj) : Below w.heap.size w (w.alloc o) := (Below.refl _ _).alloc (Nat.le_refl _) _

theorem lookup_any (t : Int) (w : World) (hT : Tab w) :
    Calls Tryd.prog 29 #[.int .i64 t] w fun e w' => e = .returned (.agg #[.int .i64 (cls t), .int .i64 (elm t), .int .i64 (mny t)]) ∧ Below w.heap.size w w' := by
  rcases in_or (t := t) with h | ⟨k, rfl, hk⟩
  · have e0 : cls t = 0 := by rw [cls, prop_out h]
    have e1 : elm t = 0 := by rw [elm, prop_out h]
    have e2 : mny t = 0 := by rw [mny, prop_out h]
    rw [e0, e1, e2]
    clear e0 e1 e2 hT
    by_cases h0 : t < 0
    · have d0 : decide (t < 0) = true := by simpa using h0
      clear h
      go_enter Tryd.func29, Tryd.ntmps29
      go_wp2
      refine bodyPost_ret (results_cell_row rfl _ _ w.heap.size 48 #[.int .i64 0, .int .i64 0, .int .i64 0] (0, 0) _ rfl (heap_alloc_new w _) Tryd.underlying48 rfl infoP) rfl ?_
      exact ⟨rfl, bel _ _⟩
    · have d0 : decide (t < 0) = false := by simpa using h0
      have d1 : decide (37 ≤ t) = true := by simp; omega
      clear h
      go_enter Tryd.func29, Tryd.ntmps29
      go_wp2
      refine bodyPost_ret (results_cell_row rfl _ _ w.heap.size 48 #[.int .i64 0, .int .i64 0, .int .i64 0] (0, 0) _ rfl (heap_alloc_new w _) Tryd.underlying48 rfl infoP) rfl ?_
      exact ⟨rfl, bel _ _⟩
  · obtain ⟨c0, c1, c2⟩ := (hT.alloc (.cells #[.int .i64 0, .int .i64 0, .int .i64 0] 48)).2.2 k hk
    obtain ⟨a, ha⟩ : ∃ a, cls k = a := ⟨_, rfl⟩
    obtain ⟨b, hb⟩ : ∃ b, elm k = b := ⟨_, rfl⟩
    obtain ⟨c, hc⟩ : ∃ c, mny k = c := ⟨_, rfl⟩
    rw [ha] at c0 ⊢; rw [hb] at c1 ⊢; rw [hc] at c2 ⊢
    have d0 : decide ((k : Int) < 0) = false := by simp
    have d1 : decide (37 ≤ (k : Int)) = false := by simp; omega
    clear ha hb hc hT
    go_enter Tryd.func29, Tryd.ntmps29
    go_wp2
    refine bodyPost_ret (results_cell_row rfl _ _ w.heap.size 48 #[.int .i64 a, .int .i64 b, .int .i64 c] (0, 0) _ rfl (heap_alloc_new w _) Tryd.underlying48 rfl infoP) rfl ?_
    exact ⟨rfl, bel _ _⟩

theorem field_prop (a b c : Int) (W : World) : (Instr.field 48 (.agg #[.int .i64 a, .int .i64 b, .int .i64 c]) 0).run Tryd.prog W = .ok (.int .i64 a) W := by kernel_rfl
theorem belN {n : Nat} {w w' : World} (h : Below n w w') (m : Nat) : Below n w (w'.drewN m) := ⟨h.os, h.tape, h.output, h.size, h.block⟩

theorem legal_any (t : Int) (w : World) (hT : Tab w) :
    Calls Tryd.prog 19 #[.int .i64 t] w fun e w' => e = .returned (.bool (legal t)) ∧ Below w.heap.size w w' := by
  have hl := lookup_any t w hT
  rw [legal]
  obtain ⟨a, ha⟩ : ∃ a, cls t = a := ⟨_, rfl⟩
  rw [ha] at hl ⊢
  have hf := field_prop a (elm t) (mny t)
  have HL := Lib.hid hl
  clear hl ha hT
  go_enter Tryd.func19, Tryd.ntmps19
  go_wp2_with (go_at_call 29; refine HL.out.mono ?_; rintro e w1 ⟨rfl, hb⟩; have HB := Lib.hid hb; clear hb)
  go_ret
  exact ⟨rfl, HB.out⟩

theorem inline_any (t : Int) (w : World) (hT : Tab w) :
    Calls Tryd.prog 21 #[.int .i64 t] w fun e w' => e = .returned (.bool (inl t)) ∧ Below w.heap.size w w' := by
  have hl := lookup_any t w hT
  rw [inl]
  obtain ⟨a, ha⟩ : ∃ a, cls t = a := ⟨_, rfl⟩
  rw [ha] at hl ⊢
  have hf := field_prop a (elm t) (mny t)
  have HL := Lib.hid hl
  clear hl ha hT
  go_enter Tryd.func21, Tryd.ntmps21
  go_wp2_with (go_at_call 29; refine HL.out.mono ?_; rintro e w1 ⟨rfl, hb⟩; have HB := Lib.hid hb; clear hb)
  go_ret
  exact ⟨rfl, HB.out⟩

theorem elem_any (t : Int) (w : World) (hT : Tab w) :
    Calls Tryd.prog 15 #[.int .i64 t] w fun e w' => e = .returned (.tuple #[.int .i64 (elm t), .int .i64 (mny t), .bool (isV t)]) ∧ Below w.heap.size w w' := by
  have hl := lookup_any t w hT
  rw [isV]
  obtain ⟨a, ha⟩ : ∃ a, cls t = a := ⟨_, rfl⟩
  obtain ⟨b, hb⟩ : ∃ b, elm t = b := ⟨_, rfl⟩
  obtain ⟨c, hc⟩ : ∃ c, mny t = c := ⟨_, rfl⟩
  rw [ha, hb, hc] at hl
  rw [ha, hb, hc]
  have HL := Lib.hid hl
  clear hl ha hb hc hT
  by_cases h3 : a = 3
  · subst h3
    go_enter Tryd.func15, Tryd.ntmps15
    go_wp2_with (go_at_call 29; refine HL.out.mono ?_; rintro e w1 ⟨rfl, hb⟩; have HB := Lib.hid hb; clear hb)
    go_quiet (fail)
    go_wp2
    go_ret3
    exact ⟨rfl, belN (HB.out.trans ((bel w1 _).mono HB.out.size)) _⟩
  · have b3 : (a == 3) = false := by simpa using h3
    rw [b3, Bool.false_or]
    clear h3
    go_enter Tryd.func15, Tryd.ntmps15
    go_wp2_with (go_at_call 29; refine HL.out.mono ?_; rintro e w1 ⟨rfl, hb⟩; have HB := Lib.hid hb; clear hb)
    go_quiet (fail)
    go_wp2
    go_ret3
    exact ⟨rfl, belN (HB.out.trans ((bel w1 _).mono HB.out.size)) _⟩

theorem unpack_no (c : Int) (w : World) (hT : Tab w) (h : legal (c / 4) = false) (h0 : 0 ≤ c) (h1 : c ≤ 255) :
    Calls Tryd.prog 12 #[.int .u8 c] w fun e w' => e = .returned (.tuple #[.int .i64 0, .int .i64 0, .int .i64 20]) ∧ Below w.heap.size w w' := by
  have hl := legal_any (c / 4) w hT
  rw [h] at hl
  have HL := Lib.hid hl
  clear hl h hT
  go_enter Tryd.func12, Tryd.ntmps12
  go_wp2_with (go_at_call 19; refine HL.out.mono ?_; rintro e w1 ⟨rfl, hb⟩; have HB := Lib.hid hb; clear hb)
  go_ret3
  exact ⟨rfl, HB.out⟩

theorem unpack_yes (c : Int) (w : World) (hT : Tab w) (h : legal (c / 4) = true) (h0 : 0 ≤ c) (h1 : c ≤ 255) :
    Calls Tryd.prog 12 #[.int .u8 c] w fun e w' => e = .returned (.tuple #[.int .i64 (c / 4), .int .i64 (wid (c % 4)), .int .i64 0]) ∧ Below w.heap.size w w' := by
  have hl := legal_any (c / 4) w hT
  rw [h] at hl
  obtain ⟨j, hj⟩ : ∃ j : Nat, c % 4 = j := ⟨(c % 4).toNat, by omega⟩
  have hj4 : (j : Int) < 4 := by omega
  rw [hj]
  have HL := Lib.hid hl
  have HT := Lib.hid hT
  clear hl h hT
  go_enter Tryd.func12, Tryd.ntmps12
  go_wp2_with (go_at_call 19; refine HL.out.mono ?_; rintro e w1 ⟨rfl, hb⟩; have HB := Lib.hid hb; clear hb)
  have hcell := (HT.out.keep HB.out).2.1 j (by omega)
  go_quiet (fail)
  go_wp2
  go_ret3
  exact ⟨rfl, belN HB.out _⟩
end Go.Proofs.YtocdmjbmeindgaaDoor
