/-
  What is proved here: accordionlaw07.KeyKnown returns true; condition: the package-level table of package tree holds when the call begins what its initialiser lays (tied to the program's text by the card).
-/
import Derived.Test.YtnplkamkeadlgaaDoorRow
import Derived.Test.YtnplkamkeadlgaaDoorKKc
import Derived.Test.YtnplkamkeadlgaaDoorKBase
import Derived.Test.YtnplkamkeadlgaaDoorKOrdersW
import Derived.Test.YtnplkamkeadlgaaDoorKFindsW
import Derived.Test.YtnplkamkeadlgaaDoorKHalvesW
import Derived.Test.YtnplkamkeadlgaaDoorKSameW
namespace Go.Proofs.YtnplkamkeadlgaaDoor
open Go.ChangeShapes Go.WideShapes Go.ChangeAt Go.WideMaps Go.WideElems Go.RowKit

/-- The seven keys are in order. -/
theorem less7_eq : ∀ i k, i < 7 → k < 7 → Op.bytesLess (S7 i).toList (S7 k).toList = decide (i < k) := by
  intro i k hi hk
  rcases (show i = 0 ∨ i = 1 ∨ i = 2 ∨ i = 3 ∨ i = 4 ∨ i = 5 ∨ i = 6 by omega) with rfl | rfl | rfl | rfl | rfl | rfl | rfl <;>
  rcases (show k = 0 ∨ k = 1 ∨ k = 2 ∨ k = 3 ∨ k = 4 ∨ k = 5 ∨ k = 6 by omega) with rfl | rfl | rfl | rfl | rfl | rfl | rfl <;>
  · simp only [ByteArray.toList_eq]
    decide +kernel
theorem less7 (w : World) : OKls w := fun W i k _ hi hk => (keyLess_any (S7 i) (S7 k) W).mono fun e w' h => by
  obtain ⟨rfl, rfl⟩ := h
  rw [less7_eq i k hi hk]
  exact ⟨rfl, Below.refl _ _⟩
theorem keyKnown_walk (w : World) (hT : Tab w) : Calls Tryd.prog 3 #[] w fun e w' => e = .returned (.bool true) ∧ Below w.heap.size w w' :=
  known7_core w
    (less7 w)
    (fun W a b v hb ha hb' ⟨ks, hk⟩ => keyOrders_walk a b ks v W (hT.keep hb) ha hb' hk)
    (fun W v k hb hk ⟨ks, hs⟩ => keyFinds_walk ks v k W (hT.keep hb) hs hk)
    (fun W v k hb hk ⟨ks, hs⟩ => keyHalves_walk ks v k W (hT.keep hb) hs hk)
    (fun W hb => works_true W (hT.keep hb))
    (fun W cs hb ⟨t, ht⟩ => keySorts_walk t cs W (hT.keep hb) ht)
    (fun W cs n hb ⟨t, ht⟩ => keySame_walk t cs n W (hT.keep hb) ht)

set_option maxRecDepth 100000 in
theorem keyKnown_lifted (os : Os) (started : os.Started) (H : Type) (enc : TypeId × Value → H) :
    ReturnsInHanded {} Tryd.checked os 3 .any (fun w args => (Rows.keyKnownSpec.pre enc Tryd.prog Tryd.f3 [] false w args ∧ laidMetH Tryd.prog laidL w) ∧ sizedMet enc Tryd.prog Tryd.f3 (OpenSpec.ofChange Rows.keyKnownSpec) false w args)
      (Rows.keyKnownSpec.post enc Tryd.prog Tryd.f3 false true false false) := by
  refine returnsInHanded_of_change_and (C := Tryd.checked) (X := fun w _ => laidMetH Tryd.prog laidL w) (fun _ _ _ hh h => h.of_heap hh) ownK started (by kernel_rfl) Tryd.func3
    (ChangeSpec.witness_shaped (enc := enc) (C := Tryd.checked) (os := os) (X := fun w _ => laidMetH Tryd.prog laidL w) false (World.doorLaid Tryd.prog 50 os) #[] 8 rfl (World.shaped_of_RefB (by kernel_rfl) (by kernel_rfl)) (by kernel_rfl) (by kernel_rfl) (by kernel_rfl) (door_met os _)) ?_
  intro W base args ds gs before hval0 hW _ _ hL _
  have hW' := hW
  obtain ⟨p, q, hA0, hV, rfl, hfz, hnd⟩ := hW
  have hA : DataW.TrodAll enc Tryd.prog W 0 (fun _ => true) true Tryd.f3.params.toList args.toList ds p := hA0
  rw [Tryd.params3] at hA
  obtain ⟨hargs, rfl, rfl⟩ := trodAll_nil hA
  obtain rfl : args = #[] := by cases args; simp_all
  obtain ⟨rfl, rfl⟩ := trodVars_none hV
  refine (keyKnown_walk W (tab_of_laid hL)).mono fun e W' ⟨he, hb⟩ => ?_
  subst he
  exact ⟨_, rfl, law_post (by rw [Tryd.params3]; decide +kernel) rfl rfl rfl rfl rfl hW' hb⟩

theorem keyKnown_row : Rows.KeyKnownSaid :=
  OpenClaim.holds_of_wide 3 Tryd.f3 rfl rfl rfl rfl rfl rfl rfl ⟨rfl, rfl, rfl, rfl, rfl⟩ rfl rfl rfl rfl rfl (by kernel_rfl) Tryd.func3 (by kernel_rfl)
    (of_decide_eq_true (by kernel_rfl)) (by unfold Func.isWrapper; first | (rw [if_pos (by decide +kernel)]; kernel_rfl) | (rw [if_neg (by decide +kernel)]; exact ⟨rfl, rfl⟩))
    (fun os started H enc _ => keyKnown_lifted os started H enc)

theorem keyKnown_holds : Rows.KeyKnownCardSaid :=
  Claim7.holds_tied_plain_at .later [] [.data] true Rows.keyKnownCard.stood.harness false
    keyKnown_row (fun _ h => by cases h) (by kernel_rfl) (fun _ h => by cases h) keyKnown_row_tie rfl ⟨rfl, rfl⟩ (by kernel_rfl) rfl
    (fun f fn hf hfn => by
      obtain rfl : f = 3 := Option.some.inj ((show Tryd.prog.funcNamed "accordion/accordionlaw07.KeyKnown" = some 3 by kernel_rfl).symm.trans hf) |>.symm
      obtain rfl : fn = Tryd.f3 := (Option.some.inj (Tryd.func3.symm.trans hfn)).symm
      exact ⟨by kernel_rfl, fun j t ht => by
        rw [Tryd.params3] at ht
        simp at ht⟩)
    (by kernel_rfl)
end Go.Proofs.YtnplkamkeadlgaaDoor
