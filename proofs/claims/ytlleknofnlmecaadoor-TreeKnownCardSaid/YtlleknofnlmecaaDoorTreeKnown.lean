/-
  What is proved here: accordionlaw06.TreeKnown returns true; condition: the package-level table of package tree holds when the call begins what its initialiser lays (tied to the program's text by the card).
-/
import Derived.Test.YtlleknofnlmecaaDoorRow
import Derived.Test.YtlleknofnlmecaaDoorTKnW
import Derived.Test.YtlleknofnlmecaaDoorChecksW
import Derived.Test.YtlleknofnlmecaaDoorTellsW
import Derived.Test.YtlleknofnlmecaaDoorSizesW
import Derived.Test.YtlleknofnlmecaaDoorSamesW
namespace Go.Proofs.YtlleknofnlmecaaDoor
open Go.ChangeShapes Go.WideShapes Go.ChangeAt Go.WideMaps Go.WideElems Go.RowKit

theorem treeKnown_walk (w : World) (hT : Tab w) : Calls Tryd.prog 3 #[] w fun e w' => e = .returned (.bool true) ∧ Below w.heap.size w w' :=
  known_core w
    (fun W cs hb ⟨t, ht⟩ => treeChecks_walk t cs W (hT.keep hb) ht)
    (fun W cs n k hb ⟨t, ht⟩ h1 h2 => treeTells_walk t cs n k W (hT.keep hb) ht h1 h2)
    (fun W cs n hb ⟨t, ht⟩ => treeSizes_walk t cs n W (hT.keep hb) ht)
    (fun W ca cb hb ⟨t, ht⟩ ⟨u, hu⟩ => treeSames_walk t ca u cb W (hT.keep hb) ht hu)
    (fun W hb => works_true W (hT.keep hb))

set_option maxRecDepth 100000 in
theorem treeKnown_lifted (os : Os) (started : os.Started) (H : Type) (enc : TypeId × Value → H) :
    ReturnsInHanded {} Tryd.checked os 3 .any (fun w args => (Rows.treeKnownSpec.pre enc Tryd.prog Tryd.f3 [] false w args ∧ laidMetH Tryd.prog laidL w) ∧ sizedMet enc Tryd.prog Tryd.f3 (OpenSpec.ofChange Rows.treeKnownSpec) false w args)
      (Rows.treeKnownSpec.post enc Tryd.prog Tryd.f3 false true false false) := by
  refine returnsInHanded_of_change_and (C := Tryd.checked) (X := fun w _ => laidMetH Tryd.prog laidL w) (fun _ _ _ hh h => h.of_heap hh) ownK started (by kernel_rfl) Tryd.func3
    (ChangeSpec.witness_shaped (enc := enc) (C := Tryd.checked) (os := os) (X := fun w _ => laidMetH Tryd.prog laidL w) false (World.doorLaid Tryd.prog 50 os) #[] 8 rfl (World.shaped_of_RefB (by kernel_rfl) (by kernel_rfl)) (by kernel_rfl) (by kernel_rfl) (by kernel_rfl) (door_met os _)) ?_
  intro W base args ds gs before hval0 hW _ _ hL _
  have hW' := hW
  obtain ⟨p, q, hA0, hV, rfl, hfz, hnd⟩ := hW
  have hA : DataW.TrodAll enc Tryd.prog W 0 (fun _ => true) true Tryd.f3.params.toList args.toList ds p := hA0
  rw [Tryd.params3] at hA
  obtain ⟨hargs, rfl, rfl⟩ := trodAll_nil hA
  obtain rfl : args = #[] := by cases args; simp_all
  obtain ⟨rfl, rfl⟩ := trodVars_none hV
  refine (treeKnown_walk W (tab_of_laid hL)).mono fun e W' ⟨he, hb⟩ => ?_
  subst he
  exact ⟨_, rfl, law_post (by rw [Tryd.params3]; decide +kernel) rfl rfl rfl rfl rfl hW' hb⟩

theorem treeKnown_row : Rows.TreeKnownSaid :=
  OpenClaim.holds_of_wide 3 Tryd.f3 rfl rfl rfl rfl rfl rfl rfl ⟨rfl, rfl, rfl, rfl, rfl⟩ rfl rfl rfl rfl rfl (by kernel_rfl) Tryd.func3 (by kernel_rfl)
    (of_decide_eq_true (by kernel_rfl)) (by unfold Func.isWrapper; first | (rw [if_pos (by decide +kernel)]; kernel_rfl) | (rw [if_neg (by decide +kernel)]; exact ⟨rfl, rfl⟩))
    (fun os started H enc _ => treeKnown_lifted os started H enc)

theorem treeKnown_holds : Rows.TreeKnownCardSaid :=
  Claim7.holds_tied_plain_at .later [] [.data] true Rows.treeKnownCard.stood.harness false
    treeKnown_row (fun _ h => by cases h) (by kernel_rfl) (fun _ h => by cases h) treeKnown_row_tie rfl ⟨rfl, rfl⟩ (by kernel_rfl) rfl
    (fun f fn hf hfn => by
      obtain rfl : f = 3 := Option.some.inj ((show Tryd.prog.funcNamed "accordion/accordionlaw06.TreeKnown" = some 3 by kernel_rfl).symm.trans hf) |>.symm
      obtain rfl : fn = Tryd.f3 := (Option.some.inj (Tryd.func3.symm.trans hfn)).symm
      exact ⟨by kernel_rfl, fun j t ht => by
        rw [Tryd.params3] at ht
        simp at ht⟩)
    (by kernel_rfl)
end Go.Proofs.YtlleknofnlmecaaDoor
