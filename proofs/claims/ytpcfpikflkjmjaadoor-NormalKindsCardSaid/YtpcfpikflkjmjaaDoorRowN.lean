/-
  What is proved here: an argument of type api.Node reads as a tree; no condition but that it reads as data.
-/
import Derived.Test.YtpcfpikflkjmjaaDoorRow
import Derived.Test.YtpcfpikflkjmjaaDoorMem
namespace Go.Proofs.YtpcfpikflkjmjaaDoor
open Go.ChangeShapes Go.WideShapes Go.ChangeAt Go.WideMaps Go.WideElems Go.RowKit

set_option maxRecDepth 100000 in
theorem ntS : ∃ (f0 f1 f2 f3 f4 f5 : Field), Tryd.prog.underlying 26 = some (.struct #[f0, f1, f2, f3, f4, f5]) ∧ f0.type = 3 ∧ f1.type = 2 ∧ f2.type = 22 ∧ f3.type = 9 ∧ f4.type = 23 ∧ f5.type = 24 ∧
    f0.offset = 0 ∧ f1.offset = 1 ∧ f2.offset = 2 ∧ f3.offset = 3 ∧ f4.offset = 4 ∧ f5.offset = 5 := ⟨_, _, _, _, _, _, Tryd.underlying26, rfl, rfl, rfl, rfl, rfl, rfl, rfl, rfl, rfl, rfl, rfl, rfl⟩
set_option maxRecDepth 100000 in
theorem ntN : Nonempty (NT Tryd.prog 26 24 23) := by
  obtain ⟨f0, f1, f2, f3, f4, f5, hs, t0, t1, t2, t3, t4, t5, o0, o1, o2, o3, o4, o5⟩ := ntS
  have e0 : Tryd.prog.underlying f0.type = some (.int .i64) := by rw [t0]; exact Tryd.underlying3
  have e1 : Tryd.prog.underlying f1.type = some (.int .i64) := by rw [t1]; exact Tryd.underlying2
  have e2 : Tryd.prog.underlying f2.type = some (.int .u64) := by rw [t2]; exact Tryd.underlying22
  have e3 : Tryd.prog.underlying f3.type = some .string := by rw [t3]; exact Tryd.underlying9
  have k0 : Tryd.prog.cellsOf f0.type = 1 := by rw [t0]; kernel_rfl
  have k1 : Tryd.prog.cellsOf f1.type = 1 := by rw [t1]; kernel_rfl
  have k2 : Tryd.prog.cellsOf f2.type = 1 := by rw [t2]; kernel_rfl
  have k3 : Tryd.prog.cellsOf f3.type = 1 := by rw [t3]; kernel_rfl
  have k4 : Tryd.prog.cellsOf f4.type = 1 := by rw [t4]; kernel_rfl
  have k5 : Tryd.prog.cellsOf f5.type = 1 := by rw [t5]; kernel_rfl
  have kn : Tryd.prog.cellsOf 26 = 6 := by kernel_rfl
  have ks : Tryd.prog.cellsOf 9 = 1 := by kernel_rfl
  exact ⟨⟨f0, f1, f2, f3, f4, f5, 9, hs, kn, e0, e1, e2, e3, Tryd.underlying23, Tryd.underlying9, ks, Tryd.underlying24, t4, t5, ⟨o0, k0⟩, ⟨o1, k1⟩, ⟨o2, k2⟩, ⟨o3, k3⟩, ⟨o4, k4⟩, ⟨o5, k5⟩⟩⟩

section
variable {H : Type} {enc : TypeId × Value → H}
set_option maxRecDepth 100000 in
theorem open_tree {W : World} {base : Nat} {v : Value} {d : DataW H} {ps : List MemPlace} (hv : Value.okWide Tryd.prog W .any base 26 v)
    (h : DataW.Trod enc Tryd.prog W 0 (fun _ => true) true 26 v d ps) : ∃ t cs, v = .agg (List.toArray cs) ∧ Nd W t cs := by
  obtain ⟨S⟩ := ntN
  obtain ⟨cs, rfl, _⟩ := okWide_struct S.hs hv
  obtain ⟨fuel, hf⟩ := h
  obtain ⟨t, ht⟩ := open_node S fuel _ _ hf
  exact ⟨t, _, rfl, ht⟩
end
end Go.Proofs.YtpcfpikflkjmjaaDoor
