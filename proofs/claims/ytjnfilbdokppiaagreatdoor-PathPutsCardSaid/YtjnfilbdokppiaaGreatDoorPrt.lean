/-
  What is proved here: an argument of type api.Node reads as a tree; no condition but that it reads as data.
-/
import Derived.Test.YtjnfilbdokppiaaGreatDoorProw
namespace Go.Proofs.YtjnfilbdokppiaaGreatDoor
open Go.ChangeShapes Go.WideShapes Go.ChangeAt Go.WideMaps Go.WideElems Go.RowKit U U.Ut

set_option maxRecDepth 100000 in
theorem ntS : ∃ (f0 f1 f2 f3 f4 f5 : Field), Tryz.prog.underlying 38 = some (.struct #[f0, f1, f2, f3, f4, f5]) ∧ f0.type = 3 ∧ f1.type = 2 ∧ f2.type = 34 ∧ f3.type = 9 ∧ f4.type = 35 ∧ f5.type = 36 ∧
    f0.offset = 0 ∧ f1.offset = 1 ∧ f2.offset = 2 ∧ f3.offset = 3 ∧ f4.offset = 4 ∧ f5.offset = 5 := ⟨_, _, _, _, _, _, Tryz.underlying38, rfl, rfl, rfl, rfl, rfl, rfl, rfl, rfl, rfl, rfl, rfl, rfl⟩
set_option maxRecDepth 100000 in
theorem ntN : Nonempty (NT Tryz.prog 38 36 35) := by
  obtain ⟨f0, f1, f2, f3, f4, f5, hs, t0, t1, t2, t3, t4, t5, o0, o1, o2, o3, o4, o5⟩ := ntS
  have e0 : Tryz.prog.underlying f0.type = some (.int .i64) := by rw [t0]; exact Tryz.underlying3
  have e1 : Tryz.prog.underlying f1.type = some (.int .i64) := by rw [t1]; exact Tryz.underlying2
  have e2 : Tryz.prog.underlying f2.type = some (.int .u64) := by rw [t2]; exact Tryz.underlying34
  have e3 : Tryz.prog.underlying f3.type = some .string := by rw [t3]; exact Tryz.underlying9
  have k0 : Tryz.prog.cellsOf f0.type = 1 := by rw [t0]; kernel_rfl
  have k1 : Tryz.prog.cellsOf f1.type = 1 := by rw [t1]; kernel_rfl
  have k2 : Tryz.prog.cellsOf f2.type = 1 := by rw [t2]; kernel_rfl
  have k3 : Tryz.prog.cellsOf f3.type = 1 := by rw [t3]; kernel_rfl
  have k4 : Tryz.prog.cellsOf f4.type = 1 := by rw [t4]; kernel_rfl
  have k5 : Tryz.prog.cellsOf f5.type = 1 := by rw [t5]; kernel_rfl
  have kn : Tryz.prog.cellsOf 38 = 6 := by kernel_rfl
  have ks : Tryz.prog.cellsOf 9 = 1 := by kernel_rfl
  exact ⟨⟨f0, f1, f2, f3, f4, f5, 9, hs, kn, e0, e1, e2, e3, Tryz.underlying35, Tryz.underlying9, ks, Tryz.underlying36, t4, t5, ⟨o0, k0⟩, ⟨o1, k1⟩, ⟨o2, k2⟩, ⟨o3, k3⟩, ⟨o4, k4⟩, ⟨o5, k5⟩⟩⟩

section
variable {H : Type} {enc : TypeId × Value → H}
set_option maxRecDepth 100000 in
theorem open_tree {W : World} {base : Nat} {v : Value} {d : DataW H} {ps : List MemPlace} (hv : Value.okWide Tryz.prog W .any base 38 v)
    (h : DataW.Trod enc Tryz.prog W 0 (fun _ => true) true 38 v d ps) : ∃ t cs, v = .agg (List.toArray cs) ∧ Nd W t cs := by
  obtain ⟨S⟩ := ntN
  obtain ⟨cs, rfl, _⟩ := okWide_struct S.hs hv
  obtain ⟨fuel, hf⟩ := h
  obtain ⟨t, ht⟩ := open_node S fuel _ _ hf
  exact ⟨t, _, rfl, ht⟩
end
end Go.Proofs.YtjnfilbdokppiaaGreatDoor
