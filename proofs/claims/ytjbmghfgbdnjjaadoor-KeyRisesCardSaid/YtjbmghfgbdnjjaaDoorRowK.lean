/-
  What is proved here: an argument of type []string is a list of strings in memory; no condition.
-/
import Derived.Test.YtjbmghfgbdnjjaaDoorRowN
import Derived.ChangeMaps5
namespace Go.Proofs.YtjbmghfgbdnjjaaDoor
open Go.ChangeShapes Go.WideShapes Go.ChangeAt Go.WideMaps Go.WideElems Go.RowKit

section
variable {H : Type} {enc : TypeId × Value → H}
set_option maxRecDepth 100000 in
theorem open_texts {W : World} {base : Nat} {v : Value} {d : DataW H} {ps : List MemPlace} (hv : Value.okWide Tryd.prog W .any base 22 v)
    (h : DataW.Trod enc Tryd.prog W 0 (fun _ => true) true 22 v d ps) : ∃ ks, RdS W v ks := by
  obtain ⟨S⟩ := ntN
  obtain ⟨A, n, c, rfl⟩ := okWide_slice Tryd.underlying22 hv
  obtain ⟨fuel, hf⟩ := h
  have hf' : DataW.trod enc Tryd.prog W 0 (fun _ => true) true fuel 22 [.slice A n c] = some (d, ps) := hf
  exact open_keys S hf'
end
end Go.Proofs.YtjbmghfgbdnjjaaDoor
