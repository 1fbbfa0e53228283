/-
  What is proved here: an argument that is an array of two paths, opened; no condition but that it reads as its type asks.
-/
import Derived.Test.YtjnfilbdokppiaaGreatDoorProw
namespace Go.Proofs.YtjnfilbdokppiaaGreatDoor
open Go.ChangeShapes Go.WideShapes Go.ChangeAt Go.WideMaps Go.WideElems Go.RowKit Go.ChangeMaps

theorem arr_two {cs : Array Value} (h : cs.size = 2) : ∃ a b, cs = #[a, b] := by
  obtain ⟨l⟩ := cs
  match l, h with
  | [a, b], _ => exact ⟨a, b, rfl⟩
section
variable {H : Type} {enc : TypeId × Value → H}
set_option maxRecDepth 100000 in
theorem open_two {W : World} {base : Nat} {v : Value} {d : DataW H} {ps : List MemPlace} (hv : Value.okWide Tryz.prog W .any base 48 v)
    (h : DataW.Trod enc Tryz.prog W 0 (fun _ => true) true 48 v d ps) : ∃ l l' a b, v = .agg #[a, b] ∧ RdP W a l ∧ RdP W b l' := by
  obtain ⟨S⟩ := stN
  have hs : ∃ cs, v = .agg cs ∧ cs.size = Tryz.prog.cellsOf 48 := by
    simp only [Value.okWide, Tryz.underlying48] at hv
    obtain ⟨cs, h1, h2, _⟩ := hv
    exact ⟨cs, h1, h2⟩
  obtain ⟨cs, rfl, hsz⟩ := hs
  obtain ⟨c0, c1, rfl⟩ := arr_two (hsz.trans (by kernel_rfl))
  obtain ⟨fuel, hf⟩ := h
  obtain ⟨xs, m, _, _, _, hl, he⟩ := DataW.trod_array Tryz.underlying48 hf
  have e1 : Tryz.prog.cellsOf 22 = 1 := by kernel_rfl
  have h0 := he 0 (by omega)
  have h1 := he 1 (by omega)
  rw [e1] at h0 h1
  have h0' : DataW.trod enc Tryz.prog W 0 (fun _ => true) true m 22 [c0] = xs[0]? := by simpa [Value.cells] using h0
  have h1' : DataW.trod enc Tryz.prog W 0 (fun _ => true) true m 22 [c1] = xs[1]? := by simpa [Value.cells] using h1
  rw [List.getElem?_eq_getElem (by omega)] at h0' h1'
  obtain ⟨l, hr⟩ := open_steps S m _ _ h0'
  obtain ⟨l', hr'⟩ := open_steps S m _ _ h1'
  exact ⟨l, l', c0, c1, rfl, hr, hr'⟩
end
end Go.Proofs.YtjnfilbdokppiaaGreatDoor
