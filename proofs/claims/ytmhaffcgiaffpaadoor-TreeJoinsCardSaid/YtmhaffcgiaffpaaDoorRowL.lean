/-
  What is proved here: an argument of type []api.Node reads as a list of trees; no condition but that it reads as data.
-/
import Derived.Test.YtmhaffcgiaffpaaDoorRowN
namespace Go.Proofs.YtmhaffcgiaffpaaDoor
open Go.ChangeShapes Go.WideShapes Go.ChangeAt Go.WideMaps Go.WideElems Go.RowKit

section
variable {H : Type} {enc : TypeId × Value → H} {P : Program} {w : World} {spare : Nat → Bool} {held : Bool} {tn tl tk : TypeId}
theorem open_nodes0 (S : NT P tn tl tk) (fuel : Nat) (v : Value) (x : DataW H × List MemPlace) (g5 : DataW.trod enc P w 0 spare held fuel tl [v] = some x) :
    ∃ A m c L, v = .slice A m c ∧ L.length = m ∧ m ≤ c ∧ c ≤ maxLen ∧ (0 < m → ∃ b off, A = some ⟨b, off, none⟩ ∧ b < w.heap.size ∧ NdL w b L off) := by
  rcases DataW.trod_slice S.u5 g5 with ⟨hc, _⟩ | ⟨a, len, cap, elems, rest, n', hn', hc, _, _, hl, hm, hel, he, _, _⟩
  · obtain rfl : v = .slice none 0 0 := by simpa using hc
    exact ⟨none, 0, 0, [], rfl, rfl, Nat.le_refl _, by unfold maxLen; omega, fun h => absurd h (by omega)⟩
  · obtain rfl : v = .slice (some a) len cap := by simpa using hc
    have each : ∀ j, j < len → ∃ t, ∃ cs', w.cells? 0 (a.add (j * 6)) 6 = some cs' ∧ Nd w t cs' := by
      intro j hj
      have hj' := he j hj
      rw [S.hC, List.getElem?_eq_getElem (by omega)] at hj'
      obtain ⟨cs', h1, h2⟩ := Option.bind_eq_some_iff.1 hj'
      obtain ⟨t, ht⟩ := open_node S n' cs' _ h2
      exact ⟨t, cs', h1, ht⟩
    have hex : ∃ l : List T, l.length = len ∧ ∀ j t, l[j]? = some t → ∃ cs', w.cells? 0 (a.add (j * 6)) 6 = some cs' ∧ Nd w t cs' := by
      clear he hel
      have : ∀ m, m ≤ len → ∃ l : List T, l.length = m ∧ ∀ j t, l[j]? = some t → ∃ cs', w.cells? 0 (a.add (j * 6)) 6 = some cs' ∧ Nd w t cs' := by
        intro m
        induction m with
        | zero => exact fun _ => ⟨[], rfl, fun j t h => by simp at h⟩
        | succ m ihm =>
          intro hm2
          obtain ⟨l, hl1, hl2⟩ := ihm (by omega)
          obtain ⟨t, cs', h1, h2⟩ := each m (by omega)
          refine ⟨l ++ [t], by simp [hl1], fun j t' hj => ?_⟩
          rcases Nat.lt_or_ge j l.length with hlt | hge
          · rw [List.getElem?_append_left hlt] at hj
            exact hl2 j t' hj
          · rw [List.getElem?_append_right hge] at hj
            have hj0 : j - l.length = 0 := by
              have := (List.getElem?_eq_some_iff.1 hj).1
              simp at this
              exact this
            rw [hj0] at hj
            obtain rfl : t = t' := by simpa using hj
            have : j = m := by omega
            subst this
            exact ⟨cs', h1, h2⟩
      exact this len (Nat.le_refl _)
    obtain ⟨l, hl1, hl2⟩ := hex
    refine ⟨some a, len, cap, l, rfl, hl1, hl, hm, fun hpos => ?_⟩
    obtain ⟨b, off, spot⟩ := a
    obtain ⟨t0, ht0⟩ : ∃ t0, l[0]? = some t0 := ⟨_, List.getElem?_eq_getElem (by omega)⟩
    obtain ⟨cs0, h1, h2⟩ := hl2 0 t0 ht0
    obtain ⟨_, hlen0, hcell0⟩ := World.cells?_some h1
    have h00 := hcell0 0 (by omega)
    rw [List.getElem?_eq_getElem (by omega)] at h00
    have hspot : spot = none := by simpa [Addr.add] using World.cell?_spot h00
    subst hspot
    refine ⟨b, off, rfl, ?_, NdL.of l off fun j t hj => ?_⟩
    · have := World.block_lt_of_cell? w _ h00
      simpa [Addr.add] using this
    · obtain ⟨cs', h3, h4⟩ := hl2 j t hj
      obtain ⟨_, _, hcell⟩ := World.cells?_some h3
      refine ⟨cs', fun i hi => ?_, h4⟩
      rw [← hcell i hi]
      congr 1
      unfold Addr.add
      by_cases hj0 : j * 6 = 0
      · have : j = 0 := by omega
        subst this
        by_cases hi0 : i = 0 <;> simp [hi0]
      · by_cases hi0 : i = 0
        · simp [hj0, hi0]
          omega
        · simp [hj0, hi0]
          omega
end
section
variable {H : Type} {enc : TypeId × Value → H}
theorem open_nodes {W : World} {base : Nat} {v : Value} {d : DataW H} {ps : List MemPlace} (hv : Value.okWide Tryd.prog W .any base 24 v)
    (h : DataW.Trod enc Tryd.prog W 0 (fun _ => true) true 24 v d ps) : ∃ A m c L, v = .slice A m c ∧ L.length = m ∧ m ≤ c ∧ c ≤ maxLen ∧ (0 < m → ∃ b off, A = some ⟨b, off, none⟩ ∧ b < W.heap.size ∧ NdL W b L off) := by
  obtain ⟨S⟩ := ntN
  obtain ⟨A, n, c, rfl⟩ := okWide_slice Tryd.underlying24 hv
  obtain ⟨fuel, hf⟩ := h
  have hf' : DataW.trod enc Tryd.prog W 0 (fun _ => true) true fuel 24 [.slice A n c] = some (d, ps) := hf
  exact open_nodes0 S fuel _ _ hf'
end
end Go.Proofs.YtmhaffcgiaffpaaDoor
