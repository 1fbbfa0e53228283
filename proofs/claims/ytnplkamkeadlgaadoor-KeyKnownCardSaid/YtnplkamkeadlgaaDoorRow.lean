/-
  What is proved here: an argument of type api.Node reads as a tree; no condition but that it reads as data; and: the row's condition gives what the table holds; a law that returns true and leaves all memory that was there as it was gives its row; no condition but those that each fact states.
-/
import Derived.Test.YtnplkamkeadlgaaDoorMem
import Derived.Test.YtnplkamkeadlgaaDoorFitB
import Derived.Test.YtnplkamkeadlgaaDoorCards
import Derived.Test.YtnplkamkeadlgaaDoorTie
import Derived.ProofKit
import Derived.LaidMore
import Derived.OpenShut
import Derived.Stop.Joined
import Derived.SevenTiedAt
namespace Go.Proofs.YtnplkamkeadlgaaDoor
open Go.ChangeShapes Go.WideShapes Go.ChangeAt Go.WideMaps Go.WideElems Go.RowKit

set_option maxRecDepth 100000 in
theorem ntS : ∃ (f0 f1 f2 f3 f4 f5 : Field), Tryd.prog.underlying 31 = some (.struct #[f0, f1, f2, f3, f4, f5]) ∧ f0.type = 3 ∧ f1.type = 2 ∧ f2.type = 28 ∧ f3.type = 9 ∧ f4.type = 22 ∧ f5.type = 29 ∧
    f0.offset = 0 ∧ f1.offset = 1 ∧ f2.offset = 2 ∧ f3.offset = 3 ∧ f4.offset = 4 ∧ f5.offset = 5 := ⟨_, _, _, _, _, _, Tryd.underlying31, rfl, rfl, rfl, rfl, rfl, rfl, rfl, rfl, rfl, rfl, rfl, rfl⟩
set_option maxRecDepth 100000 in
theorem ntN : Nonempty (NT Tryd.prog 31 29 22) := by
  obtain ⟨f0, f1, f2, f3, f4, f5, hs, t0, t1, t2, t3, t4, t5, o0, o1, o2, o3, o4, o5⟩ := ntS
  have e0 : Tryd.prog.underlying f0.type = some (.int .i64) := by rw [t0]; exact Tryd.underlying3
  have e1 : Tryd.prog.underlying f1.type = some (.int .i64) := by rw [t1]; exact Tryd.underlying2
  have e2 : Tryd.prog.underlying f2.type = some (.int .u64) := by rw [t2]; exact Tryd.underlying28
  have e3 : Tryd.prog.underlying f3.type = some .string := by rw [t3]; exact Tryd.underlying9
  have k0 : Tryd.prog.cellsOf f0.type = 1 := by rw [t0]; kernel_rfl
  have k1 : Tryd.prog.cellsOf f1.type = 1 := by rw [t1]; kernel_rfl
  have k2 : Tryd.prog.cellsOf f2.type = 1 := by rw [t2]; kernel_rfl
  have k3 : Tryd.prog.cellsOf f3.type = 1 := by rw [t3]; kernel_rfl
  have k4 : Tryd.prog.cellsOf f4.type = 1 := by rw [t4]; kernel_rfl
  have k5 : Tryd.prog.cellsOf f5.type = 1 := by rw [t5]; kernel_rfl
  have kn : Tryd.prog.cellsOf 31 = 6 := by kernel_rfl
  have ks : Tryd.prog.cellsOf 9 = 1 := by kernel_rfl
  exact ⟨⟨f0, f1, f2, f3, f4, f5, 9, hs, kn, e0, e1, e2, e3, Tryd.underlying22, Tryd.underlying9, ks, Tryd.underlying29, t4, t5, ⟨o0, k0⟩, ⟨o1, k1⟩, ⟨o2, k2⟩, ⟨o3, k3⟩, ⟨o4, k4⟩, ⟨o5, k5⟩⟩⟩

section
variable {H : Type} {enc : TypeId × Value → H}
set_option maxRecDepth 100000 in
theorem open_tree {W : World} {base : Nat} {v : Value} {d : DataW H} {ps : List MemPlace} (hv : Value.okWide Tryd.prog W .any base 31 v)
    (h : DataW.Trod enc Tryd.prog W 0 (fun _ => true) true 31 v d ps) : ∃ t cs, v = .agg (List.toArray cs) ∧ Nd W t cs := by
  obtain ⟨S⟩ := ntN
  obtain ⟨cs, rfl, _⟩ := okWide_struct S.hs hv
  obtain ⟨fuel, hf⟩ := h
  obtain ⟨t, ht⟩ := open_node S fuel _ _ hf
  exact ⟨t, _, rfl, ht⟩
end
end Go.Proofs.YtnplkamkeadlgaaDoor
namespace Go.Proofs.YtnplkamkeadlgaaDoor
open Go.ChangeShapes Go.WideShapes Go.ChangeAt Go.WideMaps Go.WideElems Go.RowKit

theorem ownK : ownKnob Tryd.prog.godebug = none := by kernel_rfl
def laidL : List (String × DataW Unit) := [("accordion/tree.properties", Rows.laid_accordion_tree_properties)]
theorem gP : Tryd.prog.globalNamed "accordion/tree.properties" = some 0 := by kernel_rfl
theorem tP : (Tryd.prog.globals[0]?).map (·.type) = some 87 := by kernel_rfl
theorem cInt : Tryd.prog.cellsOf 3 = 1 := by kernel_rfl
theorem cFld : Tryd.prog.cellsOf 84 = 1 := by kernel_rfl
theorem cBool : Tryd.prog.cellsOf 4 = 1 := by kernel_rfl
theorem cProp : Tryd.prog.cellsOf 86 = 3 := by kernel_rfl
theorem laid_eq : (Rows.laid_accordion_tree_properties : DataW Unit) = .agg ((List.range 18).map fun k => .agg [.lit (.int .i64 (usesK k)), .lit (.int .i64 (elmK k)), .lit (.bool (fixK k))]) := by kernel_rfl

section
variable {H : Type} {enc : TypeId × Value → H} {W : World} {base : Nat} {sp : Nat → Bool} {held : Bool} {fuel : Nat} {cs : List Value} {x : DataW H × List MemPlace}
theorem three_of {α : Type} {l : List α} (h : l.length = 3) : ∃ a b c, l = [a, b, c] := by
  match l, h with
  | [a, b, c], _ => exact ⟨a, b, c, rfl⟩
set_option maxRecDepth 100000 in
theorem prop_cells (h : DataW.trod enc Tryd.prog W base sp held fuel 86 cs = some x) {a b : Int} {c : Bool} (hx : x.1 = .agg [.lit (.int .i64 a), .lit (.int .i64 b), .lit (.bool c)]) : cs = [.int .i64 a, .int .i64 b, .bool c] := by
  obtain ⟨ys, n, rfl, rfl, hl, hn, hel⟩ := DataW.trod_struct Tryd.underlying86 h
  obtain ⟨y0, y1, y2, rfl⟩ := three_of hn
  simp only [List.map_cons, List.map_nil, DataW.agg.injEq, List.cons.injEq, and_true] at hx
  have h0 : DataW.trod enc Tryd.prog W base sp held n 84 ((cs.drop 0).take (Tryd.prog.cellsOf 84)) = some y0 := hel 0 _ rfl
  have h1 : DataW.trod enc Tryd.prog W base sp held n 3 ((cs.drop 1).take (Tryd.prog.cellsOf 3)) = some y1 := hel 1 _ rfl
  have h2 : DataW.trod enc Tryd.prog W base sp held n 4 ((cs.drop 2).take (Tryd.prog.cellsOf 4)) = some y2 := hel 2 _ rfl
  obtain ⟨a0, e0, f0, _⟩ := DataW.trod_int Tryd.underlying84 h0
  obtain ⟨a1, e1, f1, _⟩ := DataW.trod_int Tryd.underlying3 h1
  obtain ⟨a2, e2, f2⟩ := DataW.trod_bool Tryd.underlying4 h2
  rw [f0, f1, f2] at hx
  obtain ⟨g0, g1, g2⟩ := hx
  injection g0 with g0; injection g0 with _ g0
  injection g1 with g1; injection g1 with _ g1
  injection g2 with g2; injection g2 with g2
  subst g0; subst g1; subst g2
  rw [cFld] at e0
  rw [cInt] at e1
  rw [cBool] at e2
  have hl3 : cs.length = 3 := hl.trans cProp
  match cs, hl3, e0, e1, e2 with
  | [u, v, z], _, e0, e1, e2 =>
    simp at e0 e1 e2
    rw [e0, e1, e2]
end

set_option maxRecDepth 100000 in
theorem tab_of_laid {W : World} (h : laidMetH Tryd.prog laidL W) : Tab W := by
  rw [MakeChecks.laidMetH_plain _ _ _ (by kernel_rfl)] at h
  obtain ⟨ps, ⟨g0, t0, cs0, f0, p0, q0, hg0, ht0, hv0, hd0, _, _⟩, _, _⟩ := h
  obtain rfl := Option.some.inj (gP.symm.trans hg0)
  obtain rfl := Option.some.inj (tP.symm.trans ht0)
  obtain ⟨xs, m1, rfl, hx1, hlen, hn, hel⟩ := DataW.trod_array Tryd.underlying87 hd0
  have hxs : xs.map (·.1) = (List.range 18).map fun k => (DataW.agg [.lit (.int .i64 (usesK k)), .lit (.int .i64 (elmK k)), .lit (.bool (fixK k))] : DataW Unit) := by
    have := congrArg Prod.fst hx1
    rw [laid_eq] at this
    injection this with this
    exact this.symm
  have hrow : ∀ k : Nat, k < 18 → (cs0.toList.drop (k * 3)).take 3 = [.int .i64 (usesK k), .int .i64 (elmK k), .bool (fixK k)] := by
    intro k hk
    have hkx : k < xs.length := by rw [hn]; exact hk
    have h1 := hel k hk
    rw [List.getElem?_eq_getElem hkx, cProp] at h1
    refine prop_cells h1 ?_
    have h2 : (xs.map (·.1))[k]? = some xs[k].1 := by simp [hkx]
    rw [hxs] at h2
    simp only [List.getElem?_map, List.getElem?_range hk, Option.map_some, Option.some.injEq] at h2
    exact h2.symm
  have hc0 := fun i => World.var?_cell hg0 hv0 i
  have hcell : ∀ k : Nat, k < 18 → W.cell? ⟨0, k * 3, none⟩ = some (.int .i64 (usesK k)) ∧ W.cell? ⟨0, k * 3 + 1, none⟩ = some (.int .i64 (elmK k)) ∧ W.cell? ⟨0, k * 3 + 2, none⟩ = some (.bool (fixK k)) := by
    intro k hk
    have hr := hrow k hk
    have at_ : ∀ j : Nat, j < 3 → cs0[k * 3 + j]? = ([.int .i64 (usesK k), .int .i64 (elmK k), .bool (fixK k)] : List Value)[j]? := by
      intro j hj
      rw [← hr, List.getElem?_take, if_pos hj, List.getElem?_drop, Array.getElem?_toList]
    refine ⟨(hc0 (k * 3)).trans ?_, (hc0 (k * 3 + 1)).trans ?_, (hc0 (k * 3 + 2)).trans ?_⟩
    · exact at_ 0 (by omega)
    · exact at_ 1 (by omega)
    · exact at_ 2 (by omega)
  refine ⟨?_, hcell⟩
  have := World.block_lt_of_cell? W _ (hcell 0 (by omega)).1
  exact this

theorem door_met (os : Os) (args : Array Value) : laidMetH Tryd.prog laidL ((World.doorLaid Tryd.prog 50 os).forCall (fun _ _ => 0) ⟨#[], args, []⟩).memory :=
  laidMetH_of_parts3 (fuel := 8) (laidMet_of_run' 8 (by kernel_rfl) (by kernel_rfl)) (by kernel_rfl) (by kernel_rfl)

section
variable {H : Type} {enc : TypeId × Value → H}
theorem laidK : laidOutB Tryd.prog = true := by kernel_rfl

theorem trodAll_stays {P : Program} (hl : laidOutB P = true) {W W' : World} {sp : Nat → Bool} : ∀ (ts : List TypeId) (vs : List Value) (ds : List (DataW H)) (ps : List MemPlace),
    (∀ t ∈ ts, P.readableRec t = true ∧ t < P.types.size) → DataW.TrodAll enc P W 0 (fun _ => true) true ts vs ds ps → (∀ p ∈ ps, W.sameAt W' p) → (∀ p ∈ ps, sp p.block = true) →
    DataW.TrodAll enc P W' 0 sp true ts vs ds ps := by
  intro ts
  induction ts with
  | nil =>
    intro vs ds ps _ h _ _
    obtain ⟨rfl, rfl, rfl⟩ := trodAll_nil h
    exact trodAll_mk0
  | cons t ts ih =>
    intro vs ds ps hr h hsame hsp
    obtain ⟨v, vs', d, ds', p, q, rfl, rfl, rfl, h0, h1⟩ := trodAll_cons h
    refine trodAll_cons_mk ?_ (ih vs' ds' q (fun t ht => hr t (List.mem_cons_of_mem _ ht)) h1 (fun x hx => hsame x (List.mem_append_right _ hx)) (fun x hx => hsp x (List.mem_append_right _ hx)))
    have := hr t (List.mem_cons_self ..)
    exact WideElems.Trod_stays hl this.1 this.2 h0 (fun x hx => hsame x (List.mem_append_left _ hx)) (fun x hx => hsp x (List.mem_append_left _ hx))

theorem law_post {f : Func} {s : ChangeSpec} {W W' : World} {args : Array Value} {ds gs : List (DataW H)} {before : List MemPlace}
    (hrec : ∀ t ∈ f.params.toList, Tryd.prog.readableRec t = true ∧ t < Tryd.prog.types.size) (hrt : f.resultTypes = #[4]) (hvars : s.vars = [])
    (hres : (s.fn H (ds ++ gs)).results = [.lit (.bool true)]) (hfn : (s.fn H (ds ++ gs)).args = ds) (hfv : (s.fn H (ds ++ gs)).vars = [])
    (hW : DataW.Whole enc Tryd.prog f.params.toList s.vars false W args.toList ds gs before) (hb : Below W.heap.size W W') :
    s.post enc Tryd.prog f false true false false W args (.bool true) W' := by
  have hlt : ∀ p ∈ before, p.block < W.heap.size := fun p hp => hW.lt p hp
  obtain ⟨p, q, hA, hV, he, _, _⟩ := id hW
  refine ⟨ds, gs, before, [], p, [], hW, ?_, ?_, ?_, hb.frame _, fun h => by cases h⟩
  · rw [hres, hrt]
    exact trodAll_cons_mk (shut_bool Tryd.underlying4 _) trodAll_mk0
  · rw [hfn]
    refine trodAll_stays laidK _ _ _ _ hrec hA (fun x hx => hb.same (hlt x (by rw [he]; exact List.mem_append_left _ hx))) (fun x hx => ?_)
    simpa using hlt x (by rw [he]; exact List.mem_append_left _ hx)
  · rw [hfv, hvars]
    rfl

end
end Go.Proofs.YtnplkamkeadlgaaDoor
