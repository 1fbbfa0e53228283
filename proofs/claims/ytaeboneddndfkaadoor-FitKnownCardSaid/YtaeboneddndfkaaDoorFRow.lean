/-
  What is proved here: the row's condition gives what the tables hold; a law that returns true and leaves all memory that was there as it was gives its row; no condition but those that each fact states.
-/
import Derived.Test.YtaeboneddndfkaaDoorFWk
import Derived.Test.YtaeboneddndfkaaDoorCards
import Derived.Test.YtaeboneddndfkaaDoorTie
import Derived.ProofKit
import Derived.LaidMore
import Derived.OpenShut
import Derived.Stop.Joined
import Derived.SevenTiedAt
namespace Go.Proofs.YtaeboneddndfkaaDoor
open Go.ChangeShapes Go.WideShapes Go.ChangeAt Go.WideMaps Go.WideElems Go.RowKit Tg

theorem laidK : laidOutB Tryd.prog = true := by kernel_rfl
theorem ownK : ownKnob Tryd.prog.godebug = none := by kernel_rfl
def laidL : List (String × DataW Unit) := [("accordion/tag.properties", Rows.laid_accordion_tag_properties)]
theorem gP : Tryd.prog.globalNamed "accordion/tag.properties" = some 0 := by kernel_rfl
theorem tP : (Tryd.prog.globals[0]?).map (·.type) = some 72 := by kernel_rfl
theorem cInt : Tryd.prog.cellsOf 3 = 1 := by kernel_rfl
theorem cCls : Tryd.prog.cellsOf 65 = 1 := by kernel_rfl
theorem cShape : Tryd.prog.cellsOf 67 = 2 := by kernel_rfl
theorem cProp : Tryd.prog.cellsOf 69 = 3 := by kernel_rfl

section
variable {H : Type} {enc : TypeId × Value → H} {W : World} {base : Nat} {sp : Nat → Bool} {held : Bool} {fuel : Nat} {cs : List Value} {x : DataW H × List MemPlace}
theorem two_of {α : Type} {l : List α} (h : l.length = 2) : ∃ a b, l = [a, b] := by
  match l, h with
  | [a, b], _ => exact ⟨a, b, rfl⟩
theorem take_two {α : Type} {l : List α} {a b : α} (h : l.length = 2) (h0 : (l.drop 0).take 1 = [a]) (h1 : (l.drop 1).take 1 = [b]) : l = [a, b] := by
  obtain ⟨c, d, rfl⟩ := two_of h
  simp at h0 h1
  rw [h0, h1]
theorem shape_cells (h : DataW.trod enc Tryd.prog W base sp held fuel 67 cs = some x) {b c : Int} (hx : x.1 = .agg [.lit (.int .i64 b), .lit (.int .i64 c)]) : cs = [.int .i64 b, .int .i64 c] := by
  obtain ⟨ys, n, rfl, rfl, hl, hn, hel⟩ := DataW.trod_struct Tryd.underlying67 h
  obtain ⟨y0, y1, rfl⟩ := two_of hn
  simp only [List.map_cons, List.map_nil, DataW.agg.injEq, List.cons.injEq, and_true] at hx
  have h0 : DataW.trod enc Tryd.prog W base sp held n 3 ((cs.drop 0).take (Tryd.prog.cellsOf 3)) = some y0 := hel 0 _ rfl
  have h1 : DataW.trod enc Tryd.prog W base sp held n 3 ((cs.drop 1).take (Tryd.prog.cellsOf 3)) = some y1 := hel 1 _ rfl
  obtain ⟨a0, e0, f0, _⟩ := DataW.trod_int Tryd.underlying3 h0
  obtain ⟨a1, e1, f1, _⟩ := DataW.trod_int Tryd.underlying3 h1
  rw [f0, f1] at hx
  obtain ⟨g0, g1⟩ := hx
  injection g0 with g0; injection g0 with _ g0
  injection g1 with g1; injection g1 with _ g1
  subst g0; subst g1
  rw [cInt] at e0 e1
  exact take_two (hl.trans cShape) e0 e1
theorem prop_cells (h : DataW.trod enc Tryd.prog W base sp held fuel 69 cs = some x) {a b c : Int} (hx : x.1 = .agg [.lit (.int .i64 a), .agg [.lit (.int .i64 b), .lit (.int .i64 c)]]) : cs = [.int .i64 a, .int .i64 b, .int .i64 c] := by
  obtain ⟨ys, n, rfl, rfl, hl, hn, hel⟩ := DataW.trod_struct Tryd.underlying69 h
  obtain ⟨y0, y1, rfl⟩ := two_of hn
  simp only [List.map_cons, List.map_nil, DataW.agg.injEq, List.cons.injEq, and_true] at hx
  have h0 : DataW.trod enc Tryd.prog W base sp held n 65 ((cs.drop 0).take (Tryd.prog.cellsOf 65)) = some y0 := hel 0 _ rfl
  have h1 : DataW.trod enc Tryd.prog W base sp held n 67 ((cs.drop 1).take (Tryd.prog.cellsOf 67)) = some y1 := hel 1 _ rfl
  obtain ⟨a0, e0, f0, _⟩ := DataW.trod_int Tryd.underlying65 h0
  have e1 := shape_cells h1 hx.2
  have g0 := hx.1
  rw [f0] at g0
  injection g0 with g0; injection g0 with _ g0
  subst g0
  rw [cCls] at e0
  rw [cShape] at e1
  have hl3 : cs.length = 3 := hl.trans cProp
  match cs, hl3, e0, e1 with
  | [u, v, z], _, e0, e1 =>
    simp at e0 e1
    rw [e0, e1.1, e1.2]
end

theorem tab_of_laid {W : World} (h : laidMetH Tryd.prog laidL W) : Tab W := by
  rw [MakeChecks.laidMetH_plain _ _ _ (by kernel_rfl)] at h
  obtain ⟨ps, ⟨g0, t0, cs0, f0, p0, q0, hg0, ht0, hv0, hd0, _, _⟩, _, _⟩ := h
  obtain rfl := Option.some.inj (gP.symm.trans hg0)
  obtain rfl := Option.some.inj (tP.symm.trans ht0)
  obtain ⟨xs, m1, rfl, hx1, hlen, hn, hel⟩ := DataW.trod_array Tryd.underlying72 hd0
  have hxs : xs.map (·.1) = props.map fun p => (DataW.agg [.lit (.int .i64 p.1), .agg [.lit (.int .i64 p.2.1), .lit (.int .i64 p.2.2)]] : DataW Unit) := by
    have := congrArg Prod.fst hx1
    injection this with this
    exact this.symm
  have hrow : ∀ k : Nat, k < 37 → (cs0.toList.drop (k * 3)).take 3 = [.int .i64 (cls k), .int .i64 (elm k), .int .i64 (mny k)] := by
    intro k hk
    have hkx : k < xs.length := by rw [hn]; exact hk
    have h1 := hel k hk
    rw [List.getElem?_eq_getElem hkx, cProp] at h1
    refine prop_cells h1 ?_
    have h2 : (xs.map (·.1))[k]? = some xs[k].1 := by simp [hkx]
    rw [hxs] at h2
    have hkp : k < props.length := hk
    simp only [List.getElem?_map, List.getElem?_eq_getElem hkp, Option.map_some, Option.some.injEq] at h2
    rw [← h2, cls, elm, mny, prop_nat, List.getD_eq_getElem?_getD, List.getElem?_eq_getElem hkp]
    rfl
  have hc0 := fun i => World.var?_cell hg0 hv0 i
  have hcell : ∀ k : Nat, k < 37 → W.cell? ⟨0, k * 3, none⟩ = some (.int .i64 (cls k)) ∧ W.cell? ⟨0, k * 3 + 1, none⟩ = some (.int .i64 (elm k)) ∧ W.cell? ⟨0, k * 3 + 2, none⟩ = some (.int .i64 (mny k)) := by
    intro k hk
    have hr := hrow k hk
    have at_ : ∀ j : Nat, j < 3 → cs0[k * 3 + j]? = ([.int .i64 (cls k), .int .i64 (elm k), .int .i64 (mny k)] : List Value)[j]? := by
      intro j hj
      rw [← hr, List.getElem?_take, if_pos hj, List.getElem?_drop, Array.getElem?_toList]
    refine ⟨(hc0 (k * 3)).trans ?_, (hc0 (k * 3 + 1)).trans ?_, (hc0 (k * 3 + 2)).trans ?_⟩
    · exact at_ 0 (by omega)
    · exact at_ 1 (by omega)
    · exact at_ 2 (by omega)
  exact ⟨World.block_lt_of_cell? W _ (hcell 0 (by omega)).1, hcell⟩

theorem door_met (os : Os) (args : Array Value) : laidMetH Tryd.prog laidL ((World.doorLaid Tryd.prog 50 os).forCall (fun _ _ => 0) ⟨#[], args, []⟩).memory :=
  laidMetH_of_parts3 (fuel := 8) (laidMet_of_run' 8 (by kernel_rfl) (by kernel_rfl)) (by kernel_rfl) (by kernel_rfl)

section
variable {H : Type} {enc : TypeId × Value → H}

theorem trodAll_stays {P : Program} (hl : laidOutB P = true) {W W' : World} {sp : Nat → Bool} : ∀ (ts : List TypeId) (vs : List Value) (ds : List (DataW H)) (ps : List MemPlace),
    (∀ t ∈ ts, P.readableRec t = true ∧ t < P.types.size) → DataW.TrodAll enc P W 0 (fun _ => true) true ts vs ds ps → (∀ p ∈ ps, W.sameAt W' p) → (∀ p ∈ ps, sp p.block = true) →
    DataW.TrodAll enc P W' 0 sp true ts vs ds ps := by
  intro ts
  induction ts with
  | nil =>
    intro vs ds ps _ h _ _
    obtain ⟨rfl, rfl, rfl⟩ := trodAll_nil h
    exact trodAll_mk0
  | cons t ts ih =>
    intro vs ds ps hr h hsame hsp
    obtain ⟨v, vs', d, ds', p, q, rfl, rfl, rfl, h0, h1⟩ := trodAll_cons h
    refine trodAll_cons_mk ?_ (ih vs' ds' q (fun t ht => hr t (List.mem_cons_of_mem _ ht)) h1 (fun x hx => hsame x (List.mem_append_right _ hx)) (fun x hx => hsp x (List.mem_append_right _ hx)))
    have := hr t (List.mem_cons_self ..)
    exact WideElems.Trod_stays hl this.1 this.2 h0 (fun x hx => hsame x (List.mem_append_left _ hx)) (fun x hx => hsp x (List.mem_append_left _ hx))

theorem law_post {f : Func} {s : ChangeSpec} {W W' : World} {args : Array Value} {ds gs : List (DataW H)} {before : List MemPlace}
    (hrec : ∀ t ∈ f.params.toList, Tryd.prog.readableRec t = true ∧ t < Tryd.prog.types.size) (hrt : f.resultTypes = #[4]) (hvars : s.vars = [])
    (hres : (s.fn H (ds ++ gs)).results = [.lit (.bool true)]) (hfn : (s.fn H (ds ++ gs)).args = ds) (hfv : (s.fn H (ds ++ gs)).vars = [])
    (hW : DataW.Whole enc Tryd.prog f.params.toList s.vars false W args.toList ds gs before) (hb : Below W.heap.size W W') :
    s.post enc Tryd.prog f false true false false W args (.bool true) W' := by
  have hlt : ∀ p ∈ before, p.block < W.heap.size := fun p hp => hW.lt p hp
  obtain ⟨p, q, hA, hV, he, _, _⟩ := id hW
  refine ⟨ds, gs, before, [], p, [], hW, ?_, ?_, ?_, hb.frame _, fun h => by cases h⟩
  · rw [hres, hrt]
    exact trodAll_cons_mk (shut_bool Tryd.underlying4 _) trodAll_mk0
  · rw [hfn]
    refine trodAll_stays laidK _ _ _ _ hrec hA (fun x hx => hb.same (hlt x (by rw [he]; exact List.mem_append_left _ hx))) (fun x hx => ?_)
    simpa using hlt x (by rw [he]; exact List.mem_append_left _ hx)
  · rw [hfv, hvars]
    rfl

end
end Go.Proofs.YtaeboneddndfkaaDoor
