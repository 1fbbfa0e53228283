/-
  What is proved here: the row's condition gives what the tables hold that package path and its library read; an argument of type []api.Step reads as a path; a law that returns true and leaves all memory that was there as it was gives its row; no condition but those that each fact states.
-/
import Derived.Test.YtjnfilbdokppiaaGreatDoorPsh
import Derived.Test.YtjnfilbdokppiaaGreatDoorCards
import Derived.Test.YtjnfilbdokppiaaGreatDoorTie
import Derived.ProofKit
import Derived.LaidMore
import Derived.OpenShut
import Derived.Lay
import Derived.Lib.LaidU8T
import Derived.Lib.LaidTab
import Derived.LaidLaws
import Derived.PinnedBridge
import Derived.Stop.LaidErr
import Derived.Stop.Joined
import Derived.SevenTiedAt
import Derived.ChangeMaps5
namespace Go.Proofs.YtjnfilbdokppiaaGreatDoor
open Go.ChangeShapes Go.WideShapes Go.ChangeAt Go.WideMaps Go.WideElems Go.RowKit U U.Ut

theorem laidK : laidOutB Tryz.prog = true := by kernel_rfl
theorem ownK : ownKnob Tryz.prog.godebug = none := by kernel_rfl
noncomputable def laidL : List (String × DataW Unit) := [("math/bits.deBruijn32tab", Rows.laid_math_bits_deBruijn32tab), ("math/bits.deBruijn64tab", Rows.laid_math_bits_deBruijn64tab), ("internal/strconv.uint64pow10", Rows.laid_internal_strconv_uint64pow10), ("unicode/utf8.acceptRanges", Rows.laid_unicode_utf8_acceptRanges),
  ("strconv.ErrRange", Rows.laid_strconv_ErrRange), ("strconv.ErrSyntax", Rows.laid_strconv_ErrSyntax), ("accordion/tree.properties", Rows.laid_accordion_tree_properties), ("unicode/utf8.first", Rows.laid_unicode_utf8_first)]
theorem accept_eq : (Rows.laid_unicode_utf8_acceptRanges : DataW Unit) = Lib.acceptData := by kernel_rfl
theorem pow_eq : (Rows.laid_internal_strconv_uint64pow10 : DataW Unit) = Lib.tabData .u64 Lib.pow10Tab := by kernel_rfl
theorem cStr : Tryz.prog.cellsOf 9 = 1 := by kernel_rfl
theorem gES : Tryz.prog.globalNamed "strconv.ErrSyntax" = some 4 := by kernel_rfl
theorem gER : Tryz.prog.globalNamed "strconv.ErrRange" = some 5 := by kernel_rfl
theorem starE : "*" ++ "errors.errorString" = "*errors.errorString" := by decide
theorem nameE (u : TypeId) (h : Tryz.prog.typeName? 3 u = some "*errors.errorString") : u = 188 :=
  typeName_ptr_named (nm := "errors.errorString") (by rw [starE]; kernel_rfl) (by kernel_rfl) (by decide) u (by rw [starE]; exact h)
theorem gP : Tryz.prog.globalNamed "accordion/tree.properties" = some 0 := by kernel_rfl
theorem tP : (Tryz.prog.globals[0]?).map (·.type) = some 128 := by kernel_rfl
theorem cInt : Tryz.prog.cellsOf 3 = 1 := by kernel_rfl
theorem cFld : Tryz.prog.cellsOf 125 = 1 := by kernel_rfl
theorem cBool : Tryz.prog.cellsOf 4 = 1 := by kernel_rfl
theorem cProp : Tryz.prog.cellsOf 127 = 3 := by kernel_rfl
theorem laid_eq : (Rows.laid_accordion_tree_properties : DataW Unit) = .agg ((List.range 18).map fun k => .agg [.lit (.int .i64 (usesK k)), .lit (.int .i64 (elmK k)), .lit (.bool (fixK k))]) := by kernel_rfl

section
variable {H : Type} {enc : TypeId × Value → H} {W : World} {base : Nat} {sp : Nat → Bool} {held : Bool} {fuel : Nat} {cs : List Value} {x : DataW H × List MemPlace}
theorem three_of {α : Type} {l : List α} (h : l.length = 3) : ∃ a b c, l = [a, b, c] := by
  match l, h with
  | [a, b, c], _ => exact ⟨a, b, c, rfl⟩
set_option maxRecDepth 100000 in
theorem prop_cells (h : DataW.trod enc Tryz.prog W base sp held fuel 127 cs = some x) {a b : Int} {c : Bool} (hx : x.1 = .agg [.lit (.int .i64 a), .lit (.int .i64 b), .lit (.bool c)]) : cs = [.int .i64 a, .int .i64 b, .bool c] := by
  obtain ⟨ys, n, rfl, rfl, hl, hn, hel⟩ := DataW.trod_struct Tryz.underlying127 h
  obtain ⟨y0, y1, y2, rfl⟩ := three_of hn
  simp only [List.map_cons, List.map_nil, DataW.agg.injEq, List.cons.injEq, and_true] at hx
  have h0 : DataW.trod enc Tryz.prog W base sp held n 125 ((cs.drop 0).take (Tryz.prog.cellsOf 125)) = some y0 := hel 0 _ rfl
  have h1 : DataW.trod enc Tryz.prog W base sp held n 3 ((cs.drop 1).take (Tryz.prog.cellsOf 3)) = some y1 := hel 1 _ rfl
  have h2 : DataW.trod enc Tryz.prog W base sp held n 4 ((cs.drop 2).take (Tryz.prog.cellsOf 4)) = some y2 := hel 2 _ rfl
  obtain ⟨a0, e0, f0, _⟩ := DataW.trod_int Tryz.underlying125 h0
  obtain ⟨a1, e1, f1, _⟩ := DataW.trod_int Tryz.underlying3 h1
  obtain ⟨a2, e2, f2⟩ := DataW.trod_bool Tryz.underlying4 h2
  rw [f0, f1, f2] at hx
  obtain ⟨g0, g1, g2⟩ := hx
  injection g0 with g0; injection g0 with _ g0
  injection g1 with g1; injection g1 with _ g1
  injection g2 with g2; injection g2 with g2
  subst g0; subst g1; subst g2
  rw [cFld] at e0
  rw [cInt] at e1
  rw [cBool] at e2
  have hl3 : cs.length = 3 := hl.trans cProp
  match cs, hl3, e0, e1, e2 with
  | [u, v, z], _, e0, e1, e2 =>
    simp at e0 e1 e2
    rw [e0, e1, e2]
end

set_option maxRecDepth 100000 in
theorem tab_of_laid {W : World} (h : laidMetH Tryz.prog laidL W) : LP W.heap.size W := by
  rw [MakeChecks.laidMetH_plain _ _ _ (by kernel_rfl)] at h
  have h1 := Lib.laidMet.reads h (n := "unicode/utf8.first") (d := Rows.laid_unicode_utf8_first) (by simp [laidL])
  have h2 := Lib.laidMet.reads h (n := "unicode/utf8.acceptRanges") (d := Rows.laid_unicode_utf8_acceptRanges) (by simp [laidL])
  have h3 := Lib.laidMet.reads h (n := "accordion/tree.properties") (d := Rows.laid_accordion_tree_properties) (by simp [laidL])
  rw [accept_eq] at h2
  rw [show (Rows.laid_unicode_utf8_first : DataW Unit) = Lib.firstData from Pinned.utf8First_eq] at h1
  have hT : Lib.Utf8Tabs 2 3 W := utf8Tabs_of_readsT (U8Types.of196 Tryz.lays196) ⟨by kernel_rfl, by kernel_rfl, by kernel_rfl, by kernel_rfl, by kernel_rfl, by kernel_rfl, by kernel_rfl⟩ h1 h2
  have hP : Lib.TabIs Tryz.prog W "internal/strconv.uint64pow10" .u64 Lib.pow10Tab := by
    have h' := h.tail.tail
    rw [pow_eq] at h'
    exact Lib.tabIs_of_head pow_glob (by kernel_rfl) Tryz.underlying196 Tryz.underlying34 (by kernel_rfl) (by kernel_rfl) h'
  have hER := laid_sentinel h.tail.tail.tail.tail gER (ti := 67) (by kernel_rfl) Tryz.underlying67 nameE Tryz.underlying188 Tryz.underlying190 rfl rfl Tryz.underlying9 (by kernel_rfl) cStr
  have hES := laid_sentinel h.tail.tail.tail.tail.tail gES (ti := 67) (by kernel_rfl) Tryz.underlying67 nameE Tryz.underlying188 Tryz.underlying190 rfl rfl Tryz.underlying9 (by kernel_rfl) cStr
  obtain ⟨a1, s1, v1, _⟩ := hES
  obtain ⟨a2, s2, v2, _⟩ := hER
  have e1 := World.var?_cell gES v1 0
  have e2 := World.var?_cell gER v2 0
  have b1 := World.block_lt_of_cell? W _ e1
  have b2 := World.block_lt_of_cell? W _ e2
  have htab : Tab W := by
    obtain ⟨g0, t0, cs0, f0, p0, hg0, ht0, hv0, hd0⟩ := h3
    obtain rfl := Option.some.inj (gP.symm.trans hg0)
    obtain rfl := Option.some.inj (tP.symm.trans ht0)
    obtain ⟨xs, m1, rfl, hx1, hlen, hn, hel⟩ := DataW.trod_array Tryz.underlying128 hd0
    have hxs : xs.map (·.1) = (List.range 18).map fun k => (DataW.agg [.lit (.int .i64 (usesK k)), .lit (.int .i64 (elmK k)), .lit (.bool (fixK k))] : DataW Unit) := by
      have := congrArg Prod.fst hx1
      rw [laid_eq] at this
      injection this with this
      exact this.symm
    have hrow : ∀ k : Nat, k < 18 → (cs0.toList.drop (k * 3)).take 3 = [.int .i64 (usesK k), .int .i64 (elmK k), .bool (fixK k)] := by
      intro k hk
      have hkx : k < xs.length := by rw [hn]; exact hk
      have h1 := hel k hk
      rw [List.getElem?_eq_getElem hkx, cProp] at h1
      refine prop_cells h1 ?_
      have h2 : (xs.map (·.1))[k]? = some xs[k].1 := by simp [hkx]
      rw [hxs] at h2
      simp only [List.getElem?_map, List.getElem?_range hk, Option.map_some, Option.some.injEq] at h2
      exact h2.symm
    have hc0 := fun i => World.var?_cell hg0 hv0 i
    have hcell : ∀ k : Nat, k < 18 → W.cell? ⟨0, k * 3, none⟩ = some (.int .i64 (usesK k)) ∧ W.cell? ⟨0, k * 3 + 1, none⟩ = some (.int .i64 (elmK k)) ∧ W.cell? ⟨0, k * 3 + 2, none⟩ = some (.bool (fixK k)) := by
      intro k hk
      have hr := hrow k hk
      have at_ : ∀ j : Nat, j < 3 → cs0[k * 3 + j]? = ([.int .i64 (usesK k), .int .i64 (elmK k), .bool (fixK k)] : List Value)[j]? := by
        intro j hj
        rw [← hr, List.getElem?_take, if_pos hj, List.getElem?_drop, Array.getElem?_toList]
      refine ⟨(hc0 (k * 3)).trans ?_, (hc0 (k * 3 + 1)).trans ?_, (hc0 (k * 3 + 2)).trans ?_⟩
      · exact at_ 0 (by omega)
      · exact at_ 1 (by omega)
      · exact at_ 2 (by omega)
    refine ⟨?_, hcell⟩
    have := World.block_lt_of_cell? W _ (hcell 0 (by omega)).1
    exact this
  refine ⟨⟨?_, Nat.le_refl _, hT⟩, htab, hP⟩
  have b3 : 6 < W.heap.size := by
    have := hP
    unfold Lib.TabIs World.var? at this
    rw [pow_glob] at this
    simp only [Option.bind_some] at this
    rcases Nat.lt_or_ge 6 W.heap.size with h | h
    · exact h
    · rw [Array.getElem?_eq_none h] at this; cases this
  have : (⟨5, 0, none⟩ : Addr).block < W.heap.size := b2
  first | exact b3 | exact b2 | exact b1
theorem lay_met (os : Os) (args : Array Value) : laidMetH Tryz.prog laidL ((World.laidAll Tryz.prog os laidL).forCall (fun _ _ => 0) ⟨#[], args, []⟩).memory := by
  rw [MakeChecks.laidMetH_plain _ _ _ (by kernel_rfl)]; exact laidMet_laidAll _ (by kernel_rfl) (by kernel_rfl)


set_option maxRecDepth 100000 in
theorem stF : ∃ (f0 f1 f2 : Field), Tryz.prog.underlying 51 = some (.struct #[f0, f1, f2]) ∧ f0.type = 9 ∧ f1.type = 3 ∧ f2.type = 4 ∧ f0.offset = 0 ∧ f1.offset = 1 ∧ f2.offset = 2 :=
  ⟨_, _, _, Tryz.underlying51, rfl, rfl, rfl, rfl, rfl, rfl⟩
section
variable {H : Type} {enc : TypeId × Value → H}
set_option maxRecDepth 100000 in
theorem stN : Nonempty (ST Tryz.prog 51 22) := by
  obtain ⟨f0, f1, f2, hs, t0, t1, t2, o0, o1, o2⟩ := stF
  have e0 : Tryz.prog.underlying f0.type = some .string := by rw [t0]; exact Tryz.underlying9
  have e1 : Tryz.prog.underlying f1.type = some (.int .i64) := by rw [t1]; exact Tryz.underlying3
  have e2 : Tryz.prog.underlying f2.type = some .bool := by rw [t2]; exact Tryz.underlying4
  have k0 : Tryz.prog.cellsOf f0.type = 1 := by rw [t0]; kernel_rfl
  have k1 : Tryz.prog.cellsOf f1.type = 1 := by rw [t1]; kernel_rfl
  have k2 : Tryz.prog.cellsOf f2.type = 1 := by rw [t2]; kernel_rfl
  have kn : Tryz.prog.cellsOf 51 = 3 := by kernel_rfl
  exact ⟨⟨f0, f1, f2, hs, kn, e0, e1, e2, Tryz.underlying22, ⟨o0, k0⟩, ⟨o1, k1⟩, ⟨o2, k2⟩⟩⟩
set_option maxRecDepth 100000 in
theorem open_path {W : World} {base : Nat} {v : Value} {d : DataW H} {ps : List MemPlace} (hv : Value.okWide Tryz.prog W .any base 22 v)
    (h : DataW.Trod enc Tryz.prog W 0 (fun _ => true) true 22 v d ps) : ∃ l, RdP W v l := by
  obtain ⟨S⟩ := stN
  obtain ⟨A, n, c, rfl⟩ := okWide_slice Tryz.underlying22 hv
  obtain ⟨fuel, hf⟩ := h
  have hf' : DataW.trod enc Tryz.prog W 0 (fun _ => true) true fuel 22 [.slice A n c] = some (d, ps) := hf
  exact open_steps S fuel _ _ hf'
end

section
variable {H : Type} {enc : TypeId × Value → H}
theorem trodAll_stays {P : Program} (hl : laidOutB P = true) {W W' : World} {sp : Nat → Bool} : ∀ (ts : List TypeId) (vs : List Value) (ds : List (DataW H)) (ps : List MemPlace),
    (∀ t ∈ ts, P.readableRec t = true ∧ t < P.types.size) → DataW.TrodAll enc P W 0 (fun _ => true) true ts vs ds ps → (∀ p ∈ ps, W.sameAt W' p) → (∀ p ∈ ps, sp p.block = true) →
    DataW.TrodAll enc P W' 0 sp true ts vs ds ps := by
  intro ts
  induction ts with
  | nil =>
    intro vs ds ps _ h _ _
    obtain ⟨rfl, rfl, rfl⟩ := trodAll_nil h
    exact trodAll_mk0
  | cons t ts ih =>
    intro vs ds ps hr h hsame hsp
    obtain ⟨v, vs', d, ds', p, q, rfl, rfl, rfl, h0, h1⟩ := trodAll_cons h
    refine trodAll_cons_mk ?_ (ih vs' ds' q (fun t ht => hr t (List.mem_cons_of_mem _ ht)) h1 (fun x hx => hsame x (List.mem_append_right _ hx)) (fun x hx => hsp x (List.mem_append_right _ hx)))
    have := hr t (List.mem_cons_self ..)
    exact WideElems.Trod_stays hl this.1 this.2 h0 (fun x hx => hsame x (List.mem_append_left _ hx)) (fun x hx => hsp x (List.mem_append_left _ hx))

theorem law_post {f : Func} {s : ChangeSpec} {W W' : World} {args : Array Value} {ds gs : List (DataW H)} {before : List MemPlace}
    (hrec : ∀ t ∈ f.params.toList, Tryz.prog.readableRec t = true ∧ t < Tryz.prog.types.size) (hrt : f.resultTypes = #[4]) (hvars : s.vars = [])
    (hres : (s.fn H (ds ++ gs)).results = [.lit (.bool true)]) (hfn : (s.fn H (ds ++ gs)).args = ds) (hfv : (s.fn H (ds ++ gs)).vars = [])
    (hW : DataW.Whole enc Tryz.prog f.params.toList s.vars false W args.toList ds gs before) (hb : Below W.heap.size W W') :
    s.post enc Tryz.prog f false true false false W args (.bool true) W' := by
  have hlt : ∀ p ∈ before, p.block < W.heap.size := fun p hp => hW.lt p hp
  obtain ⟨p, q, hA, hV, he, _, _⟩ := id hW
  refine ⟨ds, gs, before, [], p, [], hW, ?_, ?_, ?_, hb.frame _, fun h => by cases h⟩
  · rw [hres, hrt]
    exact trodAll_cons_mk (shut_bool Tryz.underlying4 _) trodAll_mk0
  · rw [hfn]
    refine trodAll_stays laidK _ _ _ _ hrec hA (fun x hx => hb.same (hlt x (by rw [he]; exact List.mem_append_left _ hx))) (fun x hx => ?_)
    simpa using hlt x (by rw [he]; exact List.mem_append_left _ hx)
  · rw [hfv, hvars]
    rfl

end
end Go.Proofs.YtjnfilbdokppiaaGreatDoor
