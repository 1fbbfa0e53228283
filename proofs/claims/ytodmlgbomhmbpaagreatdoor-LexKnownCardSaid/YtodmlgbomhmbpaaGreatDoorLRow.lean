/-
  What is proved here: the row's condition gives what the tables of package lex and its library hold; a law that returns true and leaves all memory that was there as it was gives its row; no condition but those that each fact states.
-/
import Derived.Test.YtodmlgbomhmbpaaGreatDoorLWorksW
import Derived.Test.YtodmlgbomhmbpaaGreatDoorCards
import Derived.Test.YtodmlgbomhmbpaaGreatDoorTie
import Derived.ProofKit
import Derived.LaidMore
import Derived.OpenShut
import Derived.Lay
import Derived.Lib.LaidU8T
import Derived.Lib.LaidTab
import Derived.LaidLaws
import Derived.PinnedBridge
import Derived.Stop.LaidErr
import Derived.Stop.Joined
import Derived.SevenTiedAt
import Derived.ChangeMaps5
namespace Go.Proofs.YtodmlgbomhmbpaaGreatDoor
open Go.ChangeShapes Go.WideShapes Go.ChangeAt Go.WideMaps Go.WideElems Go.RowKit Ut Lx

theorem laidK : laidOutB Tryz.prog = true := by kernel_rfl
theorem ownK : ownKnob Tryz.prog.godebug = none := by kernel_rfl
noncomputable def laidL : List (String × DataW Unit) := [("math/bits.deBruijn32tab", Rows.laid_math_bits_deBruijn32tab), ("math/bits.deBruijn64tab", Rows.laid_math_bits_deBruijn64tab), ("internal/strconv.uint64pow10", Rows.laid_internal_strconv_uint64pow10), ("unicode/utf8.acceptRanges", Rows.laid_unicode_utf8_acceptRanges),
  ("strconv.ErrRange", Rows.laid_strconv_ErrRange), ("strconv.ErrSyntax", Rows.laid_strconv_ErrSyntax), ("accordion/lex.spellings", Rows.laid_accordion_lex_spellings), ("unicode/utf8.first", Rows.laid_unicode_utf8_first)]
def u8ren : Go.Shelf.Ren := ⟨fun n => n, fun | 5 => 5 | 119 => 133 | 138 => 135 | 139 => 136 | n => n, fun | 3 => 4 | 4 => 5 | n => n⟩
theorem u8types : U8Types Tryz.prog u8ren := ⟨Tryz.underlying5, Tryz.underlying133, Tryz.underlying135, Tryz.underlying136⟩
theorem extra : U8Extra Tryz.prog u8ren := ⟨by kernel_rfl, by kernel_rfl, by kernel_rfl, by kernel_rfl, by kernel_rfl, by kernel_rfl, by kernel_rfl⟩
theorem accept_eq : (Rows.laid_unicode_utf8_acceptRanges : DataW Unit) = Lib.acceptData := by kernel_rfl
theorem pow_eq : (Rows.laid_internal_strconv_uint64pow10 : DataW Unit) = Lib.tabData .u64 Lib.pow10Tab := by kernel_rfl
theorem gSp : Tryz.prog.globalNamed "accordion/lex.spellings" = some 0 := by kernel_rfl
theorem tSp : (Tryz.prog.globals[0]?).map (·.type) = some 102 := by kernel_rfl
theorem cStr : Tryz.prog.cellsOf 9 = 1 := by kernel_rfl
theorem gES : Tryz.prog.globalNamed "strconv.ErrSyntax" = some 2 := by kernel_rfl
theorem gER : Tryz.prog.globalNamed "strconv.ErrRange" = some 3 := by kernel_rfl
theorem starE : "*" ++ "errors.errorString" = "*errors.errorString" := by decide
theorem nameE (u : TypeId) (h : Tryz.prog.typeName? 3 u = some "*errors.errorString") : u = 130 :=
  typeName_ptr_named (nm := "errors.errorString") (by rw [starE]; kernel_rfl) (by kernel_rfl) (by decide) u (by rw [starE]; exact h)
theorem tab_of_laid {W : World} (h : laidMetH Tryz.prog laidL W) : LB W.heap.size W := by
  rw [MakeChecks.laidMetH_plain _ _ _ (by kernel_rfl)] at h
  have h1 := Lib.laidMet.reads h (n := "unicode/utf8.first") (d := Rows.laid_unicode_utf8_first) (by simp [laidL])
  have h2 := Lib.laidMet.reads h (n := "unicode/utf8.acceptRanges") (d := Rows.laid_unicode_utf8_acceptRanges) (by simp [laidL])
  have h3 := Lib.laidMet.reads h (n := "accordion/lex.spellings") (d := Rows.laid_accordion_lex_spellings) (by simp [laidL])
  rw [accept_eq] at h2
  rw [show (Rows.laid_unicode_utf8_first : DataW Unit) = Lib.firstData from Pinned.utf8First_eq] at h1
  have hT : Lib.Utf8Tabs 4 5 W := utf8Tabs_of_readsT u8types extra h1 h2
  have hP : Lib.TabIs Tryz.prog W "internal/strconv.uint64pow10" .u64 Lib.pow10Tab := by
    have h' := h.tail.tail
    rw [pow_eq] at h'
    exact Lib.tabIs_of_head pow_glob (by kernel_rfl) Tryz.underlying150 Tryz.underlying34 (by kernel_rfl) (by kernel_rfl) h'
  have hES := laid_sentinel h.tail.tail.tail.tail.tail gES (ti := 58) (by kernel_rfl) Tryz.underlying58 nameE Tryz.underlying130 Tryz.underlying132 rfl rfl Tryz.underlying9 (by kernel_rfl) cStr
  have hER := laid_sentinel h.tail.tail.tail.tail gER (ti := 58) (by kernel_rfl) Tryz.underlying58 nameE Tryz.underlying130 Tryz.underlying132 rfl rfl Tryz.underlying9 (by kernel_rfl) cStr
  obtain ⟨a1, s1, v1, _⟩ := hES
  obtain ⟨a2, s2, v2, _⟩ := hER
  have e1 := World.var?_cell gES v1 0
  have e2 := World.var?_cell gER v2 0
  have hsp : ∀ k, k < 10 → W.cell? ⟨0, k, none⟩ = some (.string (str (wordL k))) := by
    obtain ⟨g, t, cs, fuel, p, hg, ht, hv, hd⟩ := h3
    obtain rfl := Option.some.inj (gSp.symm.trans hg)
    obtain rfl := Option.some.inj (tSp.symm.trans ht)
    intro k hk
    have hd' : DataW.trod _ Tryz.prog W _ _ _ fuel 102 cs.toList = some (.agg ((List.range 10).map fun i => .lit (.string (wordL i))), p) := hd
    obtain ⟨f', d, q, hdd, htr⟩ := Lib.array_elem Tryz.underlying102 hd' k hk
    rw [cStr, Nat.mul_one] at htr
    obtain ⟨s, hs, hx, _⟩ := DataW.trod_string Tryz.underlying9 htr
    have hd2 : d = .lit (.string (wordL k)) := by
      rw [List.getElem?_map, List.getElem?_range hk] at hdd
      exact (Option.some.inj hdd).symm
    rw [hd2] at hx
    injection hx with hx _
    injection hx with hx
    injection hx with hx
    have hck : cs[k]? = some (.string s) := by
      have := congrArg (fun l => l[0]?) hs
      rw [List.getElem?_take, if_pos (by omega), List.getElem?_drop, Nat.add_zero, Array.getElem?_toList] at this
      simpa using this
    rw [World.var?_cell gSp hv k, hck, hx, str_list]
  refine ⟨⟨?_, Nat.le_refl _, hT⟩, ⟨_, _, by simpa using e1⟩, ⟨_, _, by simpa using e2⟩, hsp, hP⟩
  have e3 : W.cell? ⟨6, 0, none⟩ = some (.int .u64 1) := (World.var?_cell pow_glob hP 0).trans rfl
  first
    | exact World.block_lt_of_cell? W _ e2
    | exact World.block_lt_of_cell? W _ e3
theorem lay_met (os : Os) (args : Array Value) : laidMetH Tryz.prog laidL ((World.laidAll Tryz.prog os laidL).forCall (fun _ _ => 0) ⟨#[], args, []⟩).memory := by
  rw [MakeChecks.laidMetH_plain _ _ _ (by kernel_rfl)]; exact laidMet_laidAll _ (by kernel_rfl) (by kernel_rfl)

section
variable {H : Type} {enc : TypeId × Value → H}
theorem trodAll_stays {P : Program} (hl : laidOutB P = true) {W W' : World} {sp : Nat → Bool} : ∀ (ts : List TypeId) (vs : List Value) (ds : List (DataW H)) (ps : List MemPlace),
    (∀ t ∈ ts, P.readableRec t = true ∧ t < P.types.size) → DataW.TrodAll enc P W 0 (fun _ => true) true ts vs ds ps → (∀ p ∈ ps, W.sameAt W' p) → (∀ p ∈ ps, sp p.block = true) →
    DataW.TrodAll enc P W' 0 sp true ts vs ds ps := by
  intro ts
  induction ts with
  | nil =>
    intro vs ds ps _ h _ _
    obtain ⟨rfl, rfl, rfl⟩ := trodAll_nil h
    exact trodAll_mk0
  | cons t ts ih =>
    intro vs ds ps hr h hsame hsp
    obtain ⟨v, vs', d, ds', p, q, rfl, rfl, rfl, h0, h1⟩ := trodAll_cons h
    refine trodAll_cons_mk ?_ (ih vs' ds' q (fun t ht => hr t (List.mem_cons_of_mem _ ht)) h1 (fun x hx => hsame x (List.mem_append_right _ hx)) (fun x hx => hsp x (List.mem_append_right _ hx)))
    have := hr t (List.mem_cons_self ..)
    exact WideElems.Trod_stays hl this.1 this.2 h0 (fun x hx => hsame x (List.mem_append_left _ hx)) (fun x hx => hsp x (List.mem_append_left _ hx))

theorem law_post {f : Func} {s : ChangeSpec} {W W' : World} {args : Array Value} {ds gs : List (DataW H)} {before : List MemPlace}
    (hrec : ∀ t ∈ f.params.toList, Tryz.prog.readableRec t = true ∧ t < Tryz.prog.types.size) (hrt : f.resultTypes = #[4]) (hvars : s.vars = [])
    (hres : (s.fn H (ds ++ gs)).results = [.lit (.bool true)]) (hfn : (s.fn H (ds ++ gs)).args = ds) (hfv : (s.fn H (ds ++ gs)).vars = [])
    (hW : DataW.Whole enc Tryz.prog f.params.toList s.vars false W args.toList ds gs before) (hb : Below W.heap.size W W') :
    s.post enc Tryz.prog f false true false false W args (.bool true) W' := by
  have hlt : ∀ p ∈ before, p.block < W.heap.size := fun p hp => hW.lt p hp
  obtain ⟨p, q, hA, hV, he, _, _⟩ := id hW
  refine ⟨ds, gs, before, [], p, [], hW, ?_, ?_, ?_, hb.frame _, fun h => by cases h⟩
  · rw [hres, hrt]
    exact trodAll_cons_mk (shut_bool Tryz.underlying4 _) trodAll_mk0
  · rw [hfn]
    refine trodAll_stays laidK _ _ _ _ hrec hA (fun x hx => hb.same (hlt x (by rw [he]; exact List.mem_append_left _ hx))) (fun x hx => ?_)
    simpa using hlt x (by rw [he]; exact List.mem_append_left _ hx)
  · rw [hfv, hvars]
    rfl

end
end Go.Proofs.YtodmlgbomhmbpaaGreatDoor
