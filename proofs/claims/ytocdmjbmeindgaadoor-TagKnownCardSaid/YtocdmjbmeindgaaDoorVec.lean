/-
  What is proved here: tag.vectors makes a map that holds the ten vector types, in whatever order its entries are stored; tag.Typed answers as the specification says; condition: the numbers are in int's range.
-/
import Derived.Test.YtocdmjbmeindgaaDoorTab
import Derived.Maps.Own
import Derived.Maps.OwnSet
import Derived.Maps.OwnOps
import Derived.StillTail
namespace Go.Proofs.YtocdmjbmeindgaaDoor
open Go.RowKit Tg Go.Maps

/-! A region in whatever order: by an invariant. -/
section
variable {P : Program} {md : Region.Mode} {ops : Array Oper} {Q : Exit → Act → World → Prop}

theorem count_set (l : Array Bool) (i : Nat) (h : l.getD i true = false) : (l.setIfInBounds i true).toList.count false + 1 = l.toList.count false := by
  obtain ⟨l⟩ := l
  have hi : i < l.length := by
    rcases Nat.lt_or_ge i l.length with h' | h'
    · exact h'
    · rw [Array.getD_eq_getD_getElem?, Array.getElem?_eq_none (by simpa using h')] at h; cases h
  have hv : l[i] = false := by simpa [Array.getD, hi] using h
  have := List.count_set (a := true) (b := false) hi
  simp only [List.setIfInBounds_toArray]
  have hp : 0 < l.count false := List.count_pos_iff.2 (hv ▸ List.getElem_mem hi)
  simp [hv] at this
  omega

theorem ready_un {listed : Array Bool} {i : Nat} (h : i ∈ Region.ready md ops listed) : i < ops.size ∧ listed.getD i true = false := by
  simp only [Region.ready, List.mem_filter, List.mem_range, Bool.and_eq_true, Bool.not_eq_true'] at h
  exact ⟨h.1, h.2.1⟩
theorem ready_waits {listed : Array Bool} {i k : Nat} (h : i ∈ Region.ready md ops listed) (hw : Region.waitsFor md ops i k = true) : listed.getD k false = true := by
  simp only [Region.ready, List.mem_filter, List.mem_range, Bool.and_eq_true, Bool.not_eq_true'] at h
  obtain ⟨oj, hj, e, he, hb, rfl⟩ := Region.waitsFor_spec hw
  have h2 := h.2.2
  rw [hj] at h2
  simp only [Option.map_some, Option.getD_some] at h2
  have := Array.all_eq_true'.1 h2 e he
  rw [hb] at this
  simpa using this

theorem wpAny_inv (I : Nat → Array Bool → Act → World → Prop)
    (hstep : ∀ fuel listed a w i, I (fuel + 1) listed a w → i ∈ Region.ready md ops listed → wpOp P ops Q i (I fuel (listed.setIfInBounds i true)) a w)
    (hend : ∀ fuel listed a w, I fuel listed a w → Region.ready md ops listed = [] → Q .normal a w) :
    ∀ fuel listed a w, listed.toList.count false ≤ fuel → I fuel listed a w → wpAny P md ops Q fuel listed a w := by
  intro fuel
  induction fuel with
  | zero =>
    intro listed a w hc hI
    have hr : Region.ready md ops listed = [] := by
      rw [List.eq_nil_iff_forall_not_mem]
      intro i hi
      have := count_set listed i (ready_un hi).2
      omega
    exact ⟨hr, hend _ _ _ _ hI hr⟩
  | succ fuel ih =>
    intro listed a w hc hI
    refine ⟨fun hr => hend _ _ _ _ hI hr, fun i hi => ?_⟩
    refine wpOp_mono (fun a' w' h' => ih _ a' w' ?_ h') (hstep fuel listed a w i hI hi)
    have := count_set listed i (ready_un hi).2
    omega
theorem getD_set (l : Array Bool) (i j : Nat) (h : i < l.size) : (l.setIfInBounds i true).getD j false = if j = i then true else l.getD j false := by
  simp only [Array.getD_eq_getD_getElem?, Array.getElem?_setIfInBounds]
  by_cases e : i = j
  · subst e; simp [h]
  · rw [if_neg e, if_neg (Ne.symm e)]
end

/-! The map's keys. -/
theorem laidK : laidOutB Tryd.prog = true := by kernel_rfl
theorem wideK : (match Tryd.prog.underlying 46 with | some (.array _ _) | some (.struct _) => true | _ => false) = true := by kernel_rfl
theorem lawS : WideMaps.KeyLaw Tryd.prog 46 := deep_law_laid laidK (m := 2) (by omega) (of_decide_eq_true (by kernel_rfl)) (by kernel_rfl) wideK
theorem keyed : Keyed Tryd.prog 46 := Keyed.of_law lawS
def shp (e m : Int) : Value := .agg #[.int .i64 e, .int .i64 m]
def kl (e m : Int) : Lit := .string (keyBytes [.int .i64 e, .int .i64 m])
theorem keyTypeS : Tryd.prog.keyType 46 = true := by kernel_rfl
theorem formedS (e m : Int) : (shp e m).formed Tryd.prog 46 = true := by kernel_rfl
theorem typesN : Tryd.prog.types.size = 70 := by kernel_rfl
theorem key_of {e m : Int} (he : (Lit.int .i64 e).wf = true) (hm : (Lit.int .i64 m).wf = true) : keyOf Tryd.prog 46 (shp e m) = some (kl e m) := by
  unfold keyOf
  rw [Tryd.underlying46]
  simp only [keyTypeS, formedS, Bool.and_self, if_true, typesN]
  have hl : ∀ n, Tryd.prog.keyLits (n + 2) 46 (shp e m).cells.toList = some [.int .i64 e, .int .i64 m] := by
    intro n
    have c1 : Tryd.prog.cellsOf 3 = 1 := by kernel_rfl
    have c2 : Tryd.prog.cellsOf 46 = 2 := by kernel_rfl
    simp [Program.keyLits, Tryd.underlying46, Tryd.underlying3, shp, Value.cells, c1, c2, he, hm]
  rw [show (70 + 1 : Nat) = 69 + 2 from rfl, hl 69]
  rfl
theorem kl_inj {e m e' m' : Int} (he : (Lit.int .i64 e).wf = true) (hm : (Lit.int .i64 m).wf = true) (he' : (Lit.int .i64 e').wf = true) (hm' : (Lit.int .i64 m').wf = true) (h : kl e m = kl e' m') : e = e' ∧ m = m' := by
  have := lawS.inj (key_of he hm) (h ▸ key_of he' hm')
  simpa [shp] using this
theorem kl_key (e m : Int) : WideAt.IsKeyLit (kl e m) := by simp [kl, WideAt.IsKeyLit]

/-- The operations of the literal. -/
noncomputable def vops : Array Oper := match Tryd.f30.body with
  | some (.seq _ (.seq (.region _ ops _) _)) => ops
  | _ => #[]
theorem vsize : vops.size = 23 := by kernel_rfl
def pr (j : Nat) : (Int × Int) × Int := vecs.getD j ((0, 0), 0)
def pk (j : Nat) : Lit := kl (pr j).1.1 (pr j).1.2
noncomputable abbrev El : Value → Option (DataW Unit × List MemPlace) := plainElem Tryd.prog 3
noncomputable abbrev i0 : DataW Unit := .lit (.int .i64 0)
theorem pr_wf {j : Nat} (hj : j < 10) : (Lit.int .i64 (pr j).1.1).wf = true ∧ (Lit.int .i64 (pr j).1.2).wf = true ∧ (Lit.int .i64 (pr j).2).wf = true := by
  have : ∀ j : Fin 10, (Lit.int .i64 (pr j).1.1).wf = true ∧ (Lit.int .i64 (pr j).1.2).wf = true ∧ (Lit.int .i64 (pr j).2).wf = true := by decide +kernel
  exact this ⟨j, hj⟩
theorem pk_ne {i j : Nat} (hi : i < 10) (hj : j < 10) (h : i ≠ j) : pk i ≠ pk j := by
  intro e
  obtain ⟨a, b⟩ := kl_inj (pr_wf hi).1 (pr_wf hi).2.1 (pr_wf hj).1 (pr_wf hj).2.1 e
  have : ∀ i j : Fin 10, i ≠ j → ¬ ((pr i).1.1 = (pr j).1.1 ∧ (pr i).1.2 = (pr j).1.2) := by decide +kernel
  exact this ⟨i, hi⟩ ⟨j, hj⟩ (fun e => h (by simpa using e)) ⟨a, b⟩

/-- What the map holds when the entries that are marked have been stored. -/
structure Cont (D : DataW Unit) (mark : Nat → Bool) : Prop where
  isMap : IsMap D
  yes : ∀ j, j < 10 → mark j = true → Maps.has D (pk j) = true ∧ D.atKey (pk j) i0 = .lit (.int .i64 (pr j).2)
  no : ∀ k : Lit, (∀ j, j < 10 → mark j = true → k ≠ pk j) → Maps.has D k = false
theorem Cont.put {D : DataW Unit} {mark mark' : Nat → Bool} (h : Cont D mark) {j : Nat} (hj : j < 10) (hm : ∀ i, i < 10 → mark' i = if i = j then true else mark i) : Cont (D.put (pk j) (.lit (.int .i64 (pr j).2))) mark' := by
  refine ⟨h.isMap.put _ _, fun i hi hmi => ?_, fun k hk => ?_⟩
  · rw [hm i hi] at hmi
    by_cases e : i = j
    · subst e
      exact ⟨has_put_same h.isMap (kl_key _ _) _, atKey_put_same h.isMap (kl_key _ _) _ _⟩
    · rw [if_neg e] at hmi
      rw [has_put_other (pk_ne hi hj e), atKey_put_other (pk_ne hi hj e)]
      exact h.yes i hi hmi
  · rw [has_put_other (hk j hj (by rw [hm j hj, if_pos rfl]))]
    exact h.no k fun i hi hmi => hk i hi (by rw [hm i hi]; split <;> simp_all)

/-- The invariant of the literal's region: w0 is the world at its start. -/
structure VI (w0 : World) (fuel : Nat) (listed : Array Bool) (a : Act) (w : World) : Prop where
  size : listed.size = 23
  defers : a.defers = []
  tsize : a.tmps.size = 13
  below : Below w0.heap.size w0 w
  first : listed.getD 0 false = false → w.heap.size = w0.heap.size
  keys : ∀ j, j < 10 → listed.getD (2 * j + 1) false = true → a.tmps[j + 2]? = some (shp (pr j).1.1 (pr j).1.2)
  map : listed.getD 0 false = true → a.tmps[1]? = some (.map (some w0.heap.size)) ∧ ∃ n D, n + fuel ≤ 23 ∧ w.ownsMap Tryd.prog 46 El w0.heap.size n D ∧ Cont D (fun j => listed.getD (2 * j + 2) false)
  unmade : listed.getD 0 false = false → ∀ j, j < 10 → listed.getD (2 * j + 2) false = false
  moved : listed.getD 21 false = true → a.tmps[12]? = some (.map (some w0.heap.size))
  done : listed.getD 22 false = true → a.tmps[0]? = some (.map (some w0.heap.size))
theorem put_at {a : Act} {d t : Nat} {v : Value} (h : t ≠ d) : (a.put (some d) v).tmps[t]? = a.tmps[t]? := by
  simp only [Act.put]
  rw [Array.getElem?_setIfInBounds, if_neg (Ne.symm h)]
theorem put_self {a : Act} {d : Nat} {v : Value} (h : d < a.tmps.size) : (a.put (some d) v).tmps[d]? = some v := by
  simp only [Act.put]
  rw [Array.getElem?_setIfInBounds, if_pos rfl, if_pos h]

theorem VI.build {w0 : World} {fuel : Nat} {listed : Array Bool} {a : Act} {w : World} (h : VI w0 (fuel + 1) listed a w) {j : Nat} (hj : j < 10) :
    VI w0 fuel (listed.setIfInBounds (2 * j + 1) true) (a.put (some (j + 2)) (shp (pr j).1.1 (pr j).1.2)) w := by
  have G := fun k => getD_set listed (2 * j + 1) k (by rw [h.size]; omega)
  refine ⟨by simp [h.size], h.defers, by simp [Act.put, h.tsize], h.below, fun h0 => h.first (by rw [G, if_neg (by omega)] at h0; exact h0), fun i hi hl => ?_, fun h0 => ?_, fun h0 i hi => ?_, fun hl => ?_, fun hl => ?_⟩
  · by_cases e : i = j
    · subst e; exact put_self (by rw [h.tsize]; omega)
    · rw [G, if_neg (by omega)] at hl
      rw [put_at (by omega)]
      exact h.keys i hi hl
  · rw [G, if_neg (by omega)] at h0
    obtain ⟨h1, n, D, hn, ho, hc⟩ := h.map h0
    refine ⟨by rw [put_at (by omega)]; exact h1, n, D, by omega, ho, ?_⟩
    have e : (fun i => (listed.setIfInBounds (2 * j + 1) true).getD (2 * i + 2) false) = fun i => listed.getD (2 * i + 2) false := funext fun i => by rw [G, if_neg (by omega)]
    rw [e]; exact hc
  · rw [G, if_neg (by omega)] at h0 ⊢
    exact h.unmade h0 i hi
  · rw [G, if_neg (by omega)] at hl
    rw [put_at (by omega)]; exact h.moved hl
  · rw [G, if_neg (by omega)] at hl
    rw [put_at (by omega)]; exact h.done hl

theorem VI.make {w0 : World} {fuel : Nat} {listed : Array Bool} {a : Act} {w : World} (h : VI w0 (fuel + 1) listed a w) (hf : fuel ≤ 23) (h0 : listed.getD 0 false = false) :
    VI w0 fuel (listed.setIfInBounds 0 true) (a.put (some 1) (.map (some w.heap.size))) (w.alloc (.map #[] 0)) := by
  have G := fun k => getD_set listed 0 k (by rw [h.size]; omega)
  have hs := h.first h0
  refine ⟨by simp [h.size], h.defers, by simp [Act.put, h.tsize], h.below.alloc (Nat.le_of_eq hs.symm) _, fun hh => (by rw [G, if_pos rfl] at hh; cases hh), fun i hi hl => ?_, fun _ => ?_, fun hh => (by rw [G, if_pos rfl] at hh; cases hh), fun hl => ?_, fun hl => ?_⟩
  · rw [G, if_neg (by omega)] at hl
    rw [put_at (by omega)]
    exact h.keys i hi hl
  · refine ⟨by rw [hs]; exact put_self (by rw [h.tsize]; omega), 0, .map [], by omega, ?_, ?_⟩
    · rw [← hs]; exact World.ownsMap_made _ _ _ _
    · refine ⟨isMap_empty, fun i hi hm => ?_, fun k _ => rfl⟩
      have hm' : (listed.setIfInBounds 0 true).getD (2 * i + 2) false = true := hm
      rw [G, if_neg (by omega), h.unmade h0 i hi] at hm'
      cases hm'
  · rw [G, if_neg (by omega)] at hl
    rw [put_at (by omega)]; exact h.moved hl
  · rw [G, if_neg (by omega)] at hl
    rw [put_at (by omega)]; exact h.done hl

theorem VI.insert {w0 : World} {fuel : Nat} {listed : Array Bool} {a : Act} {w w' : World} (h : VI w0 (fuel + 1) listed a w) {j n : Nat} {D : DataW Unit} (hj : j < 10) (h0 : listed.getD 0 false = true) (hn : n + (fuel + 1) ≤ 23)
    (hc : Cont D (fun j => listed.getD (2 * j + 2) false)) (ho : w'.ownsMap Tryd.prog 46 El w0.heap.size (n + 1) (D.put (pk j) (.lit (.int .i64 (pr j).2)))) (hg : w.grownBy w' (some w0.heap.size)) :
    VI w0 fuel (listed.setIfInBounds (2 * j + 2) true) (a.put none undef) w' := by
  have G := fun k => getD_set listed (2 * j + 2) k (by rw [h.size]; omega)
  refine ⟨by simp [h.size], h.defers, h.tsize, h.below.grown hg (by exact h.below.size) (by simp), fun hh => (by rw [G, if_neg (by omega), h0] at hh; cases hh), fun i hi hl => ?_, fun _ => ?_, fun hh => (by rw [G, if_neg (by omega), h0] at hh; cases hh), fun hl => ?_, fun hl => ?_⟩
  · rw [G, if_neg (by omega)] at hl
    exact h.keys i hi hl
  · exact ⟨(h.map h0).1, n + 1, _, by omega, ho, hc.put hj fun i hi => by rw [G]; by_cases e : i = j <;> simp [e] ; omega⟩
  · rw [G, if_neg (by omega)] at hl
    exact h.moved hl
  · rw [G, if_neg (by omega)] at hl
    exact h.done hl

theorem VI.move {w0 : World} {fuel : Nat} {listed : Array Bool} {a : Act} {w : World} (h : VI w0 (fuel + 1) listed a w) (h0 : listed.getD 0 false = true) :
    VI w0 fuel (listed.setIfInBounds 21 true) (a.put (some 12) (.map (some w0.heap.size))) w := by
  have G := fun k => getD_set listed 21 k (by rw [h.size]; omega)
  refine ⟨by simp [h.size], h.defers, by simp [Act.put, h.tsize], h.below, fun hh => (by rw [G, if_neg (by omega), h0] at hh; cases hh), fun i hi hl => ?_, fun _ => ?_, fun hh => (by rw [G, if_neg (by omega), h0] at hh; cases hh), fun hl => put_self (by rw [h.tsize]; omega), fun hl => ?_⟩
  · rw [G, if_neg (by omega)] at hl
    rw [put_at (by omega)]
    exact h.keys i hi hl
  · obtain ⟨h1, n, D, hn, ho, hc⟩ := h.map h0
    refine ⟨by rw [put_at (by omega)]; exact h1, n, D, by omega, ho, ?_⟩
    exact ⟨hc.isMap, fun i hi hm => hc.yes i hi (by simpa only [G, show ¬ 2 * i + 2 = 21 by omega, if_false] using hm), fun k hk => hc.no k fun i hi hm => hk i hi (by simpa only [G, show ¬ 2 * i + 2 = 21 by omega, if_false] using hm)⟩
  · rw [G, if_neg (by omega)] at hl
    rw [put_at (by omega)]; exact h.done hl

theorem VI.assign {w0 : World} {fuel : Nat} {listed : Array Bool} {a : Act} {w : World} (h : VI w0 (fuel + 1) listed a w) (h0 : listed.getD 0 false = true) :
    VI w0 fuel (listed.setIfInBounds 22 true) (a.put (some 0) (.map (some w0.heap.size))) w := by
  have G := fun k => getD_set listed 22 k (by rw [h.size]; omega)
  refine ⟨by simp [h.size], h.defers, by simp [Act.put, h.tsize], h.below, fun hh => (by rw [G, if_neg (by omega), h0] at hh; cases hh), fun i hi hl => ?_, fun _ => ?_, fun hh => (by rw [G, if_neg (by omega), h0] at hh; cases hh), fun hl => ?_, fun hl => put_self (by rw [h.tsize]; omega)⟩
  · rw [G, if_neg (by omega)] at hl
    rw [put_at (by omega)]
    exact h.keys i hi hl
  · obtain ⟨h1, n, D, hn, ho, hc⟩ := h.map h0
    refine ⟨by rw [put_at (by omega)]; exact h1, n, D, by omega, ho, ?_⟩
    exact ⟨hc.isMap, fun i hi hm => hc.yes i hi (by have hm' : (listed.setIfInBounds 22 true).getD (2 * i + 2) false = true := hm; rw [G, if_neg (by omega)] at hm'; exact hm'), fun k hk => hc.no k fun i hi hm => hk i hi (by show (listed.setIfInBounds 22 true).getD (2 * i + 2) false = true; rw [G, if_neg (by omega)]; exact hm)⟩
  · rw [G, if_neg (by omega)] at hl
    rw [put_at (by omega)]; exact h.moved hl

theorem vB {j : Nat} (hj : j < 10) : ∃ o, vops[2 * j + 1]? = some o ∧ o.op = .build 46 #[(0, .const (.int .i64 (pr j).1.1)), (1, .const (.int .i64 (pr j).1.2))] ∧ o.dst = some (j + 2) ∧ o.guard = none := by
  rcases (show j = 0 ∨ j = 1 ∨ j = 2 ∨ j = 3 ∨ j = 4 ∨ j = 5 ∨ j = 6 ∨ j = 7 ∨ j = 8 ∨ j = 9 by omega) with rfl | rfl | rfl | rfl | rfl | rfl | rfl | rfl | rfl | rfl
  all_goals exact ⟨_, rfl, rfl, rfl, rfl⟩
theorem vI {j : Nat} (hj : j < 10) : ∃ o, vops[2 * j + 2]? = some o ∧ o.op = .insert 50 (.tmp 1) (.tmp (j + 2)) (.const (.int .i64 (pr j).2)) ∧ o.dst = none ∧ o.guard = none := by
  rcases (show j = 0 ∨ j = 1 ∨ j = 2 ∨ j = 3 ∨ j = 4 ∨ j = 5 ∨ j = 6 ∨ j = 7 ∨ j = 8 ∨ j = 9 by omega) with rfl | rfl | rfl | rfl | rfl | rfl | rfl | rfl | rfl | rfl
  all_goals exact ⟨_, rfl, rfl, rfl, rfl⟩
theorem vM : ∃ o, vops[0]? = some o ∧ o.op = .makeMap 50 none ∧ o.dst = some 1 ∧ o.guard = none := ⟨_, rfl, rfl, rfl, rfl⟩
theorem vV : ∃ o, vops[21]? = some o ∧ o.op = .move (.tmp 1) ∧ o.dst = some 12 ∧ o.guard = none := ⟨_, rfl, rfl, rfl, rfl⟩
theorem vA : ∃ o, vops[22]? = some o ∧ o.op = .assign (.tmp 12) ∧ o.dst = some 0 ∧ o.guard = none := ⟨_, rfl, rfl, rfl, rfl⟩
theorem waitsI {j : Nat} (hj : j < 10) : Region.waitsFor .any vops (2 * j + 2) 0 = true ∧ Region.waitsFor .any vops (2 * j + 2) (2 * j + 1) = true := by
  have : ∀ j : Fin 10, Region.waitsFor .any vops (2 * j + 2) 0 = true ∧ Region.waitsFor .any vops (2 * j + 2) (2 * j + 1) = true := by decide +kernel
  exact this ⟨j, hj⟩
theorem waitsV {k : Nat} (hk : k < 21) : Region.waitsFor .any vops 21 k = true := by
  have : ∀ k : Fin 21, Region.waitsFor .any vops 21 k = true := by decide +kernel
  exact this ⟨k, hk⟩
theorem waitsA : Region.waitsFor .any vops 22 21 = true ∧ Region.waitsFor .any vops 22 0 = true := by decide +kernel
theorem run_build (x y : Int) (w : World) : (Instr.build 46 #[(0, .int .i64 x), (1, .int .i64 y)]).run Tryd.prog w = .ok (shp x y) w := by kernel_rfl
theorem wantG {o : Oper} (h : o.guard = none) (y : Nat → Option Bool) : Region.wanted o y = true := by simp [Region.wanted, h]
theorem eval_tmp {a : Act} {t : Nat} {v : Value} (h : a.tmps[t]? = some v) : a.eval (.tmp t) = v := by simp [Act.eval, h]
theorem eval_const (a : Act) (v : Value) : a.eval (.const v) = v := rfl
theorem underM : Tryd.prog.underlying 50 = some (.map 46 3) := Tryd.underlying50

theorem vstep {Q : Exit → Act → World → Prop} (w0 : World) (fuel : Nat) (listed : Array Bool) (a : Act) (w : World) (i : Nat) (h : fuel + 1 ≤ 23 ∧ VI w0 (fuel + 1) listed a w) (hi : i ∈ Region.ready .any vops listed) :
    wpOp Tryd.prog vops Q i (fun a w => fuel ≤ 23 ∧ VI w0 fuel (listed.setIfInBounds i true) a w) a w := by
  obtain ⟨hf, h⟩ := h
  obtain ⟨h1, h2⟩ := ready_un hi
  rw [vsize] at h1
  have hu : listed.getD i false = false := getD_both h2
  rcases (show i = 0 ∨ (∃ j, j < 10 ∧ i = 2 * j + 1) ∨ (∃ j, j < 10 ∧ i = 2 * j + 2) ∨ i = 21 ∨ i = 22 by
    rcases (show i = 0 ∨ (i - 1) / 2 < 10 ∨ i = 21 ∨ i = 22 by omega) with h | h | h
    · exact .inl h
    · rcases (show i = 0 ∨ i = 2 * ((i - 1) / 2) + 1 ∨ i = 2 * ((i - 1) / 2) + 2 by omega) with h' | h' | h'
      · exact .inl h'
      · exact .inr (.inl ⟨_, h, h'⟩)
      · exact .inr (.inr (.inl ⟨_, h, h'⟩))
    · exact .inr (.inr (.inr h))) with rfl | ⟨j, hj, rfl⟩ | ⟨j, hj, rfl⟩ | rfl | rfl
  · obtain ⟨o, ho, hop, hd, hg⟩ := vM
    refine wpOp_step ho fun K hK => ?_
    rw [if_pos (wantG hg _)]
    unfold Oper.wp
    simp [execOp, hop, run_makeMap, Result.andThen, Oper.upon_value, hd]
    exact hK _ _ ⟨by omega, h.make (by omega) hu⟩
  · obtain ⟨o, ho, hop, hd, hg⟩ := vB hj
    refine wpOp_step ho fun K hK => ?_
    rw [if_pos (wantG hg _)]
    unfold Oper.wp
    simp [execOp, hop, Act.eval, run_build, Result.andThen, Oper.upon_value, hd]
    exact hK _ _ ⟨by omega, h.build hj⟩
  · obtain ⟨o, ho, hop, hd, hg⟩ := vI hj
    obtain ⟨w1, w2⟩ := waitsI hj
    have l0 := ready_waits hi w1
    have l1 := h.keys j hj (ready_waits hi w2)
    obtain ⟨hm, n, D, hn, hown, hc⟩ := h.map l0
    obtain ⟨wf1, wf2, wf3⟩ := pr_wf hj
    obtain ⟨w', hrun, r1, r2⟩ := hown.update keyed underM (by unfold maxLen; omega) (key_of wf1 wf2) (plainElem_int Tryd.underlying3 wf3)
    refine wpOp_step ho fun K hK => ?_
    rw [if_pos (wantG hg _)]
    unfold Oper.wp
    simp only [execOp, hop, eval_tmp hm, eval_tmp l1, eval_const, Sem.run_bind, Sem.run_pure, Result.andThen_ok, hrun, Oper.upon_skip, hd]
    exact hK _ _ ⟨by omega, h.insert hj l0 hn hc r1 r2⟩
  · obtain ⟨o, ho, hop, hd, hg⟩ := vV
    have l0 := ready_waits hi (waitsV (k := 0) (by omega))
    obtain ⟨hm, _⟩ := h.map l0
    refine wpOp_step ho fun K hK => ?_
    rw [if_pos (wantG hg _)]
    unfold Oper.wp
    simp [execOp, hop, eval_tmp hm, Oper.upon_value, hd]
    exact hK _ _ ⟨by omega, h.move l0⟩
  · obtain ⟨o, ho, hop, hd, hg⟩ := vA
    have l0 := ready_waits hi waitsA.2
    have hm := h.moved (ready_waits hi waitsA.1)
    refine wpOp_step ho fun K hK => ?_
    rw [if_pos (wantG hg _)]
    unfold Oper.wp
    simp [execOp, hop, eval_tmp hm, Oper.upon_value, hd]
    exact hK _ _ ⟨by omega, h.assign l0⟩

theorem lexV : ∀ i : Fin 23, ((vops[i.1]?).map fun o => o.after.all fun e => decide (e.on < i.1)).getD false = true := by decide +kernel
theorem all_listed {listed : Array Bool} (hs : listed.size = 23) (hr : Region.ready .any vops listed = []) : ∀ i, i < 23 → listed.getD i false = true := by
  intro i
  induction i using Nat.strongRecOn with
  | ind i ih =>
    intro hi
    cases hu : listed.getD i false
    · exfalso
      have hm : i ∈ Region.ready .any vops listed := by
        simp only [Region.ready, List.mem_filter, List.mem_range, Bool.and_eq_true, Bool.not_eq_true', vsize]
        refine ⟨hi, getD_in (by rw [hs]; exact hi) hu, ?_⟩
        have hl := lexV ⟨i, hi⟩
        simp only at hl
        cases ho : vops[i]? with
        | none => rw [ho] at hl; cases hl
        | some o =>
          rw [ho] at hl
          simp only [Option.map_some, Option.getD_some] at hl ⊢
          rw [Array.all_eq_true'] at hl ⊢
          intro e he
          have h1 : e.on < i := by simpa using hl e he
          rw [ih e.on h1 (by omega)]
          simp
      rw [hr] at hm
      cases hm
    · rfl

theorem vec_region {id : Nat} {Q : Exit → Act → World → Prop} {a : Act} {w : World} (ha : a.tmps.size = 13) (hd : a.defers = [])
    (h : ∀ a' w' n D, a'.tmps[0]? = some (.map (some w.heap.size)) → a'.defers = [] → Below w.heap.size w w' → w'.ownsMap Tryd.prog 46 El w.heap.size n D → Cont D (fun _ => true) → Q .normal a' w') :
    (Code.region id vops true).wp Tryd.prog Q a w := by
  refine wp_region_any (by kernel_rfl) (wpAny_inv (fun fuel listed a' w' => fuel ≤ 23 ∧ VI w fuel listed a' w') (fun fuel listed a' w' i hI hi => vstep w fuel listed a' w' i hI hi) ?_ _ _ _ _ ?_ ?_)
  · intro fuel listed a' w' hI hr
    have hI := hI.2
    have hall := all_listed hI.size hr
    obtain ⟨h1, n, D, hn, ho, hc⟩ := hI.map (hall 0 (by omega))
    refine h a' w' n D (hI.done (hall 22 (by omega))) hI.defers hI.below ho ?_
    exact ⟨hc.isMap, fun j hj _ => hc.yes j hj (hall _ (by omega)), fun k hk => hc.no k fun j hj _ => hk j hj rfl⟩
  · rw [vsize]; decide
  · rw [vsize]
    have R : ∀ k, (Array.replicate 23 false).getD k false = false := getD_replicate_false 23
    refine ⟨Nat.le_refl _, by simp, hd, ha, ⟨rfl, rfl, rfl, Nat.le_refl _, fun _ _ => rfl⟩, fun _ => rfl, fun j _ hl => ?_, fun hl => ?_, fun _ j _ => R _, fun hl => ?_, fun hl => ?_⟩
    all_goals rw [R] at hl; cases hl

theorem vectors_any (w : World) :
    Calls Tryd.prog 30 #[] w fun e w' => ∃ n D, e = .returned (.map (some w.heap.size)) ∧ Below w.heap.size w w' ∧ w'.ownsMap Tryd.prog 46 El w.heap.size n D ∧ Cont D (fun _ => true) := by
  go_enter Tryd.func30, Tryd.ntmps30
  go_wp2
  refine vec_region rfl rfl ?_
  intro a' w' n D h0 hd hb ho hc
  go_wp2
  refine bodyPost_ret (results_tmp rfl _ _ _) hd ?_
  refine ⟨n, D, ?_, hb, ho, hc⟩
  have : a'.tmps.getD 0 undef = .map (some w.heap.size) := by simp [h0]
  rw [this]

theorem zeroE (w : World) : (zeroValue 3).run Tryd.prog w = .ok (.int .i64 0) w := by kernel_rfl

/-- What a look-up in the map answers. -/
theorem cont_has {D : DataW Unit} (h : Cont D (fun _ => true)) {e m : Int} (he : (Lit.int .i64 e).wf = true) (hm : (Lit.int .i64 m).wf = true) :
    Maps.has D (kl e m) = typB e m ∧ D.atKey (kl e m) i0 = .lit (.int .i64 (typT e m)) := by
  by_cases hx : ∃ j, j < 10 ∧ (pr j).1 = (e, m)
  · obtain ⟨j, hj, hp⟩ := hx
    have e1 : (pr j).1.1 = e := by rw [hp]
    have e2 : (pr j).1.2 = m := by rw [hp]
    have := h.yes j hj rfl
    unfold pk at this
    rw [e1, e2] at this
    rw [this.1, this.2]
    have T : ∀ j : Fin 10, typB (pr j).1.1 (pr j).1.2 = true ∧ typT (pr j).1.1 (pr j).1.2 = (pr j).2 := by decide +kernel
    have := T ⟨j, hj⟩
    simp only [e1, e2] at this
    rw [this.1, this.2]
    exact ⟨rfl, rfl⟩
  · have hn : Maps.has D (kl e m) = false := h.no _ fun j hj _ ee => by
      obtain ⟨a, b⟩ := kl_inj he hm (pr_wf hj).1 (pr_wf hj).2.1 ee
      exact hx ⟨j, hj, by rw [a, b]⟩
    have hf : (vecs.find? fun p => p.1 == (e, m)) = none := by
      rw [List.find?_eq_none]
      intro p hp hb
      obtain ⟨j, hj, rfl⟩ := List.mem_iff_getElem.1 hp
      refine hx ⟨j, hj, ?_⟩
      have hb' : vecs[j].1 = (e, m) := by simpa using hb
      rw [← hb', pr, List.getD_eq_getElem?_getD, List.getElem?_eq_getElem hj]
      rfl
    rw [hn, atKey_of_not_has hn, typB, typT, hf]
    exact ⟨rfl, rfl⟩

theorem typed_any (e m : Int) (w : World) (he : (Lit.int .i64 e).wf = true) (hm : (Lit.int .i64 m).wf = true) :
    Calls Tryd.prog 17 #[.int .i64 e, .int .i64 m] w fun r w' => r = .returned (.tuple #[.int .i64 (typT e m), .bool (typB e m)]) ∧ Below w.heap.size w w' := by
  have HV := Lib.hid (vectors_any w)
  have HE := Lib.hid he
  have HM := Lib.hid hm
  clear he hm
  go_enter Tryd.func17, Tryd.ntmps17
  go_wp2_with (first | (go_at_call 30; refine HV.out.mono ?_; rintro r w1 ⟨n, D, rfl, hb, ho, hc⟩; have HB := Lib.hid hb; have HO := Lib.hid ho; have HC := Lib.hid hc; clear hb ho hc) | (at_lookup; refine wpList_lookup_own_ok_int _ rfl _ _ 50 rfl 46 3 .i64 keyed underM Tryd.underlying3 (zeroE _) w.heap.size n _ rfl HO.out _ _ rfl (key_of HE.out HM.out) ?_; intro c hat hwc; have HA := Lib.hid hat; clear hat hwc))
  go_ret2
  obtain ⟨c1, c2⟩ := cont_has HC.out HE.out HM.out
  have ha := HA.out
  rw [c2] at ha
  injection ha with ha
  injection ha with _ ha
  refine ⟨?_, HB.out⟩
  rw [← ha, c1]
  rfl
end Go.Proofs.YtocdmjbmeindgaaDoor
