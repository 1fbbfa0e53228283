/-
  What is proved here: a region that draws its order of evaluation, by what holds of each operation's value: an operation that may come up finds what holds of the values that it waits for, and shows what holds of its own; so each operation is looked at once, whatever the orders; no condition but those that each fact states.
-/
import Derived.Orders
namespace Go.Proofs.YtlleknofnlmecaaDoor
open Go

section
variable {P : Program} {ops : Array Oper} {Q : Exit → Act → World → Prop} {md : Region.Mode}

/-- How many operations have not come up yet. -/
def unl (n : Nat) (listed : Array Bool) : Nat := ((List.range n).filter fun i => !listed.getD i true).length
/-- Operations wait for earlier ones alone. -/
def waitsB (md : Region.Mode) (ops : Array Oper) : Bool := (List.range ops.size).all fun i => match ops[i]? with | some o => o.after.all (fun e => !Region.binds md e || decide (e.on < i)) | none => true
theorem waitsB_spec (h : waitsB md ops = true) {i : Nat} {o : Oper} (hi : ops[i]? = some o) : ∀ e ∈ o.after, Region.binds md e = true → e.on < i := by
  intro e he hb
  have hlt : i < ops.size := (Array.getElem?_eq_some_iff.1 hi).1
  have h1 := List.all_eq_true.1 h i (List.mem_range.2 hlt)
  rw [hi] at h1
  have h2 := Array.all_eq_true'.1 h1 e he
  simpa [hb] using h2
theorem getD_flip {listed : Array Bool} {i : Nat} (hi : i < listed.size) : listed.getD i true = listed.getD i false := by
  simp [Array.getD, hi]
theorem all_listed (hw : waitsB md ops = true) {listed : Array Bool} (hsz : listed.size = ops.size) (hr : Region.ready md ops listed = []) : ∀ i, i < ops.size → listed.getD i false = true := by
  intro i
  induction i using Nat.strongRecOn with
  | _ i ih =>
    intro hi
    cases hl : listed.getD i false with
    | true => rfl
    | false =>
      obtain ⟨o, ho⟩ : ∃ o, ops[i]? = some o := ⟨_, Array.getElem?_eq_getElem hi⟩
      have hm : i ∈ Region.ready md ops listed := by
        unfold Region.ready
        rw [List.mem_filter]
        refine ⟨List.mem_range.2 hi, ?_⟩
        rw [getD_flip (by omega), hl, ho]
        simp only [Bool.not_false, Bool.true_and, Option.map_some, Option.getD_some]
        rw [Array.all_eq_true']
        intro e he
        cases hb : Region.binds md e with
        | false => rfl
        | true =>
          have hlt := waitsB_spec hw ho e he hb
          rw [ih e.on hlt (by omega)]
          rfl
      rw [hr] at hm
      cases hm
theorem unl_set {n i : Nat} {listed : Array Bool} (hi : i < n) (hs : i < listed.size) (hl : listed.getD i true = false) : unl n (listed.setIfInBounds i true) + 1 ≤ unl n listed := by
  unfold unl
  have e : ((List.range n).filter fun j => !(listed.setIfInBounds i true).getD j true) = ((List.range n).filter fun j => !listed.getD j true).filter fun j => j != i := by
    rw [List.filter_filter]
    congr 1
    funext j
    by_cases hj : j = i
    · subst hj; simp [hs]
    · rw [getD_set_ne true (Ne.symm hj)]; simp [hj]
  rw [e]
  have hmem : i ∈ ((List.range n).filter fun j => !listed.getD j true) := by
    rw [List.mem_filter]; exact ⟨List.mem_range.2 hi, by simp [hl]⟩
  have : ∀ (l : List Nat), i ∈ l → (l.filter fun j => j != i).length + 1 ≤ l.length := by
    intro l
    induction l with
    | nil => intro h; cases h
    | cons a l ih =>
      intro h
      by_cases ha : a = i
      · subst ha
        rw [List.filter_cons]
        simp only [bne_self_eq_false, Bool.false_eq_true, if_false, List.length_cons]
        exact Nat.succ_le_succ (List.length_filter_le _ _)
      · have h2 := ih ((List.mem_cons.1 h).resolve_left (fun e => ha e.symm))
        rw [List.filter_cons]
        simp only [bne_iff_ne, ne_eq, ha, not_false_eq_true, if_true, List.length_cons]
        omega
  exact this _ hmem

/-- What holds of the operations that have come up is kept by each step: then the region ends with all of it. -/
theorem wpAny_inv (hw : waitsB md ops = true) (I : Array Bool → Act → World → Prop)
    (hs : ∀ (listed : Array Bool) (a : Act) (w : World) (i : Nat) (o : Oper), I listed a w → listed.size = ops.size → ops[i]? = some o → listed.getD i true = false → (∀ e ∈ o.after, Region.binds md e = true → listed.getD e.on false = true) → wpOp P ops Q i (I (listed.setIfInBounds i true)) a w)
    (he : ∀ (listed : Array Bool) (a : Act) (w : World), I listed a w → (∀ i, i < ops.size → listed.getD i false = true) → Q .normal a w) :
    ∀ (fuel : Nat) (listed : Array Bool) (a : Act) (w : World), listed.size = ops.size → unl ops.size listed ≤ fuel → I listed a w → wpAny P md ops Q fuel listed a w := by
  intro fuel
  induction fuel with
  | zero =>
    intro listed a w hsz hu hI
    have hr : Region.ready md ops listed = [] := by
      rcases hrr : Region.ready md ops listed with _ | ⟨i, l⟩
      · rfl
      · have hm : i ∈ Region.ready md ops listed := by rw [hrr]; simp
        obtain ⟨hun, o, ho, _⟩ := mem_ready.1 hm
        have := unl_set (n := ops.size) (Array.getElem?_eq_some_iff.1 ho).1 (by rw [hsz]; exact (Array.getElem?_eq_some_iff.1 ho).1) hun
        omega
    exact ⟨hr, he listed a w hI (all_listed hw hsz hr)⟩
  | succ fuel ih =>
    intro listed a w hsz hu hI
    refine ⟨fun hr => he listed a w hI (all_listed hw hsz hr), fun i hi => ?_⟩
    obtain ⟨hun, o, ho, hall⟩ := mem_ready.1 hi
    have hlt := (Array.getElem?_eq_some_iff.1 ho).1
    refine wpOp_mono (fun a' w' h => ?_) (hs listed a w i o hI hsz ho hun hall)
    have := unl_set (n := ops.size) hlt (by omega) hun
    exact ih _ a' w' (by simp [hsz]) (by omega) h
end

/-- The operations' temporaries: the i-th one's is the i-th of ds. -/
def dstsB (ops : Array Oper) (ds : List Tmp) : Bool := ops.size == ds.length && (List.range ops.size).all fun i => match ops[i]? with | some o => o.dst == ds[i]? | none => true
theorem dstsB_spec {ops : Array Oper} {ds : List Tmp} (h : dstsB ops ds = true) : ops.size = ds.length ∧ ∀ (i : Nat) (o : Oper), ops[i]? = some o → o.dst = ds[i]? := by
  unfold dstsB at h
  rw [Bool.and_eq_true] at h
  refine ⟨by simpa using h.1, fun i o hi => ?_⟩
  have h1 := List.all_eq_true.1 h.2 i (List.mem_range.2 (Array.getElem?_eq_some_iff.1 hi).1)
  rw [hi] at h1
  simpa using h1
/-- A frame that differs in the operations' temporaries alone. -/
def Fr (a : Act) (ds : List Tmp) (b : Act) : Prop := b.defers = a.defers ∧ b.tmps.size = a.tmps.size ∧ ∀ t, t ∉ ds → b.tmps.getD t undef = a.tmps.getD t undef
/-- The value of the j-th operation. -/
def valOf (ds : List Tmp) (b : Act) (j : Nat) : Value := b.tmps.getD (ds.getD j 0) undef
theorem Fr.put {a b : Act} {ds : List Tmp} {t : Tmp} {v : Value} (h : Fr a ds b) (ht : t ∈ ds) : Fr a ds (b.put (some t) v) := by
  refine ⟨h.1, by simpa [Act.put] using h.2.1, fun s hs => ?_⟩
  rw [← h.2.2 s hs]
  have hne : t ≠ s := fun e => hs (e ▸ ht)
  simp [Act.put, Array.getElem?_setIfInBounds_ne hne]
theorem getD_put_same {b : Act} {t : Tmp} {v : Value} (ht : t < b.tmps.size) : (b.put (some t) v).tmps.getD t undef = v := by simp [Act.put, ht]
theorem getD_put_ne {b : Act} {t s : Tmp} {v : Value} (h : t ≠ s) : (b.put (some t) v).tmps.getD s undef = b.tmps.getD s undef := by simp [Act.put, Array.getElem?_setIfInBounds_ne h]

/-- A drawn region, by what holds of each operation's value (R) and of the world (S). -/
theorem wp_region_vals {P : Program} {ops : Array Oper} {Q : Exit → Act → World → Prop} {id : Nat} {a : Act} {w : World} (ds : List Tmp) (S : World → Prop) (R : Nat → Value → World → Prop)
    (hm : P.follows .mixedOrders = true) (hw : waitsB .any ops = true) (hds : dstsB ops ds = true) (hnd : ds.Nodup) (hlt : ∀ t ∈ ds, t < a.tmps.size) (hS : S { w with drawn := w.drawn + 1 })
    (hs : ∀ (i : Nat) (o : Oper), ops[i]? = some o → ∀ (b : Act) (w : World), Fr a ds b → S w → (∀ e ∈ o.after, Region.binds .any e = true → R e.on (valOf ds b e.on) w) →
      ∀ K : Act → World → Prop, (∀ v w', S w' → R i v w' → (∀ j u, R j u w → R j u w') → K (b.put o.dst v) w') → wpOp P ops Q i K b w)
    (he : ∀ (b : Act) (w : World), Fr a ds b → S w → (∀ j, j < ds.length → R j (valOf ds b j) w) → Q .normal b w) :
    (Code.region id ops true).wp P Q a w := by
  obtain ⟨hlen, hdst⟩ := dstsB_spec hds
  refine wp_region_any hm ?_
  refine wpAny_inv hw (fun listed b w => Fr a ds b ∧ S w ∧ ∀ j, j < ops.size → listed.getD j false = true → R j (valOf ds b j) w) ?_ ?_ ops.size _ a _ (by simp) ?_ ⟨⟨rfl, rfl, fun _ _ => rfl⟩, hS, fun j hj h => ?_⟩
  · rintro listed b w i o ⟨hF, hSw, hR⟩ hsz hi hun hdep
    have hlti := (Array.getElem?_eq_some_iff.1 hi).1
    have ho := hdst i o hi
    obtain ⟨t, ht⟩ : ∃ t, ds[i]? = some t := ⟨_, List.getElem?_eq_getElem (by omega)⟩
    have htm : t ∈ ds := List.mem_of_getElem? ht
    have htl : t < b.tmps.size := by rw [hF.2.1]; exact hlt t htm
    refine hs i o hi b w hF hSw (fun e he hb => hR e.on ?_ (hdep e he hb)) _ ?_
    · have := waitsB_spec hw hi e he hb; omega
    · intro v w' hS' hRi hst
      rw [ho, ht]
      refine ⟨hF.put htm, hS', fun j hj hl => ?_⟩
      unfold valOf
      by_cases hji : j = i
      · subst hji
        rw [List.getD_eq_getElem?_getD, ht]
        show R j ((b.put (some t) v).tmps.getD t undef) w'
        rw [getD_put_same htl]
        exact hRi
      · have hne : t ≠ ds.getD j 0 := by
          intro e
          obtain ⟨s, hs2⟩ : ∃ s, ds[j]? = some s := ⟨_, List.getElem?_eq_getElem (by omega)⟩
          rw [List.getD_eq_getElem?_getD, hs2] at e
          simp only [Option.getD_some] at e
          subst e
          exact hji ((List.getElem?_inj (i := j) (j := i) (by omega) hnd).1 (hs2.trans ht.symm))
        rw [getD_put_ne hne]
        refine hst _ _ (hR j hj ?_)
        rw [← hl, getD_set_ne false (Ne.symm hji)]
  · rintro listed b w ⟨hF, hSw, hR⟩ hall
    exact he b w hF hSw fun j hj => hR j (by omega) (hall j (by omega))
  · unfold unl
    exact Nat.le_trans (List.length_filter_le _ _) (by simp)
  · simp [Array.getD] at h
/-- The temporaries set one by one. -/
def putAll (t : Array Value) : List Tmp → (Nat → Value) → Nat → Array Value
  | [], _, _ => t
  | d :: ds, f, j => putAll (t.setIfInBounds d (f j)) ds f (j + 1)
theorem putAll_size : ∀ (ds : List Tmp) (t : Array Value) (f : Nat → Value) (j : Nat), (putAll t ds f j).size = t.size
  | [], _, _, _ => rfl
  | d :: ds, t, f, j => by rw [putAll, putAll_size]; simp
theorem putAll_out : ∀ (ds : List Tmp) (t : Array Value) (f : Nat → Value) (j s : Nat), s ∉ ds → (putAll t ds f j).getD s undef = t.getD s undef
  | [], _, _, _, _, _ => rfl
  | d :: ds, t, f, j, s, h => by
    have h1 : d ≠ s := fun e => h (by simp [e])
    rw [putAll, putAll_out ds _ f (j + 1) s (fun hh => h (by simp [hh]))]
    simp [Array.getElem?_setIfInBounds_ne h1]
theorem putAll_in : ∀ (ds : List Tmp) (t : Array Value) (f : Nat → Value) (j k s : Nat), ds.Nodup → ds[k]? = some s → s < t.size → (putAll t ds f j).getD s undef = f (j + k)
  | d :: ds, t, f, j, 0, s, hn, h, hl => by
    obtain rfl : d = s := by simpa using h
    rw [putAll, putAll_out ds _ f (j + 1) d (List.nodup_cons.1 hn).1]
    simp [hl]
  | d :: ds, t, f, j, k + 1, s, hn, h, hl => by
    rw [putAll, putAll_in ds _ f (j + 1) k s (List.nodup_cons.1 hn).2 (by simpa using h) (by simpa using hl), show j + 1 + k = j + (k + 1) by omega]
/-- The frame at the region's end, written out. -/
theorem Fr.lit {a b : Act} {ds : List Tmp} (h : Fr a ds b) (hnd : ds.Nodup) (hlt : ∀ t ∈ ds, t < a.tmps.size) : b = { tmps := putAll a.tmps ds (valOf ds b) 0, defers := a.defers } := by
  obtain ⟨h1, h2, h3⟩ := h
  cases b with
  | mk tmps defers =>
    simp only at h1 h2 h3
    subst h1
    congr 1
    apply Array.ext
    · rw [putAll_size, h2]
    · intro s hs1 hs2
      have e1 : tmps[s] = tmps.getD s undef := by simp [Array.getD, hs1]
      have e2 : (putAll a.tmps ds (valOf ds { tmps := tmps, defers := a.defers }) 0)[s] = (putAll a.tmps ds (valOf ds { tmps := tmps, defers := a.defers }) 0).getD s undef := by simp [Array.getD, hs2]
      rw [e1, e2]
      by_cases hm : s ∈ ds
      · obtain ⟨k, hk⟩ := List.getElem?_of_mem hm
        rw [putAll_in ds _ _ 0 k s hnd hk (hlt s hm), Nat.zero_add]
        unfold valOf
        rw [List.getD_eq_getElem?_getD, hk]
        rfl
      · rw [putAll_out ds _ _ 0 s hm, h3 s hm]
/-- Each operation of a list, with its number. -/
def AllOps (F : Nat → Oper → Prop) : Nat → List Oper → Prop
  | _, [] => True
  | i, o :: os => F i o ∧ AllOps F (i + 1) os
theorem AllOps.at {F : Nat → Oper → Prop} : ∀ (l : List Oper) (k : Nat), AllOps F k l → ∀ (i : Nat) (o : Oper), l[i]? = some o → F (k + i) o
  | [], _, _, i, o, h => by simp at h
  | o0 :: l, k, h, 0, o, ho => by
    obtain rfl : o0 = o := by simpa using ho
    exact h.1
  | o0 :: l, k, h, i + 1, o, ho => by
    have := AllOps.at l (k + 1) h.2 i o (by simpa using ho)
    rw [show k + (i + 1) = k + 1 + i by omega]
    exact this
theorem all_ops {F : Nat → Oper → Prop} {ops : Array Oper} (h : AllOps F 0 ops.toList) {i : Nat} {o : Oper} (hi : ops[i]? = some o) : F i o := by
  have := AllOps.at ops.toList 0 h i o (by simpa using hi)
  rwa [Nat.zero_add] at this
/-- What an operation owes, its condition paid. -/
theorem wpOp_of {P : Program} {ops : Array Oper} {Q : Exit → Act → World → Prop} {i : Nat} {o : Oper} {K : Act → World → Prop} {a : Act} {w : World} (hi : ops[i]? = some o) (hw : Region.wanted o (yielded ops a.tmps) = true) (h : o.wp P a w K Q) : wpOp P ops Q i K a w := by
  unfold Go.wpOp
  simp only [hi, hw, if_true]
  exact .inl h
end Go.Proofs.YtlleknofnlmecaaDoor
