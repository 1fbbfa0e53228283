/-
  What is proved here: how a law of layer 15 (a function that returns true and leaves all memory that was there as it was) gives its row, and how arguments that are lists of strings or of strings with numbers are opened; no condition but those that each fact states.
-/
import Derived.Test.YtoenigbfcbillaaWorks
import Derived.ProofKit
import Derived.OpenShut
import Derived.ChangeMaps5
namespace Go.Proofs.Ytoenigbfcbillaa
open Go.ChangeShapes Go.WideShapes Go.ChangeAt Go.RowKit

theorem ownK : ownKnob Try.prog.godebug = none := by kernel_rfl
theorem laidK : laidOutB Try.prog = true := by kernel_rfl
section
variable {H : Type} {enc : TypeId × Value → H}

theorem trodAll_stays {P : Program} (hl : laidOutB P = true) {W W' : World} {sp : Nat → Bool} : ∀ (ts : List TypeId) (vs : List Value) (ds : List (DataW H)) (ps : List MemPlace),
    (∀ t ∈ ts, P.readableRec t = true ∧ t < P.types.size) → DataW.TrodAll enc P W 0 (fun _ => true) true ts vs ds ps → (∀ p ∈ ps, W.sameAt W' p) → (∀ p ∈ ps, sp p.block = true) →
    DataW.TrodAll enc P W' 0 sp true ts vs ds ps := by
  intro ts
  induction ts with
  | nil =>
    intro vs ds ps _ h _ _
    obtain ⟨rfl, rfl, rfl⟩ := trodAll_nil h
    exact trodAll_mk0
  | cons t ts ih =>
    intro vs ds ps hr h hsame hsp
    obtain ⟨v, vs', d, ds', p, q, rfl, rfl, rfl, h0, h1⟩ := trodAll_cons h
    refine trodAll_cons_mk ?_ (ih vs' ds' q (fun t ht => hr t (List.mem_cons_of_mem _ ht)) h1 (fun x hx => hsame x (List.mem_append_right _ hx)) (fun x hx => hsp x (List.mem_append_right _ hx)))
    have := hr t (List.mem_cons_self ..)
    exact WideElems.Trod_stays hl this.1 this.2 h0 (fun x hx => hsame x (List.mem_append_left _ hx)) (fun x hx => hsp x (List.mem_append_left _ hx))

theorem law_post {f : Func} {s : ChangeSpec} {W W' : World} {args : Array Value} {ds gs : List (DataW H)} {before : List MemPlace}
    (hrec : ∀ t ∈ f.params.toList, Try.prog.readableRec t = true ∧ t < Try.prog.types.size) (hrt : f.resultTypes = #[4]) (hvars : s.vars = [])
    (hres : (s.fn H (ds ++ gs)).results = [.lit (.bool true)]) (hfn : (s.fn H (ds ++ gs)).args = ds) (hfv : (s.fn H (ds ++ gs)).vars = [])
    (hW : DataW.Whole enc Try.prog f.params.toList s.vars false W args.toList ds gs before) (hb : Below W.heap.size W W') :
    s.post enc Try.prog f false true false false W args (.bool true) W' := by
  have hlt : ∀ p ∈ before, p.block < W.heap.size := fun p hp => hW.lt p hp
  obtain ⟨p, q, hA, hV, he, _, _⟩ := id hW
  refine ⟨ds, gs, before, [], p, [], hW, ?_, ?_, ?_, hb.frame _, fun h => by cases h⟩
  · rw [hres, hrt]
    exact trodAll_cons_mk (shut_bool Try.underlying4 _) trodAll_mk0
  · rw [hfn]
    refine trodAll_stays laidK _ _ _ _ hrec hA (fun x hx => hb.same (hlt x (by rw [he]; exact List.mem_append_left _ hx))) (fun x hx => ?_)
    simpa using hlt x (by rw [he]; exact List.mem_append_left _ hx)
  · rw [hfv, hvars]
    rfl

end

theorem wf_64 {k : Int} (h : (Lit.int .i64 k).wf = true) : -9223372036854775808 ≤ k ∧ k ≤ 9223372036854775807 := by simpa [Lit.wf, IntKind.min, IntKind.max, IntKind.signed, IntKind.bits] using h
theorem wf_u64 {k : Int} (h : (Lit.int .u64 k).wf = true) : 0 ≤ k ∧ k ≤ 18446744073709551615 := by simpa [Lit.wf, IntKind.min, IntKind.max, IntKind.signed, IntKind.bits] using h

section
variable {H : Type} {enc : TypeId × Value → H} {w : World} {spare : Nat → Bool} {held : Bool}
/-- A list whose elements are opened one by one. -/
theorem open_list {D : Type} (row : D → List Value) (ok : D → Prop) (k : Nat) (hk : ∀ d, (row d).length = k) (hk0 : 0 < k) {tl te : TypeId} (ht : Try.prog.underlying tl = some (.slice te)) (hcs : Try.prog.cellsOf te = k)
    (each : ∀ (fuel : Nat) (cs : List Value) (x : DataW H × List MemPlace), DataW.trod enc Try.prog w 0 spare held fuel te cs = some x → ∃ d, ok d ∧ cs = row d)
    (fuel : Nat) (v : Value) (x : DataW H × List MemPlace) (g5 : DataW.trod enc Try.prog w 0 spare held fuel tl [v] = some x) :
    ∃ (l : List D) (A : Option Addr) (n c : Nat), v = .slice A n c ∧ l.length = n ∧ n ≤ c ∧ c ≤ maxLen ∧ (∀ d ∈ l, ok d) ∧
      (0 < n → ∃ b off, A = some ⟨b, off, none⟩ ∧ b < w.heap.size ∧ ∀ j d, l[j]? = some d → ∀ i u, (row d)[i]? = some u → w.cell? ⟨b, off + j * k + i, none⟩ = some u) := by
  rcases DataW.trod_slice ht g5 with ⟨hc, _⟩ | ⟨a, len, cap, elems, rest, n', hn', hc, _, _, hl, hm, hel, he, _, _⟩
  · obtain rfl : v = .slice none 0 0 := by simpa using hc
    exact ⟨[], none, 0, 0, rfl, rfl, Nat.le_refl _, Nat.zero_le _, by simp, fun h => absurd h (by omega)⟩
  · obtain rfl : v = .slice (some a) len cap := by simpa using hc
    have each : ∀ j, j < len → ∃ d, ok d ∧ w.cells? 0 (a.add (j * k)) k = some (row d) := by
      intro j hj
      have hj' := he j hj
      rw [hcs, List.getElem?_eq_getElem (by omega)] at hj'
      obtain ⟨cs', h1, h2⟩ := Option.bind_eq_some_iff.1 hj'
      obtain ⟨d, hd, rfl⟩ := each n' cs' _ h2
      exact ⟨d, hd, h1⟩
    have hex : ∀ m, m ≤ len → ∃ l : List D, l.length = m ∧ (∀ s ∈ l, ok s) ∧ ∀ j s, l[j]? = some s → w.cells? 0 (a.add (j * k)) k = some (row s) := by
      intro m
      induction m with
      | zero => exact fun _ => ⟨[], rfl, by simp, fun j t h => by simp at h⟩
      | succ m ihm =>
        intro hm2
        obtain ⟨l, hl1, hl3, hl2⟩ := ihm (by omega)
        obtain ⟨s, hs, h1⟩ := each m (by omega)
        refine ⟨l ++ [s], by simp [hl1], fun x hx => ?_, fun j t' hj => ?_⟩
        · rcases List.mem_append.1 hx with hx | hx
          · exact hl3 x hx
          · obtain rfl := List.mem_singleton.1 hx; exact hs
        · rcases Nat.lt_or_ge j l.length with hlt | hge
          · rw [List.getElem?_append_left hlt] at hj
            exact hl2 j t' hj
          · rw [List.getElem?_append_right hge] at hj
            have hj0 : j - l.length = 0 := by
              have := (List.getElem?_eq_some_iff.1 hj).1
              simp at this
              exact this
            rw [hj0] at hj
            obtain rfl : s = t' := by simpa using hj
            have : j = m := by omega
            subst this
            exact h1
    obtain ⟨l, hl1, hl3, hl2⟩ := hex len (Nat.le_refl _)
    refine ⟨l, some a, len, cap, rfl, hl1, hl, hm, hl3, fun hpos => ?_⟩
    obtain ⟨b, off, spot⟩ := a
    obtain ⟨t0, ht0⟩ : ∃ t0, l[0]? = some t0 := ⟨_, List.getElem?_eq_getElem (by omega)⟩
    obtain ⟨_, _, hcell0⟩ := World.cells?_some (hl2 0 t0 ht0)
    have h00 := hcell0 0 hk0
    rw [List.getElem?_eq_getElem (by rw [hk]; exact hk0)] at h00
    have hspot : spot = none := by simpa [Addr.add] using World.cell?_spot h00
    subst hspot
    refine ⟨b, off, rfl, ?_, fun j t hj i u hu => ?_⟩
    · have := World.block_lt_of_cell? w _ h00
      simpa [Addr.add] using this
    · obtain ⟨_, _, hcell⟩ := World.cells?_some (hl2 j t hj)
      have hi : i < k := by rw [← hk t]; exact (List.getElem?_eq_some_iff.1 hu).1
      have e : (((⟨b, off, none⟩ : Addr).add (j * k)).add i) = ⟨b, off + j * k + i, none⟩ := by
        unfold Addr.add
        by_cases hj0 : j * k = 0
        · by_cases hi0 : i = 0 <;> simp [hj0, hi0]
        · by_cases hi0 : i = 0 <;> simp [hj0, hi0]
      have := hcell i hi
      rw [e, hu] at this
      exact this
theorem cI : Try.prog.cellsOf 3 = 1 := by kernel_rfl
theorem cS : Try.prog.cellsOf 9 = 1 := by kernel_rfl
theorem cT : Try.prog.cellsOf 29 = 2 := by kernel_rfl
theorem open_strs_at (fuel : Nat) (v : Value) (x : DataW H × List MemPlace) (g5 : DataW.trod enc Try.prog w 0 spare held fuel 34 [v] = some x) : ∃ l, RdS w v l := by
  obtain ⟨l, A, n, c, rfl, h1, h2, h3, h4, h5⟩ := open_list (fun d : ByteArray => [Value.string d]) (fun d => d.size ≤ maxLen) 1 (fun _ => rfl) (by decide) Try.underlying34 cS (fun f cs x h => by
    obtain ⟨s, hs, _, ws⟩ := DataW.trod_string Try.underlying9 h
    exact ⟨s, ws, hs⟩) fuel v x g5
  refine ⟨l, A, n, c, rfl, h1, h2, h3, h4, fun hn => ?_⟩
  obtain ⟨b, off, rfl, hlt, hc⟩ := h5 hn
  exact ⟨b, off, rfl, hlt, fun j s hs => by have := hc j s hs 0 _ rfl; simpa using this⟩
/-- The slice value reads as a list of strings with numbers. -/
def RdT (w : World) (v : Value) (l : List E) : Prop :=
  ∃ A n c, v = .slice A n c ∧ l.length = n ∧ n ≤ c ∧ c ≤ maxLen ∧ (∀ d ∈ l, d.k.size ≤ maxLen ∧ -9223372036854775808 ≤ d.n ∧ d.n ≤ 9223372036854775807) ∧ (0 < n → ∃ b off, A = some ⟨b, off, none⟩ ∧ b < w.heap.size ∧ ∀ j d, l[j]? = some d → At2 w b (off + j * 2) d)
theorem textF : ∃ (f0 f1 : Field), Try.prog.underlying 29 = some (.struct #[f0, f1]) ∧ (f0.type = 9 ∧ f0.offset = 0) ∧ (f1.type = 3 ∧ f1.offset = 1) :=
  ⟨_, _, Try.underlying29, ⟨rfl, rfl⟩, ⟨rfl, rfl⟩⟩
theorem open_text (fuel : Nat) (cs : List Value) (x : DataW H × List MemPlace) (h : DataW.trod enc Try.prog w 0 spare held fuel 29 cs = some x) : ∃ d : E, (d.k.size ≤ maxLen ∧ -9223372036854775808 ≤ d.n ∧ d.n ≤ 9223372036854775807) ∧ cs = d.row := by
  obtain ⟨f0, f1, hs, ⟨t0, o0⟩, ⟨t1, o1⟩⟩ := textF
  obtain ⟨xs, n, hn, rfl, hlen, hxl, hf⟩ := DataW.trod_struct hs h
  rw [cT] at hlen
  match cs, hlen with
  | [c0, c1], _ =>
    have g0 := hf 0 f0 rfl
    have g1 := hf 1 f1 rfl
    rw [t0, o0, cS] at g0
    rw [t1, o1, cI] at g1
    match xs, hxl with
    | [y0, y1], _ =>
      simp only [List.drop_succ_cons, List.drop_zero, List.take_succ_cons, List.take_zero, List.getElem?_cons_zero, List.getElem?_cons_succ] at g0 g1
      obtain ⟨s, hss, _, ws⟩ := DataW.trod_string Try.underlying9 g0
      obtain ⟨a, ha, _, wa⟩ := DataW.trod_int Try.underlying3 g1
      have wa := wf_64 wa
      obtain rfl : c0 = _ := by simpa using hss
      obtain rfl : c1 = _ := by simpa using ha
      exact ⟨⟨s, a⟩, ⟨ws, wa.1, wa.2⟩, rfl⟩
theorem open_texts_at (fuel : Nat) (v : Value) (x : DataW H × List MemPlace) (g5 : DataW.trod enc Try.prog w 0 spare held fuel 22 [v] = some x) : ∃ l, RdT w v l := by
  obtain ⟨l, A, n, c, rfl, h1, h2, h3, h4, h5⟩ := open_list E.row (fun d => d.k.size ≤ maxLen ∧ -9223372036854775808 ≤ d.n ∧ d.n ≤ 9223372036854775807) 2 (fun _ => rfl) (by decide) Try.underlying22 cT (fun f cs x h => open_text f cs x h) fuel v x g5
  refine ⟨l, A, n, c, rfl, h1, h2, h3, h4, fun hn => ?_⟩
  obtain ⟨b, off, rfl, hlt, hc⟩ := h5 hn
  exact ⟨b, off, rfl, hlt, fun j s hs => ⟨hc j s hs 0 _ rfl, hc j s hs 1 _ rfl⟩⟩
end
section
variable {H : Type} {enc : TypeId × Value → H} {W : World} {base : Nat} {v : Value} {d : DataW H} {ps : List MemPlace}
theorem open_strs (hv : Value.okWide Try.prog W .any base 34 v) (h : DataW.Trod enc Try.prog W 0 (fun _ => true) true 34 v d ps) : ∃ l, RdS W v l := by
  obtain ⟨A, n, c, rfl⟩ := okWide_slice Try.underlying34 hv
  obtain ⟨fuel, hf⟩ := h
  have hf' : DataW.trod enc Try.prog W 0 (fun _ => true) true fuel 34 [.slice A n c] = some (d, ps) := hf
  exact open_strs_at fuel _ _ hf'
theorem open_texts (hv : Value.okWide Try.prog W .any base 22 v) (h : DataW.Trod enc Try.prog W 0 (fun _ => true) true 22 v d ps) : ∃ l, RdT W v l := by
  obtain ⟨A, n, c, rfl⟩ := okWide_slice Try.underlying22 hv
  obtain ⟨fuel, hf⟩ := h
  have hf' : DataW.trod enc Try.prog W 0 (fun _ => true) true fuel 22 [.slice A n c] = some (d, ps) := hf
  exact open_texts_at fuel _ _ hf'
end
end Go.Proofs.Ytoenigbfcbillaa
