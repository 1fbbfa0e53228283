/-
  What is proved here: how a law of layer 13 (a function that returns true and leaves all memory that was there as it was) gives its row, and how an argument that is a list of calls is opened; no condition but those that each fact states.
-/
import Derived.Test.YtkcmpakcahemcaaFine
import Derived.ProofKit
import Derived.OpenShut
import Derived.ChangeMaps5
namespace Go.Proofs.Ytkcmpakcahemcaa
open Go.ChangeShapes Go.WideShapes Go.ChangeAt Go.RowKit Le

theorem ownK : ownKnob Try.prog.godebug = none := by kernel_rfl
theorem laidK : laidOutB Try.prog = true := by kernel_rfl
theorem cellsU8 : Try.prog.cellsOf 5 = 1 := by kernel_rfl

theorem Rds.pre {w : World} {A : Option Addr} {n c : Nat} {xs : List UInt8} (h : Rds w A n c xs) {m : Nat} (hm : m ≤ n) : Rds w A m c (xs.take m) := by
  refine ⟨by rw [List.length_take, h.1]; omega, Nat.le_trans hm h.2.1, fun hp => ?_⟩
  obtain ⟨b, off, rfl, hlt, hc⟩ := h.2.2 (by omega)
  refine ⟨b, off, rfl, hlt, fun j x hx => hc j x ?_⟩
  rw [List.getElem?_take] at hx
  split at hx
  · exact hx
  · cases hx

/-- What the laws cut their argument to: its first K bytes. -/
theorem firstK {w : World} {A : Option Addr} {n c : Nat} {xs : List UInt8} (h : Rds w A n c xs) (K : Nat) :
    ∃ m ys, Rds w A m c ys ∧ m ≤ K ∧ m ≤ n ∧ ((n ≤ K ∧ m = n) ∨ (K < n ∧ m = K)) := by
  by_cases hn : n ≤ K
  · exact ⟨n, xs, h, hn, Nat.le_refl _, .inl ⟨hn, rfl⟩⟩
  · exact ⟨K, xs.take K, h.pre (by omega), Nat.le_refl _, by omega, .inr ⟨by omega, rfl⟩⟩

theorem Rd.same {w w' : World} {v : Value} {xs : List UInt8} (h : Rd w v xs) (hb : Below w.heap.size w w') : Rd w' v xs := h.below hb

section
variable {H : Type} {enc : TypeId × Value → H}

theorem trodAll_stays {P : Program} (hl : laidOutB P = true) {W W' : World} {sp : Nat → Bool} : ∀ (ts : List TypeId) (vs : List Value) (ds : List (DataW H)) (ps : List MemPlace),
    (∀ t ∈ ts, P.readableRec t = true ∧ t < P.types.size) → DataW.TrodAll enc P W 0 (fun _ => true) true ts vs ds ps → (∀ p ∈ ps, W.sameAt W' p) → (∀ p ∈ ps, sp p.block = true) →
    DataW.TrodAll enc P W' 0 sp true ts vs ds ps := by
  intro ts
  induction ts with
  | nil =>
    intro vs ds ps _ h _ _
    obtain ⟨rfl, rfl, rfl⟩ := trodAll_nil h
    exact trodAll_mk0
  | cons t ts ih =>
    intro vs ds ps hr h hsame hsp
    obtain ⟨v, vs', d, ds', p, q, rfl, rfl, rfl, h0, h1⟩ := trodAll_cons h
    refine trodAll_cons_mk ?_ (ih vs' ds' q (fun t ht => hr t (List.mem_cons_of_mem _ ht)) h1 (fun x hx => hsame x (List.mem_append_right _ hx)) (fun x hx => hsp x (List.mem_append_right _ hx)))
    have := hr t (List.mem_cons_self ..)
    exact WideElems.Trod_stays hl this.1 this.2 h0 (fun x hx => hsame x (List.mem_append_left _ hx)) (fun x hx => hsp x (List.mem_append_left _ hx))

theorem law_post {f : Func} {s : ChangeSpec} {W W' : World} {args : Array Value} {ds gs : List (DataW H)} {before : List MemPlace}
    (hrec : ∀ t ∈ f.params.toList, Try.prog.readableRec t = true ∧ t < Try.prog.types.size) (hrt : f.resultTypes = #[4]) (hvars : s.vars = [])
    (hres : (s.fn H (ds ++ gs)).results = [.lit (.bool true)]) (hfn : (s.fn H (ds ++ gs)).args = ds) (hfv : (s.fn H (ds ++ gs)).vars = [])
    (hW : DataW.Whole enc Try.prog f.params.toList s.vars false W args.toList ds gs before) (hb : Below W.heap.size W W') :
    s.post enc Try.prog f false true false false W args (.bool true) W' := by
  have hlt : ∀ p ∈ before, p.block < W.heap.size := fun p hp => hW.lt p hp
  obtain ⟨p, q, hA, hV, he, _, _⟩ := id hW
  refine ⟨ds, gs, before, [], p, [], hW, ?_, ?_, ?_, hb.frame _, fun h => by cases h⟩
  · rw [hres, hrt]
    exact trodAll_cons_mk (shut_bool Try.underlying4 _) trodAll_mk0
  · rw [hfn]
    refine trodAll_stays laidK _ _ _ _ hrec hA (fun x hx => hb.same (hlt x (by rw [he]; exact List.mem_append_left _ hx))) (fun x hx => ?_)
    simpa using hlt x (by rw [he]; exact List.mem_append_left _ hx)
  · rw [hfv, hvars]
    rfl

end

/-- A call, as data. -/
structure Dv where
  k : Int
  w : Int
  n : Int
  u : Nat
  s : ByteArray
structure okD (d : Dv) : Prop where
  k0 : -9223372036854775808 ≤ d.k
  k1 : d.k ≤ 9223372036854775807
  w0 : -9223372036854775808 ≤ d.w
  w1 : d.w ≤ 9223372036854775807
  n0 : -9223372036854775808 ≤ d.n
  n1 : d.n ≤ 9223372036854775807
  u1 : (d.u : Int) ≤ 18446744073709551615
  s1 : d.s.size ≤ 9223372036854775807
def Dv.row (d : Dv) : List Value := [.int .i64 d.k, .int .i64 d.w, .int .i64 d.n, .int .u64 (d.u : Int), .string d.s]
structure At5 (w : World) (b o : Nat) (d : Dv) : Prop where
  c0 : w.cell? ⟨b, o, none⟩ = some (.int .i64 d.k)
  c1 : w.cell? ⟨b, o + 1, none⟩ = some (.int .i64 d.w)
  c2 : w.cell? ⟨b, o + 2, none⟩ = some (.int .i64 d.n)
  c3 : w.cell? ⟨b, o + 3, none⟩ = some (.int .u64 (d.u : Int))
  c4 : w.cell? ⟨b, o + 4, none⟩ = some (.string d.s)
theorem At5.below {w w' : World} {b o B : Nat} {d : Dv} (h : At5 w b o d) (hb : Below B w w') (hl : b < B) : At5 w' b o d :=
  ⟨(hb.cell (p := ⟨b, _, none⟩) hl).trans h.c0, (hb.cell (p := ⟨b, _, none⟩) hl).trans h.c1, (hb.cell (p := ⟨b, _, none⟩) hl).trans h.c2, (hb.cell (p := ⟨b, _, none⟩) hl).trans h.c3, (hb.cell (p := ⟨b, _, none⟩) hl).trans h.c4⟩
/-- The slice value reads as the calls l. -/
def RdD (w : World) (v : Value) (l : List Dv) : Prop :=
  ∃ A n c, v = .slice A n c ∧ l.length = n ∧ n ≤ c ∧ c ≤ maxLen ∧ (∀ d ∈ l, okD d) ∧ (0 < n → ∃ b off, A = some ⟨b, off, none⟩ ∧ b < w.heap.size ∧ ∀ j d, l[j]? = some d → At5 w b (off + j * 5) d)
theorem RdD.below {w w' : World} {v : Value} {l : List Dv} (h : RdD w v l) (hb : Below w.heap.size w w') : RdD w' v l := by
  obtain ⟨A, n, c, rfl, h1, h2, h3, h4, h5⟩ := h
  refine ⟨A, n, c, rfl, h1, h2, h3, h4, fun hn => ?_⟩
  obtain ⟨b, off, rfl, hlt, hc⟩ := h5 hn
  exact ⟨b, off, rfl, Nat.lt_of_lt_of_le hlt hb.size, fun j s hs => (hc j s hs).below hb hlt⟩
theorem rdD_nil (w : World) : RdD w (.slice none 0 0) [] := ⟨none, 0, 0, rfl, rfl, Nat.le_refl _, by unfold maxLen; omega, by simp, fun h => absurd h (by omega)⟩

theorem wf_64 {k : Int} (h : (Lit.int .i64 k).wf = true) : -9223372036854775808 ≤ k ∧ k ≤ 9223372036854775807 := by simpa [Lit.wf, IntKind.min, IntKind.max, IntKind.signed, IntKind.bits] using h
theorem wf_u64 {k : Int} (h : (Lit.int .u64 k).wf = true) : 0 ≤ k ∧ k ≤ 18446744073709551615 := by simpa [Lit.wf, IntKind.min, IntKind.max, IntKind.signed, IntKind.bits] using h
section
variable {H : Type} {enc : TypeId × Value → H} {w : World} {spare : Nat → Bool} {held : Bool}
theorem doF : ∃ (f0 f1 f2 f3 f4 : Field), Try.prog.underlying 30 = some (.struct #[f0, f1, f2, f3, f4]) ∧ (f0.type = 3 ∧ f0.offset = 0) ∧ (f1.type = 3 ∧ f1.offset = 1) ∧ (f2.type = 3 ∧ f2.offset = 2) ∧ (f3.type = 28 ∧ f3.offset = 3) ∧ (f4.type = 9 ∧ f4.offset = 4) :=
  ⟨_, _, _, _, _, Try.underlying30, ⟨rfl, rfl⟩, ⟨rfl, rfl⟩, ⟨rfl, rfl⟩, ⟨rfl, rfl⟩, ⟨rfl, rfl⟩⟩
theorem cI : Try.prog.cellsOf 3 = 1 := by kernel_rfl
theorem cU : Try.prog.cellsOf 28 = 1 := by kernel_rfl
theorem cS : Try.prog.cellsOf 9 = 1 := by kernel_rfl
theorem cD : Try.prog.cellsOf 30 = 5 := by kernel_rfl
theorem open_do (fuel : Nat) (cs : List Value) (x : DataW H × List MemPlace) (h : DataW.trod enc Try.prog w 0 spare held fuel 30 cs = some x) : ∃ d, okD d ∧ cs = d.row := by
  obtain ⟨f0, f1, f2, f3, f4, hs, ⟨t0, o0⟩, ⟨t1, o1⟩, ⟨t2, o2⟩, ⟨t3, o3⟩, ⟨t4, o4⟩⟩ := doF
  obtain ⟨xs, n, hn, rfl, hlen, hxl, hf⟩ := DataW.trod_struct hs h
  rw [cD] at hlen
  match cs, hlen with
  | [c0, c1, c2, c3, c4], _ =>
    have g0 := hf 0 f0 rfl
    have g1 := hf 1 f1 rfl
    have g2 := hf 2 f2 rfl
    have g3 := hf 3 f3 rfl
    have g4 := hf 4 f4 rfl
    rw [t0, o0, cI] at g0
    rw [t1, o1, cI] at g1
    rw [t2, o2, cI] at g2
    rw [t3, o3, cU] at g3
    rw [t4, o4, cS] at g4
    match xs, hxl with
    | [y0, y1, y2, y3, y4], _ =>
      simp only [List.drop_succ_cons, List.drop_zero, List.take_succ_cons, List.take_zero, List.getElem?_cons_zero, List.getElem?_cons_succ] at g0 g1 g2 g3 g4
      obtain ⟨k, hk, _, wk⟩ := DataW.trod_int Try.underlying3 g0
      obtain ⟨a, ha, _, wa⟩ := DataW.trod_int Try.underlying3 g1
      obtain ⟨b, hb, _, wb⟩ := DataW.trod_int Try.underlying3 g2
      obtain ⟨u, hu, _, wu⟩ := DataW.trod_int Try.underlying28 g3
      obtain ⟨s, hss, _, ws⟩ := DataW.trod_string Try.underlying9 g4
      have wk := wf_64 wk
      have wa := wf_64 wa
      have wb := wf_64 wb
      have wu := wf_u64 wu
      obtain ⟨v, rfl⟩ := Int.eq_ofNat_of_zero_le wu.1
      obtain rfl : c0 = _ := by simpa using hk
      obtain rfl : c1 = _ := by simpa using ha
      obtain rfl : c2 = _ := by simpa using hb
      obtain rfl : c3 = _ := by simpa using hu
      obtain rfl : c4 = _ := by simpa using hss
      exact ⟨⟨k, a, b, v, s⟩, ⟨wk.1, wk.2, wa.1, wa.2, wb.1, wb.2, wu.2, ws⟩, rfl⟩
theorem open_does_at (fuel : Nat) (v : Value) (x : DataW H × List MemPlace) (g5 : DataW.trod enc Try.prog w 0 spare held fuel 22 [v] = some x) : ∃ l, RdD w v l := by
  rcases DataW.trod_slice Try.underlying22 g5 with ⟨hc, _⟩ | ⟨a, len, cap, elems, rest, n', hn', hc, _, _, hl, hm, hel, he, _, _⟩
  · obtain rfl : v = .slice none 0 0 := by simpa using hc
    exact ⟨[], rdD_nil w⟩
  · obtain rfl : v = .slice (some a) len cap := by simpa using hc
    have each : ∀ j, j < len → ∃ d, okD d ∧ w.cells? 0 (a.add (j * 5)) 5 = some d.row := by
      intro j hj
      have hj' := he j hj
      rw [cD, List.getElem?_eq_getElem (by omega)] at hj'
      obtain ⟨cs', h1, h2⟩ := Option.bind_eq_some_iff.1 hj'
      obtain ⟨d, hd, rfl⟩ := open_do n' cs' _ h2
      exact ⟨d, hd, h1⟩
    have hex : ∀ m, m ≤ len → ∃ l : List Dv, l.length = m ∧ (∀ s ∈ l, okD s) ∧ ∀ j s, l[j]? = some s → w.cells? 0 (a.add (j * 5)) 5 = some s.row := by
      intro m
      induction m with
      | zero => exact fun _ => ⟨[], rfl, by simp, fun j t h => by simp at h⟩
      | succ m ihm =>
        intro hm2
        obtain ⟨l, hl1, hl3, hl2⟩ := ihm (by omega)
        obtain ⟨s, hs, h1⟩ := each m (by omega)
        refine ⟨l ++ [s], by simp [hl1], fun x hx => ?_, fun j t' hj => ?_⟩
        · rcases List.mem_append.1 hx with hx | hx
          · exact hl3 x hx
          · obtain rfl := List.mem_singleton.1 hx; exact hs
        · rcases Nat.lt_or_ge j l.length with hlt | hge
          · rw [List.getElem?_append_left hlt] at hj
            exact hl2 j t' hj
          · rw [List.getElem?_append_right hge] at hj
            have hj0 : j - l.length = 0 := by
              have := (List.getElem?_eq_some_iff.1 hj).1
              simp at this
              exact this
            rw [hj0] at hj
            obtain rfl : s = t' := by simpa using hj
            have : j = m := by omega
            subst this
            exact h1
    obtain ⟨l, hl1, hl3, hl2⟩ := hex len (Nat.le_refl _)
    refine ⟨l, some a, len, cap, rfl, hl1, hl, hm, hl3, fun hpos => ?_⟩
    obtain ⟨b, off, spot⟩ := a
    obtain ⟨t0, ht0⟩ : ∃ t0, l[0]? = some t0 := ⟨_, List.getElem?_eq_getElem (by omega)⟩
    obtain ⟨_, _, hcell0⟩ := World.cells?_some (hl2 0 t0 ht0)
    have h00 := hcell0 0 (by omega)
    rw [List.getElem?_eq_getElem (by simp [Dv.row])] at h00
    have hspot : spot = none := by simpa [Addr.add] using World.cell?_spot h00
    subst hspot
    refine ⟨b, off, rfl, ?_, fun j t hj => ?_⟩
    · have := World.block_lt_of_cell? w _ h00
      simpa [Addr.add] using this
    · obtain ⟨_, _, hcell⟩ := World.cells?_some (hl2 j t hj)
      have e : ∀ i, (((⟨b, off, none⟩ : Addr).add (j * 5)).add i) = ⟨b, off + j * 5 + i, none⟩ := by
        intro i
        unfold Addr.add
        by_cases hj0 : j * 5 = 0
        · by_cases hi0 : i = 0 <;> simp [hj0, hi0]
        · by_cases hi0 : i = 0 <;> simp [hj0, hi0]
      have g := fun i hi => (e i).symm ▸ hcell i hi
      exact ⟨(e 0 ▸ hcell 0 (by omega)).trans rfl, (e 1 ▸ hcell 1 (by omega)).trans rfl, (e 2 ▸ hcell 2 (by omega)).trans rfl, (e 3 ▸ hcell 3 (by omega)).trans rfl, (e 4 ▸ hcell 4 (by omega)).trans rfl⟩
theorem open_does {W : World} {base : Nat} {v : Value} {d : DataW H} {ps : List MemPlace} (hv : Value.okWide Try.prog W .any base 22 v)
    (h : DataW.Trod enc Try.prog W 0 (fun _ => true) true 22 v d ps) : ∃ l, RdD W v l := by
  obtain ⟨A, n, c, rfl⟩ := okWide_slice Try.underlying22 hv
  obtain ⟨fuel, hf⟩ := h
  have hf' : DataW.trod enc Try.prog W 0 (fun _ => true) true fuel 22 [.slice A n c] = some (d, ps) := hf
  exact open_does_at fuel _ _ hf'
end
end Go.Proofs.Ytkcmpakcahemcaa
