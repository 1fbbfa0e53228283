/-
  What is proved here: the arguments of this layer's laws, opened: numbers, pairs of numbers, values, lists of numbers, lists of values; no condition but that each reads as its type asks.
-/
import Derived.Test.YtaeboneddndfkaaDoorFRow
import Derived.Test.YtaeboneddndfkaaDoorFJoW
namespace Go.Proofs.YtaeboneddndfkaaDoor
open Go.ChangeShapes Go.WideShapes Go.ChangeAt Go.WideMaps Go.WideElems Go.RowKit Tg

section
variable {H : Type} {enc : TypeId × Value → H} {w : World} {spare : Nat → Bool} {held : Bool}
/-- A list whose elements are opened one by one. -/
theorem open_list {D : Type} (row : D → List Value) (ok : D → Prop) (k : Nat) (hk : ∀ d, (row d).length = k) (hk0 : 0 < k) {tl te : TypeId} (ht : Tryd.prog.underlying tl = some (.slice te)) (hcs : Tryd.prog.cellsOf te = k)
    (each : ∀ (fuel : Nat) (cs : List Value) (x : DataW H × List MemPlace), DataW.trod enc Tryd.prog w 0 spare held fuel te cs = some x → ∃ d, ok d ∧ cs = row d)
    (fuel : Nat) (v : Value) (x : DataW H × List MemPlace) (g5 : DataW.trod enc Tryd.prog w 0 spare held fuel tl [v] = some x) :
    ∃ (l : List D) (A : Option Addr) (n c : Nat), v = .slice A n c ∧ l.length = n ∧ n ≤ c ∧ c ≤ maxLen ∧ (∀ d ∈ l, ok d) ∧
      (0 < n → ∃ b off, A = some ⟨b, off, none⟩ ∧ b < w.heap.size ∧ ∀ j d, l[j]? = some d → ∀ i u, (row d)[i]? = some u → w.cell? ⟨b, off + j * k + i, none⟩ = some u) := by
  rcases DataW.trod_slice ht g5 with ⟨hc, _⟩ | ⟨a, len, cap, elems, rest, n', hn', hc, _, _, hl, hm, hel, he, _, _⟩
  · obtain rfl : v = .slice none 0 0 := by simpa using hc
    exact ⟨[], none, 0, 0, rfl, rfl, Nat.le_refl _, Nat.zero_le _, by simp, fun h => absurd h (by omega)⟩
  · obtain rfl : v = .slice (some a) len cap := by simpa using hc
    have each : ∀ j, j < len → ∃ d, ok d ∧ w.cells? 0 (a.add (j * k)) k = some (row d) := by
      intro j hj
      have hj' := he j hj
      rw [hcs, List.getElem?_eq_getElem (by omega)] at hj'
      obtain ⟨cs', h1, h2⟩ := Option.bind_eq_some_iff.1 hj'
      obtain ⟨d, hd, rfl⟩ := each n' cs' _ h2
      exact ⟨d, hd, h1⟩
    have hex : ∀ m, m ≤ len → ∃ l : List D, l.length = m ∧ (∀ s ∈ l, ok s) ∧ ∀ j s, l[j]? = some s → w.cells? 0 (a.add (j * k)) k = some (row s) := by
      intro m
      induction m with
      | zero => exact fun _ => ⟨[], rfl, by simp, fun j t h => by simp at h⟩
      | succ m ihm =>
        intro hm2
        obtain ⟨l, hl1, hl3, hl2⟩ := ihm (by omega)
        obtain ⟨s, hs, h1⟩ := each m (by omega)
        refine ⟨l ++ [s], by simp [hl1], fun x hx => ?_, fun j t' hj => ?_⟩
        · rcases List.mem_append.1 hx with hx | hx
          · exact hl3 x hx
          · obtain rfl := List.mem_singleton.1 hx; exact hs
        · rcases Nat.lt_or_ge j l.length with hlt | hge
          · rw [List.getElem?_append_left hlt] at hj
            exact hl2 j t' hj
          · rw [List.getElem?_append_right hge] at hj
            have hj0 : j - l.length = 0 := by
              have := (List.getElem?_eq_some_iff.1 hj).1
              simp at this
              exact this
            rw [hj0] at hj
            obtain rfl : s = t' := by simpa using hj
            have : j = m := by omega
            subst this
            exact h1
    obtain ⟨l, hl1, hl3, hl2⟩ := hex len (Nat.le_refl _)
    refine ⟨l, some a, len, cap, rfl, hl1, hl, hm, hl3, fun hpos => ?_⟩
    obtain ⟨b, off, spot⟩ := a
    obtain ⟨t0, ht0⟩ : ∃ t0, l[0]? = some t0 := ⟨_, List.getElem?_eq_getElem (by omega)⟩
    obtain ⟨_, _, hcell0⟩ := World.cells?_some (hl2 0 t0 ht0)
    have h00 := hcell0 0 hk0
    rw [List.getElem?_eq_getElem (by rw [hk]; exact hk0)] at h00
    have hspot : spot = none := by simpa [Addr.add] using World.cell?_spot h00
    subst hspot
    refine ⟨b, off, rfl, ?_, fun j t hj i u hu => ?_⟩
    · have := World.block_lt_of_cell? w _ h00
      simpa [Addr.add] using this
    · obtain ⟨_, _, hcell⟩ := World.cells?_some (hl2 j t hj)
      have hi : i < k := by rw [← hk t]; exact (List.getElem?_eq_some_iff.1 hu).1
      have e : (((⟨b, off, none⟩ : Addr).add (j * k)).add i) = ⟨b, off + j * k + i, none⟩ := by
        unfold Addr.add
        by_cases hj0 : j * k = 0
        · by_cases hi0 : i = 0 <;> simp [hj0, hi0]
        · by_cases hi0 : i = 0 <;> simp [hj0, hi0]
      have := hcell i hi
      rw [e, hu] at this
      exact this
theorem wf_64 {k : Int} (h : (Lit.int .i64 k).wf = true) : -9223372036854775808 ≤ k ∧ k ≤ 9223372036854775807 := by simpa [Lit.wf, IntKind.min, IntKind.max, IntKind.signed, IntKind.bits] using h
theorem cI : Tryd.prog.cellsOf 3 = 1 := by kernel_rfl
theorem cP : Tryd.prog.cellsOf 28 = 2 := by kernel_rfl
/-- The slice value reads as numbers. -/
def RdNums (w : World) (v : Value) (l : List Int) : Prop :=
  ∃ A n c, v = .slice A n c ∧ l.length = n ∧ n ≤ c ∧ c ≤ 9223372036854775807 ∧ (∀ d ∈ l, -9223372036854775808 ≤ d ∧ d ≤ 9223372036854775807) ∧ (0 < n → ∃ b off, A = some ⟨b, off, none⟩ ∧ b < w.heap.size ∧ ∀ j d, l[j]? = some d → w.cell? ⟨b, off + j, none⟩ = some (.int .i64 d))
set_option maxRecDepth 100000 in
theorem open_nums_at (fuel : Nat) (v : Value) (x : DataW H × List MemPlace) (g5 : DataW.trod enc Tryd.prog w 0 spare held fuel 38 [v] = some x) : ∃ l, RdNums w v l := by
  obtain ⟨l, A, n, c, rfl, h1, h2, h3, h4, h5⟩ := open_list (fun d : Int => [.int .i64 d]) (fun d => -9223372036854775808 ≤ d ∧ d ≤ 9223372036854775807) 1 (fun _ => rfl) (by decide) Tryd.underlying38 cI (fun f cs x h => by
    obtain ⟨k, hk, _, wk⟩ := DataW.trod_int Tryd.underlying3 h
    exact ⟨k, wf_64 wk, hk⟩) fuel v x g5
  refine ⟨l, A, n, c, rfl, h1, h2, h3, h4, fun hn => ?_⟩
  obtain ⟨b, off, rfl, hlt, hc⟩ := h5 hn
  exact ⟨b, off, rfl, hlt, fun j s hs => by have := hc j s hs 0 _ rfl; simpa using this⟩
theorem valF : ∃ (f0 f1 f2 : Field), Tryd.prog.underlying 24 = some (.struct #[f0, f1, f2]) ∧ (f0.type = 3 ∧ f0.offset = 0) ∧ (f1.type = 3 ∧ f1.offset = 1) ∧ (f2.type = 22 ∧ f2.offset = 2) :=
  ⟨_, _, _, Tryd.underlying24, ⟨rfl, rfl⟩, ⟨rfl, rfl⟩, ⟨rfl, rfl⟩⟩
theorem cU : Tryd.prog.cellsOf 22 = 1 := by kernel_rfl
theorem cV : Tryd.prog.cellsOf 24 = 3 := by kernel_rfl
theorem wf_u64 {k : Int} (h : (Lit.int .u64 k).wf = true) : 0 ≤ k ∧ k ≤ 18446744073709551615 := by simpa [Lit.wf, IntKind.min, IntKind.max, IntKind.signed, IntKind.bits] using h
def V3.cells (v : V3) : List Value := [.int .i64 v.t, .int .i64 v.w, .int .u64 v.n]
theorem open_val_at (fuel : Nat) (cs : List Value) (x : DataW H × List MemPlace) (h : DataW.trod enc Tryd.prog w 0 spare held fuel 24 cs = some x) : ∃ d : V3, okV d ∧ cs = d.cells := by
  obtain ⟨f0, f1, f2, hs, ⟨t0, o0⟩, ⟨t1, o1⟩, ⟨t2, o2⟩⟩ := valF
  obtain ⟨xs, n, hn, rfl, hlen, hxl, hf⟩ := DataW.trod_struct hs h
  rw [cV] at hlen
  match cs, hlen with
  | [c0, c1, c2], _ =>
    have g0 := hf 0 f0 rfl
    have g1 := hf 1 f1 rfl
    have g2 := hf 2 f2 rfl
    rw [t0, o0, cI] at g0
    rw [t1, o1, cI] at g1
    rw [t2, o2, cU] at g2
    match xs, hxl with
    | [y0, y1, y2], _ =>
      simp only [List.drop_succ_cons, List.drop_zero, List.take_succ_cons, List.take_zero, List.getElem?_cons_zero, List.getElem?_cons_succ] at g0 g1 g2
      obtain ⟨k, hk, _, wk⟩ := DataW.trod_int Tryd.underlying3 g0
      obtain ⟨a, ha, _, wa⟩ := DataW.trod_int Tryd.underlying3 g1
      obtain ⟨u, hu, _, wu⟩ := DataW.trod_int Tryd.underlying22 g2
      obtain rfl : c0 = _ := by simpa using hk
      obtain rfl : c1 = _ := by simpa using ha
      obtain rfl : c2 = _ := by simpa using hu
      exact ⟨⟨k, a, u⟩, ⟨(wf_64 wk).1, (wf_64 wk).2, (wf_64 wa).1, (wf_64 wa).2, (wf_u64 wu).1, (wf_u64 wu).2⟩, rfl⟩
theorem open_vals_at (fuel : Nat) (v : Value) (x : DataW H × List MemPlace) (g5 : DataW.trod enc Tryd.prog w 0 spare held fuel 29 [v] = some x) : ∃ l, (∀ d ∈ l, okV d) ∧ Rd w v l := by
  obtain ⟨l, A, n, c, rfl, h1, h2, h3, h4, h5⟩ := open_list V3.cells okV 3 (fun _ => rfl) (by decide) Tryd.underlying29 cV (fun f cs x h => open_val_at f cs x h) fuel v x g5
  refine ⟨l, h4, A, n, c, rfl, h1, h2, h3, fun hn => ?_⟩
  obtain ⟨b, off, rfl, hlt, hc⟩ := h5 hn
  exact ⟨b, off, rfl, hlt, fun j s hs => ⟨hc j s hs 0 _ rfl, hc j s hs 1 _ rfl, hc j s hs 2 _ rfl⟩⟩
theorem open_pair_at (fuel : Nat) (cs : List Value) (x : DataW H × List MemPlace) (h : DataW.trod enc Tryd.prog w 0 spare held fuel 28 cs = some x) : ∃ a b : Int, (-9223372036854775808 ≤ a ∧ a ≤ 9223372036854775807) ∧ (-9223372036854775808 ≤ b ∧ b ≤ 9223372036854775807) ∧ cs = [.int .i64 a, .int .i64 b] := by
  obtain ⟨xs, m, _, _, hlen, hl, he⟩ := DataW.trod_array Tryd.underlying28 h
  rw [cP] at hlen
  match cs, hlen with
  | [c0, c1], _ =>
    have h0 := he 0 (by omega)
    have h1 := he 1 (by omega)
    rw [cI] at h0 h1
    simp only [Nat.zero_mul, Nat.one_mul, List.drop_zero, List.drop_succ_cons, List.take_succ_cons, List.take_zero] at h0 h1
    rw [List.getElem?_eq_getElem (by omega)] at h0 h1
    obtain ⟨a, ha, _, wa⟩ := DataW.trod_int Tryd.underlying3 h0
    obtain ⟨b, hb, _, wb⟩ := DataW.trod_int Tryd.underlying3 h1
    obtain rfl : c0 = _ := by simpa using ha
    obtain rfl : c1 = _ := by simpa using hb
    exact ⟨a, b, wf_64 wa, wf_64 wb, rfl⟩
end
section
variable {H : Type} {enc : TypeId × Value → H} {W : World} {base : Nat} {v : Value} {d : DataW H} {ps : List MemPlace}
theorem okWide_array {n : Nat} {e : TypeId} (ht : Tryd.prog.underlying 28 = some (.array e n)) (h : Value.okWide Tryd.prog W .any base 28 v) : ∃ cs, v = .agg cs := by
  simp only [Value.okWide, ht] at h
  obtain ⟨cs, h1, _⟩ := h
  exact ⟨cs, h1⟩
set_option maxRecDepth 100000 in
theorem open_pair (hv : Value.okWide Tryd.prog W .any base 28 v) (h : DataW.Trod enc Tryd.prog W 0 (fun _ => true) true 28 v d ps) : ∃ a b : Int, (-9223372036854775808 ≤ a ∧ a ≤ 9223372036854775807) ∧ (-9223372036854775808 ≤ b ∧ b ≤ 9223372036854775807) ∧ v = .agg #[.int .i64 a, .int .i64 b] := by
  obtain ⟨cs, rfl⟩ := okWide_array Tryd.underlying28 hv
  obtain ⟨fuel, hf⟩ := h
  obtain ⟨a, b, ha, hb, he⟩ := open_pair_at fuel _ _ hf
  exact ⟨a, b, ha, hb, by rw [← Array.toArray_toList (xs := cs), show cs.toList = [.int .i64 a, .int .i64 b] from he]⟩
set_option maxRecDepth 100000 in
theorem open_val (hv : Value.okWide Tryd.prog W .any base 24 v) (h : DataW.Trod enc Tryd.prog W 0 (fun _ => true) true 24 v d ps) : ∃ x : V3, okV x ∧ v = x.agg := by
  obtain ⟨cs, rfl, _⟩ := okWide_struct Tryd.underlying24 hv
  obtain ⟨fuel, hf⟩ := h
  obtain ⟨x, hx, he⟩ := open_val_at fuel _ _ hf
  exact ⟨x, hx, by rw [← Array.toArray_toList (xs := cs), show cs.toList = x.cells from he]; rfl⟩
set_option maxRecDepth 100000 in
theorem open_vals (hv : Value.okWide Tryd.prog W .any base 29 v) (h : DataW.Trod enc Tryd.prog W 0 (fun _ => true) true 29 v d ps) : ∃ l, (∀ d ∈ l, okV d) ∧ Rd W v l := by
  obtain ⟨A, n, c, rfl⟩ := okWide_slice Tryd.underlying29 hv
  obtain ⟨fuel, hf⟩ := h
  have hf' : DataW.trod enc Tryd.prog W 0 (fun _ => true) true fuel 29 [.slice A n c] = some (d, ps) := hf
  exact open_vals_at fuel _ _ hf'
set_option maxRecDepth 100000 in
theorem open_nums (hv : Value.okWide Tryd.prog W .any base 38 v) (h : DataW.Trod enc Tryd.prog W 0 (fun _ => true) true 38 v d ps) : ∃ A n c l, v = .slice A n c ∧ n ≤ 9223372036854775807 ∧ RsI W A n l := by
  obtain ⟨A, n, c, rfl⟩ := okWide_slice Tryd.underlying38 hv
  obtain ⟨fuel, hf⟩ := h
  have hf' : DataW.trod enc Tryd.prog W 0 (fun _ => true) true fuel 38 [.slice A n c] = some (d, ps) := hf
  obtain ⟨l, A', n', c', he, h1, h2, h3, h4, h5⟩ := open_nums_at fuel _ _ hf'
  cases he
  exact ⟨A, n, c, l, rfl, Nat.le_trans h2 h3, h1, h4, h5⟩
end
end Go.Proofs.YtaeboneddndfkaaDoor
