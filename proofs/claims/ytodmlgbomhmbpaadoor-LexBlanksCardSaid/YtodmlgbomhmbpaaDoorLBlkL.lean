/-
  What is proved here: arguments that are a list of numbers and a list of pairs of numbers, opened; no condition but that each reads as its type asks; and: the walk of LexBlanks; conditions: the tables that package lex and its library read hold what is laid, the arguments read as a list of pairs and a list of numbers.
-/
import Derived.Test.YtodmlgbomhmbpaaDoorLRow
import Derived.Test.YtodmlgbomhmbpaaDoorLBlkW
import Derived.Deep.CutBlock
namespace Go.Proofs.YtodmlgbomhmbpaaDoor
open Go.ChangeShapes Go.WideShapes Go.ChangeAt Go.WideMaps Go.WideElems Go.RowKit Ut Lx

section
variable {H : Type} {enc : TypeId × Value → H} {w : World} {spare : Nat → Bool} {held : Bool}
/-- A list whose elements are opened one by one. -/
theorem open_list {D : Type} (row : D → List Value) (ok : D → Prop) (k : Nat) (hk : ∀ d, (row d).length = k) (hk0 : 0 < k) {tl te : TypeId} (ht : Tryd.prog.underlying tl = some (.slice te)) (hcs : Tryd.prog.cellsOf te = k)
    (each : ∀ (fuel : Nat) (cs : List Value) (x : DataW H × List MemPlace), DataW.trod enc Tryd.prog w 0 spare held fuel te cs = some x → ∃ d, ok d ∧ cs = row d)
    (fuel : Nat) (v : Value) (x : DataW H × List MemPlace) (g5 : DataW.trod enc Tryd.prog w 0 spare held fuel tl [v] = some x) :
    ∃ (l : List D) (A : Option Addr) (n c : Nat), v = .slice A n c ∧ l.length = n ∧ n ≤ c ∧ c ≤ maxLen ∧ (∀ d ∈ l, ok d) ∧
      (0 < n → ∃ b off, A = some ⟨b, off, none⟩ ∧ b < w.heap.size ∧ ∀ j d, l[j]? = some d → ∀ i u, (row d)[i]? = some u → w.cell? ⟨b, off + j * k + i, none⟩ = some u) := by
  rcases DataW.trod_slice ht g5 with ⟨hc, _⟩ | ⟨a, len, cap, elems, rest, n', hn', hc, _, _, hl, hm, hel, he, _, _⟩
  · obtain rfl : v = .slice none 0 0 := by simpa using hc
    exact ⟨[], none, 0, 0, rfl, rfl, Nat.le_refl _, Nat.zero_le _, by simp, fun h => absurd h (by omega)⟩
  · obtain rfl : v = .slice (some a) len cap := by simpa using hc
    have each : ∀ j, j < len → ∃ d, ok d ∧ w.cells? 0 (a.add (j * k)) k = some (row d) := by
      intro j hj
      have hj' := he j hj
      rw [hcs, List.getElem?_eq_getElem (by omega)] at hj'
      obtain ⟨cs', h1, h2⟩ := Option.bind_eq_some_iff.1 hj'
      obtain ⟨d, hd, rfl⟩ := each n' cs' _ h2
      exact ⟨d, hd, h1⟩
    have hex : ∀ m, m ≤ len → ∃ l : List D, l.length = m ∧ (∀ s ∈ l, ok s) ∧ ∀ j s, l[j]? = some s → w.cells? 0 (a.add (j * k)) k = some (row s) := by
      intro m
      induction m with
      | zero => exact fun _ => ⟨[], rfl, by simp, fun j t h => by simp at h⟩
      | succ m ihm =>
        intro hm2
        obtain ⟨l, hl1, hl3, hl2⟩ := ihm (by omega)
        obtain ⟨s, hs, h1⟩ := each m (by omega)
        refine ⟨l ++ [s], by simp [hl1], fun x hx => ?_, fun j t' hj => ?_⟩
        · rcases List.mem_append.1 hx with hx | hx
          · exact hl3 x hx
          · obtain rfl := List.mem_singleton.1 hx; exact hs
        · rcases Nat.lt_or_ge j l.length with hlt | hge
          · rw [List.getElem?_append_left hlt] at hj
            exact hl2 j t' hj
          · rw [List.getElem?_append_right hge] at hj
            have hj0 : j - l.length = 0 := by
              have := (List.getElem?_eq_some_iff.1 hj).1
              simp at this
              exact this
            rw [hj0] at hj
            obtain rfl : s = t' := by simpa using hj
            have : j = m := by omega
            subst this
            exact h1
    obtain ⟨l, hl1, hl3, hl2⟩ := hex len (Nat.le_refl _)
    refine ⟨l, some a, len, cap, rfl, hl1, hl, hm, hl3, fun hpos => ?_⟩
    obtain ⟨b, off, spot⟩ := a
    obtain ⟨t0, ht0⟩ : ∃ t0, l[0]? = some t0 := ⟨_, List.getElem?_eq_getElem (by omega)⟩
    obtain ⟨_, _, hcell0⟩ := World.cells?_some (hl2 0 t0 ht0)
    have h00 := hcell0 0 hk0
    rw [List.getElem?_eq_getElem (by rw [hk]; exact hk0)] at h00
    have hspot : spot = none := by simpa [Addr.add] using World.cell?_spot h00
    subst hspot
    refine ⟨b, off, rfl, ?_, fun j t hj i u hu => ?_⟩
    · have := World.block_lt_of_cell? w _ h00
      simpa [Addr.add] using this
    · obtain ⟨_, _, hcell⟩ := World.cells?_some (hl2 j t hj)
      have hi : i < k := by rw [← hk t]; exact (List.getElem?_eq_some_iff.1 hu).1
      have e : (((⟨b, off, none⟩ : Addr).add (j * k)).add i) = ⟨b, off + j * k + i, none⟩ := by
        unfold Addr.add
        by_cases hj0 : j * k = 0
        · by_cases hi0 : i = 0 <;> simp [hj0, hi0]
        · by_cases hi0 : i = 0 <;> simp [hj0, hi0]
      have := hcell i hi
      rw [e, hu] at this
      exact this
theorem wf_64 {k : Int} (h : (Lit.int .i64 k).wf = true) : -9223372036854775808 ≤ k ∧ k ≤ 9223372036854775807 := by simpa [Lit.wf, IntKind.min, IntKind.max, IntKind.signed, IntKind.bits] using h
theorem cI : Tryd.prog.cellsOf 3 = 1 := by kernel_rfl
theorem cP : Tryd.prog.cellsOf 47 = 2 := by kernel_rfl
/-- The slice value reads as numbers. -/
def RdNums (w : World) (v : Value) (l : List Int) : Prop :=
  ∃ A n c, v = .slice A n c ∧ l.length = n ∧ n ≤ c ∧ c ≤ 9223372036854775807 ∧ (∀ d ∈ l, -9223372036854775808 ≤ d ∧ d ≤ 9223372036854775807) ∧ (0 < n → ∃ b off, A = some ⟨b, off, none⟩ ∧ b < w.heap.size ∧ ∀ j d, l[j]? = some d → w.cell? ⟨b, off + j, none⟩ = some (.int .i64 d))
/-- .. as pairs of numbers. -/
def RdPairs (w : World) (v : Value) (l : List (Int × Int)) : Prop :=
  ∃ A n c, v = .slice A n c ∧ l.length = n ∧ n ≤ c ∧ c ≤ 9223372036854775807 ∧ (∀ d ∈ l, -9223372036854775808 ≤ d.2 ∧ d.2 ≤ 9223372036854775807) ∧ (0 < n → ∃ b off, A = some ⟨b, off, none⟩ ∧ b < w.heap.size ∧
    ∀ j d, l[j]? = some d → w.cell? ⟨b, off + j * 2, none⟩ = some (.int .i64 d.1) ∧ w.cell? ⟨b, off + j * 2 + 1, none⟩ = some (.int .i64 d.2))
set_option maxRecDepth 100000 in
theorem open_nums_at (fuel : Nat) (v : Value) (x : DataW H × List MemPlace) (g5 : DataW.trod enc Tryd.prog w 0 spare held fuel 43 [v] = some x) : ∃ l, RdNums w v l := by
  obtain ⟨l, A, n, c, rfl, h1, h2, h3, h4, h5⟩ := open_list (fun d : Int => [.int .i64 d]) (fun d => -9223372036854775808 ≤ d ∧ d ≤ 9223372036854775807) 1 (fun _ => rfl) (by decide) Tryd.underlying43 cI (fun f cs x h => by
    obtain ⟨k, hk, _, wk⟩ := DataW.trod_int Tryd.underlying3 h
    exact ⟨k, wf_64 wk, hk⟩) fuel v x g5
  refine ⟨l, A, n, c, rfl, h1, h2, h3, h4, fun hn => ?_⟩
  obtain ⟨b, off, rfl, hlt, hc⟩ := h5 hn
  exact ⟨b, off, rfl, hlt, fun j s hs => by have := hc j s hs 0 _ rfl; simpa using this⟩
set_option maxRecDepth 100000 in
theorem open_pairs_at (fuel : Nat) (v : Value) (x : DataW H × List MemPlace) (g5 : DataW.trod enc Tryd.prog w 0 spare held fuel 42 [v] = some x) : ∃ l, RdPairs w v l := by
  obtain ⟨l, A, n, c, rfl, h1, h2, h3, h4, h5⟩ := open_list (fun d : Int × Int => [.int .i64 d.1, .int .i64 d.2]) (fun d => -9223372036854775808 ≤ d.2 ∧ d.2 ≤ 9223372036854775807) 2 (fun _ => rfl) (by decide) Tryd.underlying42 cP (fun f cs x h => by
    obtain ⟨xs, m, _, _, hlen, hl, he⟩ := DataW.trod_array Tryd.underlying47 h
    rw [cP] at hlen
    match cs, hlen with
    | [c0, c1], _ =>
      have h0 := he 0 (by omega)
      have h1 := he 1 (by omega)
      rw [cI] at h0 h1
      simp only [Nat.zero_mul, Nat.one_mul, List.drop_zero, List.drop_succ_cons, List.take_succ_cons, List.take_zero] at h0 h1
      rw [List.getElem?_eq_getElem (by omega)] at h0 h1
      obtain ⟨a, ha, _, _⟩ := DataW.trod_int Tryd.underlying3 h0
      obtain ⟨b, hb, _, wb⟩ := DataW.trod_int Tryd.underlying3 h1
      obtain rfl : c0 = _ := by simpa using ha
      obtain rfl : c1 = _ := by simpa using hb
      exact ⟨(a, b), wf_64 wb, rfl⟩) fuel v x g5
  refine ⟨l, A, n, c, rfl, h1, h2, h3, h4, fun hn => ?_⟩
  obtain ⟨b, off, rfl, hlt, hc⟩ := h5 hn
  exact ⟨b, off, rfl, hlt, fun j s hs => ⟨hc j s hs 0 _ rfl, hc j s hs 1 _ rfl⟩⟩
end
section
variable {H : Type} {enc : TypeId × Value → H} {W : World} {base : Nat} {v : Value} {d : DataW H} {ps : List MemPlace}
set_option maxRecDepth 100000 in
theorem open_nums (hv : Value.okWide Tryd.prog W .any base 43 v) (h : DataW.Trod enc Tryd.prog W 0 (fun _ => true) true 43 v d ps) : ∃ l, RdNums W v l := by
  obtain ⟨A, n, c, rfl⟩ := okWide_slice Tryd.underlying43 hv
  obtain ⟨fuel, hf⟩ := h
  have hf' : DataW.trod enc Tryd.prog W 0 (fun _ => true) true fuel 43 [.slice A n c] = some (d, ps) := hf
  exact open_nums_at fuel _ _ hf'
set_option maxRecDepth 100000 in
theorem open_pairs (hv : Value.okWide Tryd.prog W .any base 42 v) (h : DataW.Trod enc Tryd.prog W 0 (fun _ => true) true 42 v d ps) : ∃ l, RdPairs W v l := by
  obtain ⟨A, n, c, rfl⟩ := okWide_slice Tryd.underlying42 hv
  obtain ⟨fuel, hf⟩ := h
  have hf' : DataW.trod enc Tryd.prog W 0 (fun _ => true) true fuel 42 [.slice A n c] = some (d, ps) := hf
  exact open_pairs_at fuel _ _ hf'
end
end Go.Proofs.YtodmlgbomhmbpaaDoor
namespace Go.Proofs.YtodmlgbomhmbpaaDoor
open Go.RowKit Ut Lx Go.Maps

theorem tcs_at2 {ts : List TK} {k : Nat} {t : TK} (h : ts[k]? = some t) (j : Nat) (hj : j < 6) : (tcs ts)[k * 6 + j]? = (tc t)[j]? := by
  induction ts generalizing k with
  | nil => cases h
  | cons x xs ih =>
    cases k with
    | zero =>
      injection h with h
      subst h
      show (tc x ++ tcs xs)[0 * 6 + j]? = _
      rw [show 0 * 6 + j = j by omega, List.getElem?_append_left (by simp [tc]; omega)]
    | succ k =>
      show (tc x ++ tcs xs)[(k + 1) * 6 + j]? = _
      rw [show (k + 1) * 6 + j = 6 + (k * 6 + j) by omega, List.getElem?_append_right (by simp [tc])]
      rw [show 6 + (k * 6 + j) - (tc x).length = k * 6 + j by simp [tc]]
      exact ih (by simpa using h)
theorem tok_cells2 {w : World} {g : Nat} {ts : List TK} {k : Nat} {t : TK} {y : ByteArray} (hc : ∀ j u, (tcs ts)[j]? = some u → w.cell? ⟨g, j, none⟩ = some u) (h : ts[k]? = some t) (hy : str t.x = y) :
    w.cell? ⟨g, k * 6, none⟩ = some (.int .i64 t.k) ∧ w.cell? ⟨g, k * 6 + 1, none⟩ = some (.int .i64 t.f) ∧ w.cell? ⟨g, k * 6 + 2, none⟩ = some (.int .i64 t.t) ∧
    w.cell? ⟨g, k * 6 + 3, none⟩ = some (.int .i64 t.N) ∧ w.cell? ⟨g, k * 6 + 4, none⟩ = some (.int .u64 t.U) ∧ w.cell? ⟨g, k * 6 + 5, none⟩ = some (.string y) := by
  subst hy
  exact ⟨hc _ _ (tcs_at2 h 0 (by omega)), hc _ _ (tcs_at2 h 1 (by omega)), hc _ _ (tcs_at2 h 2 (by omega)), hc _ _ (tcs_at2 h 3 (by omega)), hc _ _ (tcs_at2 h 4 (by omega)), hc _ _ (tcs_at2 h 5 (by omega))⟩
theorem neTok (w : World) (a b c d e : Int) (y : ByteArray) : (binOp .neq 25 (.agg #[.int .i64 a, .int .i64 b, .int .i64 c, .int .i64 d, .int .u64 e, .string y]) (.agg #[.int .i64 a, .int .i64 b, .int .i64 c, .int .i64 d, .int .u64 e, .string y])).run Tryd.prog w = .ok (.bool false) w := by
  have u2 := Tryd.underlying2
  have a2 := Tryd.isAgg2
  have z2 := Tryd.sizeOf2
  have u3 := Tryd.underlying3
  have a3 := Tryd.isAgg3
  have z3 := Tryd.sizeOf3
  have u4 := Tryd.underlying23
  have a4 := Tryd.isAgg23
  have z4 := Tryd.sizeOf23
  have u5 := Tryd.underlying9
  have a5 := Tryd.isAgg9
  have z5 := Tryd.sizeOf9
  rw [run_neq_struct, show (10000 : Nat) = 9999 + 1 from rfl, run_equalIn_agg w 9999 25 _ _ tokS tokH]
  simp only [Program.fieldsOf, Tryd.underlying25]
  go_simp
/-- The white space of n bytes. -/
def wsb (n : Nat) : List UInt8 := ([32, 9, 10, 13] : List UInt8).take n
theorem wsb_all {n : Nat} (h1 : 1 ≤ n) (h4 : n ≤ 4) : ws (wsb n) ∧ wsb n ≠ [] ∧ (wsb n).length = n ∧ (⟨#[32, 9, 10, 13]⟩ : ByteArray).extract 0 n = str (wsb n) := by
  have : n = 1 ∨ n = 2 ∨ n = 3 ∨ n = 4 := by omega
  rcases this with rfl | rfl | rfl | rfl <;> exact ⟨by unfold ws; decide, by decide, by decide, by rfl⟩
/-- Between two rounds: the text, its tokens, the wanted tokens. -/
structure BLS (w0 : World) (T : List UInt8) (ts : List TK) (v : Value) (W : World) : Prop where
  sl : SL w0 W
  own : OwnT W w0.heap.size v ts
  txt : Txt T ts
theorem BLS.step {w0 W W' : World} {T : List UInt8} {ts : List TK} {v : Value} (h : BLS w0 T ts v W) (hb : Below W.heap.size W W') : BLS w0 T ts v W' :=
  ⟨h.sl.step hb, ownT_below h.own hb (Nat.le_refl _), h.txt⟩
set_option maxRecDepth 100000 in
set_option maxHeartbeats 2000000 in
theorem lexBlanks_walk (l : List (Int × Int)) (v : Value) (bl : List Int) (bv : Value) (w : World) (hL : LB w.heap.size w) (h : RdPairs w v l) (hb : RdNums w bv bl) :
    Calls Tryd.prog 6 #[v, bv] w fun e w' => e = .returned (.bool true) ∧ Below w.heap.size w w' := by
  obtain ⟨A, n, c, rfl, hn, hnc, hcm, hok, hA⟩ := h
  obtain ⟨B, m, d, rfl, hm, hmd, hdm, -, hB⟩ := hb
  have HS0 : Hid (BLS w [] [] (.slice none 0 0) w) := Lib.hid ⟨SL.start hL, World.ownsRow_nil _ _ _ _, Txt.nil⟩
  have HA := Lib.hid hA
  have HB := Lib.hid hB
  have HOK := Lib.hid hok
  have HN := Lib.hid hn
  have HM := Lib.hid hm
  clear hA hB hok hn hm hL
  by_cases hm0 : 0 < m
  · go_enter Tryd.func6, Tryd.ntmps6
    go_upto_block 0 with fail
    go_cut [5, 6] (fun s5 s6 wx => ∃ T ts, s5 = .string (str T) ∧ Hid (T.length ≤ 3120 ∧ ts.length ≤ 30) ∧ Hid (BLS w T ts s6 wx))
    case first =>
      go_wp2_with fail
      go_loopw [5, 6, 7] (fun s5 s6 i wr => ∃ (k : Nat) (T : List UInt8) (ts : List TK), k ≤ n ∧ k ≤ 30 ∧ i = .int .i64 k ∧ s5 = .string (str T) ∧ Hid (T.length ≤ 104 * k ∧ ts.length ≤ k) ∧ Hid (BLS w T ts s6 wr)) (fun _ _ i _ => 30 - (intOf i).toNat)
      case atStart => exact ⟨0, [], [], Nat.zero_le _, Nat.zero_le _, rfl, rfl, Lib.hid ⟨Nat.le_refl _, Nat.le_refl _⟩, HS0⟩
      case round =>
        obtain ⟨k, T, ts, hk, hk3, rfl, rfl, HTL, H⟩ := hrel
        by_cases hlt : k < n
        · by_cases hlt3 : k < 30
          · skip
            obtain ⟨⟨da, db⟩, hd⟩ : ∃ d, l[k]? = some d := ⟨_, List.getElem?_eq_getElem (by have := HN.out; omega)⟩
            obtain ⟨b, off, rfl, hbl, hcell⟩ := HA.out (by omega)
            have HCE : Hid (∀ W, Below w.heap.size w W → W.cell? ⟨b, off + k * 2, none⟩ = some (.int .i64 da) ∧ W.cell? ⟨b, off + k * 2 + 1, none⟩ = some (.int .i64 db)) := Lib.hid fun W hW => ⟨(hW.cell (p := ⟨b, off + k * 2, none⟩) hbl).trans (hcell k _ hd).1, (hW.cell (p := ⟨b, off + k * 2 + 1, none⟩) hbl).trans (hcell k _ hd).2⟩
            have hdb := HOK.out _ (List.mem_of_getElem? hd)
            have HWD : Hid (∀ W, Hid (BLS w T ts u6 W) → Calls Tryd.prog 18 #[.agg #[.int .i64 da, .int .i64 db]] W (WdO W)) := Lib.hid fun W hW => word_any da db W hW.out.sl.lb hdb.1 hdb.2
            obtain ⟨g0, g1⟩ := HCE.out wr H.out.sl.2
            clear hd hcell hdb
            obtain ⟨r, hr⟩ : ∃ r, r = k % m := ⟨_, rfl⟩
            have hrm : r < m := by rw [hr]; exact Nat.mod_lt _ hm0
            have hrt : (k : Int).tmod (m : Int) = (r : Int) := by rw [hr]; exact (Int.ofNat_tmod k m).symm
            have hm1 : ((m : Int) == 0) = false := by simp; omega
            have hm2 : (0 : Int) < (m : Int) := by omega
            obtain ⟨de, hde⟩ : ∃ d, bl[r]? = some d := ⟨_, List.getElem?_eq_getElem (by have := HM.out; omega)⟩
            obtain ⟨b2, off2, rfl, hbl2, hcell2⟩ := HB.out (by omega)
            have g2 : wr.cell? ⟨b2, off2 + r, none⟩ = some (.int .i64 de) := (H.out.sl.2.cell (p := ⟨b2, off2 + r, none⟩) hbl2).trans (hcell2 r _ hde)
            have HBR : Hid (∀ W, Calls Tryd.prog 17 #[.int .i64 de, .int .i64 4] W fun e w' => e = .returned (.int .i64 (de % 4)) ∧ W = w') := Lib.hid fun W => bring_small de 4 W (by omega) (by omega)
            have hb0 := Int.emod_nonneg de (show (4 : Int) ≠ 0 by omega)
            have hb1 := Int.emod_lt_of_pos de (show (0 : Int) < 4 by omega)
            obtain ⟨f, hf⟩ := Int.eq_ofNat_of_zero_le hb0
            rw [hf] at HBR hb1
            obtain ⟨nn, hnn⟩ : ∃ nn, nn = f + 1 := ⟨_, rfl⟩
            have hn1 : 1 ≤ nn := by omega
            have hn4 : nn ≤ 4 := by omega
            have hs1 : (1 : Int) + (f : Int) = (nn : Int) := by omega
            clear hr hde hcell2 hb0 hb1 hf hnn
            obtain ⟨hwb1, hwb2, hwb3, hwb4⟩ := wsb_all hn1 hn4
            obtain ⟨wb, hwb⟩ : ∃ wb, wb = wsb nn := ⟨_, rfl⟩
            rw [← hwb] at hwb1 hwb2 hwb3 hwb4
            clear hwb
            obtain ⟨z1, hz1⟩ : ∃ z, str T ++ str wb = z := ⟨_, rfl⟩
            have hz1s : z1.size = T.length + nn := by rw [← hz1, str_app, str_size, List.length_append, hwb3]
            have HZ1 : Hid (z1 = str (T ++ wb)) := Lib.hid (by rw [← hz1, str_app])
            have htl := HTL.out
            have v1 : ((9223372036854775807 : Nat) < (str T).size + (str wb).size) = False := eq_false (by rw [str_size, str_size]; omega)
            have v2 : ((9223372036854775807 : Nat) < (str T).size + ((⟨#[32, 9, 10, 13]⟩ : ByteArray).extract 0 nn).size) = False := by rw [hwb4]; exact v1
            go_upto_region 9 with (go_at_call 17; (with_reducible refine (HBR.out _).mono ?_); rintro e1 w4 ⟨rfl, rfl⟩)
            clear HBR g2
            go_upto_region 10 with fail
            have HWB := Lib.hid (show ws wb ∧ wb ≠ [] ∧ wb.length = nn from ⟨hwb1, hwb2, hwb3⟩)
            have HZS := Lib.hid hz1s
            have hz3 : z1.size ≤ 4000 := by omega
            have HZ3 := Lib.hid hz3
            clear hwb1 hwb2 hwb3 hwb4 hz1 v1 htl hz1s v2
            go_upto_region 11 with (go_at_call 18; (with_reducible refine (HWD.out _ H).mono ?_); rintro e1 w5 ⟨d', x, y, s, rfl, hy, hsx, hwd, hx1, hb5⟩; have HY := Lib.hid hy; have HSX := Lib.hid hsx; have HW5 := Lib.hid hwd; have HX1 := Lib.hid hx1; have HB5 := Lib.hid hb5; clear hy hsx hwd hx1 hb5)
            obtain ⟨wB, hwB⟩ : ∃ wB, w5.alloc (.cells #[.int .i64 (d'.k : Int), .int .i64 0, .int .i64 0, .int .i64 d'.N, .int .u64 (d'.U : Int), .string y] 25) = wB := ⟨_, rfl⟩
            obtain ⟨bx, hbx⟩ : ∃ bx, w5.heap.size = bx := ⟨_, rfl⟩
            have HBX : Hid (Blk wB bx 25 #[.int .i64 (d'.k : Int), .int .i64 0, .int .i64 0, .int .i64 d'.N, .int .u64 (d'.U : Int), .string y]) := Lib.hid (by rw [← hwB, ← hbx]; exact Blk.new _ _ _)
            have HBB : Hid (Below wr.heap.size wr wB ∧ wr.heap.size ≤ bx) := Lib.hid (by rw [← hwB, ← hbx]; exact ⟨HB5.out.alloc HB5.out.size _, HB5.out.size⟩)
            have HSS : Hid (s.size = x.length) := Lib.hid (by rw [HSX.out, str_size])
            have hss : s.size ≤ 100 := by rw [HSS.out]; exact HX1.out
            simp only [hwB, hbx]
            clear hwB hbx
            obtain ⟨c0, c1, c2, c3, c4, c5⟩ : wB.cell? ⟨bx, 0, none⟩ = some (.int .i64 (d'.k : Int)) ∧ wB.cell? ⟨bx, 1, none⟩ = some (.int .i64 0) ∧ wB.cell? ⟨bx, 2, none⟩ = some (.int .i64 0) ∧ wB.cell? ⟨bx, 3, none⟩ = some (.int .i64 d'.N) ∧ wB.cell? ⟨bx, 4, none⟩ = some (.int .u64 (d'.U : Int)) ∧ wB.cell? ⟨bx, 5, none⟩ = some (.string y) := ⟨HBX.out.cell 0, HBX.out.cell 1, HBX.out.cell 2, HBX.out.cell 3, HBX.out.cell 4, HBX.out.cell 5⟩
            have f1 : wB.frozen? ⟨bx, 1, none⟩ = false := HBX.out.frozen 1
            have f2 : wB.frozen? ⟨bx, 2, none⟩ = false := HBX.out.frozen 2
            go_upto_region 12 with fail
            obtain ⟨wC, hwC⟩ : ∃ wC, (wB.setCell ⟨bx, 1, none⟩ (.int .i64 (z1.size : Int))).setCell ⟨bx, 2, none⟩ (.int .i64 ((z1.size : Int) + (s.size : Int))) = wC := ⟨_, rfl⟩
            have HCX : Hid (Blk wC bx 25 #[.int .i64 (d'.k : Int), .int .i64 (z1.size : Int), .int .i64 ((z1.size : Int) + (s.size : Int)), .int .i64 d'.N, .int .u64 (d'.U : Int), .string y]) := Lib.hid (by rw [← hwC]; exact (HBX.out.put 1 _).put 2 _)
            have HCB : Hid (Below wr.heap.size wr wC) := Lib.hid (by rw [← hwC]; exact (HBB.out.1.setCell HBB.out.2 _).setCell HBB.out.2 _)
            simp only [hwC]
            clear hwC c0 c1 c2 c3 c4 c5 f1 f2
            obtain ⟨c0, c1, c2, c3, c4, c5⟩ : wC.cell? ⟨bx, 0, none⟩ = some (.int .i64 (d'.k : Int)) ∧ wC.cell? ⟨bx, 1, none⟩ = some (.int .i64 (z1.size : Int)) ∧ wC.cell? ⟨bx, 2, none⟩ = some (.int .i64 ((z1.size : Int) + (s.size : Int))) ∧ wC.cell? ⟨bx, 3, none⟩ = some (.int .i64 d'.N) ∧ wC.cell? ⟨bx, 4, none⟩ = some (.int .u64 (d'.U : Int)) ∧ wC.cell? ⟨bx, 5, none⟩ = some (.string y) := ⟨HCX.out.cell 0, HCX.out.cell 1, HCX.out.cell 2, HCX.out.cell 3, HCX.out.cell 4, HCX.out.cell 5⟩
            obtain ⟨z2, hz2⟩ : ∃ z, z1 ++ s = z := ⟨_, rfl⟩
            have v3 : ((9223372036854775807 : Nat) < z1.size + s.size) = False := eq_false (by omega)
            have HZ2 : Hid (z2 = str (T ++ (wb ++ x))) := Lib.hid (by rw [← hz2, HZ1.out, HSX.out, str_app, List.append_assoc])
            obtain ⟨tk, htk⟩ : ∃ tk : TK, tk = ⟨d'.k, z1.size, z1.size + s.size, d'.N, d'.U, d'.x, 0⟩ := ⟨_, rfl⟩
            have HTK : Hid (tk = ⟨d'.k, T.length + wb.length, T.length + wb.length + x.length, d'.N, d'.U, d'.x, 0⟩) := Lib.hid (by rw [htk, HZS.out, HSS.out, HWB.out.2.2])
            have HSRC : Hid (∀ j u, (tcs [tk])[j]? = some u → (wC.alloc (.cells #[.int .i64 (d'.k : Int), .int .i64 (z1.size : Int), .int .i64 ((z1.size : Int) + (s.size : Int)), .int .i64 d'.N, .int .u64 (d'.U : Int), .string y] 25)).cell? ((⟨wC.heap.size, 0, none⟩ : Addr).add j) = some u) := Lib.hid fun j u hj => by
              rw [add_zero_at, World.cell?_alloc_new]
              rw [htk] at hj
              rw [HY.out]
              simpa [tcs, tc] using hj
            have HOW := Lib.hid ((H.out.step HCB.out).step ((Below.refl _ wC).alloc (Nat.le_refl _) (.cells #[.int .i64 (d'.k : Int), .int .i64 (z1.size : Int), .int .i64 ((z1.size : Int) + (s.size : Int)), .int .i64 d'.N, .int .u64 (d'.U : Int), .string y] 25)))
            have HTS : Hid (ts.length + [tk].length ≤ 1000000) := Lib.hid (by have := HTL.out; simp; omega)
            clear htk hz3 hss
            go_wp2_with (at_builtin; refine wpList_appT (B := w.heap.size) (xs := ts) (ys := [tk]) (v := u6) (ad := ⟨wC.heap.size, 0, none⟩) rfl (.tmp 61) (.tmp 63) rfl rfl rfl rfl HOW.out.own HSRC.out HTS.out HOW.out.sl.2.size ?_; intro v1 w7 ho1 hg1; have HO1 := Lib.hid ho1; have HG1 := Lib.hid hg1; clear ho1 hg1)
            have HN2 : Hid (BLS w (T ++ (wb ++ x)) (ts ++ [tk]) v1 w7) := Lib.hid ⟨⟨HOW.out.sl.1.below (HG1.out.below (Below.refl _ _) HOW.out.sl.2.size (fun k hk => (HOW.out.own.lt k hk).1)), HG1.out.below HOW.out.sl.2 HOW.out.sl.2.size (fun k hk => (HOW.out.own.lt k hk).1)⟩, HO1.out, by rw [HTK.out]; exact HOW.out.txt.step HW5.out HWB.out.1 HWB.out.2.1⟩
            have HTL2 : Hid ((T ++ (wb ++ x)).length ≤ 104 * (k + 1) ∧ (ts ++ [tk]).length ≤ k + 1) := Lib.hid (by
              have := HTL.out
              have := HWB.out.2.2
              have := HX1.out
              simp only [List.length_append, List.length_cons, List.length_nil]
              omega)
            go_roundw
            case rel => exact ⟨k + 1, _, _, by omega, by omega, by go_num, by rw [HZ2.out], HTL2, HN2⟩
            case measure => simp [intOf]; omega
          · obtain rfl : k = 30 := by omega
            go_wp2_with fail
            go_meet
            exact ⟨T, ts, rfl, Lib.hid ⟨by have := HTL.out; omega, by have := HTL.out; omega⟩, H⟩
        · go_wp2_with fail
          go_meet
          exact ⟨T, ts, rfl, Lib.hid ⟨by have := HTL.out; omega, by have := HTL.out; omega⟩, H⟩
    case rest =>
      obtain ⟨T, ts, rfl, HTL, HS⟩ := hcut
      clear HS0 HA HB HOK HN HM
      obtain ⟨z, hz⟩ : ∃ z, str T ++ (⟨#[10]⟩ : ByteArray) = z := ⟨_, rfl⟩
      have hzd : z.data.toList = T ++ [10] := by rw [← hz]; simp [str]
      have v1 : ((9223372036854775807 : Nat) < (str T).size + 1) = False := eq_false (by rw [str_size]; have := HTL.out; omega)
      have v2 : ((9223372036854775807 : Nat) < (str T).size + (⟨#[10]⟩ : ByteArray).size) = False := v1
      have HAL : Hid (∀ W, Hid (BLS w T ts u6 W) → Calls Tryd.prog 14 #[.string z] W fun e w' => ∃ v, e = .returned (.tuple #[v, .int .i64 0, .int .i64 0]) ∧ Hid (BLS w T ts u6 w') ∧ Hid (RdT w' v ts)) := Lib.hid fun W hW => by
        refine (all_S z (by rw [← hz, ByteArray.size_append, str_size]; have := HTL.out; show _ + 1 ≤ _; omega) hW.out.sl).mono ?_
        rintro e w' ⟨v, rfl, h1, h2, h3⟩
        rw [hzd, hW.out.txt.alls] at h2 ⊢
        exact ⟨v, rfl, Lib.hid (hW.out.step h3), Lib.hid h2⟩
      have htl30 : ts.length ≤ 30 := by have := HTL.out; omega
      clear hzd
      obtain ⟨A6, c6, h6, hq6⟩ := HS.out.own.rd
      have h6' : u6 = .slice A6 ts.length c6 := h6
      subst h6'
      clear h6 hq6
      obtain ⟨wy, hwy⟩ : ∃ wy, wy = wc := ⟨_, rfl⟩
      subst hwy
      obtain ⟨tl, htl⟩ : ∃ tl, tl = ts.length := ⟨_, rfl⟩
      have HTN := Lib.hid htl
      have hG := tokG
      go_upto_region 15 with (go_at_call 14; (with_reducible refine (HAL.out _ HS).mono ?_); rintro e w5 ⟨v5, rfl, HS5, HR5⟩; obtain ⟨A5, c5, h5, _⟩ := id HR5.out; subst h5)
      rw [← htl] at HS5 HR5 htl30
      simp only [← htl]
      clear htl HAL v1 v2 HS
      go_wp2
      go_loopw [14] (fun i wr => ∃ k : Nat, k ≤ tl ∧ i = .int .i64 k ∧ Hid (BLS w T ts (.slice A6 tl c6) wr) ∧ Hid (RdT wr (.slice A5 tl c5) ts)) (fun i _ => tl - (intOf i).toNat)
      case atStart => exact ⟨0, Nat.zero_le _, rfl, HS5, HR5⟩
      case round =>
        clear HS5 HR5
        obtain ⟨k, hk, rfl, HS5, HR5⟩ := hrel
        by_cases hlt : k < tl
        · obtain ⟨t, ht⟩ : ∃ t, ts[k]? = some t := ⟨_, List.getElem?_eq_getElem (by have := HTN.out; omega)⟩
          obtain ⟨y, hy⟩ : ∃ y, str t.x = y := ⟨_, rfl⟩
          obtain ⟨X6, d6, e6, q6⟩ := HS5.out.own.rd
          injection e6 with i1 _ i2
          subst i1; subst i2
          obtain ⟨X5, d5, e5, q5⟩ := HR5.out
          injection e5 with i1 _ i2
          subst i1; subst i2
          obtain ⟨g6, rfl, hg6, hc6⟩ := q6 (by have := HTN.out; omega)
          obtain ⟨g5, rfl, hg5, hc5⟩ := q5 (by have := HTN.out; omega)
          obtain ⟨a0, a1, a2, a3, a4, a5⟩ := tok_cells2 hc6 ht hy
          obtain ⟨b0, b1, b2, b3, b4, b5⟩ := tok_cells2 hc5 ht hy
          have HNE := neTok
          have hne : ∀ W, (binOp .neq 25 (.agg #[.int .i64 (t.k : Int), .int .i64 (t.f : Int), .int .i64 (t.t : Int), .int .i64 t.N, .int .u64 (t.U : Int), .string y]) (.agg #[.int .i64 (t.k : Int), .int .i64 (t.f : Int), .int .i64 (t.t : Int), .int .i64 t.N, .int .u64 (t.U : Int), .string y])).run Tryd.prog W = .ok (.bool false) W := fun W => neTok W _ _ _ _ _ _
          clear HNE q5 q6 hc5 hc6 ht hy
          go_wp2
          go_quiet (fail)
          have hdr : ∀ q, Below wr.heap.size wr (wr.drewN q) := fun q => ⟨rfl, rfl, rfl, Nat.le_refl _, fun _ _ => rfl⟩
          have HS6 := Lib.hid (HS5.out.step (hdr nq))
          have HR6 := Lib.hid (HR5.out.below (hdr nq) (Nat.le_refl _))
          go_wp2
          go_roundw
          case rel => exact ⟨k + 1, by omega, by go_num, HS6, HR6⟩
          case measure => simp [intOf]; omega
        · obtain rfl : k = tl := by omega
          have HWK := Lib.hid (works_S HS5.out.sl)
          go_wp2_with (go_at_call 13; (with_reducible refine HWK.out.mono ?_); rintro e w8 ⟨rfl, h8⟩; have H8 := Lib.hid h8; clear h8)
          go_ret
          exact ⟨rfl, H8.out.2⟩
  · obtain rfl : m = 0 := by omega
    go_enter Tryd.func6, Tryd.ntmps6
    go_upto_block 0 with fail
    go_cut [5, 6] (fun s5 s6 wx => ∃ T ts, s5 = .string (str T) ∧ Hid (T.length ≤ 3120 ∧ ts.length ≤ 30) ∧ Hid (BLS w T ts s6 wx))
    case first =>
      go_wp2_with fail
      go_loopw [5, 6, 7] (fun s5 s6 i wr => ∃ (k : Nat) (T : List UInt8) (ts : List TK), k ≤ n ∧ k ≤ 30 ∧ i = .int .i64 k ∧ s5 = .string (str T) ∧ Hid (T.length ≤ 104 * k ∧ ts.length ≤ k) ∧ Hid (BLS w T ts s6 wr)) (fun _ _ i _ => 30 - (intOf i).toNat)
      case atStart => exact ⟨0, [], [], Nat.zero_le _, Nat.zero_le _, rfl, rfl, Lib.hid ⟨Nat.le_refl _, Nat.le_refl _⟩, HS0⟩
      case round =>
        obtain ⟨k, T, ts, hk, hk3, rfl, rfl, HTL, H⟩ := hrel
        by_cases hlt : k < n
        · by_cases hlt3 : k < 30
          · skip
            obtain ⟨⟨da, db⟩, hd⟩ : ∃ d, l[k]? = some d := ⟨_, List.getElem?_eq_getElem (by have := HN.out; omega)⟩
            obtain ⟨b, off, rfl, hbl, hcell⟩ := HA.out (by omega)
            have HCE : Hid (∀ W, Below w.heap.size w W → W.cell? ⟨b, off + k * 2, none⟩ = some (.int .i64 da) ∧ W.cell? ⟨b, off + k * 2 + 1, none⟩ = some (.int .i64 db)) := Lib.hid fun W hW => ⟨(hW.cell (p := ⟨b, off + k * 2, none⟩) hbl).trans (hcell k _ hd).1, (hW.cell (p := ⟨b, off + k * 2 + 1, none⟩) hbl).trans (hcell k _ hd).2⟩
            have hdb := HOK.out _ (List.mem_of_getElem? hd)
            have HWD : Hid (∀ W, Hid (BLS w T ts u6 W) → Calls Tryd.prog 18 #[.agg #[.int .i64 da, .int .i64 db]] W (WdO W)) := Lib.hid fun W hW => word_any da db W hW.out.sl.lb hdb.1 hdb.2
            obtain ⟨g0, g1⟩ := HCE.out wr H.out.sl.2
            clear hd hcell hdb
            obtain ⟨nn, hnn⟩ : ∃ nn, nn = 1 := ⟨_, rfl⟩
            have hn1 : 1 ≤ nn := by omega
            have hn4 : nn ≤ 4 := by omega
            obtain ⟨hwb1, hwb2, hwb3, hwb4⟩ := wsb_all hn1 hn4
            obtain ⟨wb, hwb⟩ : ∃ wb, wb = wsb nn := ⟨_, rfl⟩
            rw [← hwb] at hwb1 hwb2 hwb3 hwb4
            clear hwb
            obtain ⟨z1, hz1⟩ : ∃ z, str T ++ str wb = z := ⟨_, rfl⟩
            have hz1s : z1.size = T.length + nn := by rw [← hz1, str_app, str_size, List.length_append, hwb3]
            have HZ1 : Hid (z1 = str (T ++ wb)) := Lib.hid (by rw [← hz1, str_app])
            have htl := HTL.out
            have v1 : ((9223372036854775807 : Nat) < (str T).size + (str wb).size) = False := eq_false (by rw [str_size, str_size]; omega)
            have hwb5 : (⟨#[32, 9, 10, 13]⟩ : ByteArray).extract 0 1 = str wb := by rw [← hwb4, hnn]
            go_upto_region 9 with fail
            go_upto_region 10 with fail
            have HWB := Lib.hid (show ws wb ∧ wb ≠ [] ∧ wb.length = nn from ⟨hwb1, hwb2, hwb3⟩)
            have HZS := Lib.hid hz1s
            have hz3 : z1.size ≤ 4000 := by omega
            have HZ3 := Lib.hid hz3
            clear hwb1 hwb2 hwb3 hwb4 hz1 v1 htl hz1s hwb5 hnn
            go_upto_region 11 with (go_at_call 18; (with_reducible refine (HWD.out _ H).mono ?_); rintro e1 w5 ⟨d', x, y, s, rfl, hy, hsx, hwd, hx1, hb5⟩; have HY := Lib.hid hy; have HSX := Lib.hid hsx; have HW5 := Lib.hid hwd; have HX1 := Lib.hid hx1; have HB5 := Lib.hid hb5; clear hy hsx hwd hx1 hb5)
            obtain ⟨wB, hwB⟩ : ∃ wB, w5.alloc (.cells #[.int .i64 (d'.k : Int), .int .i64 0, .int .i64 0, .int .i64 d'.N, .int .u64 (d'.U : Int), .string y] 25) = wB := ⟨_, rfl⟩
            obtain ⟨bx, hbx⟩ : ∃ bx, w5.heap.size = bx := ⟨_, rfl⟩
            have HBX : Hid (Blk wB bx 25 #[.int .i64 (d'.k : Int), .int .i64 0, .int .i64 0, .int .i64 d'.N, .int .u64 (d'.U : Int), .string y]) := Lib.hid (by rw [← hwB, ← hbx]; exact Blk.new _ _ _)
            have HBB : Hid (Below wr.heap.size wr wB ∧ wr.heap.size ≤ bx) := Lib.hid (by rw [← hwB, ← hbx]; exact ⟨HB5.out.alloc HB5.out.size _, HB5.out.size⟩)
            have HSS : Hid (s.size = x.length) := Lib.hid (by rw [HSX.out, str_size])
            have hss : s.size ≤ 100 := by rw [HSS.out]; exact HX1.out
            simp only [hwB, hbx]
            clear hwB hbx
            obtain ⟨c0, c1, c2, c3, c4, c5⟩ : wB.cell? ⟨bx, 0, none⟩ = some (.int .i64 (d'.k : Int)) ∧ wB.cell? ⟨bx, 1, none⟩ = some (.int .i64 0) ∧ wB.cell? ⟨bx, 2, none⟩ = some (.int .i64 0) ∧ wB.cell? ⟨bx, 3, none⟩ = some (.int .i64 d'.N) ∧ wB.cell? ⟨bx, 4, none⟩ = some (.int .u64 (d'.U : Int)) ∧ wB.cell? ⟨bx, 5, none⟩ = some (.string y) := ⟨HBX.out.cell 0, HBX.out.cell 1, HBX.out.cell 2, HBX.out.cell 3, HBX.out.cell 4, HBX.out.cell 5⟩
            have f1 : wB.frozen? ⟨bx, 1, none⟩ = false := HBX.out.frozen 1
            have f2 : wB.frozen? ⟨bx, 2, none⟩ = false := HBX.out.frozen 2
            go_upto_region 12 with fail
            obtain ⟨wC, hwC⟩ : ∃ wC, (wB.setCell ⟨bx, 1, none⟩ (.int .i64 (z1.size : Int))).setCell ⟨bx, 2, none⟩ (.int .i64 ((z1.size : Int) + (s.size : Int))) = wC := ⟨_, rfl⟩
            have HCX : Hid (Blk wC bx 25 #[.int .i64 (d'.k : Int), .int .i64 (z1.size : Int), .int .i64 ((z1.size : Int) + (s.size : Int)), .int .i64 d'.N, .int .u64 (d'.U : Int), .string y]) := Lib.hid (by rw [← hwC]; exact (HBX.out.put 1 _).put 2 _)
            have HCB : Hid (Below wr.heap.size wr wC) := Lib.hid (by rw [← hwC]; exact (HBB.out.1.setCell HBB.out.2 _).setCell HBB.out.2 _)
            simp only [hwC]
            clear hwC c0 c1 c2 c3 c4 c5 f1 f2
            obtain ⟨c0, c1, c2, c3, c4, c5⟩ : wC.cell? ⟨bx, 0, none⟩ = some (.int .i64 (d'.k : Int)) ∧ wC.cell? ⟨bx, 1, none⟩ = some (.int .i64 (z1.size : Int)) ∧ wC.cell? ⟨bx, 2, none⟩ = some (.int .i64 ((z1.size : Int) + (s.size : Int))) ∧ wC.cell? ⟨bx, 3, none⟩ = some (.int .i64 d'.N) ∧ wC.cell? ⟨bx, 4, none⟩ = some (.int .u64 (d'.U : Int)) ∧ wC.cell? ⟨bx, 5, none⟩ = some (.string y) := ⟨HCX.out.cell 0, HCX.out.cell 1, HCX.out.cell 2, HCX.out.cell 3, HCX.out.cell 4, HCX.out.cell 5⟩
            obtain ⟨z2, hz2⟩ : ∃ z, z1 ++ s = z := ⟨_, rfl⟩
            have v3 : ((9223372036854775807 : Nat) < z1.size + s.size) = False := eq_false (by omega)
            have HZ2 : Hid (z2 = str (T ++ (wb ++ x))) := Lib.hid (by rw [← hz2, HZ1.out, HSX.out, str_app, List.append_assoc])
            obtain ⟨tk, htk⟩ : ∃ tk : TK, tk = ⟨d'.k, z1.size, z1.size + s.size, d'.N, d'.U, d'.x, 0⟩ := ⟨_, rfl⟩
            have HTK : Hid (tk = ⟨d'.k, T.length + wb.length, T.length + wb.length + x.length, d'.N, d'.U, d'.x, 0⟩) := Lib.hid (by rw [htk, HZS.out, HSS.out, HWB.out.2.2])
            have HSRC : Hid (∀ j u, (tcs [tk])[j]? = some u → (wC.alloc (.cells #[.int .i64 (d'.k : Int), .int .i64 (z1.size : Int), .int .i64 ((z1.size : Int) + (s.size : Int)), .int .i64 d'.N, .int .u64 (d'.U : Int), .string y] 25)).cell? ((⟨wC.heap.size, 0, none⟩ : Addr).add j) = some u) := Lib.hid fun j u hj => by
              rw [add_zero_at, World.cell?_alloc_new]
              rw [htk] at hj
              rw [HY.out]
              simpa [tcs, tc] using hj
            have HOW := Lib.hid ((H.out.step HCB.out).step ((Below.refl _ wC).alloc (Nat.le_refl _) (.cells #[.int .i64 (d'.k : Int), .int .i64 (z1.size : Int), .int .i64 ((z1.size : Int) + (s.size : Int)), .int .i64 d'.N, .int .u64 (d'.U : Int), .string y] 25)))
            have HTS : Hid (ts.length + [tk].length ≤ 1000000) := Lib.hid (by have := HTL.out; simp; omega)
            clear htk hz3 hss
            go_wp2_with (at_builtin; refine wpList_appT (B := w.heap.size) (xs := ts) (ys := [tk]) (v := u6) (ad := ⟨wC.heap.size, 0, none⟩) rfl (.tmp 61) (.tmp 63) rfl rfl rfl rfl HOW.out.own HSRC.out HTS.out HOW.out.sl.2.size ?_; intro v1 w7 ho1 hg1; have HO1 := Lib.hid ho1; have HG1 := Lib.hid hg1; clear ho1 hg1)
            have HN2 : Hid (BLS w (T ++ (wb ++ x)) (ts ++ [tk]) v1 w7) := Lib.hid ⟨⟨HOW.out.sl.1.below (HG1.out.below (Below.refl _ _) HOW.out.sl.2.size (fun k hk => (HOW.out.own.lt k hk).1)), HG1.out.below HOW.out.sl.2 HOW.out.sl.2.size (fun k hk => (HOW.out.own.lt k hk).1)⟩, HO1.out, by rw [HTK.out]; exact HOW.out.txt.step HW5.out HWB.out.1 HWB.out.2.1⟩
            have HTL2 : Hid ((T ++ (wb ++ x)).length ≤ 104 * (k + 1) ∧ (ts ++ [tk]).length ≤ k + 1) := Lib.hid (by
              have := HTL.out
              have := HWB.out.2.2
              have := HX1.out
              simp only [List.length_append, List.length_cons, List.length_nil]
              omega)
            go_roundw
            case rel => exact ⟨k + 1, _, _, by omega, by omega, by go_num, by rw [HZ2.out], HTL2, HN2⟩
            case measure => simp [intOf]; omega
          · obtain rfl : k = 30 := by omega
            go_wp2_with fail
            go_meet
            exact ⟨T, ts, rfl, Lib.hid ⟨by have := HTL.out; omega, by have := HTL.out; omega⟩, H⟩
        · go_wp2_with fail
          go_meet
          exact ⟨T, ts, rfl, Lib.hid ⟨by have := HTL.out; omega, by have := HTL.out; omega⟩, H⟩
    case rest =>
      obtain ⟨T, ts, rfl, HTL, HS⟩ := hcut
      clear HS0 HA HB HOK HN HM
      obtain ⟨z, hz⟩ : ∃ z, str T ++ (⟨#[10]⟩ : ByteArray) = z := ⟨_, rfl⟩
      have hzd : z.data.toList = T ++ [10] := by rw [← hz]; simp [str]
      have v1 : ((9223372036854775807 : Nat) < (str T).size + 1) = False := eq_false (by rw [str_size]; have := HTL.out; omega)
      have v2 : ((9223372036854775807 : Nat) < (str T).size + (⟨#[10]⟩ : ByteArray).size) = False := v1
      have HAL : Hid (∀ W, Hid (BLS w T ts u6 W) → Calls Tryd.prog 14 #[.string z] W fun e w' => ∃ v, e = .returned (.tuple #[v, .int .i64 0, .int .i64 0]) ∧ Hid (BLS w T ts u6 w') ∧ Hid (RdT w' v ts)) := Lib.hid fun W hW => by
        refine (all_S z (by rw [← hz, ByteArray.size_append, str_size]; have := HTL.out; show _ + 1 ≤ _; omega) hW.out.sl).mono ?_
        rintro e w' ⟨v, rfl, h1, h2, h3⟩
        rw [hzd, hW.out.txt.alls] at h2 ⊢
        exact ⟨v, rfl, Lib.hid (hW.out.step h3), Lib.hid h2⟩
      have htl30 : ts.length ≤ 30 := by have := HTL.out; omega
      clear hzd
      obtain ⟨A6, c6, h6, hq6⟩ := HS.out.own.rd
      have h6' : u6 = .slice A6 ts.length c6 := h6
      subst h6'
      clear h6 hq6
      obtain ⟨wy, hwy⟩ : ∃ wy, wy = wc := ⟨_, rfl⟩
      subst hwy
      obtain ⟨tl, htl⟩ : ∃ tl, tl = ts.length := ⟨_, rfl⟩
      have HTN := Lib.hid htl
      have hG := tokG
      go_upto_region 15 with (go_at_call 14; (with_reducible refine (HAL.out _ HS).mono ?_); rintro e w5 ⟨v5, rfl, HS5, HR5⟩; obtain ⟨A5, c5, h5, _⟩ := id HR5.out; subst h5)
      rw [← htl] at HS5 HR5 htl30
      simp only [← htl]
      clear htl HAL v1 v2 HS
      go_wp2
      go_loopw [14] (fun i wr => ∃ k : Nat, k ≤ tl ∧ i = .int .i64 k ∧ Hid (BLS w T ts (.slice A6 tl c6) wr) ∧ Hid (RdT wr (.slice A5 tl c5) ts)) (fun i _ => tl - (intOf i).toNat)
      case atStart => exact ⟨0, Nat.zero_le _, rfl, HS5, HR5⟩
      case round =>
        clear HS5 HR5
        obtain ⟨k, hk, rfl, HS5, HR5⟩ := hrel
        by_cases hlt : k < tl
        · obtain ⟨t, ht⟩ : ∃ t, ts[k]? = some t := ⟨_, List.getElem?_eq_getElem (by have := HTN.out; omega)⟩
          obtain ⟨y, hy⟩ : ∃ y, str t.x = y := ⟨_, rfl⟩
          obtain ⟨X6, d6, e6, q6⟩ := HS5.out.own.rd
          injection e6 with i1 _ i2
          subst i1; subst i2
          obtain ⟨X5, d5, e5, q5⟩ := HR5.out
          injection e5 with i1 _ i2
          subst i1; subst i2
          obtain ⟨g6, rfl, hg6, hc6⟩ := q6 (by have := HTN.out; omega)
          obtain ⟨g5, rfl, hg5, hc5⟩ := q5 (by have := HTN.out; omega)
          obtain ⟨a0, a1, a2, a3, a4, a5⟩ := tok_cells2 hc6 ht hy
          obtain ⟨b0, b1, b2, b3, b4, b5⟩ := tok_cells2 hc5 ht hy
          have HNE := neTok
          have hne : ∀ W, (binOp .neq 25 (.agg #[.int .i64 (t.k : Int), .int .i64 (t.f : Int), .int .i64 (t.t : Int), .int .i64 t.N, .int .u64 (t.U : Int), .string y]) (.agg #[.int .i64 (t.k : Int), .int .i64 (t.f : Int), .int .i64 (t.t : Int), .int .i64 t.N, .int .u64 (t.U : Int), .string y])).run Tryd.prog W = .ok (.bool false) W := fun W => neTok W _ _ _ _ _ _
          clear HNE q5 q6 hc5 hc6 ht hy
          go_wp2
          go_quiet (fail)
          have hdr : ∀ q, Below wr.heap.size wr (wr.drewN q) := fun q => ⟨rfl, rfl, rfl, Nat.le_refl _, fun _ _ => rfl⟩
          have HS6 := Lib.hid (HS5.out.step (hdr nq))
          have HR6 := Lib.hid (HR5.out.below (hdr nq) (Nat.le_refl _))
          go_wp2
          go_roundw
          case rel => exact ⟨k + 1, by omega, by go_num, HS6, HR6⟩
          case measure => simp [intOf]; omega
        · obtain rfl : k = tl := by omega
          have HWK := Lib.hid (works_S HS5.out.sl)
          go_wp2_with (go_at_call 13; (with_reducible refine HWK.out.mono ?_); rintro e w8 ⟨rfl, h8⟩; have H8 := Lib.hid h8; clear h8)
          go_ret
          exact ⟨rfl, H8.out.2⟩
end Go.Proofs.YtodmlgbomhmbpaaDoor
