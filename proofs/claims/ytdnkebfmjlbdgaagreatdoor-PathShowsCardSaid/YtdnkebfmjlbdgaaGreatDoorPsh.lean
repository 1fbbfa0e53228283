/-
  What is proved here: contracts of path.isValid, path.textOf and path.Show; conditions: the tables that they read hold what is laid, and the lengths that each states; and: the contract of path.Show; conditions: the tables that it reads hold what is laid, and the lengths that it states.
-/
import Derived.Test.YtdnkebfmjlbdgaaGreatDoorPf
import Derived.Test.YtdnkebfmjlbdgaaGreatDoorPb
import Derived.Test.YtdnkebfmjlbdgaaGreatDoorPw
import Derived.Test.YtdnkebfmjlbdgaaGreatDoorKBase
import Derived.Test.YtdnkebfmjlbdgaaGreatDoorFitB
import Derived.Lib.AppendIntMem
namespace Go.Proofs.YtdnkebfmjlbdgaaGreatDoor
open Go.RowKit U U.Ut

/-- What the tables hold that package path and its library read. -/
structure LP (B : Nat) (w : World) : Prop where
  tb : U.TB B w
  tab : Tab w
  pow : Lib.TabIs Tryz.prog w "internal/strconv.uint64pow10" .u64 Lib.pow10Tab
theorem pow_glob : Tryz.prog.globalNamed "internal/strconv.uint64pow10" = some 6 := by kernel_rfl
theorem LP.below {B : Nat} {w w' : World} (h : LP B w) (hb : Below B w w') : LP B w' := by
  have hB := h.tb.1
  refine ⟨h.tb.below hb, h.tab.below (by omega) hb, ?_⟩
  have := h.pow
  unfold Lib.TabIs World.var? at this ⊢
  rw [pow_glob] at this ⊢
  rw [← this]
  simp only [Option.bind_some]
  rw [hb.block 6 (by omega)]
theorem LP.keep {w w' : World} (h : LP w.heap.size w) (hb : Below w.heap.size w w') : LP w'.heap.size w' := by
  have h' := h.below hb
  exact ⟨⟨Nat.le_trans h.tb.1 hb.size, Nat.le_refl _, h'.tb.2.2⟩, h'.tab, h'.pow⟩
/-- The tables, and old memory untouched. -/
structure SP (w0 w : World) : Prop where
  lo : LP w0.heap.size w
  bl : Below w0.heap.size w0 w
theorem SP.start {w : World} (h : LP w.heap.size w) : SP w w := ⟨h, Below.refl _ _⟩
theorem SP.lp {w0 w : World} (h : SP w0 w) : LP w.heap.size w := ⟨⟨Nat.le_trans h.lo.tb.1 h.bl.size, Nat.le_refl _, h.lo.tb.2.2⟩, h.lo.tab, h.lo.pow⟩
theorem SP.step0 {w0 w w' : World} (h : SP w0 w) (hb : Below w0.heap.size w w') : SP w0 w' := ⟨h.lo.below hb, h.bl.trans hb⟩
theorem SP.step {w0 w w' : World} (h : SP w0 w) (hb : Below w.heap.size w w') : SP w0 w' := h.step0 (hb.mono h.bl.size)

theorem itoa_any (n : Int) (h0 : 0 ≤ n) (h1 : n ≤ 999999999) (w : World) (hL : LP w.heap.size w) :
    Calls Tryz.prog 75 #[.int .i64 n] w fun e w' => e = .returned (.string (U.str (Lib.decDigits n.toNat))) ∧ Below w.heap.size w w' := by
  refine (Tryz.strconv_Itoa n (by omega) (by omega) w hL.pow).mono ?_
  rintro e w' ⟨rfl, k, os, rfl⟩
  refine ⟨?_, Lib.below_grow _ _ (Nat.le_refl _) _ _⟩
  obtain ⟨u, rfl⟩ : ∃ u : Nat, n = (u : Int) := ⟨n.toNat, by omega⟩
  rw [Lib.itoa_nonneg]
  rfl

set_option maxRecDepth 100000 in
set_option maxHeartbeats 1000000 in
theorem isValid_any (s : Stp) (w : World) (hL : LP w.heap.size w) (hs : okR s) :
    Calls Tryz.prog 38 #[.agg #[.string s.k, .int .i64 s.a, .bool s.b]] w fun e w' => e = .returned (.bool (okS s)) ∧ Below w.heap.size w w' := by
  obtain ⟨k, a, b⟩ := s
  have hB0 : Below w.heap.size w (w.alloc (.cells #[.string k, .int .i64 a, .bool b] 51)) := (Below.refl _ _).alloc (Nat.le_refl _) _
  have hkl : k.size ≤ 9223372036854775807 := by have := hs.1; unfold maxLen at this; simp only at this; omega
  obtain ⟨V, hV⟩ : ∃ V, Lib.validD k.data.toList = V := ⟨_, rfl⟩
  have hva : ∀ W, Below w.heap.size w W → Calls Tryz.prog 73 #[.string k] W fun e w' => e = .returned (.bool V) ∧ Below W.heap.size W w' := fun W hb => by
    have := U.valid_any k W (hL.keep hb).tb.2.2 hkl
    rw [hV] at this
    exact this
  have HVA := Lib.hid hva
  have HB0 := Lib.hid hB0
  cases b with
  | true =>
    have e0 : okS ⟨k, a, true⟩ = (decide (a = 0) && (V && !hasZ k)) := by unfold okS; simp [hV]
    obtain ⟨R, hR⟩ : ∃ R, okS ⟨k, a, true⟩ = R := ⟨_, rfl⟩
    rw [hR]
    rw [hR] at e0
    have HR := Lib.hid e0
    clear e0 hR hva hV
    by_cases ha : a = 0
    · subst ha
      cases V with
      | false =>
        go_enter Tryz.func38, Tryz.ntmps38
        go_wp2_with (go_at_call 73; (with_reducible refine (HVA.out _ HB0.out).mono ?_); rintro e w2 ⟨rfl, hb2⟩; have HB2 := Lib.hid (HB0.out.trans (hb2.mono HB0.out.size)); clear hb2)
        go_ret
        rw [HR.out]
        exact ⟨rfl, HB2.out⟩
      | true =>
        cases hz : hasZ k with
        | false =>
          have HK := Lib.hid (fun W => keyCheck_any k W)
          unfold keyZ at HK
          rw [hz, if_neg (by decide)] at HK
          rw [hz] at HR
          go_enter Tryz.func38, Tryz.ntmps38
          go_wp2_with (first
            | (go_at_call 73; (with_reducible refine (HVA.out _ HB0.out).mono ?_); rintro e w2 ⟨rfl, hb2⟩; have HB2 := Lib.hid (HB0.out.trans (hb2.mono HB0.out.size)); have hc2 := (Blk.new w 51 #[.string k, .int .i64 0, .bool true]).below hb2 (by simp); have c0 := hc2.cell 0; clear hb2)
            | (go_at_call 51; refine (HK.out _).mono ?_; rintro e w3 ⟨rfl, rfl⟩))
          go_ret
          rw [HR.out]
          exact ⟨rfl, HB2.out⟩
        | true =>
          have HK := Lib.hid (fun W => keyCheck_any k W)
          unfold keyZ at HK
          rw [hz, if_pos (by decide)] at HK
          rw [hz] at HR
          go_enter Tryz.func38, Tryz.ntmps38
          go_wp2_with (first
            | (go_at_call 73; (with_reducible refine (HVA.out _ HB0.out).mono ?_); rintro e w2 ⟨rfl, hb2⟩; have HB2 := Lib.hid (HB0.out.trans (hb2.mono HB0.out.size)); have hc2 := (Blk.new w 51 #[.string k, .int .i64 0, .bool true]).below hb2 (by simp); have c0 := hc2.cell 0; clear hb2)
            | (go_at_call 51; refine (HK.out _).mono ?_; rintro e w3 ⟨rfl, rfl⟩))
          go_ret
          rw [HR.out]
          exact ⟨rfl, HB2.out⟩
    · have hab : (a == 0) = false := by simpa using ha
      go_enter Tryz.func38, Tryz.ntmps38
      go_wp2_with fail
      go_ret
      rw [HR.out, decide_eq_false ha]
      exact ⟨rfl, HB0.out⟩
  | false =>
    obtain ⟨R, hR⟩ : ∃ R, okS ⟨k, a, false⟩ = R := ⟨_, rfl⟩
    rw [hR]
    have e0 : R = (decide (k.size = 0) && (decide (0 ≤ a) && decide (a ≤ 999999999))) := by rw [← hR]; rfl
    have HR := Lib.hid e0
    clear e0 hR hva hV HVA V
    by_cases hk : k.size = 0
    · have hke : k = ⟨#[]⟩ := by
        cases k with
        | mk d =>
          have : d = #[] := Array.eq_empty_of_size_eq_zero hk
          rw [this]
      subst hke
      by_cases h0 : 0 ≤ a
      · have d0 : decide (0 ≤ a) = true := decide_eq_true h0
        go_enter Tryz.func38, Tryz.ntmps38
        go_wp2_with fail
        go_ret
        rw [HR.out, d0]
        exact ⟨rfl, HB0.out⟩
      · have d0 : decide (0 ≤ a) = false := decide_eq_false h0
        go_enter Tryz.func38, Tryz.ntmps38
        go_wp2_with fail
        go_ret
        rw [HR.out, d0]
        exact ⟨rfl, HB0.out⟩
    · have hke : k ≠ ⟨#[]⟩ := fun e => hk (by rw [e]; rfl)
      have h1 : ¬ k.toList = [] := by rw [Lib.toList_data]; intro e; apply hk; rw [Lib.size_eq, e]; rfl
      have h2 : k.toList.isEmpty = false := by rw [List.isEmpty_eq_false_iff]; exact h1
      go_enter Tryz.func38, Tryz.ntmps38
      go_wp2_with fail
      go_ret
      rw [HR.out, decide_eq_false hk]
      exact ⟨rfl, HB0.out⟩

theorem txt_join (l : List UInt8) : (⟨#[91]⟩ : ByteArray) ++ U.str l ++ (⟨#[93]⟩ : ByteArray) = U.str (91 :: (l ++ [93])) := by
  have e1 : (⟨#[91]⟩ : ByteArray) = U.str [91] := rfl
  have e2 : (⟨#[93]⟩ : ByteArray) = U.str [93] := rfl
  rw [e1, e2, str_app, str_app]
  simp
set_option maxRecDepth 100000 in
set_option maxHeartbeats 1000000 in
theorem textOf_any (s : Stp) (w : World) (hL : LP w.heap.size w) (hs : s.k.size ≤ 60000) (hok : okS s = true) :
    Calls Tryz.prog 40 #[.agg #[.string s.k, .int .i64 s.a, .bool s.b]] w fun e w' => e = .returned (.string (U.str (txtS s))) ∧ Below w.heap.size w w' := by
  obtain ⟨k, a, b⟩ := s
  have hB0 : Below w.heap.size w (w.alloc (.cells #[.string k, .int .i64 a, .bool b] 51)) := (Below.refl _ _).alloc (Nat.le_refl _) _
  have HB0 := Lib.hid hB0
  have HLP := Lib.hid (hL.keep hB0)
  unfold okS at hok
  cases b with
  | true =>
    simp only [if_true, Bool.and_eq_true] at hok
    have hks : k.size ≤ 60000 := hs
    obtain ⟨z, hz⟩ : ∃ z, U.str (quo k.data.toList) = z := ⟨_, rfl⟩
    have C := quote_any k _ HLP.out.tb (by omega)
    unfold quR at C
    rw [if_pos hok.2.1, hz] at C
    have HC := Lib.hid C
    have e : (⟨#[91]⟩ : ByteArray) ++ z ++ (⟨#[93]⟩ : ByteArray) = U.str (txtS ⟨k, a, true⟩) := by rw [← hz]; exact txt_join _
    obtain ⟨y, hy⟩ : ∃ y, U.str (txtS ⟨k, a, true⟩) = y := ⟨_, rfl⟩
    rw [hy]
    rw [hy] at e
    have HE := Lib.hid e
    have hzs : z.size ≤ 400000 := by
      rw [← hz, str_size]
      have := quo_len k.data.toList
      rw [← Lib.size_eq] at this
      omega
    have v1 : ((9223372036854775807 : Nat) < 1 + z.size) = False := eq_false (by omega)
    have v2 : ((9223372036854775807 : Nat) < 1 + z.size + 1) = False := eq_false (by omega)
    clear C hz hy hB0 hok e hzs
    go_enter Tryz.func40, Tryz.ntmps40
    go_wp2_with (go_at_call 76; (with_reducible refine HC.out.mono ?_); rintro e w2 ⟨rfl, hb2⟩; have HB2 := Lib.hid (HB0.out.trans (hb2.mono HB0.out.size)); clear hb2)
    go_ret
    rw [← HE.out]
    exact ⟨rfl, HB2.out⟩
  | false =>
    simp only [Bool.false_eq_true, if_false, Bool.and_eq_true, decide_eq_true_eq] at hok
    obtain ⟨z, hz⟩ : ∃ z, U.str (Lib.decDigits a.toNat) = z := ⟨_, rfl⟩
    have C := itoa_any a hok.2.1 hok.2.2 _ HLP.out
    rw [hz] at C
    have HC := Lib.hid C
    have e : (⟨#[91]⟩ : ByteArray) ++ z ++ (⟨#[93]⟩ : ByteArray) = U.str (txtS ⟨k, a, false⟩) := by rw [← hz]; exact txt_join _
    obtain ⟨y, hy⟩ : ∃ y, U.str (txtS ⟨k, a, false⟩) = y := ⟨_, rfl⟩
    rw [hy]
    rw [hy] at e
    have HE := Lib.hid e
    have hzs : z.size ≤ 9 := by
      rw [← hz, str_size]
      exact dD_len (by omega)
    have v1 : ((9223372036854775807 : Nat) < 1 + z.size) = False := eq_false (by omega)
    have v2 : ((9223372036854775807 : Nat) < 1 + z.size + 1) = False := eq_false (by omega)
    clear C hz hy hB0 hok e hzs
    go_enter Tryz.func40, Tryz.ntmps40
    go_wp2_with (go_at_call 75; (with_reducible refine HC.out.mono ?_); rintro e w2 ⟨rfl, hb2⟩; have HB2 := Lib.hid (HB0.out.trans (hb2.mono HB0.out.size)); clear hb2)
    go_ret
    rw [← HE.out]
    exact ⟨rfl, HB2.out⟩
end Go.Proofs.YtdnkebfmjlbdgaaGreatDoor
namespace Go.Proofs.YtdnkebfmjlbdgaaGreatDoor
open Go.RowKit U U.Ut

theorem own_belP {w w' : World} {B : Nat} {e : TypeId} {size n : Nat} {v : Value} {xs : List Value} (h : w.ownsRow B e size v n xs) (hb : Below w.heap.size w w') : w'.ownsRow B e size v n xs :=
  ⟨h.1, h.2.elim Or.inl fun ⟨g, cap, cur, hv, hg, hh, r⟩ => Or.inr ⟨g, cap, cur, hv, hg, (hb.block g (by have := h.lt g (by rw [hv]; rfl); omega)).trans hh, r⟩⟩
/-- The builder at block b holds the bytes l. -/
def BI (w : World) (b : Nat) (l : List UInt8) : Prop := Lib.IsBuilder 64 5 b b (Lib.byteCells l) w
theorem bAt_below {w w' : World} {b : Nat} {p : Value} {bs : List Value} (h : Lib.BuilderAt 64 5 b b p bs w) (hb : Below w.heap.size w w') : Lib.BuilderAt 64 5 b b p bs w' := by
  obtain ⟨h1, v, h2, h3, h4⟩ := h
  have hlt : b < w.heap.size := by
    rcases Nat.lt_or_ge b w.heap.size with hl | hg
    · exact hl
    · rw [Array.getElem?_eq_none hg] at h2; cases h2
  exact ⟨h1, v, (hb.block b hlt).trans h2, own_belP h3 hb, h4⟩
theorem BI.below {w w' : World} {b : Nat} {l : List UInt8} (h : BI w b l) (hb : Below w.heap.size w w') : BI w' b l := h.elim (fun x => .inl (bAt_below x hb)) (fun x => .inr (bAt_below x hb))
theorem BI.new (w : World) : BI (w.alloc (.cells #[.pointer none, .slice none 0 0] 64)) w.heap.size [] :=
  .inl ⟨Nat.le_refl _, .slice none 0 0, heap_alloc_new w _, World.ownsRow_nil _ _ _ _, by simp [Value.ownBlock]⟩
theorem write_any (w0 w : World) (l : List UInt8) (y : List UInt8) (h : BI w w0.heap.size l) (hS : SP w0 w) (hlen : l.length + y.length ≤ 100000000) :
    Calls Tryz.prog 39 #[.pointer (some ⟨w0.heap.size, 0, none⟩), .string (U.str y)] w fun e w' => (∃ v, e = .returned v) ∧ BI w' w0.heap.size (l ++ y) ∧ SP w0 w' := by
  refine (Tryz.Builder_WriteString w0.heap.size w0.heap.size (Lib.byteCells l) (U.str y) w h (by rw [Lib.byteCells_length, str_size]; omega) hS.bl.size).mono ?_
  rintro e w' ⟨rfl, h1, h2⟩
  refine ⟨⟨_, rfl⟩, .inr ?_, ?_⟩
  · have e1 : Lib.byteCells l ++ Lib.strCells (U.str y) = Lib.byteCells (l ++ y) := by rw [Lib.strCells_eq, Lib.byteCells_append, str_data]
    rw [e1] at h1
    exact h1
  · exact hS.step0 h2

theorem txtS_len {s : Stp} (hk : s.k.size ≤ 60000) (ho : okS s = true) : (txtS s).length ≤ 400000 := by
  obtain ⟨k, a, b⟩ := s
  have hk' : k.size ≤ 60000 := hk
  unfold okS at ho
  unfold txtS
  cases b with
  | true =>
    have := quo_len k.data.toList
    rw [← Lib.size_eq] at this
    simp only [if_true, List.length_cons, List.length_append, List.length_nil]
    omega
  | false =>
    simp only [Bool.false_eq_true, if_false, Bool.and_eq_true, decide_eq_true_eq] at ho
    have := dD_len (show a.toNat ≤ 999999999 by omega)
    simp only [Bool.false_eq_true, if_false, List.length_cons, List.length_append, List.length_nil]
    omega
theorem flat_len : ∀ (l : List Stp), (∀ s ∈ l, s.k.size ≤ 60000 ∧ okS s = true) → (l.flatMap txtS).length ≤ l.length * 400000
  | [], _ => by simp
  | s :: l, h => by
    have h1 := h s (by simp)
    have h2 := flat_len l fun x hx => h x (by simp [hx])
    have h3 := txtS_len h1.1 h1.2
    simp only [List.flatMap_cons, List.length_append, List.length_cons]
    omega
set_option maxRecDepth 100000 in
set_option maxHeartbeats 1000000 in
theorem show_any (ps : List Stp) (v : Value) (w : World) (hL : LP w.heap.size w) (hp : RdP w v ps) (hk : ∀ s ∈ ps, s.k.size ≤ 60000) (hpl : ps.length ≤ 100000) :
    Calls Tryz.prog 14 #[v] w fun e w' => e = .returned (.tuple #[.string (U.str (showR ps).1), .int .i64 ((showR ps).2 : Nat)]) ∧ Below w.heap.size w w' := by
  obtain ⟨A, n, c, rfl, hn, hnc, hc, hs, hA⟩ := hp.at
  obtain ⟨R, hR⟩ : ∃ R, showR ps = R := ⟨_, rfl⟩
  rw [hR]
  by_cases h64 : 64 < ps.length
  · have e : R = ([], 5) := by rw [← hR]; unfold showR; rw [if_pos h64]
    have d0 : decide ((64 : Int) < (n : Int)) = true := decide_eq_true (by omega)
    subst e
    clear hR
    go_enter Tryz.func14, Tryz.ntmps14
    go_wp2
    go_ret2
    exact ⟨rfl, Below.refl _ _⟩
  · have e : R = if ps.all okS = true then (ps.flatMap txtS, 0) else ([], 2) := by rw [← hR]; unfold showR; rw [if_neg h64]
    have d0 : decide ((64 : Int) < (n : Int)) = false := decide_eq_false (by omega)
    have HE := Lib.hid e
    clear e hR
    go_enter Tryz.func14, Tryz.ntmps14
    go_wp2
    have hS0 := SP.start hL
    have HB := Lib.hid (BI.new w)
    have HS1 := Lib.hid (hS0.step ((Below.refl _ w).alloc (Nat.le_refl _) (.cells #[.pointer none, .slice none 0 0] 64)))
    go_loopw [12] (fun i wr => ∃ j : Nat, j ≤ n ∧ i = .int .i64 (j : Int) ∧ Hid (∀ s ∈ ps.take j, okS s = true) ∧ Hid (BI wr w.heap.size ((ps.take j).flatMap txtS)) ∧ Hid (SP w wr)) (fun i _ => n - (intOf i).toNat)
    case atStart => exact ⟨0, Nat.zero_le _, rfl, Lib.hid (by simp), HB, HS1⟩
    case round =>
      obtain ⟨j, hj, rfl, HO, HB, HS⟩ := hrel
      by_cases hlt : j < n
      · obtain ⟨x, hx⟩ : ∃ x, ps[j]? = some x := ⟨_, List.getElem?_eq_getElem (by omega)⟩
        obtain ⟨bb, off, rfl, hbw, hc1⟩ := hA (by omega)
        obtain ⟨x0, x1, x2⟩ := hc1 wr HS.out.bl j x hx
        have hxm := List.mem_of_getElem? hx
        have hSa := HS.out.step ((Below.refl _ wr).alloc (Nat.le_refl _) (.cells #[.string x.k, .int .i64 x.a, .bool x.b] 51))
        have HSa := Lib.hid hSa
        have HV := Lib.hid (isValid_any x _ hSa.lp (hs x hxm))
        have HBa := Lib.hid (HB.out.below ((Below.refl _ wr).alloc (Nat.le_refl _) (.cells #[.string x.k, .int .i64 x.a, .bool x.b] 51)))
        have hBx := Blk.new wr 51 #[.string x.k, .int .i64 x.a, .bool x.b]
        have HBX := Lib.hid hBx
        have hkx := hk x hxm
        cases hok : okS x with
        | false =>
          rw [hok] at HV
          have hr : R = ([], 2) := by
            rw [HE.out, if_neg]
            intro h
            have := List.all_eq_true.1 h x hxm
            rw [hok] at this; cases this
          have HRR := Lib.hid hr
          clear hr hok hx hxm hc1 hA hSa hBx hs hk hp
          go_wp2_with (go_at_call 38; (with_reducible refine HV.out.mono ?_); rintro e w2 ⟨rfl, hb2⟩; have HS2 := Lib.hid (HSa.out.step hb2); clear hb2)
          go_ret2
          rw [HRR.out]
          exact ⟨rfl, HS2.out.bl⟩
        | true =>
          rw [hok] at HV
          have HTX := Lib.hid (fun W (hW : SP w W) => textOf_any x W hW.lp hkx hok)
          have HO2 := Lib.hid (show ∀ s ∈ ps.take (j + 1), okS s = true from fun s hs => by
            rw [List.take_add_one, hx] at hs
            rcases List.mem_append.1 hs with hs | hs
            · exact HO.out s hs
            · obtain rfl : s = x := by simpa using hs
              exact hok)
          have hfl : (ps.take (j + 1)).flatMap txtS = (ps.take j).flatMap txtS ++ txtS x := by rw [List.take_add_one, hx]; simp
          have hlen : ((ps.take j).flatMap txtS).length + (txtS x).length ≤ 100000000 := by
            have h1 := flat_len (ps.take j) (fun s hs => ⟨hk s (List.mem_of_mem_take hs), HO.out s hs⟩)
            have h2 := txtS_len hkx hok
            rw [List.length_take] at h1
            have : min j ps.length ≤ 64 := by omega
            omega
          have HFL := Lib.hid hfl
          have HLEN := Lib.hid hlen
          clear hok hx hxm hc1 hA hSa hBx hs hk hp hfl hlen
          go_wp2_with (first
            | (go_at_call 38; (with_reducible refine HV.out.mono ?_); rintro e w2 ⟨rfl, hb2⟩; have HS2 := Lib.hid (HSa.out.step hb2); have HB2 := Lib.hid (HBa.out.below hb2); have hb22 := Blk.below HBX.out hb2 (by simp); have c0 := hb22.cell 0; have c1 := hb22.cell 1; have c2 := hb22.cell 2; clear hb2 hb22)
            | (go_at_call 40; (with_reducible refine (HTX.out _ HS2.out).mono ?_); rintro e w3 ⟨rfl, hb3⟩; have HS3 := Lib.hid (HS2.out.step hb3); have HB3 := Lib.hid (HB2.out.below hb3); clear hb3 c0 c1 c2)
            | (go_at_call 39; (with_reducible refine (write_any w _ _ (txtS x) HB3.out HS3.out HLEN.out).mono ?_); rintro e w4 ⟨⟨v9, rfl⟩, hB4, hS4⟩; rw [← HFL.out] at hB4; have HS4 := Lib.hid hS4; have HB4 := Lib.hid hB4; clear hB4 hS4))
          go_roundw
          case rel => exact ⟨j + 1, by omega, by simp, HO2, HB4, HS4⟩
          case measure => simp [intOf]; omega
      · obtain rfl : j = n := by omega
        have hall : R = (ps.flatMap txtS, 0) := by
          rw [HE.out, if_pos]
          rw [List.all_eq_true]
          intro s hs
          exact HO.out s (by rw [List.take_of_length_le (by omega)]; exact hs)
        have HAL := Lib.hid hall
        have hBe := HB.out
        rw [List.take_of_length_le (by omega)] at hBe
        have HC := Lib.hid (Tryz.Builder_String_any w.heap.size w.heap.size (ps.flatMap txtS) wr hBe HS.out.bl.size)
        clear hall hBe hA hp hs hk
        go_wp2_with (go_at_call 41; (with_reducible refine HC.out.mono ?_); rintro e w2 ⟨rfl, hb2⟩; have HS2 := Lib.hid (HS.out.step0 hb2); clear hb2)
        go_ret2
        rw [HAL.out]
        exact ⟨rfl, HS2.out.bl⟩
end Go.Proofs.YtdnkebfmjlbdgaaGreatDoor
