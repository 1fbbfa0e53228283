/-
  What is proved here: the walk of accordionlaw10.LexAlls; condition: the tables that package lex and its library read hold what is laid.
-/
import Derived.Test.YtfmoiknpadilaaaDoorLNextsW
import Derived.Test.YtfmoiknpadilaaaDoorLRefAll
import Derived.StillTailTactics
namespace Go.Proofs.YtfmoiknpadilaaaDoor
open Go.RowKit Ut Lx Go.Maps

theorem OwnR.rd {w : World} {B : Nat} {v : Value} {ts : List TK} (h : OwnR w B v ts) : RdT w v ts := by
  rcases h.2 with ⟨rfl, h0⟩ | ⟨g, cap, cur, rfl, hg, hh, r⟩
  · refine ⟨none, 0, by rw [h0], fun hp => by omega⟩
  · refine ⟨_, cap, rfl, fun hp => ⟨g, rfl, (h.lt g rfl).2, fun j u hu => ?_⟩⟩
    have := h.cells (g := g) rfl j u hu
    rwa [add_zero_at] at this
theorem refAll_S {w0 w : World} (s : ByteArray) (hs : s.size ≤ 60000) (hS : SL w0 w) :
    Calls Tryd.prog 15 #[.string s] w fun e w' => ∃ v, e = .returned (.tuple #[v, .int .i64 ((alls s.data.toList).2.1 : Nat), .int .i64 ((alls s.data.toList).2.2 : Nat)]) ∧ SL w0 w' ∧ RdT w' v (alls s.data.toList).1 ∧ Below w.heap.size w w' := by
  refine (refAll_any s _ w rfl (by omega) (Or.inl (by omega))).mono ?_
  rintro e w' ⟨v, rfl, hb, ho⟩
  exact ⟨v, rfl, hS.step hb, ho.rd, hb⟩
/-- The cells of the token at place k. -/
theorem tcs_at {ts : List TK} {k : Nat} {t : TK} (h : ts[k]? = some t) (j : Nat) (hj : j < 6) : (tcs ts)[k * 6 + j]? = (tc t)[j]? := by
  induction ts generalizing k with
  | nil => cases h
  | cons x xs ih =>
    cases k with
    | zero =>
      injection h with h
      subst h
      show (tc x ++ tcs xs)[0 * 6 + j]? = _
      rw [show 0 * 6 + j = j by omega, List.getElem?_append_left (by simp [tc]; omega)]
    | succ k =>
      show (tc x ++ tcs xs)[(k + 1) * 6 + j]? = _
      rw [show (k + 1) * 6 + j = 6 + (k * 6 + j) by omega, List.getElem?_append_right (by simp [tc])]
      rw [show 6 + (k * 6 + j) - (tc x).length = k * 6 + j by simp [tc]]
      exact ih (by simpa using h)
theorem tok_cells {w : World} {g : Nat} {ts : List TK} {k : Nat} {t : TK} {y : ByteArray} (hc : ∀ j u, (tcs ts)[j]? = some u → w.cell? ⟨g, j, none⟩ = some u) (h : ts[k]? = some t) (hy : str t.x = y) :
    w.cell? ⟨g, k * 6, none⟩ = some (.int .i64 t.k) ∧ w.cell? ⟨g, k * 6 + 1, none⟩ = some (.int .i64 t.f) ∧ w.cell? ⟨g, k * 6 + 2, none⟩ = some (.int .i64 t.t) ∧
    w.cell? ⟨g, k * 6 + 3, none⟩ = some (.int .i64 t.N) ∧ w.cell? ⟨g, k * 6 + 4, none⟩ = some (.int .u64 t.U) ∧ w.cell? ⟨g, k * 6 + 5, none⟩ = some (.string y) := by
  subst hy
  exact ⟨hc _ _ (tcs_at h 0 (by omega)), hc _ _ (tcs_at h 1 (by omega)), hc _ _ (tcs_at h 2 (by omega)), hc _ _ (tcs_at h 3 (by omega)), hc _ _ (tcs_at h 4 (by omega)), hc _ _ (tcs_at h 5 (by omega))⟩
theorem toks_len (l : List UInt8) : ∀ (n k : Nat), (toks l n k).1.length ≤ n
  | 0, k => by simp [toks]
  | n + 1, k => by
    have ih := toks_len l n (tok l k).t
    rw [toks_succ]
    split
    · simp
    · split
      · simp
      · unfold pre
        split
        · simp
        · simp; omega
theorem alls_len {s : ByteArray} {ts : List TK} {p x : Nat} (h : alls s.data.toList = (ts, p, x)) (hs : s.size ≤ 60000) : ts.length ≤ 60001 := by
  have h1 := toks_len s.data.toList (s.data.toList.length + 1) 0
  rw [show toks s.data.toList (s.data.toList.length + 1) 0 = alls s.data.toList from rfl, h, ← Lib.size_eq] at h1
  have h2 : ts.length ≤ s.size + 1 := h1
  omega
structure AW (w0 : World) (v1 v2 : Value) (ts : List TK) (w : World) : Prop where
  sl : SL w0 w
  r1 : RdT w v1 ts
  r2 : RdT w v2 ts
theorem AW.step {w0 w w' : World} {v1 v2 : Value} {ts : List TK} (h : AW w0 v1 v2 ts w) (hb : Below w.heap.size w w') : AW w0 v1 v2 ts w' :=
  ⟨h.sl.step hb, h.r1.below hb (Nat.le_refl _), h.r2.below hb (Nat.le_refl _)⟩
set_option maxHeartbeats 2000000 in
set_option maxRecDepth 100000 in
theorem lexAlls_S (a : ByteArray) (w0 w : World) (hS : SL w0 w) (ha : a.size ≤ 9223372036854775807) :
    Calls Tryd.prog 4 #[.string a] w (SE2 w0 (.bool true)) := by
  obtain ⟨s, hs⟩ : ∃ s, str (a.data.toList.take 600) = s := ⟨_, rfl⟩
  have hsz : s.size ≤ 60000 := by rw [← hs, str_size, List.length_take]; omega
  have C := short_any a 600 w ha
  rw [hs] at C
  have HC := Lib.hid (show Calls Tryd.prog 9 #[.string a, .int .i64 600] w fun e w' => e = .returned (.string s) ∧ w = w' from C)
  obtain ⟨ts, p, x, hr⟩ : ∃ ts p x, alls s.data.toList = (ts, p, x) := ⟨_, _, _, rfl⟩
  have HA := Lib.hid (show Calls Tryd.prog 14 #[.string s] w fun e w' => ∃ v, e = .returned (.tuple #[v, .int .i64 (p : Nat), .int .i64 (x : Nat)]) ∧ SL w0 w' ∧ RdT w' v ts by
    refine (all_S s hsz hS).mono ?_
    rintro e w' ⟨v, rfl, h1, h2, _⟩
    rw [hr] at h2 ⊢
    exact ⟨v, rfl, h1, h2⟩)
  have HB := Lib.hid (fun W (h : SL w0 W) => (show Calls Tryd.prog 15 #[.string s] W fun e w' => ∃ v, e = .returned (.tuple #[v, .int .i64 (p : Nat), .int .i64 (x : Nat)]) ∧ SL w0 w' ∧ RdT w' v ts ∧ Below W.heap.size W w' by
    refine (refAll_S s hsz h).mono ?_
    rintro e w' ⟨v, rfl, h1, h2, h3⟩
    rw [hr] at h2 ⊢
    exact ⟨v, rfl, h1, h2, h3⟩))
  have HW := Lib.hid (fun W (h : SL w0 W) => works_S h)
  have htl := alls_len hr hsz
  clear C hs hS hr
  go_enter Tryd.func4, Tryd.ntmps4
  go_wp2_with (first
    | (go_at_call 9; (with_reducible refine HC.out.mono ?_); rintro x1 w1 ⟨rfl, rfl⟩)
    | (go_at_call 14; (with_reducible refine HA.out.mono ?_); rintro x1 w1 ⟨v1, rfl, h1, hr1⟩; obtain ⟨A1, c1, rfl, hq1⟩ := hr1; have HS1 := Lib.hid h1; have HR1 := Lib.hid (show RdT w1 (.slice A1 ts.length c1) ts from ⟨A1, c1, rfl, hq1⟩); clear h1 hq1)
    | (go_at_call 15; (with_reducible refine (HB.out _ HS1.out).mono ?_); rintro x1 w2 ⟨v2, rfl, h2, hr2, hb2⟩; obtain ⟨A2, c2, rfl, hq2⟩ := hr2; have HAW := Lib.hid (show AW w0 (.slice A1 ts.length c1) (.slice A2 ts.length c2) ts w2 from ⟨h2, HR1.out.below hb2 (Nat.le_refl _), ⟨A2, c2, rfl, hq2⟩⟩); clear h2 hq2 hb2))
  go_loopw [9] (fun v wr => ∃ k : Nat, k ≤ ts.length ∧ v = .int .i64 k ∧ Hid (AW w0 (.slice A1 ts.length c1) (.slice A2 ts.length c2) ts wr)) (fun v _ => ts.length + 1 - (RowKit.intOf v).toNat)
  case atStart => exact ⟨0, Nat.zero_le _, rfl, HAW⟩
  case round =>
    clear HAW HS1 HR1
    obtain ⟨k, hk, rfl, H⟩ := hrel
    by_cases hlt : k < ts.length
    · have d1 : decide ((k : Int) < (ts.length : Int)) = true := decide_eq_true (by omega)
      have d2 : decide (k < ts.length) = true := decide_eq_true hlt
      have i1 : (0 : Int) ≤ (k : Int) := by omega
      have i2 : (k : Int) < (ts.length : Int) := by omega
      obtain ⟨t, ht⟩ : ∃ t, ts[k]? = some t := ⟨_, List.getElem?_eq_getElem hlt⟩
      obtain ⟨y, hy⟩ : ∃ y, str t.x = y := ⟨_, rfl⟩
      obtain ⟨A, c, hA, hq⟩ := H.out.r1
      injection hA with e1 _ e2
      subst e1; subst e2
      obtain ⟨g1, rfl, hg1, hc1⟩ := hq (by omega)
      obtain ⟨a0, a1, a2, a3, a4, a5⟩ := tok_cells hc1 ht hy
      obtain ⟨B, c', hB, hq'⟩ := H.out.r2
      injection hB with e3 _ e4
      subst e3; subst e4
      obtain ⟨g2, rfl, hg2, hc2⟩ := hq' (by omega)
      obtain ⟨b0, b1, b2, b3, b4, b5⟩ := tok_cells hc2 ht hy
      have HSM := Lib.hid (fun W => same_yes t.k t.f t.t t.N t.U y W)
      clear hq hq' hc1 hc2 ht hy
      go_wp2_with fail
      go_still_tail 8, (by kernel_rfl)
      change wpList _ _ _ _ _ wr.drew
      go_wp2_with (go_at_call 12; (with_reducible refine (HSM.out _).mono ?_); rintro x1 w3 ⟨rfl, hb3⟩; have HB3 := Lib.hid hb3; clear hb3)
      go_roundw
      case rel => exact ⟨k + 1, by omega, by go_num, H.out.step (((Below.refl wr.heap.size wr).drew).trans HB3.out)⟩
      case measure => simp [RowKit.intOf]; omega
    · have d1 : decide ((k : Int) < (ts.length : Int)) = false := decide_eq_false (by omega)
      have d2 : decide (k < ts.length) = false := decide_eq_false hlt
      go_wp2_with (go_at_call 13; (with_reducible refine (HW.out _ H.out.sl).mono ?_); rintro x1 w4 ⟨rfl, h4⟩; have HS4 := Lib.hid h4; clear h4)
      go_ret
      exact ⟨ret_bool (by simp), HS4.out⟩
theorem lexAlls_walk (a : ByteArray) (w : World) (hL : LB w.heap.size w) (ha : a.size ≤ 9223372036854775807) :
    Calls Tryd.prog 4 #[.string a] w fun e w' => e = .returned (.bool true) ∧ Below w.heap.size w w' := by
  refine (lexAlls_S a w w (SL.start hL) ha).mono ?_
  rintro e w' ⟨rfl, h⟩
  exact ⟨rfl, h.2⟩
end Go.Proofs.YtfmoiknpadilaaaDoor
