/-
  What is proved here: the walk of accordionlaw10.LexCovers; condition: the tables that package lex and its library read hold what is laid.
-/
import Derived.Test.YtfmoiknpadilaaaDoorLWorksW
import Derived.Test.YtfmoiknpadilaaaDoorLTrim
namespace Go.Proofs.YtfmoiknpadilaaaDoor
open Go.RowKit Ut Lx Go.Maps

theorem tcs_at2 {ts : List TK} {k : Nat} {t : TK} (h : ts[k]? = some t) (j : Nat) (hj : j < 6) : (tcs ts)[k * 6 + j]? = (tc t)[j]? := by
  induction ts generalizing k with
  | nil => cases h
  | cons x xs ih =>
    cases k with
    | zero =>
      injection h with h
      subst h
      show (tc x ++ tcs xs)[0 * 6 + j]? = _
      rw [show 0 * 6 + j = j by omega, List.getElem?_append_left (by simp [tc]; omega)]
    | succ k =>
      show (tc x ++ tcs xs)[(k + 1) * 6 + j]? = _
      rw [show (k + 1) * 6 + j = 6 + (k * 6 + j) by omega, List.getElem?_append_right (by simp [tc])]
      rw [show 6 + (k * 6 + j) - (tc x).length = k * 6 + j by simp [tc]]
      exact ih (by simpa using h)
theorem tok_cells2 {w : World} {g : Nat} {ts : List TK} {k : Nat} {t : TK} {y : ByteArray} (hc : ∀ j u, (tcs ts)[j]? = some u → w.cell? ⟨g, j, none⟩ = some u) (h : ts[k]? = some t) (hy : str t.x = y) :
    w.cell? ⟨g, k * 6, none⟩ = some (.int .i64 t.k) ∧ w.cell? ⟨g, k * 6 + 1, none⟩ = some (.int .i64 t.f) ∧ w.cell? ⟨g, k * 6 + 2, none⟩ = some (.int .i64 t.t) ∧
    w.cell? ⟨g, k * 6 + 3, none⟩ = some (.int .i64 t.N) ∧ w.cell? ⟨g, k * 6 + 4, none⟩ = some (.int .u64 t.U) ∧ w.cell? ⟨g, k * 6 + 5, none⟩ = some (.string y) := by
  subst hy
  exact ⟨hc _ _ (tcs_at2 h 0 (by omega)), hc _ _ (tcs_at2 h 1 (by omega)), hc _ _ (tcs_at2 h 2 (by omega)), hc _ _ (tcs_at2 h 3 (by omega)), hc _ _ (tcs_at2 h 4 (by omega)), hc _ _ (tcs_at2 h 5 (by omega))⟩
theorem toks_len2 (l : List UInt8) : ∀ (n k : Nat), (toks l n k).1.length ≤ n
  | 0, k => by simp [toks]
  | n + 1, k => by
    have ih := toks_len2 l n (tok l k).t
    rw [toks_succ]
    split
    · simp
    · split
      · simp
      · unfold pre
        split
        · simp
        · simp; omega
/-- Where the tokens before place i end. -/
def CovI (l : List UInt8) (ts : List TK) (i en : Nat) : Prop := Cov l en (ts.drop i) ∧ en ≤ l.length
theorem covI_at {l : List UInt8} {ts : List TK} {i en : Nat} {t : TK} (h : CovI l ts i en) (ht : ts[i]? = some t) :
    en ≤ t.f ∧ t.f < t.t ∧ t.t ≤ l.length ∧ ws ((l.drop en).take (t.f - en)) ∧ 1 ≤ t.k ∧ t.k ≤ 12 ∧
    tok (32 :: 10 :: (l.drop t.f).take (t.t - t.f)) 0 = ⟨t.k, 2, 2 + (t.t - t.f), t.N, t.U, t.x, 0⟩ ∧ CovI l ts (i + 1) t.t := by
  have hd : ts.drop i = t :: ts.drop (i + 1) := by
    obtain ⟨hi, he⟩ := List.getElem?_eq_some_iff.1 ht
    rw [List.drop_eq_getElem_cons hi, he]
  obtain ⟨h1, h2⟩ := h
  rw [hd] at h1
  obtain ⟨a, b, c, d, e, f, g, r⟩ := h1
  exact ⟨a, b, c, d, e, f, g, r, c⟩
theorem covI_end {l : List UInt8} {ts : List TK} {en : Nat} (h : CovI l ts ts.length en) : ws (l.drop en) := by
  have h1 := h.1
  rw [List.drop_length] at h1
  exact h1.2
structure CW (w0 : World) (v1 : Value) (ts : List TK) (w : World) : Prop where
  sl : SL w0 w
  r1 : RdT w v1 ts
theorem CW.step {w0 w w' : World} {v1 : Value} {ts : List TK} (h : CW w0 v1 ts w) (hb : Below w.heap.size w w') : CW w0 v1 ts w' :=
  ⟨h.sl.step hb, h.r1.below hb (Nat.le_refl _)⟩
theorem neTok (w : World) (a b c d e : Int) (y : ByteArray) : (binOp .neq 25 (.agg #[.int .i64 a, .int .i64 b, .int .i64 c, .int .i64 d, .int .u64 e, .string y]) (.agg #[.int .i64 a, .int .i64 b, .int .i64 c, .int .i64 d, .int .u64 e, .string y])).run Tryd.prog w = .ok (.bool false) w := by
  have u2 := Tryd.underlying2
  have a2 := Tryd.isAgg2
  have z2 := Tryd.sizeOf2
  have u3 := Tryd.underlying3
  have a3 := Tryd.isAgg3
  have z3 := Tryd.sizeOf3
  have u4 := Tryd.underlying23
  have a4 := Tryd.isAgg23
  have z4 := Tryd.sizeOf23
  have u5 := Tryd.underlying9
  have a5 := Tryd.isAgg9
  have z5 := Tryd.sizeOf9
  rw [run_neq_struct, show (10000 : Nat) = 9999 + 1 from rfl, run_equalIn_agg w 9999 25 _ _ tokS tokH]
  simp only [Program.fieldsOf, Tryd.underlying25]
  go_simp
/-- The six cells of a boxed token. -/
structure C6c (W : World) (b : Nat) (a0 a1 a2 a3 a4 a5 : Value) : Prop where
  lt : b < W.heap.size
  c0 : W.cell? ⟨b, 0, none⟩ = some a0
  c1 : W.cell? ⟨b, 1, none⟩ = some a1
  c2 : W.cell? ⟨b, 2, none⟩ = some a2
  c3 : W.cell? ⟨b, 3, none⟩ = some a3
  c4 : W.cell? ⟨b, 4, none⟩ = some a4
  c5 : W.cell? ⟨b, 5, none⟩ = some a5
theorem C6c.new (w : World) (T : TypeId) (a0 a1 a2 a3 a4 a5 : Value) : C6c (w.alloc (.cells #[a0, a1, a2, a3, a4, a5] T)) w.heap.size a0 a1 a2 a3 a4 a5 := by
  refine ⟨by simp, ?_, ?_, ?_, ?_, ?_, ?_⟩ <;> (rw [World.cell?_alloc_new]; rfl)
theorem C6c.step {W W' : World} {b : Nat} {a0 a1 a2 a3 a4 a5 : Value} (h : C6c W b a0 a1 a2 a3 a4 a5) (hb : Below W.heap.size W W') : C6c W' b a0 a1 a2 a3 a4 a5 := by
  obtain ⟨h0, h1, h2, h3, h4, h5, h6⟩ := h
  have hc := (bcell hb).1
  exact ⟨Nat.lt_of_lt_of_le h0 hb.size, (hc _ _ h0).trans h1, (hc _ _ h0).trans h2, (hc _ _ h0).trans h3, (hc _ _ h0).trans h4, (hc _ _ h0).trans h5, (hc _ _ h0).trans h6⟩
theorem ext_dt (s : ByteArray) (a b : Nat) : (s.extract a b).data.toList = (s.data.toList.drop a).take (b - a) := by
  rw [ByteArray.data_extract, Array.toList_extract]
theorem nextC {w0 w : World} (s : ByteArray) (hs : s.size ≤ 60000) (k f : Nat) (t : Int) (N : Int) (U : Nat) (y : ByteArray) (x : List UInt8) (tt : Nat) (ht : (tt : Int) = t) (hy : str x = y) (h : tok s.data.toList 0 = ⟨k, f, tt, N, U, x, 0⟩) (hS : SL w0 w) :
    Calls Tryd.prog 10 #[.string s, .int .i64 0] w fun r w' => r = .returned (.tuple #[.agg #[.int .i64 k, .int .i64 f, .int .i64 t, .int .i64 N, .int .u64 U, .string y], .int .i64 0]) ∧ SL w0 w' ∧ Below w.heap.size w w' := by
  subst ht; subst hy
  refine (show Calls Tryd.prog 10 #[.string s, .int .i64 0] w (TKE w (tok s.data.toList 0)) from Next_any s _ 0 w rfl (Nat.zero_le _) (by omega) (Or.inl (by omega)) hS.lb).mono ?_
  rintro r w' ⟨rfl, hb⟩
  rw [h]
  exact ⟨rfl, hS.step hb, hb⟩
set_option maxHeartbeats 2000000 in
set_option maxRecDepth 100000 in
theorem lexCovers_S (a : ByteArray) (w0 w : World) (hS : SL w0 w) (ha : a.size ≤ 9223372036854775807) :
    Calls Tryd.prog 5 #[.string a] w (SE2 w0 (.bool true)) := by
  obtain ⟨s, hs⟩ : ∃ s, str (a.data.toList.take 600) = s := ⟨_, rfl⟩
  have hsz : s.size ≤ 600 := by rw [← hs, str_size, List.length_take]; omega
  have HC := Lib.hid (fun W (hW : SL w0 W) => (show Calls Tryd.prog 9 #[.string a, .int .i64 600] W fun e w' => e = .returned (.string s) ∧ SL w0 w' by
    rw [← hs]
    refine (short_any a 600 W ha).mono ?_
    rintro e w' ⟨rfl, rfl⟩
    exact ⟨rfl, hW⟩))
  obtain ⟨ts, p, x, hr⟩ : ∃ ts p x, alls s.data.toList = (ts, p, x) := ⟨_, _, _, rfl⟩
  have HA := Lib.hid (fun W (hW : SL w0 W) => (show Calls Tryd.prog 14 #[.string s] W fun e w' => ∃ v, e = .returned (.tuple #[v, .int .i64 (p : Nat), .int .i64 (x : Nat)]) ∧ SL w0 w' ∧ RdT w' v ts by
    refine (all_S s (by omega) hW).mono ?_
    rintro e w' ⟨v, rfl, h1, h2, _⟩
    rw [hr] at h2 ⊢
    exact ⟨v, rfl, h1, h2⟩))
  have HW := Lib.hid (fun W (h : SL w0 W) => works_S h)
  have htl : ts.length ≤ 60001 := by
    have h1 := toks_len2 s.data.toList (s.data.toList.length + 1) 0
    rw [show toks s.data.toList (s.data.toList.length + 1) 0 = alls s.data.toList from rfl, hr, ← Lib.size_eq] at h1
    have h2 : ts.length ≤ s.size + 1 := h1
    omega
  have HS := Lib.hid hS
  have hG := tokG
  have hbl : s.data.toList.length = s.size := (Lib.size_eq s).symm
  by_cases hx : x = 0
  · have hcov : CovI s.data.toList ts 0 0 ∧ p = 0 := by
      have := alls_cov s.data.toList (by rw [hr]; exact hx)
      rw [hr] at this
      exact ⟨⟨this.1, Nat.zero_le _⟩, this.2⟩
    obtain ⟨hcov, hp⟩ := hcov
    have HCV := Lib.hid hcov
    subst hx; subst hp
    clear hcov hs hS hr
    go_enter Tryd.func5, Tryd.ntmps5
    go_wp2_with (first
      | (go_at_call 13; (with_reducible refine (HW.out _ HS.out).mono ?_); rintro x1 w1 ⟨rfl, h1⟩; have HS1 := Lib.hid h1; clear h1)
      | (go_at_call 9; (with_reducible refine (HC.out _ HS1.out).mono ?_); rintro x1 w2 ⟨rfl, h2⟩; have HS2 := Lib.hid h2; clear h2)
      | (go_at_call 14; (with_reducible refine (HA.out _ HS2.out).mono ?_); rintro x1 w3 ⟨v1, rfl, h3, hr3⟩; obtain ⟨A1, c1, rfl, hq1⟩ := hr3; have HCW := Lib.hid (show CW w0 (.slice A1 ts.length c1) ts w3 from ⟨h3, A1, c1, rfl, hq1⟩); clear h3 hq1))
    go_loopw [6, 7] (fun en v wr => ∃ k n : Nat, k ≤ ts.length ∧ n ≤ s.size ∧ en = .int .i64 n ∧ v = .int .i64 k ∧ Hid (CovI s.data.toList ts k n) ∧ Hid (CW w0 (.slice A1 ts.length c1) ts wr)) (fun _ v _ => ts.length + 1 - (RowKit.intOf v).toNat)
    case atStart => exact ⟨0, 0, Nat.zero_le _, Nat.zero_le _, rfl, rfl, HCV, HCW⟩
    case round =>
      clear HCV HCW
      obtain ⟨k, n, hk, hn, rfl, rfl, HV, H⟩ := hrel
      by_cases hlt : k < ts.length
      · have d1 : decide ((k : Int) < (ts.length : Int)) = true := decide_eq_true (by omega)
        have d2 : decide (k < ts.length) = true := decide_eq_true hlt
        have i1 : (0 : Int) ≤ (k : Int) := by omega
        have i2 : (k : Int) < (ts.length : Int) := by omega
        obtain ⟨t, ht⟩ : ∃ t, ts[k]? = some t := ⟨_, List.getElem?_eq_getElem hlt⟩
        obtain ⟨t1, t2, t3, t4, t5, t6, t7, t8⟩ := covI_at HV.out ht
        obtain ⟨A, c, hA, hq⟩ := H.out.r1
        injection hA with e1 _ e2
        subst e1; subst e2
        obtain ⟨g1, rfl, hg1, hc1⟩ := hq (by omega)
        obtain ⟨⟨tk, tf, tt, tN, tU, tx, te⟩, htt⟩ : ∃ t', t = t' := ⟨_, rfl⟩
        subst htt
        obtain ⟨y, hy⟩ : ∃ y, str tx = y := ⟨_, rfl⟩
        obtain ⟨a0, a1, a2, a3, a4, a5⟩ := tok_cells2 hc1 ht hy
        dsimp only at t1 t2 t3 t4 t5 t6 t7 t8 a0 a1 a2 a3 a4 a5
        rw [hbl] at t3
        obtain ⟨zb, hzb⟩ : ∃ zb, s.extract n tf = zb := ⟨_, rfl⟩
        obtain ⟨zo, hzo⟩ : ∃ zo, s.extract tf tt = zo := ⟨_, rfl⟩
        obtain ⟨zz, hzz⟩ : ∃ zz, (⟨#[32, 10]⟩ : ByteArray) ++ zo = zz := ⟨_, rfl⟩
        have hzos : zo.size ≤ 600 := by rw [← hzo, ByteArray.size_extract]; omega
        have hzzs : zz.size ≤ 60000 := by rw [← hzz, ByteArray.size_append]; show 2 + zo.size ≤ 60000; omega
        have hzbs : zb.size ≤ 9223372036854775807 := by rw [← hzb, ByteArray.size_extract]; omega
        have HBL := Lib.hid (fun W => blank_any zb W hzbs (by rw [← hzb, ext_dt]; exact t4))
        have hzzd : zz.data.toList = 32 :: 10 :: (s.data.toList.drop tf).take (tt - tf) := by
          rw [← ext_dt, hzo, ← hzz]; simp
        have HN := Lib.hid (fun W (hW : SL w0 W) => nextC zz hzzs tk 2 (2 + (tt : Int) - (tf : Int)) tN tU y tx (2 + (tt - tf)) (by omega) hy (by rw [hzzd]; exact t7) hW)
        have HNE := Lib.hid (fun W => neTok W tk 2 (2 + (tt : Int) - (tf : Int)) tN tU y)
        have HZB := Lib.hid hzb
        have HZO := Lib.hid hzo
        have HZZ := Lib.hid hzz
        have HV2 := Lib.hid t8
        have q1 : decide ((tf : Int) < (n : Int)) = false := decide_eq_false (by omega)
        have q2 : decide ((tt : Int) ≤ (tf : Int)) = false := decide_eq_false (by omega)
        have q3 : decide ((s.size : Int) < (tt : Int)) = false := decide_eq_false (by omega)
        have q4 : decide ((tk : Int) < 1) = false := decide_eq_false (by omega)
        have q5 : decide ((12 : Int) < (tk : Int)) = false := decide_eq_false (by omega)
        have n1 : n ≤ tf := t1
        have n2 : tf ≤ s.size := by omega
        have n3 : tf ≤ tt := by omega
        have n4 : tt ≤ s.size := t3
        have n5 : tf < tt := t2
        have j1 : (n : Int) ≤ (tf : Int) := by omega
        have j2 : (tf : Int) ≤ (s.size : Int) := by omega
        have j3 : (tf : Int) ≤ (tt : Int) := by omega
        have j4 : (tt : Int) ≤ (s.size : Int) := by omega
        have v1 : ((9223372036854775807 : Nat) < 2 + zo.size) = False := eq_false (by omega)
        have v2 : IntKind.i64.wrap (2 + (tt : Int)) = 2 + (tt : Int) := IntWalk.i64_in _ (by omega)
        have v3 : IntKind.i64.wrap (2 + (tt : Int) - (tf : Int)) = 2 + (tt : Int) - (tf : Int) := IntWalk.i64_in _ (by omega)
        clear hq hc1 ht hy t1 t2 t3 t4 t5 t6 t7 t8 hzb hzo hzz hzos hzzs hzbs hzzd
        go_wp2_with (first
          | (go_at_call 16; rw [HZB.out]; (with_reducible refine (HBL.out _).mono ?_); rintro x1 w4 ⟨rfl, hb4⟩; have HK4 := Lib.hid ((C6c.new _ _ _ _ _ _ _ _).step hb4); obtain ⟨_, k0, k1, k2, k3, k4, k5⟩ := HK4.out; have HC4 := Lib.hid ((H.out.step ((Below.refl _ _).alloc (Nat.le_refl _) (.cells #[.int .i64 tk, .int .i64 tf, .int .i64 tt, .int .i64 tN, .int .u64 tU, .string y] 25))).step hb4); clear hb4)
          | (go_at_call 10; rw [HZO.out, HZZ.out]; (with_reducible refine (HN.out _ HC4.out.sl).mono ?_); rintro x1 w5 ⟨rfl, h5, hb5⟩; have HK5 := Lib.hid (C6c.step (HK4.out.step hb5) ((Below.refl _ _).alloc (Nat.le_refl _) (.cells #[.int .i64 tk, .int .i64 2, .int .i64 (2 + (tt : Int) - (tf : Int)), .int .i64 tN, .int .u64 tU, .string y] 25))); obtain ⟨_, k0, k1, k2, k3, k4, k5⟩ := HK5.out; have HC5 := Lib.hid ((HC4.out.step hb5).step ((Below.refl _ _).alloc (Nat.le_refl _) (.cells #[.int .i64 tk, .int .i64 2, .int .i64 (2 + (tt : Int) - (tf : Int)), .int .i64 tN, .int .u64 tU, .string y] 25))); have he := HNE.out (w5.alloc (.cells #[.int .i64 tk, .int .i64 2, .int .i64 (2 + (tt : Int) - (tf : Int)), .int .i64 tN, .int .u64 tU, .string y] 25)); clear h5 hb5))
        go_roundw
        case rel => exact ⟨k + 1, tt, by omega, n4, rfl, by go_num, HV2, HC5⟩
        case measure => simp [RowKit.intOf]; omega
      · have d1 : decide ((k : Int) < (ts.length : Int)) = false := decide_eq_false (by omega)
        have d2 : decide (k < ts.length) = false := decide_eq_false hlt
        have hkl : k = ts.length := by omega
        obtain ⟨zb, hzb⟩ : ∃ zb, s.extract n s.size = zb := ⟨_, rfl⟩
        have hzbs : zb.size ≤ 9223372036854775807 := by rw [← hzb, ByteArray.size_extract]; omega
        have hwe : ws zb.data.toList := by
          rw [← hzb, ext_dt, ← hbl, show s.data.toList.length - n = (s.data.toList.drop n).length by rw [List.length_drop], List.take_length]
          exact covI_end (by have := HV.out; rwa [hkl] at this)
        have HBL := Lib.hid (fun W => blank_any zb W hzbs hwe)
        have HZB := Lib.hid hzb
        have j1 : (0 : Int) ≤ (n : Int) := by omega
        have j2 : (n : Int) ≤ (s.size : Int) := by omega
        clear hzb hzbs hwe hkl
        go_wp2_with (go_at_call 16; rw [HZB.out]; (with_reducible refine (HBL.out _).mono ?_); rintro x1 w4 ⟨rfl, hb4⟩; have HC4 := Lib.hid (H.out.step hb4); clear hb4)
        go_ret
        exact ⟨ret_bool (by simp), HC4.out.sl⟩
  · have hbad : ts = [] ∧ p ≤ s.size := by
      have := alls_bad s.data.toList (by rw [hr]; exact hx)
      rw [hr, hbl] at this
      exact this
    obtain ⟨rfl, hps⟩ := hbad
    have x0 : ((x : Int) != 0) = true := by simp; omega
    have j1 : (0 : Int) ≤ (p : Int) := by omega
    have j2 : (p : Int) ≤ (s.size : Int) := by omega
    clear hs hS hr hx
    go_enter Tryd.func5, Tryd.ntmps5
    go_wp2_with (first
      | (go_at_call 13; (with_reducible refine (HW.out _ HS.out).mono ?_); rintro x1 w1 ⟨rfl, h1⟩; have HS1 := Lib.hid h1; clear h1)
      | (go_at_call 9; (with_reducible refine (HC.out _ HS1.out).mono ?_); rintro x1 w2 ⟨rfl, h2⟩; have HS2 := Lib.hid h2; clear h2)
      | (go_at_call 14; (with_reducible refine (HA.out _ HS2.out).mono ?_); rintro x1 w3 ⟨v1, rfl, h3, hr3⟩; obtain ⟨A1, c1, rfl, hq1⟩ := hr3; have HS3 := Lib.hid h3; clear h3 hq1))
    go_ret
    exact ⟨ret_bool (by simp), HS3.out⟩
theorem lexCovers_walk (a : ByteArray) (w : World) (hL : LB w.heap.size w) (ha : a.size ≤ 9223372036854775807) :
    Calls Tryd.prog 5 #[.string a] w fun e w' => e = .returned (.bool true) ∧ Below w.heap.size w w' := by
  refine (lexCovers_S a w w (SL.start hL) ha).mono ?_
  rintro e w' ⟨rfl, h⟩
  exact ⟨rfl, h.2⟩
end Go.Proofs.YtfmoiknpadilaaaDoor
