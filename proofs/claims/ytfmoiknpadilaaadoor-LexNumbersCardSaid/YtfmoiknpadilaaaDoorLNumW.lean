/-
  What is proved here: the walk of accordionlaw10.LexNumbers; condition: the tables that package lex and its library read hold what is laid.
-/
import Derived.Test.YtfmoiknpadilaaaDoorLWorksW
import Derived.Test.YtfmoiknpadilaaaDoorLNumP
import Derived.Test.YtfmoiknpadilaaaDoorLFmt
import Derived.Lib.ItoaLen
namespace Go.Proofs.YtfmoiknpadilaaaDoor
open Go.RowKit Ut Lx Go.Maps Go.Lib

theorem fmt_S {w0 w : World} (u : Nat) (hu : u < 18446744073709551616) (hS : SL w0 w) :
    Calls Tryd.prog 19 #[.int .u64 u, .int .i64 10] w (SE2 w0 (.string (str (decDigits u)))) := by
  refine (fmtU u hu w hS.lb.pow).mono ?_
  rintro e w' ⟨rfl, hb⟩
  exact ⟨rfl, hS.step hb⟩
theorem itoa_S {w0 w : World} (d : Nat) (hd : d < 10) (hS : SL w0 w) :
    Calls Tryd.prog 22 #[.int .i64 d] w (SE2 w0 (.string (str [UInt8.ofNat (48 + d)]))) := by
  refine (itoaU d hd w hS.lb.pow).mono ?_
  rintro e w' ⟨rfl, hb⟩
  exact ⟨rfl, hS.step hb⟩
theorem bring_S {w0 w : World} (t : Int) (hS : SL w0 w) :
    Calls Tryd.prog 17 #[.int .i64 t, .int .i64 10] w (SE2 w0 (.int .i64 (t % 10))) := by
  refine (bring_small t 10 w (by decide) (by decide)).mono ?_
  rintro e w' ⟨rfl, rfl⟩
  exact ⟨rfl, hS⟩
theorem tokR_pos (n u : Nat) : tokR 0 (numR 0 n u) = if 9223372036854775808 ≤ u then ⟨11, 0, n, 0, u, [], 0⟩ else ⟨10, 0, n, u, 0, [], 0⟩ := by
  unfold numR
  rw [if_neg (by decide)]
  split <;> (unfold tokR; simp)
theorem tokR_neg (n u : Nat) : tokR 0 (numR 1 n u) = if 9223372036854775808 < u then ⟨0, 0, 0, 0, 0, [], 101⟩ else ⟨10, 0, n, -(u : Int), 0, [], 0⟩ := by
  unfold numR
  rw [if_pos rfl]
  split <;> (unfold tokR; simp [bad])
theorem tB_refl (k f t : Nat) (N : Int) (U : Nat) (x : List UInt8) (e : Nat) : tB ⟨k, f, t, N, U, x, e⟩ k f t N U x e = true := by simp [tB]
/-- The strings of the law. -/
structure NW (u d : Nat) (s s1 s2 s3 s4 z : ByteArray) : Prop where
  es : str (decDigits u) = s
  e1 : s ++ ⟨#[44]⟩ = s1
  e2 : s ++ ⟨#[45]⟩ = s2
  e3 : (⟨#[45]⟩ : ByteArray) ++ s = s3
  ez : str [UInt8.ofNat (48 + d)] = z
  e4 : s ++ z = s4
/-- The six cells of a boxed token. -/
structure C6 (W : World) (b : Nat) (a0 a1 a2 a3 a4 a5 : Value) : Prop where
  lt : b < W.heap.size
  c0 : W.cell? ⟨b, 0, none⟩ = some a0
  c1 : W.cell? ⟨b, 1, none⟩ = some a1
  c2 : W.cell? ⟨b, 2, none⟩ = some a2
  c3 : W.cell? ⟨b, 3, none⟩ = some a3
  c4 : W.cell? ⟨b, 4, none⟩ = some a4
  c5 : W.cell? ⟨b, 5, none⟩ = some a5
theorem C6.new (w : World) (T : TypeId) (a0 a1 a2 a3 a4 a5 : Value) : C6 (w.alloc (.cells #[a0, a1, a2, a3, a4, a5] T)) w.heap.size a0 a1 a2 a3 a4 a5 := by
  refine ⟨by simp, ?_, ?_, ?_, ?_, ?_, ?_⟩ <;> (rw [World.cell?_alloc_new]; rfl)
theorem C6.step {W W' : World} {b : Nat} {a0 a1 a2 a3 a4 a5 : Value} (h : C6 W b a0 a1 a2 a3 a4 a5) (hb : Below W.heap.size W W') : C6 W' b a0 a1 a2 a3 a4 a5 := by
  obtain ⟨h0, h1, h2, h3, h4, h5, h6⟩ := h
  have hc := (bcell hb).1
  exact ⟨Nat.lt_of_lt_of_le h0 hb.size, (hc _ _ h0).trans h1, (hc _ _ h0).trans h2, (hc _ _ h0).trans h3, (hc _ _ h0).trans h4, (hc _ _ h0).trans h5, (hc _ _ h0).trans h6⟩
def SE3 (w0 W : World) (v : Value) (e : Ending) (w' : World) : Prop := e = .returned v ∧ SL w0 w' ∧ Below W.heap.size W w'
theorem SE3.of {w0 W : World} {v : Value} {f : FuncId} {args : Array Value} (hS : SL w0 W) (h : SL W W → Calls Tryd.prog f args W (SE2 W v)) : Calls Tryd.prog f args W (SE3 w0 W v) := by
  refine (h (SL.start hS.lb)).mono ?_
  rintro e w' ⟨rfl, h⟩
  exact ⟨rfl, hS.step h.2, h.2⟩
theorem app_data (a b : ByteArray) : (a ++ b).data.toList = a.data.toList ++ b.data.toList := by simp
theorem NW.d {u d : Nat} {s s1 s2 s3 s4 z : ByteArray} (h : NW u d s s1 s2 s3 s4 z) : s.data.toList = decDigits u := by rw [← h.es, str_data]
theorem NW.len {u d : Nat} {s s1 s2 s3 s4 z : ByteArray} (h : NW u d s s1 s2 s3 s4 z) : s.size = (decDigits u).length := by rw [← h.es, str_size]
theorem NW.d1 {u d : Nat} {s s1 s2 s3 s4 z : ByteArray} (h : NW u d s s1 s2 s3 s4 z) : s1.data.toList = decDigits u ++ [44] := by rw [← h.e1, app_data, h.d]
theorem NW.d2 {u d : Nat} {s s1 s2 s3 s4 z : ByteArray} (h : NW u d s s1 s2 s3 s4 z) : s2.data.toList = decDigits u ++ [45] := by rw [← h.e2, app_data, h.d]
theorem NW.d3 {u d : Nat} {s s1 s2 s3 s4 z : ByteArray} (h : NW u d s s1 s2 s3 s4 z) : s3.data.toList = 45 :: decDigits u := by rw [← h.e3, app_data, h.d]; rfl
theorem NW.d4 {u d : Nat} {s s1 s2 s3 s4 z : ByteArray} (h : NW u d s s1 s2 s3 s4 z) : s4.data.toList = decDigits u ++ [UInt8.ofNat (48 + d)] := by rw [← h.e4, app_data, h.d, ← h.ez, str_data]
theorem nx_S {w0 w : World} (s : ByteArray) (hs : s.size ≤ 60000) (k f t : Nat) (N : Int) (U : Nat) (e : Nat) (h : tok s.data.toList 0 = ⟨k, f, t, N, U, [], e⟩) (hS : SL w0 w) :
    Calls Tryd.prog 10 #[.string s, .int .i64 0] w fun r w' => r = .returned (.tuple #[.agg #[.int .i64 k, .int .i64 f, .int .i64 t, .int .i64 N, .int .u64 U, .string ⟨#[]⟩], .int .i64 e]) ∧ SL w0 w' := by
  refine (show Calls Tryd.prog 10 #[.string s, .int .i64 0] w (TKE w (tok s.data.toList 0)) from Next_any s _ 0 w rfl (Nat.zero_le _) (by omega) (Or.inl (by omega)) hS.lb).mono ?_
  rintro r w' ⟨rfl, hb⟩
  rw [h]
  exact ⟨rfl, hS.step hb⟩
set_option maxHeartbeats 2000000 in
set_option maxRecDepth 100000 in
/-- Above the half of the numbers. -/
theorem numC (u d : Nat) (t : Int) (w0 w : World) (hS : SL w0 w) (hu : u < 18446744073709551616) (ht : t % 10 = (d : Int)) (hd : d < 10) (hc : 9223372036854775808 < u)
    (s s1 s2 s3 s4 z : ByteArray) (h : NW u d s s1 s2 s3 s4 z) (hn : s.size ≤ 20) :
    Calls Tryd.prog 7 #[.int .u64 u, .int .i64 t] w (SE2 w0 (.bool true)) := by
  have HB := Lib.hid (fun W (hW : SL w0 W) => (show Calls Tryd.prog 17 #[.int .i64 t, .int .i64 10] W (SE2 w0 (.int .i64 (d : Int))) by rw [← ht]; exact bring_S t hW))
  have HF := Lib.hid (fun W (hW : SL w0 W) => (show Calls Tryd.prog 19 #[.int .u64 u, .int .i64 10] W (SE2 w0 (.string s)) by rw [← h.es]; exact fmt_S u hu hW))
  have HI := Lib.hid (fun W (hW : SL w0 W) => (show Calls Tryd.prog 22 #[.int .i64 d] W (SE2 w0 (.string z)) by rw [← h.ez]; exact itoa_S d hd hW))
  have hg : 9223372036854775808 ≤ u := by omega
  have hs1 : s1.size = s.size + 1 := by rw [← h.e1, ByteArray.size_append]; rfl
  have hs2 : s2.size = s.size + 1 := by rw [← h.e2, ByteArray.size_append]; rfl
  have hs3 : s3.size = 1 + s.size := by rw [← h.e3, ByteArray.size_append]; rfl
  have hs4 : s4.size = s.size + 1 := by rw [← h.e4, ByteArray.size_append, ← h.ez, str_size]; rfl
  have G0 := Lib.hid (fun W (hW : SL w0 W) => (show Calls Tryd.prog 20 #[.string s, .int .i64 0, .agg #[.int .i64 11, .int .i64 0, .int .i64 s.size, .int .i64 0, .int .u64 u, .string ⟨#[]⟩]] W (SE3 w0 W (.bool true)) from SE3.of hW fun hW =>
    gives_S s 0 11 0 s.size 0 u [] ⟨#[]⟩ (by
      have := tok_pos u hu [] (Or.inl rfl)
      rw [List.append_nil, tokR_pos, if_pos hg] at this
      rw [h.d, this, h.len]; exact tB_refl _ _ _ _ _ _ _) rfl (Nat.zero_le _) (by omega) hW))
  have G1 := Lib.hid (fun W (hW : SL w0 W) => (show Calls Tryd.prog 20 #[.string s1, .int .i64 0, .agg #[.int .i64 11, .int .i64 0, .int .i64 s.size, .int .i64 0, .int .u64 u, .string ⟨#[]⟩]] W (SE3 w0 W (.bool true)) from SE3.of hW fun hW =>
    gives_S s1 0 11 0 s.size 0 u [] ⟨#[]⟩ (by
      have := tok_pos u hu [44] (Or.inr (Or.inl rfl))
      rw [tokR_pos, if_pos hg] at this
      rw [h.d1, this, h.len]; exact tB_refl _ _ _ _ _ _ _) rfl (Nat.zero_le _) (by omega) hW))
  have G2 := Lib.hid (fun W (hW : SL w0 W) => (show Calls Tryd.prog 20 #[.string s2, .int .i64 0, .agg #[.int .i64 11, .int .i64 0, .int .i64 s.size, .int .i64 0, .int .u64 u, .string ⟨#[]⟩]] W (SE3 w0 W (.bool true)) from SE3.of hW fun hW =>
    gives_S s2 0 11 0 s.size 0 u [] ⟨#[]⟩ (by
      have := tok_pos u hu [45] (Or.inr (Or.inr rfl))
      rw [tokR_pos, if_pos hg] at this
      rw [h.d2, this, h.len]; exact tB_refl _ _ _ _ _ _ _) rfl (Nat.zero_le _) (by omega) hW))
  have G3 := Lib.hid (fun W (hW : SL w0 W) => (show Calls Tryd.prog 21 #[.string s3, .int .i64 0, .int .i64 0, .int .i64 101] W (SE3 w0 W (.bool true)) from SE3.of hW fun hW =>
    fails_S s3 0 0 101 (by
      have := tok_neg u hu
      rw [tokR_neg, if_pos (by omega)] at this
      rw [h.d3, this]; exact tB_refl _ _ _ _ _ _ _) (Nat.zero_le _) (by omega) hW))
  obtain ⟨z2, hz2⟩ : ∃ z2, IntKind.i64.wrap (IntKind.u64.wrap (-(u : Int))) = z2 := ⟨_, rfl⟩
  obtain ⟨z1, hz1⟩ : ∃ z1, IntKind.i64.wrap (u : Int) = z1 := ⟨_, rfl⟩
  have G4 := Lib.hid (fun W (hW : SL w0 W) => (show Calls Tryd.prog 21 #[.string s4, .int .i64 0, .int .i64 0, .int .i64 101] W (SE3 w0 W (.bool true)) from SE3.of hW fun hW =>
    fails_S s4 0 0 101 (by
      have := tok_more u d hu (by omega) hd
      rw [if_pos (by omega)] at this
      rw [h.d4, this]; exact tB_refl _ _ _ _ _ _ _) (Nat.zero_le _) (by omega) hW))
  have HW := Lib.hid (fun W (h : SL w0 W) => works_S h)
  have HE1 := Lib.hid h.e1
  have HE2 := Lib.hid h.e2
  have HE3 := Lib.hid h.e3
  have HE4 := Lib.hid h.e4
  have x0 : IntKind.i64.wrap (1 + (s.size : Int)) = 1 + (s.size : Int) := IntWalk.i64_in _ (by omega)
  have b0 : decide ((9223372036854775808 : Int) ≤ (u : Int)) = true := decide_eq_true (by omega)
  have b1 : decide ((9223372036854775808 : Int) < (u : Int)) = true := decide_eq_true (by omega)
  have b2 : decide ((u : Int) ≤ (9223372036854775808 : Int)) = false := decide_eq_false (by omega)
  have b3 : ((u : Int) == 0) = false := by rw [Bool.eq_false_iff, ne_eq, beq_iff_eq]; omega
  have y1 : ((9223372036854775807 : Nat) < s.size + 1) = False := eq_false (by omega)
  have y2 : ((9223372036854775807 : Nat) < 1 + s.size) = False := eq_false (by omega)
  have y3 : ((9223372036854775807 : Nat) < s.size + z.size) = False := eq_false (by rw [← h.ez, str_size]; show ¬ 9223372036854775807 < s.size + 1; omega)
  have d0 : IntKind.u64.wrap (d : Int) = (d : Int) := by rw [IntKind.wrap_u64]; omega
  have d1 : IntKind.u64.wrap (18446744073709551615 - (d : Int)) = 18446744073709551615 - (d : Int) := by rw [IntKind.wrap_u64]; omega
  have d2 : (18446744073709551615 - (d : Int)).tdiv 10 = (18446744073709551615 - (d : Int)) / 10 := Int.tdiv_eq_ediv_of_nonneg (by omega)
  have d4 : IntKind.u64.wrap ((18446744073709551615 - (d : Int)) / 10) = (18446744073709551615 - (d : Int)) / 10 := by rw [IntKind.wrap_u64]; omega
  have d3 : decide ((18446744073709551615 - (d : Int)) / 10 < (u : Int)) = true := decide_eq_true (by omega)
  have HS := Lib.hid hS
  clear hS hu ht hd hg h hn hs1 hs2 hs3 hs4 hc
  go_enter Tryd.func7, Tryd.ntmps7
  go_wp2_with (first
    | (go_at_call 17; (with_reducible refine (HB.out _ HS.out).mono ?_); rintro x1 w1 ⟨rfl, h1⟩; have HS1 := Lib.hid h1; clear h1)
    | (go_at_call 19; (with_reducible refine (HF.out _ HS1.out).mono ?_); rintro x1 w2 ⟨rfl, h2⟩; have HS2 := Lib.hid (h2.step ((Below.refl _ _).alloc (Nat.le_refl _) (.cells #[.int .i64 11, .int .i64 0, .int .i64 s.size, .int .i64 0, .int .u64 u, .string ⟨#[]⟩] 25))); clear h2)
    | (go_at_call 20; (with_reducible refine (G0.out _ HS2.out).mono ?_); rintro x1 w3 ⟨rfl, h3, hb3⟩; have HS3 := Lib.hid h3; have HK3 := Lib.hid ((C6.new _ _ _ _ _ _ _ _).step hb3); obtain ⟨_, k0, k1, k2, k3, k4, k5⟩ := HK3.out; clear h3 hb3)
    | (go_at_call 20; rw [HE1.out]; (with_reducible refine (G1.out _ HS3.out).mono ?_); rintro x1 w4 ⟨rfl, h4, hb4⟩; have HS4 := Lib.hid h4; have HK4 := Lib.hid (HK3.out.step hb4); obtain ⟨_, k0, k1, k2, k3, k4, k5⟩ := HK4.out; clear h4 hb4)
    | (go_at_call 20; rw [HE2.out]; (with_reducible refine (G2.out _ HS4.out).mono ?_); rintro x1 w5 ⟨rfl, h5, hb5⟩; have HS5 := Lib.hid (h5.step ((Below.refl _ _).alloc (Nat.le_refl _) (.cells #[.int .i64 10, .int .i64 0, .int .i64 (1 + (s.size : Int)), .int .i64 z2, .int .u64 0, .string ⟨#[]⟩] 25))); clear h5 hb5)
    | (go_at_call 21; rw [HE3.out]; (with_reducible refine (G3.out _ HS5.out).mono ?_); rintro x1 w6 ⟨rfl, h6, hb6⟩; have HS6 := Lib.hid h6; clear h6 hb6)
    | (go_at_call 22; (with_reducible refine (HI.out _ HS6.out).mono ?_); rintro x1 w7 ⟨rfl, h7⟩; have HS7 := Lib.hid h7; clear h7)
    | (go_at_call 21; rw [HE4.out]; (with_reducible refine (G4.out _ HS7.out).mono ?_); rintro x1 w8 ⟨rfl, h8, hb8⟩; have HS8 := Lib.hid h8; clear h8 hb8)
    | (go_at_call 13; (with_reducible refine (HW.out _ HS8.out).mono ?_); rintro x1 w9 ⟨rfl, h9⟩; have HS9 := Lib.hid h9; clear h9))
  go_ret
  exact ⟨ret_bool (by simp), HS9.out⟩
set_option maxHeartbeats 2000000 in
set_option maxRecDepth 100000 in
/-- At the half. -/
theorem numE (u d : Nat) (t : Int) (w0 w : World) (hS : SL w0 w) (hu : u < 18446744073709551616) (ht : t % 10 = (d : Int)) (hd : d < 10) (hc : u = 9223372036854775808)
    (s s1 s2 s3 s4 z : ByteArray) (h : NW u d s s1 s2 s3 s4 z) (hn : s.size ≤ 20) :
    Calls Tryd.prog 7 #[.int .u64 u, .int .i64 t] w (SE2 w0 (.bool true)) := by
  have HB := Lib.hid (fun W (hW : SL w0 W) => (show Calls Tryd.prog 17 #[.int .i64 t, .int .i64 10] W (SE2 w0 (.int .i64 (d : Int))) by rw [← ht]; exact bring_S t hW))
  have HF := Lib.hid (fun W (hW : SL w0 W) => (show Calls Tryd.prog 19 #[.int .u64 u, .int .i64 10] W (SE2 w0 (.string s)) by rw [← h.es]; exact fmt_S u hu hW))
  have HI := Lib.hid (fun W (hW : SL w0 W) => (show Calls Tryd.prog 22 #[.int .i64 d] W (SE2 w0 (.string z)) by rw [← h.ez]; exact itoa_S d hd hW))
  have hg : 9223372036854775808 ≤ u := by omega
  have hs1 : s1.size = s.size + 1 := by rw [← h.e1, ByteArray.size_append]; rfl
  have hs2 : s2.size = s.size + 1 := by rw [← h.e2, ByteArray.size_append]; rfl
  have hs3 : s3.size = 1 + s.size := by rw [← h.e3, ByteArray.size_append]; rfl
  have hs4 : s4.size = s.size + 1 := by rw [← h.e4, ByteArray.size_append, ← h.ez, str_size]; rfl
  have G0 := Lib.hid (fun W (hW : SL w0 W) => (show Calls Tryd.prog 20 #[.string s, .int .i64 0, .agg #[.int .i64 11, .int .i64 0, .int .i64 s.size, .int .i64 0, .int .u64 u, .string ⟨#[]⟩]] W (SE3 w0 W (.bool true)) from SE3.of hW fun hW =>
    gives_S s 0 11 0 s.size 0 u [] ⟨#[]⟩ (by
      have := tok_pos u hu [] (Or.inl rfl)
      rw [List.append_nil, tokR_pos, if_pos hg] at this
      rw [h.d, this, h.len]; exact tB_refl _ _ _ _ _ _ _) rfl (Nat.zero_le _) (by omega) hW))
  have G1 := Lib.hid (fun W (hW : SL w0 W) => (show Calls Tryd.prog 20 #[.string s1, .int .i64 0, .agg #[.int .i64 11, .int .i64 0, .int .i64 s.size, .int .i64 0, .int .u64 u, .string ⟨#[]⟩]] W (SE3 w0 W (.bool true)) from SE3.of hW fun hW =>
    gives_S s1 0 11 0 s.size 0 u [] ⟨#[]⟩ (by
      have := tok_pos u hu [44] (Or.inr (Or.inl rfl))
      rw [tokR_pos, if_pos hg] at this
      rw [h.d1, this, h.len]; exact tB_refl _ _ _ _ _ _ _) rfl (Nat.zero_le _) (by omega) hW))
  have G2 := Lib.hid (fun W (hW : SL w0 W) => (show Calls Tryd.prog 20 #[.string s2, .int .i64 0, .agg #[.int .i64 11, .int .i64 0, .int .i64 s.size, .int .i64 0, .int .u64 u, .string ⟨#[]⟩]] W (SE3 w0 W (.bool true)) from SE3.of hW fun hW =>
    gives_S s2 0 11 0 s.size 0 u [] ⟨#[]⟩ (by
      have := tok_pos u hu [45] (Or.inr (Or.inr rfl))
      rw [tokR_pos, if_pos hg] at this
      rw [h.d2, this, h.len]; exact tB_refl _ _ _ _ _ _ _) rfl (Nat.zero_le _) (by omega) hW))
  obtain ⟨z2, hz⟩ : ∃ z2, -(u : Int) = z2 := ⟨_, rfl⟩
  have G3 := Lib.hid (fun W (hW : SL w0 W) => (show Calls Tryd.prog 20 #[.string s3, .int .i64 0, .agg #[.int .i64 10, .int .i64 0, .int .i64 (1 + (s.size : Int)), .int .i64 z2, .int .u64 0, .string ⟨#[]⟩]] W (SE3 w0 W (.bool true)) from SE3.of hW fun hW => by
    have := gives_S s3 0 10 0 (1 + s.size) z2 0 [] ⟨#[]⟩ (by
      have := tok_neg u hu
      rw [tokR_neg, if_neg (by omega), hz] at this
      rw [h.d3, this, h.len]; exact tB_refl _ _ _ _ _ _ _) rfl (Nat.zero_le _) (by omega) hW
    rwa [show ((1 + s.size : Nat) : Int) = 1 + (s.size : Int) by omega] at this))
  have hz2 : IntKind.i64.wrap (IntKind.u64.wrap (-(u : Int))) = z2 := by
    have e : IntKind.i64.wrap (IntKind.u64.wrap (-(u : Int))) = -(u : Int) := by rw [IntKind.wrap_u64, IntKind.wrap_i64]; omega
    rw [e, hz]
  obtain ⟨z1, hz1⟩ : ∃ z1, IntKind.i64.wrap (u : Int) = z1 := ⟨_, rfl⟩
  have G4 := Lib.hid (fun W (hW : SL w0 W) => (show Calls Tryd.prog 21 #[.string s4, .int .i64 0, .int .i64 0, .int .i64 101] W (SE3 w0 W (.bool true)) from SE3.of hW fun hW =>
    fails_S s4 0 0 101 (by
      have := tok_more u d hu (by omega) hd
      rw [if_pos (by omega)] at this
      rw [h.d4, this]; exact tB_refl _ _ _ _ _ _ _) (Nat.zero_le _) (by omega) hW))
  have HW := Lib.hid (fun W (h : SL w0 W) => works_S h)
  have HE1 := Lib.hid h.e1
  have HE2 := Lib.hid h.e2
  have HE3 := Lib.hid h.e3
  have HE4 := Lib.hid h.e4
  have x0 : IntKind.i64.wrap (1 + (s.size : Int)) = 1 + (s.size : Int) := IntWalk.i64_in _ (by omega)
  have b0 : decide ((9223372036854775808 : Int) ≤ (u : Int)) = true := decide_eq_true (by omega)
  have b1 : decide ((9223372036854775808 : Int) < (u : Int)) = false := decide_eq_false (by omega)
  have b2 : decide ((u : Int) ≤ (9223372036854775808 : Int)) = true := decide_eq_true (by omega)
  have b3 : ((u : Int) == 0) = false := by rw [Bool.eq_false_iff, ne_eq, beq_iff_eq]; omega
  have y1 : ((9223372036854775807 : Nat) < s.size + 1) = False := eq_false (by omega)
  have y2 : ((9223372036854775807 : Nat) < 1 + s.size) = False := eq_false (by omega)
  have y3 : ((9223372036854775807 : Nat) < s.size + z.size) = False := eq_false (by rw [← h.ez, str_size]; show ¬ 9223372036854775807 < s.size + 1; omega)
  have d0 : IntKind.u64.wrap (d : Int) = (d : Int) := by rw [IntKind.wrap_u64]; omega
  have d1 : IntKind.u64.wrap (18446744073709551615 - (d : Int)) = 18446744073709551615 - (d : Int) := by rw [IntKind.wrap_u64]; omega
  have d2 : (18446744073709551615 - (d : Int)).tdiv 10 = (18446744073709551615 - (d : Int)) / 10 := Int.tdiv_eq_ediv_of_nonneg (by omega)
  have d4 : IntKind.u64.wrap ((18446744073709551615 - (d : Int)) / 10) = (18446744073709551615 - (d : Int)) / 10 := by rw [IntKind.wrap_u64]; omega
  have d3 : decide ((18446744073709551615 - (d : Int)) / 10 < (u : Int)) = true := decide_eq_true (by omega)
  have HS := Lib.hid hS
  clear hS hu ht hd hg h hn hs1 hs2 hs3 hs4 hz hc
  go_enter Tryd.func7, Tryd.ntmps7
  go_wp2_with (first
    | (go_at_call 17; (with_reducible refine (HB.out _ HS.out).mono ?_); rintro x1 w1 ⟨rfl, h1⟩; have HS1 := Lib.hid h1; clear h1)
    | (go_at_call 19; (with_reducible refine (HF.out _ HS1.out).mono ?_); rintro x1 w2 ⟨rfl, h2⟩; have HS2 := Lib.hid (h2.step ((Below.refl _ _).alloc (Nat.le_refl _) (.cells #[.int .i64 11, .int .i64 0, .int .i64 s.size, .int .i64 0, .int .u64 u, .string ⟨#[]⟩] 25))); clear h2)
    | (go_at_call 20; (with_reducible refine (G0.out _ HS2.out).mono ?_); rintro x1 w3 ⟨rfl, h3, hb3⟩; have HS3 := Lib.hid h3; have HK3 := Lib.hid ((C6.new _ _ _ _ _ _ _ _).step hb3); obtain ⟨_, k0, k1, k2, k3, k4, k5⟩ := HK3.out; clear h3 hb3)
    | (go_at_call 20; rw [HE1.out]; (with_reducible refine (G1.out _ HS3.out).mono ?_); rintro x1 w4 ⟨rfl, h4, hb4⟩; have HS4 := Lib.hid h4; have HK4 := Lib.hid (HK3.out.step hb4); obtain ⟨_, k0, k1, k2, k3, k4, k5⟩ := HK4.out; clear h4 hb4)
    | (go_at_call 20; rw [HE2.out]; (with_reducible refine (G2.out _ HS4.out).mono ?_); rintro x1 w5 ⟨rfl, h5, hb5⟩; have HS5 := Lib.hid (h5.step ((Below.refl _ _).alloc (Nat.le_refl _) (.cells #[.int .i64 10, .int .i64 0, .int .i64 (1 + (s.size : Int)), .int .i64 z2, .int .u64 0, .string ⟨#[]⟩] 25))); clear h5 hb5)
    | (go_at_call 20; rw [HE3.out]; (with_reducible refine (G3.out _ HS5.out).mono ?_); rintro x1 w6 ⟨rfl, h6, hb6⟩; have HS6 := Lib.hid h6; clear h6 hb6)
    | (go_at_call 22; (with_reducible refine (HI.out _ HS6.out).mono ?_); rintro x1 w7 ⟨rfl, h7⟩; have HS7 := Lib.hid h7; clear h7)
    | (go_at_call 21; rw [HE4.out]; (with_reducible refine (G4.out _ HS7.out).mono ?_); rintro x1 w8 ⟨rfl, h8, hb8⟩; have HS8 := Lib.hid h8; clear h8 hb8)
    | (go_at_call 13; (with_reducible refine (HW.out _ HS8.out).mono ?_); rintro x1 w9 ⟨rfl, h9⟩; have HS9 := Lib.hid h9; clear h9))
  go_ret
  exact ⟨ret_bool (by simp), HS9.out⟩
set_option maxHeartbeats 2000000 in
set_option maxRecDepth 100000 in
/-- Nought. -/
theorem numA0 (u d : Nat) (t : Int) (w0 w : World) (hS : SL w0 w) (hu : u < 18446744073709551616) (ht : t % 10 = (d : Int)) (hd : d < 10) (h0 : u = 0)
    (s s1 s2 s3 s4 z : ByteArray) (h : NW u d s s1 s2 s3 s4 z) (hn : s.size ≤ 20) :
    Calls Tryd.prog 7 #[.int .u64 u, .int .i64 t] w (SE2 w0 (.bool true)) := by
  have HB := Lib.hid (fun W (hW : SL w0 W) => (show Calls Tryd.prog 17 #[.int .i64 t, .int .i64 10] W (SE2 w0 (.int .i64 (d : Int))) by rw [← ht]; exact bring_S t hW))
  have HF := Lib.hid (fun W (hW : SL w0 W) => (show Calls Tryd.prog 19 #[.int .u64 u, .int .i64 10] W (SE2 w0 (.string s)) by rw [← h.es]; exact fmt_S u hu hW))
  have HI3 := Lib.hid (fun W (hW : SL w0 W) => (show Calls Tryd.prog 22 #[.int .i64 d] W (SE3 w0 W (.string z)) from SE3.of hW fun hW => by rw [← h.ez]; exact itoa_S d hd hW))
  have hg : ¬ 9223372036854775808 ≤ u := by omega
  have hs1 : s1.size = s.size + 1 := by rw [← h.e1, ByteArray.size_append]; rfl
  have hs2 : s2.size = s.size + 1 := by rw [← h.e2, ByteArray.size_append]; rfl
  have hs3 : s3.size = 1 + s.size := by rw [← h.e3, ByteArray.size_append]; rfl
  have hs4 : s4.size = s.size + 1 := by rw [← h.e4, ByteArray.size_append, ← h.ez, str_size]; rfl
  have G0 := Lib.hid (fun W (hW : SL w0 W) => (show Calls Tryd.prog 20 #[.string s, .int .i64 0, .agg #[.int .i64 10, .int .i64 0, .int .i64 s.size, .int .i64 u, .int .u64 0, .string ⟨#[]⟩]] W (SE3 w0 W (.bool true)) from SE3.of hW fun hW =>
    gives_S s 0 10 0 s.size u 0 [] ⟨#[]⟩ (by
      have := tok_pos u hu [] (Or.inl rfl)
      rw [List.append_nil, tokR_pos, if_neg hg] at this
      rw [h.d, this, h.len]; exact tB_refl _ _ _ _ _ _ _) rfl (Nat.zero_le _) (by omega) hW))
  have G1 := Lib.hid (fun W (hW : SL w0 W) => (show Calls Tryd.prog 20 #[.string s1, .int .i64 0, .agg #[.int .i64 10, .int .i64 0, .int .i64 s.size, .int .i64 u, .int .u64 0, .string ⟨#[]⟩]] W (SE3 w0 W (.bool true)) from SE3.of hW fun hW =>
    gives_S s1 0 10 0 s.size u 0 [] ⟨#[]⟩ (by
      have := tok_pos u hu [44] (Or.inr (Or.inl rfl))
      rw [tokR_pos, if_neg hg] at this
      rw [h.d1, this, h.len]; exact tB_refl _ _ _ _ _ _ _) rfl (Nat.zero_le _) (by omega) hW))
  have G2 := Lib.hid (fun W (hW : SL w0 W) => (show Calls Tryd.prog 20 #[.string s2, .int .i64 0, .agg #[.int .i64 10, .int .i64 0, .int .i64 s.size, .int .i64 u, .int .u64 0, .string ⟨#[]⟩]] W (SE3 w0 W (.bool true)) from SE3.of hW fun hW =>
    gives_S s2 0 10 0 s.size u 0 [] ⟨#[]⟩ (by
      have := tok_pos u hu [45] (Or.inr (Or.inr rfl))
      rw [tokR_pos, if_neg hg] at this
      rw [h.d2, this, h.len]; exact tB_refl _ _ _ _ _ _ _) rfl (Nat.zero_le _) (by omega) hW))
  obtain ⟨z2, hz⟩ : ∃ z2, -(u : Int) = z2 := ⟨_, rfl⟩
  have G3 := Lib.hid (fun W (hW : SL w0 W) => (show Calls Tryd.prog 20 #[.string s3, .int .i64 0, .agg #[.int .i64 10, .int .i64 0, .int .i64 (1 + (s.size : Int)), .int .i64 z2, .int .u64 0, .string ⟨#[]⟩]] W (SE3 w0 W (.bool true)) from SE3.of hW fun hW => by
    have := gives_S s3 0 10 0 (1 + s.size) z2 0 [] ⟨#[]⟩ (by
      have := tok_neg u hu
      rw [tokR_neg, if_neg (by omega), hz] at this
      rw [h.d3, this, h.len]; exact tB_refl _ _ _ _ _ _ _) rfl (Nat.zero_le _) (by omega) hW
    rwa [show ((1 + s.size : Nat) : Int) = 1 + (s.size : Int) by omega] at this))
  have hz2 : IntKind.i64.wrap (IntKind.u64.wrap (-(u : Int))) = z2 := by
    have e : IntKind.i64.wrap (IntKind.u64.wrap (-(u : Int))) = -(u : Int) := by rw [IntKind.wrap_u64, IntKind.wrap_i64]; omega
    rw [e, hz]
  have hz1 : IntKind.i64.wrap (u : Int) = (u : Int) := IntWalk.i64_in _ (by omega)
  have hl1 : s.size = 1 := by rw [h.len, h0, dD_zero]; rfl
  have hb46 : ∀ d : Nat, d < 10 → st [46] [UInt8.ofNat (48 + d)] = false ∧ st [101, 69] [UInt8.ofNat (48 + d)] = false := by decide +kernel
  have G4 := Lib.hid (fun W (hW : SL w0 W) => (show Calls Tryd.prog 20 #[.string s4, .int .i64 0, .agg #[.int .i64 10, .int .i64 0, .int .i64 s.size, .int .i64 u, .int .u64 0, .string ⟨#[]⟩]] W (SE3 w0 W (.bool true)) from SE3.of hW fun hW =>
    gives_S s4 0 10 0 s.size u 0 [] ⟨#[]⟩ (by
      have := tok_more0 (UInt8.ofNat (48 + d)) (hb46 d hd).1 (hb46 d hd).2
      rw [tokR_pos, if_neg (by decide)] at this
      rw [h.d4, hl1, h0, dD_zero, this]; exact tB_refl _ _ _ _ _ _ _) rfl (Nat.zero_le _) (by omega) hW))
  have HW := Lib.hid (fun W (h : SL w0 W) => works_S h)
  have HE1 := Lib.hid h.e1
  have HE2 := Lib.hid h.e2
  have HE3 := Lib.hid h.e3
  have HE4 := Lib.hid h.e4
  have x0 : IntKind.i64.wrap (1 + (s.size : Int)) = 1 + (s.size : Int) := IntWalk.i64_in _ (by omega)
  have b0 : decide ((9223372036854775808 : Int) ≤ (u : Int)) = false := decide_eq_false (by omega)
  have b1 : decide ((9223372036854775808 : Int) < (u : Int)) = false := decide_eq_false (by omega)
  have b2 : decide ((u : Int) ≤ (9223372036854775808 : Int)) = true := decide_eq_true (by omega)
  have b3 : ((u : Int) == 0) = true := by rw [beq_iff_eq]; omega
  have y1 : ((9223372036854775807 : Nat) < s.size + 1) = False := eq_false (by omega)
  have y2 : ((9223372036854775807 : Nat) < 1 + s.size) = False := eq_false (by omega)
  have y3 : ((9223372036854775807 : Nat) < s.size + z.size) = False := eq_false (by rw [← h.ez, str_size]; show ¬ 9223372036854775807 < s.size + 1; omega)
  have HS := Lib.hid hS
  clear hS hu ht hd hg h hn hs1 hs2 hs3 hs4 hz hl1 hb46 h0
  go_enter Tryd.func7, Tryd.ntmps7
  go_wp2_with (first
    | (go_at_call 17; (with_reducible refine (HB.out _ HS.out).mono ?_); rintro x1 w1 ⟨rfl, h1⟩; have HS1 := Lib.hid h1; clear h1)
    | (go_at_call 19; (with_reducible refine (HF.out _ HS1.out).mono ?_); rintro x1 w2 ⟨rfl, h2⟩; have HS2 := Lib.hid (h2.step ((Below.refl _ _).alloc (Nat.le_refl _) (.cells #[.int .i64 10, .int .i64 0, .int .i64 s.size, .int .i64 u, .int .u64 0, .string ⟨#[]⟩] 25))); clear h2)
    | (go_at_call 20; (with_reducible refine (G0.out _ HS2.out).mono ?_); rintro x1 w3 ⟨rfl, h3, hb3⟩; have HS3 := Lib.hid h3; have HK3 := Lib.hid ((C6.new _ _ _ _ _ _ _ _).step hb3); obtain ⟨_, k0, k1, k2, k3, k4, k5⟩ := HK3.out; clear h3 hb3)
    | (go_at_call 20; rw [HE1.out]; (with_reducible refine (G1.out _ HS3.out).mono ?_); rintro x1 w4 ⟨rfl, h4, hb4⟩; have HS4 := Lib.hid h4; have HK4 := Lib.hid (HK3.out.step hb4); obtain ⟨_, k0, k1, k2, k3, k4, k5⟩ := HK4.out; clear h4 hb4)
    | (go_at_call 20; rw [HE2.out]; (with_reducible refine (G2.out _ HS4.out).mono ?_); rintro x1 w5 ⟨rfl, h5, hb5⟩; have HS5 := Lib.hid (h5.step ((Below.refl _ _).alloc (Nat.le_refl _) (.cells #[.int .i64 10, .int .i64 0, .int .i64 (1 + (s.size : Int)), .int .i64 z2, .int .u64 0, .string ⟨#[]⟩] 25))); have HK5 := Lib.hid (C6.step (HK4.out.step hb5) ((Below.refl _ _).alloc (Nat.le_refl _) (.cells #[.int .i64 10, .int .i64 0, .int .i64 (1 + (s.size : Int)), .int .i64 z2, .int .u64 0, .string ⟨#[]⟩] 25))); clear h5 hb5)
    | (go_at_call 20; rw [HE3.out]; (with_reducible refine (G3.out _ HS5.out).mono ?_); rintro x1 w6 ⟨rfl, h6, hb6⟩; have HS6 := Lib.hid h6; have HK6 := Lib.hid (HK5.out.step hb6); obtain ⟨_, k0, k1, k2, k3, k4, k5⟩ := HK6.out; clear h6 hb6)
    | (go_at_call 22; (with_reducible refine (HI3.out _ HS6.out).mono ?_); rintro x1 w7 ⟨rfl, h7, hb7⟩; have HS7 := Lib.hid h7; have HK7 := Lib.hid (HK6.out.step hb7); obtain ⟨_, k0, k1, k2, k3, k4, k5⟩ := HK7.out; clear h7 hb7)
    | (go_at_call 20; rw [HE4.out]; (with_reducible refine (G4.out _ HS7.out).mono ?_); rintro x1 w8 ⟨rfl, h8, hb8⟩; have HS8 := Lib.hid h8; clear h8 hb8)
    | (go_at_call 13; (with_reducible refine (HW.out _ HS8.out).mono ?_); rintro x1 w9 ⟨rfl, h9⟩; have HS9 := Lib.hid h9; clear h9))
  go_ret
  exact ⟨ret_bool (by simp), HS9.out⟩
set_option maxHeartbeats 2000000 in
set_option maxRecDepth 100000 in
/-- Below the half; one digit more is too much. -/
theorem numA1 (u d : Nat) (t : Int) (w0 w : World) (hS : SL w0 w) (hu : u < 18446744073709551616) (ht : t % 10 = (d : Int)) (hd : d < 10) (h0 : 0 < u) (hc : u < 9223372036854775808) (hv1 : 18446744073709551616 ≤ 10 * u + d)
    (s s1 s2 s3 s4 z : ByteArray) (h : NW u d s s1 s2 s3 s4 z) (hn : s.size ≤ 20) :
    Calls Tryd.prog 7 #[.int .u64 u, .int .i64 t] w (SE2 w0 (.bool true)) := by
  have HB := Lib.hid (fun W (hW : SL w0 W) => (show Calls Tryd.prog 17 #[.int .i64 t, .int .i64 10] W (SE2 w0 (.int .i64 (d : Int))) by rw [← ht]; exact bring_S t hW))
  have HF := Lib.hid (fun W (hW : SL w0 W) => (show Calls Tryd.prog 19 #[.int .u64 u, .int .i64 10] W (SE2 w0 (.string s)) by rw [← h.es]; exact fmt_S u hu hW))
  have HI := Lib.hid (fun W (hW : SL w0 W) => (show Calls Tryd.prog 22 #[.int .i64 d] W (SE2 w0 (.string z)) by rw [← h.ez]; exact itoa_S d hd hW))
  have hg : ¬ 9223372036854775808 ≤ u := by omega
  have hs1 : s1.size = s.size + 1 := by rw [← h.e1, ByteArray.size_append]; rfl
  have hs2 : s2.size = s.size + 1 := by rw [← h.e2, ByteArray.size_append]; rfl
  have hs3 : s3.size = 1 + s.size := by rw [← h.e3, ByteArray.size_append]; rfl
  have hs4 : s4.size = s.size + 1 := by rw [← h.e4, ByteArray.size_append, ← h.ez, str_size]; rfl
  have G0 := Lib.hid (fun W (hW : SL w0 W) => (show Calls Tryd.prog 20 #[.string s, .int .i64 0, .agg #[.int .i64 10, .int .i64 0, .int .i64 s.size, .int .i64 u, .int .u64 0, .string ⟨#[]⟩]] W (SE3 w0 W (.bool true)) from SE3.of hW fun hW =>
    gives_S s 0 10 0 s.size u 0 [] ⟨#[]⟩ (by
      have := tok_pos u hu [] (Or.inl rfl)
      rw [List.append_nil, tokR_pos, if_neg hg] at this
      rw [h.d, this, h.len]; exact tB_refl _ _ _ _ _ _ _) rfl (Nat.zero_le _) (by omega) hW))
  have G1 := Lib.hid (fun W (hW : SL w0 W) => (show Calls Tryd.prog 20 #[.string s1, .int .i64 0, .agg #[.int .i64 10, .int .i64 0, .int .i64 s.size, .int .i64 u, .int .u64 0, .string ⟨#[]⟩]] W (SE3 w0 W (.bool true)) from SE3.of hW fun hW =>
    gives_S s1 0 10 0 s.size u 0 [] ⟨#[]⟩ (by
      have := tok_pos u hu [44] (Or.inr (Or.inl rfl))
      rw [tokR_pos, if_neg hg] at this
      rw [h.d1, this, h.len]; exact tB_refl _ _ _ _ _ _ _) rfl (Nat.zero_le _) (by omega) hW))
  have G2 := Lib.hid (fun W (hW : SL w0 W) => (show Calls Tryd.prog 20 #[.string s2, .int .i64 0, .agg #[.int .i64 10, .int .i64 0, .int .i64 s.size, .int .i64 u, .int .u64 0, .string ⟨#[]⟩]] W (SE3 w0 W (.bool true)) from SE3.of hW fun hW =>
    gives_S s2 0 10 0 s.size u 0 [] ⟨#[]⟩ (by
      have := tok_pos u hu [45] (Or.inr (Or.inr rfl))
      rw [tokR_pos, if_neg hg] at this
      rw [h.d2, this, h.len]; exact tB_refl _ _ _ _ _ _ _) rfl (Nat.zero_le _) (by omega) hW))
  obtain ⟨z2, hz⟩ : ∃ z2, -(u : Int) = z2 := ⟨_, rfl⟩
  have G3 := Lib.hid (fun W (hW : SL w0 W) => (show Calls Tryd.prog 20 #[.string s3, .int .i64 0, .agg #[.int .i64 10, .int .i64 0, .int .i64 (1 + (s.size : Int)), .int .i64 z2, .int .u64 0, .string ⟨#[]⟩]] W (SE3 w0 W (.bool true)) from SE3.of hW fun hW => by
    have := gives_S s3 0 10 0 (1 + s.size) z2 0 [] ⟨#[]⟩ (by
      have := tok_neg u hu
      rw [tokR_neg, if_neg (by omega), hz] at this
      rw [h.d3, this, h.len]; exact tB_refl _ _ _ _ _ _ _) rfl (Nat.zero_le _) (by omega) hW
    rwa [show ((1 + s.size : Nat) : Int) = 1 + (s.size : Int) by omega] at this))
  have hz2 : IntKind.i64.wrap (IntKind.u64.wrap (-(u : Int))) = z2 := by
    have e : IntKind.i64.wrap (IntKind.u64.wrap (-(u : Int))) = -(u : Int) := by rw [IntKind.wrap_u64, IntKind.wrap_i64]; omega
    rw [e, hz]
  have hz1 : IntKind.i64.wrap (u : Int) = (u : Int) := IntWalk.i64_in _ (by omega)
  have G4 := Lib.hid (fun W (hW : SL w0 W) => (show Calls Tryd.prog 21 #[.string s4, .int .i64 0, .int .i64 0, .int .i64 101] W (SE3 w0 W (.bool true)) from SE3.of hW fun hW =>
    fails_S s4 0 0 101 (by
      have := tok_more u d hu (by omega) hd
      rw [if_pos (by omega)] at this
      rw [h.d4, this]; exact tB_refl _ _ _ _ _ _ _) (Nat.zero_le _) (by omega) hW))
  have HW := Lib.hid (fun W (h : SL w0 W) => works_S h)
  have HE1 := Lib.hid h.e1
  have HE2 := Lib.hid h.e2
  have HE3 := Lib.hid h.e3
  have HE4 := Lib.hid h.e4
  have x0 : IntKind.i64.wrap (1 + (s.size : Int)) = 1 + (s.size : Int) := IntWalk.i64_in _ (by omega)
  have b0 : decide ((9223372036854775808 : Int) ≤ (u : Int)) = false := decide_eq_false (by omega)
  have b1 : decide ((9223372036854775808 : Int) < (u : Int)) = false := decide_eq_false (by omega)
  have b2 : decide ((u : Int) ≤ (9223372036854775808 : Int)) = true := decide_eq_true (by omega)
  have b3 : ((u : Int) == 0) = false := by rw [Bool.eq_false_iff, ne_eq, beq_iff_eq]; omega
  have y1 : ((9223372036854775807 : Nat) < s.size + 1) = False := eq_false (by omega)
  have y2 : ((9223372036854775807 : Nat) < 1 + s.size) = False := eq_false (by omega)
  have y3 : ((9223372036854775807 : Nat) < s.size + z.size) = False := eq_false (by rw [← h.ez, str_size]; show ¬ 9223372036854775807 < s.size + 1; omega)
  have d0 : IntKind.u64.wrap (d : Int) = (d : Int) := by rw [IntKind.wrap_u64]; omega
  have d1 : IntKind.u64.wrap (18446744073709551615 - (d : Int)) = 18446744073709551615 - (d : Int) := by rw [IntKind.wrap_u64]; omega
  have d2 : (18446744073709551615 - (d : Int)).tdiv 10 = (18446744073709551615 - (d : Int)) / 10 := Int.tdiv_eq_ediv_of_nonneg (by omega)
  have d4 : IntKind.u64.wrap ((18446744073709551615 - (d : Int)) / 10) = (18446744073709551615 - (d : Int)) / 10 := by rw [IntKind.wrap_u64]; omega
  have d3 : decide ((18446744073709551615 - (d : Int)) / 10 < (u : Int)) = true := decide_eq_true (by omega)
  have HS := Lib.hid hS
  clear hS hu ht hd hg h hn hs1 hs2 hs3 hs4 hz h0 hc hv1
  go_enter Tryd.func7, Tryd.ntmps7
  go_wp2_with (first
    | (go_at_call 17; (with_reducible refine (HB.out _ HS.out).mono ?_); rintro x1 w1 ⟨rfl, h1⟩; have HS1 := Lib.hid h1; clear h1)
    | (go_at_call 19; (with_reducible refine (HF.out _ HS1.out).mono ?_); rintro x1 w2 ⟨rfl, h2⟩; have HS2 := Lib.hid (h2.step ((Below.refl _ _).alloc (Nat.le_refl _) (.cells #[.int .i64 10, .int .i64 0, .int .i64 s.size, .int .i64 u, .int .u64 0, .string ⟨#[]⟩] 25))); clear h2)
    | (go_at_call 20; (with_reducible refine (G0.out _ HS2.out).mono ?_); rintro x1 w3 ⟨rfl, h3, hb3⟩; have HS3 := Lib.hid h3; have HK3 := Lib.hid ((C6.new _ _ _ _ _ _ _ _).step hb3); obtain ⟨_, k0, k1, k2, k3, k4, k5⟩ := HK3.out; clear h3 hb3)
    | (go_at_call 20; rw [HE1.out]; (with_reducible refine (G1.out _ HS3.out).mono ?_); rintro x1 w4 ⟨rfl, h4, hb4⟩; have HS4 := Lib.hid h4; have HK4 := Lib.hid (HK3.out.step hb4); obtain ⟨_, k0, k1, k2, k3, k4, k5⟩ := HK4.out; clear h4 hb4)
    | (go_at_call 20; rw [HE2.out]; (with_reducible refine (G2.out _ HS4.out).mono ?_); rintro x1 w5 ⟨rfl, h5, hb5⟩; have HS5 := Lib.hid (h5.step ((Below.refl _ _).alloc (Nat.le_refl _) (.cells #[.int .i64 10, .int .i64 0, .int .i64 (1 + (s.size : Int)), .int .i64 z2, .int .u64 0, .string ⟨#[]⟩] 25))); clear h5 hb5)
    | (go_at_call 20; rw [HE3.out]; (with_reducible refine (G3.out _ HS5.out).mono ?_); rintro x1 w6 ⟨rfl, h6, hb6⟩; have HS6 := Lib.hid h6; clear h6 hb6)
    | (go_at_call 22; (with_reducible refine (HI.out _ HS6.out).mono ?_); rintro x1 w7 ⟨rfl, h7⟩; have HS7 := Lib.hid h7; clear h7)
    | (go_at_call 21; rw [HE4.out]; (with_reducible refine (G4.out _ HS7.out).mono ?_); rintro x1 w8 ⟨rfl, h8, hb8⟩; have HS8 := Lib.hid h8; clear h8 hb8)
    | (go_at_call 13; (with_reducible refine (HW.out _ HS8.out).mono ?_); rintro x1 w9 ⟨rfl, h9⟩; have HS9 := Lib.hid h9; clear h9))
  go_ret
  exact ⟨ret_bool (by simp), HS9.out⟩
set_option maxHeartbeats 2000000 in
set_option maxRecDepth 100000 in
/-- Below the half, and so with one digit more. -/
theorem numA2 (u d : Nat) (t : Int) (w0 w : World) (hS : SL w0 w) (hu : u < 18446744073709551616) (ht : t % 10 = (d : Int)) (hd : d < 10) (h0 : 0 < u) (hc : u < 9223372036854775808) (hv1 : 10 * u + d < 9223372036854775808)
    (s s1 s2 s3 s4 z : ByteArray) (h : NW u d s s1 s2 s3 s4 z) (hn : s.size ≤ 20) :
    Calls Tryd.prog 7 #[.int .u64 u, .int .i64 t] w (SE2 w0 (.bool true)) := by
  have HB := Lib.hid (fun W (hW : SL w0 W) => (show Calls Tryd.prog 17 #[.int .i64 t, .int .i64 10] W (SE2 w0 (.int .i64 (d : Int))) by rw [← ht]; exact bring_S t hW))
  have HF := Lib.hid (fun W (hW : SL w0 W) => (show Calls Tryd.prog 19 #[.int .u64 u, .int .i64 10] W (SE2 w0 (.string s)) by rw [← h.es]; exact fmt_S u hu hW))
  have HI := Lib.hid (fun W (hW : SL w0 W) => (show Calls Tryd.prog 22 #[.int .i64 d] W (SE2 w0 (.string z)) by rw [← h.ez]; exact itoa_S d hd hW))
  have hg : ¬ 9223372036854775808 ≤ u := by omega
  have hs1 : s1.size = s.size + 1 := by rw [← h.e1, ByteArray.size_append]; rfl
  have hs2 : s2.size = s.size + 1 := by rw [← h.e2, ByteArray.size_append]; rfl
  have hs3 : s3.size = 1 + s.size := by rw [← h.e3, ByteArray.size_append]; rfl
  have hs4 : s4.size = s.size + 1 := by rw [← h.e4, ByteArray.size_append, ← h.ez, str_size]; rfl
  have G0 := Lib.hid (fun W (hW : SL w0 W) => (show Calls Tryd.prog 20 #[.string s, .int .i64 0, .agg #[.int .i64 10, .int .i64 0, .int .i64 s.size, .int .i64 u, .int .u64 0, .string ⟨#[]⟩]] W (SE3 w0 W (.bool true)) from SE3.of hW fun hW =>
    gives_S s 0 10 0 s.size u 0 [] ⟨#[]⟩ (by
      have := tok_pos u hu [] (Or.inl rfl)
      rw [List.append_nil, tokR_pos, if_neg hg] at this
      rw [h.d, this, h.len]; exact tB_refl _ _ _ _ _ _ _) rfl (Nat.zero_le _) (by omega) hW))
  have G1 := Lib.hid (fun W (hW : SL w0 W) => (show Calls Tryd.prog 20 #[.string s1, .int .i64 0, .agg #[.int .i64 10, .int .i64 0, .int .i64 s.size, .int .i64 u, .int .u64 0, .string ⟨#[]⟩]] W (SE3 w0 W (.bool true)) from SE3.of hW fun hW =>
    gives_S s1 0 10 0 s.size u 0 [] ⟨#[]⟩ (by
      have := tok_pos u hu [44] (Or.inr (Or.inl rfl))
      rw [tokR_pos, if_neg hg] at this
      rw [h.d1, this, h.len]; exact tB_refl _ _ _ _ _ _ _) rfl (Nat.zero_le _) (by omega) hW))
  have G2 := Lib.hid (fun W (hW : SL w0 W) => (show Calls Tryd.prog 20 #[.string s2, .int .i64 0, .agg #[.int .i64 10, .int .i64 0, .int .i64 s.size, .int .i64 u, .int .u64 0, .string ⟨#[]⟩]] W (SE3 w0 W (.bool true)) from SE3.of hW fun hW =>
    gives_S s2 0 10 0 s.size u 0 [] ⟨#[]⟩ (by
      have := tok_pos u hu [45] (Or.inr (Or.inr rfl))
      rw [tokR_pos, if_neg hg] at this
      rw [h.d2, this, h.len]; exact tB_refl _ _ _ _ _ _ _) rfl (Nat.zero_le _) (by omega) hW))
  obtain ⟨z2, hz⟩ : ∃ z2, -(u : Int) = z2 := ⟨_, rfl⟩
  have G3 := Lib.hid (fun W (hW : SL w0 W) => (show Calls Tryd.prog 20 #[.string s3, .int .i64 0, .agg #[.int .i64 10, .int .i64 0, .int .i64 (1 + (s.size : Int)), .int .i64 z2, .int .u64 0, .string ⟨#[]⟩]] W (SE3 w0 W (.bool true)) from SE3.of hW fun hW => by
    have := gives_S s3 0 10 0 (1 + s.size) z2 0 [] ⟨#[]⟩ (by
      have := tok_neg u hu
      rw [tokR_neg, if_neg (by omega), hz] at this
      rw [h.d3, this, h.len]; exact tB_refl _ _ _ _ _ _ _) rfl (Nat.zero_le _) (by omega) hW
    rwa [show ((1 + s.size : Nat) : Int) = 1 + (s.size : Int) by omega] at this))
  have hz2 : IntKind.i64.wrap (IntKind.u64.wrap (-(u : Int))) = z2 := by
    have e : IntKind.i64.wrap (IntKind.u64.wrap (-(u : Int))) = -(u : Int) := by rw [IntKind.wrap_u64, IntKind.wrap_i64]; omega
    rw [e, hz]
  have hz1 : IntKind.i64.wrap (u : Int) = (u : Int) := IntWalk.i64_in _ (by omega)
  obtain ⟨v, hv⟩ : ∃ v, 10 * u + d = v := ⟨_, rfl⟩
  have G4 := Lib.hid (fun W (hW : SL w0 W) => (show Calls Tryd.prog 10 #[.string s4, .int .i64 0] W (fun r w' => r = .returned (.tuple #[.agg #[.int .i64 10, .int .i64 0, .int .i64 s4.size, .int .i64 v, .int .u64 0, .string ⟨#[]⟩], .int .i64 0]) ∧ SL w0 w') from
    nx_S s4 (by omega) 10 0 s4.size v 0 0 (by
      have := tok_more u d hu (by omega) hd
      rw [if_neg (by omega), tokR_pos, if_neg (by omega), hv] at this
      rw [h.d4, this, hs4, h.len]) hW))
  have e1 : IntKind.u64.wrap (10 * (u : Int)) = 10 * (u : Int) := by rw [IntKind.wrap_u64]; omega
  have e2 : IntKind.u64.wrap (10 * (u : Int) + (d : Int)) = (v : Int) := by rw [IntKind.wrap_u64]; omega
  have e3 : IntKind.u64.wrap (v : Int) = (v : Int) := by rw [IntKind.wrap_u64]; omega
  have e4 : decide ((v : Int) < 9223372036854775808) = true := decide_eq_true (by omega)
  have e5 : decide (9223372036854775808 ≤ (v : Int)) = false := decide_eq_false (by omega)
  have HW := Lib.hid (fun W (h : SL w0 W) => works_S h)
  have HE1 := Lib.hid h.e1
  have HE2 := Lib.hid h.e2
  have HE3 := Lib.hid h.e3
  have HE4 := Lib.hid h.e4
  have x0 : IntKind.i64.wrap (1 + (s.size : Int)) = 1 + (s.size : Int) := IntWalk.i64_in _ (by omega)
  have b0 : decide ((9223372036854775808 : Int) ≤ (u : Int)) = false := decide_eq_false (by omega)
  have b1 : decide ((9223372036854775808 : Int) < (u : Int)) = false := decide_eq_false (by omega)
  have b2 : decide ((u : Int) ≤ (9223372036854775808 : Int)) = true := decide_eq_true (by omega)
  have b3 : ((u : Int) == 0) = false := by rw [Bool.eq_false_iff, ne_eq, beq_iff_eq]; omega
  have y1 : ((9223372036854775807 : Nat) < s.size + 1) = False := eq_false (by omega)
  have y2 : ((9223372036854775807 : Nat) < 1 + s.size) = False := eq_false (by omega)
  have y3 : ((9223372036854775807 : Nat) < s.size + z.size) = False := eq_false (by rw [← h.ez, str_size]; show ¬ 9223372036854775807 < s.size + 1; omega)
  have d0 : IntKind.u64.wrap (d : Int) = (d : Int) := by rw [IntKind.wrap_u64]; omega
  have d1 : IntKind.u64.wrap (18446744073709551615 - (d : Int)) = 18446744073709551615 - (d : Int) := by rw [IntKind.wrap_u64]; omega
  have d2 : (18446744073709551615 - (d : Int)).tdiv 10 = (18446744073709551615 - (d : Int)) / 10 := Int.tdiv_eq_ediv_of_nonneg (by omega)
  have d4 : IntKind.u64.wrap ((18446744073709551615 - (d : Int)) / 10) = (18446744073709551615 - (d : Int)) / 10 := by rw [IntKind.wrap_u64]; omega
  have d3 : decide ((18446744073709551615 - (d : Int)) / 10 < (u : Int)) = false := decide_eq_false (by omega)
  have HS := Lib.hid hS
  clear hS hu ht hd hg h hn hs1 hs2 hs3 hs4 hz hv h0 hv1 hc
  go_enter Tryd.func7, Tryd.ntmps7
  go_wp2_with (first
    | (go_at_call 17; (with_reducible refine (HB.out _ HS.out).mono ?_); rintro x1 w1 ⟨rfl, h1⟩; have HS1 := Lib.hid h1; clear h1)
    | (go_at_call 19; (with_reducible refine (HF.out _ HS1.out).mono ?_); rintro x1 w2 ⟨rfl, h2⟩; have HS2 := Lib.hid (h2.step ((Below.refl _ _).alloc (Nat.le_refl _) (.cells #[.int .i64 10, .int .i64 0, .int .i64 s.size, .int .i64 u, .int .u64 0, .string ⟨#[]⟩] 25))); clear h2)
    | (go_at_call 20; (with_reducible refine (G0.out _ HS2.out).mono ?_); rintro x1 w3 ⟨rfl, h3, hb3⟩; have HS3 := Lib.hid h3; have HK3 := Lib.hid ((C6.new _ _ _ _ _ _ _ _).step hb3); obtain ⟨_, k0, k1, k2, k3, k4, k5⟩ := HK3.out; clear h3 hb3)
    | (go_at_call 20; rw [HE1.out]; (with_reducible refine (G1.out _ HS3.out).mono ?_); rintro x1 w4 ⟨rfl, h4, hb4⟩; have HS4 := Lib.hid h4; have HK4 := Lib.hid (HK3.out.step hb4); obtain ⟨_, k0, k1, k2, k3, k4, k5⟩ := HK4.out; clear h4 hb4)
    | (go_at_call 20; rw [HE2.out]; (with_reducible refine (G2.out _ HS4.out).mono ?_); rintro x1 w5 ⟨rfl, h5, hb5⟩; have HS5 := Lib.hid (h5.step ((Below.refl _ _).alloc (Nat.le_refl _) (.cells #[.int .i64 10, .int .i64 0, .int .i64 (1 + (s.size : Int)), .int .i64 z2, .int .u64 0, .string ⟨#[]⟩] 25))); clear h5 hb5)
    | (go_at_call 20; rw [HE3.out]; (with_reducible refine (G3.out _ HS5.out).mono ?_); rintro x1 w6 ⟨rfl, h6, hb6⟩; have HS6 := Lib.hid h6; clear h6 hb6)
    | (go_at_call 22; (with_reducible refine (HI.out _ HS6.out).mono ?_); rintro x1 w7 ⟨rfl, h7⟩; have HS7 := Lib.hid h7; clear h7)
    | (go_at_call 10; rw [HE4.out]; (with_reducible refine (G4.out _ HS7.out).mono ?_); rintro x1 w8 ⟨rfl, h8⟩; have HS8 := Lib.hid (h8.step ((Below.refl _ _).alloc (Nat.le_refl _) (.cells #[.int .i64 10, .int .i64 0, .int .i64 s4.size, .int .i64 v, .int .u64 0, .string ⟨#[]⟩] 25))); clear h8)
    | (go_at_call 13; (with_reducible refine (HW.out _ HS8.out).mono ?_); rintro x1 w9 ⟨rfl, h9⟩; have HS9 := Lib.hid h9; clear h9))
  go_ret
  exact ⟨ret_bool (by simp), HS9.out⟩
set_option maxHeartbeats 2000000 in
set_option maxRecDepth 100000 in
/-- Below the half; one digit more goes over the half. -/
theorem numA3 (u d : Nat) (t : Int) (w0 w : World) (hS : SL w0 w) (hu : u < 18446744073709551616) (ht : t % 10 = (d : Int)) (hd : d < 10) (h0 : 0 < u) (hc : u < 9223372036854775808) (hv1 : 9223372036854775808 ≤ 10 * u + d ∧ 10 * u + d < 18446744073709551616)
    (s s1 s2 s3 s4 z : ByteArray) (h : NW u d s s1 s2 s3 s4 z) (hn : s.size ≤ 20) :
    Calls Tryd.prog 7 #[.int .u64 u, .int .i64 t] w (SE2 w0 (.bool true)) := by
  have HB := Lib.hid (fun W (hW : SL w0 W) => (show Calls Tryd.prog 17 #[.int .i64 t, .int .i64 10] W (SE2 w0 (.int .i64 (d : Int))) by rw [← ht]; exact bring_S t hW))
  have HF := Lib.hid (fun W (hW : SL w0 W) => (show Calls Tryd.prog 19 #[.int .u64 u, .int .i64 10] W (SE2 w0 (.string s)) by rw [← h.es]; exact fmt_S u hu hW))
  have HI := Lib.hid (fun W (hW : SL w0 W) => (show Calls Tryd.prog 22 #[.int .i64 d] W (SE2 w0 (.string z)) by rw [← h.ez]; exact itoa_S d hd hW))
  have hg : ¬ 9223372036854775808 ≤ u := by omega
  have hs1 : s1.size = s.size + 1 := by rw [← h.e1, ByteArray.size_append]; rfl
  have hs2 : s2.size = s.size + 1 := by rw [← h.e2, ByteArray.size_append]; rfl
  have hs3 : s3.size = 1 + s.size := by rw [← h.e3, ByteArray.size_append]; rfl
  have hs4 : s4.size = s.size + 1 := by rw [← h.e4, ByteArray.size_append, ← h.ez, str_size]; rfl
  have G0 := Lib.hid (fun W (hW : SL w0 W) => (show Calls Tryd.prog 20 #[.string s, .int .i64 0, .agg #[.int .i64 10, .int .i64 0, .int .i64 s.size, .int .i64 u, .int .u64 0, .string ⟨#[]⟩]] W (SE3 w0 W (.bool true)) from SE3.of hW fun hW =>
    gives_S s 0 10 0 s.size u 0 [] ⟨#[]⟩ (by
      have := tok_pos u hu [] (Or.inl rfl)
      rw [List.append_nil, tokR_pos, if_neg hg] at this
      rw [h.d, this, h.len]; exact tB_refl _ _ _ _ _ _ _) rfl (Nat.zero_le _) (by omega) hW))
  have G1 := Lib.hid (fun W (hW : SL w0 W) => (show Calls Tryd.prog 20 #[.string s1, .int .i64 0, .agg #[.int .i64 10, .int .i64 0, .int .i64 s.size, .int .i64 u, .int .u64 0, .string ⟨#[]⟩]] W (SE3 w0 W (.bool true)) from SE3.of hW fun hW =>
    gives_S s1 0 10 0 s.size u 0 [] ⟨#[]⟩ (by
      have := tok_pos u hu [44] (Or.inr (Or.inl rfl))
      rw [tokR_pos, if_neg hg] at this
      rw [h.d1, this, h.len]; exact tB_refl _ _ _ _ _ _ _) rfl (Nat.zero_le _) (by omega) hW))
  have G2 := Lib.hid (fun W (hW : SL w0 W) => (show Calls Tryd.prog 20 #[.string s2, .int .i64 0, .agg #[.int .i64 10, .int .i64 0, .int .i64 s.size, .int .i64 u, .int .u64 0, .string ⟨#[]⟩]] W (SE3 w0 W (.bool true)) from SE3.of hW fun hW =>
    gives_S s2 0 10 0 s.size u 0 [] ⟨#[]⟩ (by
      have := tok_pos u hu [45] (Or.inr (Or.inr rfl))
      rw [tokR_pos, if_neg hg] at this
      rw [h.d2, this, h.len]; exact tB_refl _ _ _ _ _ _ _) rfl (Nat.zero_le _) (by omega) hW))
  obtain ⟨z2, hz⟩ : ∃ z2, -(u : Int) = z2 := ⟨_, rfl⟩
  have G3 := Lib.hid (fun W (hW : SL w0 W) => (show Calls Tryd.prog 20 #[.string s3, .int .i64 0, .agg #[.int .i64 10, .int .i64 0, .int .i64 (1 + (s.size : Int)), .int .i64 z2, .int .u64 0, .string ⟨#[]⟩]] W (SE3 w0 W (.bool true)) from SE3.of hW fun hW => by
    have := gives_S s3 0 10 0 (1 + s.size) z2 0 [] ⟨#[]⟩ (by
      have := tok_neg u hu
      rw [tokR_neg, if_neg (by omega), hz] at this
      rw [h.d3, this, h.len]; exact tB_refl _ _ _ _ _ _ _) rfl (Nat.zero_le _) (by omega) hW
    rwa [show ((1 + s.size : Nat) : Int) = 1 + (s.size : Int) by omega] at this))
  have hz2 : IntKind.i64.wrap (IntKind.u64.wrap (-(u : Int))) = z2 := by
    have e : IntKind.i64.wrap (IntKind.u64.wrap (-(u : Int))) = -(u : Int) := by rw [IntKind.wrap_u64, IntKind.wrap_i64]; omega
    rw [e, hz]
  have hz1 : IntKind.i64.wrap (u : Int) = (u : Int) := IntWalk.i64_in _ (by omega)
  obtain ⟨v, hv⟩ : ∃ v, 10 * u + d = v := ⟨_, rfl⟩
  have G4 := Lib.hid (fun W (hW : SL w0 W) => (show Calls Tryd.prog 10 #[.string s4, .int .i64 0] W (fun r w' => r = .returned (.tuple #[.agg #[.int .i64 11, .int .i64 0, .int .i64 s4.size, .int .i64 0, .int .u64 v, .string ⟨#[]⟩], .int .i64 0]) ∧ SL w0 w') from
    nx_S s4 (by omega) 11 0 s4.size 0 v 0 (by
      have := tok_more u d hu (by omega) hd
      rw [if_neg (by omega), tokR_pos, if_pos (by omega), hv] at this
      rw [h.d4, this, hs4, h.len]) hW))
  have e1 : IntKind.u64.wrap (10 * (u : Int)) = 10 * (u : Int) := by rw [IntKind.wrap_u64]; omega
  have e2 : IntKind.u64.wrap (10 * (u : Int) + (d : Int)) = (v : Int) := by rw [IntKind.wrap_u64]; omega
  have e3 : IntKind.u64.wrap (v : Int) = (v : Int) := by rw [IntKind.wrap_u64]; omega
  have e4 : decide ((v : Int) < 9223372036854775808) = false := decide_eq_false (by omega)
  have e5 : decide (9223372036854775808 ≤ (v : Int)) = true := decide_eq_true (by omega)
  have HW := Lib.hid (fun W (h : SL w0 W) => works_S h)
  have HE1 := Lib.hid h.e1
  have HE2 := Lib.hid h.e2
  have HE3 := Lib.hid h.e3
  have HE4 := Lib.hid h.e4
  have x0 : IntKind.i64.wrap (1 + (s.size : Int)) = 1 + (s.size : Int) := IntWalk.i64_in _ (by omega)
  have b0 : decide ((9223372036854775808 : Int) ≤ (u : Int)) = false := decide_eq_false (by omega)
  have b1 : decide ((9223372036854775808 : Int) < (u : Int)) = false := decide_eq_false (by omega)
  have b2 : decide ((u : Int) ≤ (9223372036854775808 : Int)) = true := decide_eq_true (by omega)
  have b3 : ((u : Int) == 0) = false := by rw [Bool.eq_false_iff, ne_eq, beq_iff_eq]; omega
  have y1 : ((9223372036854775807 : Nat) < s.size + 1) = False := eq_false (by omega)
  have y2 : ((9223372036854775807 : Nat) < 1 + s.size) = False := eq_false (by omega)
  have y3 : ((9223372036854775807 : Nat) < s.size + z.size) = False := eq_false (by rw [← h.ez, str_size]; show ¬ 9223372036854775807 < s.size + 1; omega)
  have d0 : IntKind.u64.wrap (d : Int) = (d : Int) := by rw [IntKind.wrap_u64]; omega
  have d1 : IntKind.u64.wrap (18446744073709551615 - (d : Int)) = 18446744073709551615 - (d : Int) := by rw [IntKind.wrap_u64]; omega
  have d2 : (18446744073709551615 - (d : Int)).tdiv 10 = (18446744073709551615 - (d : Int)) / 10 := Int.tdiv_eq_ediv_of_nonneg (by omega)
  have d4 : IntKind.u64.wrap ((18446744073709551615 - (d : Int)) / 10) = (18446744073709551615 - (d : Int)) / 10 := by rw [IntKind.wrap_u64]; omega
  have d3 : decide ((18446744073709551615 - (d : Int)) / 10 < (u : Int)) = false := decide_eq_false (by omega)
  have HS := Lib.hid hS
  clear hS hu ht hd hg h hn hs1 hs2 hs3 hs4 hz hv h0 hv1 hc
  go_enter Tryd.func7, Tryd.ntmps7
  go_wp2_with (first
    | (go_at_call 17; (with_reducible refine (HB.out _ HS.out).mono ?_); rintro x1 w1 ⟨rfl, h1⟩; have HS1 := Lib.hid h1; clear h1)
    | (go_at_call 19; (with_reducible refine (HF.out _ HS1.out).mono ?_); rintro x1 w2 ⟨rfl, h2⟩; have HS2 := Lib.hid (h2.step ((Below.refl _ _).alloc (Nat.le_refl _) (.cells #[.int .i64 10, .int .i64 0, .int .i64 s.size, .int .i64 u, .int .u64 0, .string ⟨#[]⟩] 25))); clear h2)
    | (go_at_call 20; (with_reducible refine (G0.out _ HS2.out).mono ?_); rintro x1 w3 ⟨rfl, h3, hb3⟩; have HS3 := Lib.hid h3; have HK3 := Lib.hid ((C6.new _ _ _ _ _ _ _ _).step hb3); obtain ⟨_, k0, k1, k2, k3, k4, k5⟩ := HK3.out; clear h3 hb3)
    | (go_at_call 20; rw [HE1.out]; (with_reducible refine (G1.out _ HS3.out).mono ?_); rintro x1 w4 ⟨rfl, h4, hb4⟩; have HS4 := Lib.hid h4; have HK4 := Lib.hid (HK3.out.step hb4); obtain ⟨_, k0, k1, k2, k3, k4, k5⟩ := HK4.out; clear h4 hb4)
    | (go_at_call 20; rw [HE2.out]; (with_reducible refine (G2.out _ HS4.out).mono ?_); rintro x1 w5 ⟨rfl, h5, hb5⟩; have HS5 := Lib.hid (h5.step ((Below.refl _ _).alloc (Nat.le_refl _) (.cells #[.int .i64 10, .int .i64 0, .int .i64 (1 + (s.size : Int)), .int .i64 z2, .int .u64 0, .string ⟨#[]⟩] 25))); clear h5 hb5)
    | (go_at_call 20; rw [HE3.out]; (with_reducible refine (G3.out _ HS5.out).mono ?_); rintro x1 w6 ⟨rfl, h6, hb6⟩; have HS6 := Lib.hid h6; clear h6 hb6)
    | (go_at_call 22; (with_reducible refine (HI.out _ HS6.out).mono ?_); rintro x1 w7 ⟨rfl, h7⟩; have HS7 := Lib.hid h7; clear h7)
    | (go_at_call 10; rw [HE4.out]; (with_reducible refine (G4.out _ HS7.out).mono ?_); rintro x1 w8 ⟨rfl, h8⟩; have HS8 := Lib.hid (h8.step ((Below.refl _ _).alloc (Nat.le_refl _) (.cells #[.int .i64 11, .int .i64 0, .int .i64 s4.size, .int .i64 0, .int .u64 v, .string ⟨#[]⟩] 25))); clear h8)
    | (go_at_call 13; (with_reducible refine (HW.out _ HS8.out).mono ?_); rintro x1 w9 ⟨rfl, h9⟩; have HS9 := Lib.hid h9; clear h9))
  go_ret
  exact ⟨ret_bool (by simp), HS9.out⟩
theorem dD_len (u : Nat) (hu : u < 18446744073709551616) : (decDigits u).length ≤ 20 := by rw [decDigits_length]; exact nDigits_le20 u hu
theorem lexNumbers_walk (u : Nat) (t : Int) (w : World) (hL : LB w.heap.size w) (hu : u < 18446744073709551616) :
    Calls Tryd.prog 7 #[.int .u64 u, .int .i64 t] w fun e w' => e = .returned (.bool true) ∧ Below w.heap.size w w' := by
  have b0 := Int.emod_nonneg t (show (10 : Int) ≠ 0 by decide)
  have b1 := Int.emod_lt_of_pos t (show (0 : Int) < 10 by decide)
  obtain ⟨d, ht⟩ : ∃ d : Nat, t % 10 = (d : Int) := ⟨(t % 10).toNat, by omega⟩
  have hd : d < 10 := by omega
  have hn : (str (decDigits u)).size ≤ 20 := by rw [str_size]; exact dD_len u hu
  have key : Calls Tryd.prog 7 #[.int .u64 u, .int .i64 t] w (SE2 w (.bool true)) := by
    rcases Nat.eq_zero_or_pos u with h0 | h0
    · exact numA0 u d t w w (SL.start hL) hu ht hd h0 _ _ _ _ _ _ ⟨rfl, rfl, rfl, rfl, rfl, rfl⟩ hn
    · rcases Nat.lt_trichotomy u 9223372036854775808 with hc | hc | hc
      · by_cases h1 : 10 * u + d < 9223372036854775808
        · exact numA2 u d t w w (SL.start hL) hu ht hd h0 hc h1 _ _ _ _ _ _ ⟨rfl, rfl, rfl, rfl, rfl, rfl⟩ hn
        · by_cases h2 : 10 * u + d < 18446744073709551616
          · exact numA3 u d t w w (SL.start hL) hu ht hd h0 hc ⟨by omega, h2⟩ _ _ _ _ _ _ ⟨rfl, rfl, rfl, rfl, rfl, rfl⟩ hn
          · exact numA1 u d t w w (SL.start hL) hu ht hd h0 hc (by omega) _ _ _ _ _ _ ⟨rfl, rfl, rfl, rfl, rfl, rfl⟩ hn
      · exact numE u d t w w (SL.start hL) hu ht hd hc _ _ _ _ _ _ ⟨rfl, rfl, rfl, rfl, rfl, rfl⟩ hn
      · exact numC u d t w w (SL.start hL) hu ht hd hc _ _ _ _ _ _ ⟨rfl, rfl, rfl, rfl, rfl, rfl⟩ hn
  refine key.mono ?_
  rintro e w' ⟨rfl, h⟩
  exact ⟨rfl, h.2⟩
end Go.Proofs.YtfmoiknpadilaaaDoor
