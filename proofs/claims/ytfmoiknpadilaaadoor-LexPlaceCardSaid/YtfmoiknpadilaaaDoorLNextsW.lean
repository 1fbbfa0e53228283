/-
  What is proved here: the walk of accordionlaw10.LexNexts; condition: the tables that package lex and its library read hold what is laid.
-/
import Derived.Test.YtfmoiknpadilaaaDoorLWorksW
namespace Go.Proofs.YtfmoiknpadilaaaDoor
open Go.RowKit Ut Lx Go.Maps

/-- Both Nexts answer one and the same. -/
def TV (k f t : Nat) (N : Int) (U : Nat) (y : ByteArray) (e : Nat) : Value := .tuple #[.agg #[.int .i64 k, .int .i64 f, .int .i64 t, .int .i64 N, .int .u64 U, .string y], .int .i64 e]
theorem both (s : ByteArray) (at_ : Int) (hs : s.size ≤ 60000) : ∃ (k f t : Nat) (N : Int) (U : Nat) (y : ByteArray) (e : Nat),
    (∀ w0 W, SL w0 W → Calls Tryd.prog 10 #[.string s, .int .i64 at_] W fun x w' => x = .returned (TV k f t N U y e) ∧ SL w0 w' ∧ Below W.heap.size W w') ∧
    (∀ w0 W, SL w0 W → Calls Tryd.prog 11 #[.string s, .int .i64 at_] W fun x w' => x = .returned (TV k f t N U y e) ∧ SL w0 w' ∧ Below W.heap.size W w') := by
  by_cases h : 0 ≤ at_ ∧ at_ ≤ s.size
  · obtain ⟨k, rfl⟩ : ∃ k : Nat, at_ = (k : Int) := ⟨at_.toNat, by omega⟩
    have hk : k ≤ s.size := by omega
    refine ⟨(tok s.data.toList k).k, (tok s.data.toList k).f, (tok s.data.toList k).t, (tok s.data.toList k).N, (tok s.data.toList k).U, str (tok s.data.toList k).x, (tok s.data.toList k).e, fun w0 W hS => ?_, fun w0 W hS => ?_⟩
    · refine (Next_any s _ k W rfl hk (by omega) (Or.inl (by omega)) hS.lb).mono ?_
      rintro x w' ⟨rfl, hb⟩
      exact ⟨rfl, hS.step hb, hb⟩
    · refine (refNextT_any s _ k W rfl hk (by omega) (Or.inl (by omega))).mono ?_
      rintro x w' ⟨rfl, hb⟩
      exact ⟨rfl, hS.step hb, hb⟩
  · have h' : at_ < 0 ∨ (s.size : Int) < at_ := by omega
    refine ⟨0, 0, 0, 0, 0, ⟨#[]⟩, 6, fun w0 W hS => ?_, fun w0 W hS => ?_⟩
    · refine (Next_out s at_ W h').mono ?_
      rintro x w' ⟨rfl, hb⟩
      exact ⟨rfl, hS.step hb, hb⟩
    · refine (refNextT_out s at_ W h').mono ?_
      rintro x w' ⟨rfl, hb⟩
      exact ⟨rfl, hS.step hb, hb⟩
theorem same_S {w0 w : World} (k f t : Nat) (N : Int) (U : Nat) (y : ByteArray) (hS : SL w0 w) :
    Calls Tryd.prog 12 #[.agg #[.int .i64 k, .int .i64 f, .int .i64 t, .int .i64 N, .int .u64 U, .string y], .agg #[.int .i64 k, .int .i64 f, .int .i64 t, .int .i64 N, .int .u64 U, .string y]] w fun e w' => e = .returned (.bool true) ∧ SL w0 w' ∧ Below w.heap.size w w' := by
  refine (same_yes k f t N U y w).mono ?_
  rintro e w' ⟨rfl, hb⟩
  exact ⟨rfl, hS.step hb, hb⟩
set_option maxHeartbeats 2000000 in
set_option maxRecDepth 100000 in
theorem lexNexts_S (a : ByteArray) (at_ : Int) (w0 w : World) (hS : SL w0 w) (ha : a.size ≤ 9223372036854775807) :
    Calls Tryd.prog 3 #[.string a, .int .i64 at_] w (SE2 w0 (.bool true)) := by
  obtain ⟨s, hs⟩ : ∃ s, str (a.data.toList.take 600) = s := ⟨_, rfl⟩
  have hsz : s.size ≤ 60000 := by rw [← hs, str_size, List.length_take]; omega
  have C := short_any a 600 w ha
  rw [hs] at C
  have HC := Lib.hid (show Calls Tryd.prog 9 #[.string a, .int .i64 600] w fun e w' => e = .returned (.string s) ∧ w = w' from C)
  obtain ⟨k, f, t, N, U, y, e, B1, B2⟩ := both s at_ hsz
  have H1 := Lib.hid (fun W (h : SL w0 W) => (show Calls Tryd.prog 10 #[.string s, .int .i64 at_] W fun x w' => x = .returned (.tuple #[.agg #[.int .i64 k, .int .i64 f, .int .i64 t, .int .i64 N, .int .u64 U, .string y], .int .i64 e]) ∧ SL w0 w' ∧ Below W.heap.size W w' from B1 w0 W h))
  have H2 := Lib.hid (fun W (h : SL w0 W) => (show Calls Tryd.prog 11 #[.string s, .int .i64 at_] W fun x w' => x = .returned (.tuple #[.agg #[.int .i64 k, .int .i64 f, .int .i64 t, .int .i64 N, .int .u64 U, .string y], .int .i64 e]) ∧ SL w0 w' ∧ Below W.heap.size W w' from B2 w0 W h))
  have H3 := Lib.hid (fun W (h : SL w0 W) => same_S k f t N U y h)
  have HW := Lib.hid (fun W (h : SL w0 W) => works_S h)
  have HS := Lib.hid hS
  clear C B1 B2 hs hS
  go_enter Tryd.func3, Tryd.ntmps3
  go_wp2_with (first
    | (go_at_call 9; (with_reducible refine HC.out.mono ?_); rintro x w1 ⟨rfl, rfl⟩)
    | (go_at_call 10; (with_reducible refine (H1.out _ HS.out).mono ?_); rintro x w1 ⟨rfl, h1, hb1⟩; have HS1 := Lib.hid (h1.step ((Below.refl _ _).alloc (Nat.le_refl _) (.cells #[.int .i64 k, .int .i64 f, .int .i64 t, .int .i64 N, .int .u64 U, .string y] 25))); clear h1 hb1)
    | (go_at_call 11; (with_reducible refine (H2.out _ HS1.out).mono ?_); rintro x w2 ⟨rfl, h2, hb2⟩; have HS2 := Lib.hid (h2.step ((Below.refl _ _).alloc (Nat.le_refl _) (.cells #[.int .i64 k, .int .i64 f, .int .i64 t, .int .i64 N, .int .u64 U, .string y] 29))); obtain ⟨hc2, hf2⟩ := bcell hb2; have hz2 : w1.heap.size < w2.heap.size := (by have := hb2.size; simp at this; omega); clear h2 hb2)
    | (go_at_call 12; (with_reducible refine (H3.out _ HS2.out).mono ?_); rintro x w3 ⟨rfl, h3, hb3⟩; have HS3 := Lib.hid h3; clear h3 hb3)
    | (go_at_call 13; (with_reducible refine (HW.out _ HS3.out).mono ?_); rintro x w4 ⟨rfl, h4⟩; have HS4 := Lib.hid h4; clear h4))
  go_ret
  exact ⟨ret_bool (by simp), HS4.out⟩
theorem lexNexts_walk (a : ByteArray) (at_ : Int) (w : World) (hL : LB w.heap.size w) (ha : a.size ≤ 9223372036854775807) :
    Calls Tryd.prog 3 #[.string a, .int .i64 at_] w fun e w' => e = .returned (.bool true) ∧ Below w.heap.size w w' := by
  refine (lexNexts_S a at_ w w (SL.start hL) ha).mono ?_
  rintro e w' ⟨rfl, h⟩
  exact ⟨rfl, h.2⟩
end Go.Proofs.YtfmoiknpadilaaaDoor
