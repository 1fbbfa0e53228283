/-
  What is proved here: contracts of the laws' helpers same, gives, fails and works; conditions: the tables that package lex and its library read hold what is laid; and: the contract of the law's helper works; conditions: the tables that package lex and its library read hold what is laid.
-/
import Derived.Test.YtodmlgbomhmbpaaGreatDoorLAllW
import Derived.Test.YtodmlgbomhmbpaaGreatDoorLRefNx
import Derived.Test.YtodmlgbomhmbpaaGreatDoorWorks
import Derived.Test.YtodmlgbomhmbpaaGreatDoorPlace
namespace Go.Proofs.YtodmlgbomhmbpaaGreatDoor
open Go.RowKit Ut Lx Go.Maps

/-- Between two calls of a law: what is laid holds, and of what was there nothing has turned. -/
def SL (w0 w : World) : Prop := LB w0.heap.size w ∧ Below w0.heap.size w0 w
theorem SL.start {w : World} (h : LB w.heap.size w) : SL w w := ⟨h, Below.refl _ _⟩
theorem SL.lb {w0 w : World} (h : SL w0 w) : LB w.heap.size w := h.1.here
theorem SL.step {w0 w w' : World} (h : SL w0 w) (hb : Below w.heap.size w w') : SL w0 w' := by
  have hb' := hb.mono h.2.size
  exact ⟨h.1.below hb', h.2.trans hb'⟩
def SE2 (w0 : World) (v : Value) (e : Ending) (w' : World) : Prop := e = .returned v ∧ SL w0 w'
def tB (t : TK) (k f tt : Nat) (N : Int) (U : Nat) (x : List UInt8) (e : Nat) : Bool := t.k == k && (t.f == f && (t.t == tt && (decide (t.N = N) && (t.U == U && (t.x == x && t.e == e)))))
theorem tB_eq {t : TK} {k f tt : Nat} {N : Int} {U : Nat} {x : List UInt8} {e : Nat} (h : tB t k f tt N U x e = true) : t = ⟨k, f, tt, N, U, x, e⟩ := by
  obtain ⟨a, b, c, d, g, i, j⟩ := t
  simp only [tB, Bool.and_eq_true, beq_iff_eq, decide_eq_true_eq] at h
  obtain ⟨h1, h2, h3, h4, h5, h6, h7⟩ := h
  subst h1; subst h2; subst h3; subst h4; subst h5; subst h6; subst h7
  rfl
theorem tokS : Tryz.prog.underlying 36 = some (.struct (Tryz.prog.fieldsOf 36)) := by kernel_rfl
theorem tokH : Tryz.prog.stoodInHeld 36 = false := by kernel_rfl
theorem tokG : Tryz.prog.eqGuardType Tryz.prog.depth 36 = false := by kernel_rfl
theorem eqTok (w : World) (a b c d e : Int) (y : ByteArray) : (binOp .eql 36 (.agg #[.int .i64 a, .int .i64 b, .int .i64 c, .int .i64 d, .int .u64 e, .string y]) (.agg #[.int .i64 a, .int .i64 b, .int .i64 c, .int .i64 d, .int .u64 e, .string y])).run Tryz.prog w = .ok (.bool true) w := by
  have u2 := Tryz.underlying2
  have a2 := Tryz.isAgg2
  have z2 := Tryz.sizeOf2
  have u3 := Tryz.underlying3
  have a3 := Tryz.isAgg3
  have z3 := Tryz.sizeOf3
  have u4 := Tryz.underlying34
  have a4 := Tryz.isAgg34
  have z4 := Tryz.sizeOf34
  have u5 := Tryz.underlying9
  have a5 := Tryz.isAgg9
  have z5 := Tryz.sizeOf9
  rw [run_eql_struct, show (10000 : Nat) = 9999 + 1 from rfl, run_equalIn_agg w 9999 36 _ _ tokS tokH]
  simp only [Program.fieldsOf, Tryz.underlying36]
  go_simp
set_option maxHeartbeats 1000000 in
set_option maxRecDepth 100000 in
theorem same_yes (k f t : Nat) (N : Int) (U : Nat) (y : ByteArray) (w : World) :
    Calls Tryz.prog 13 #[.agg #[.int .i64 k, .int .i64 f, .int .i64 t, .int .i64 N, .int .u64 U, .string y], .agg #[.int .i64 k, .int .i64 f, .int .i64 t, .int .i64 N, .int .u64 U, .string y]] w fun e w' => e = .returned (.bool true) ∧ Below w.heap.size w w' := by
  have h1 := Lib.hid (((Below.refl w.heap.size w).alloc (Nat.le_refl _) (.cells #[.int .i64 k, .int .i64 f, .int .i64 t, .int .i64 N, .int .u64 U, .string y] 36)).alloc (by simp) (.cells #[.int .i64 k, .int .i64 f, .int .i64 t, .int .i64 N, .int .u64 U, .string y] 39))
  go_enter Tryz.func13, Tryz.ntmps13
  go_wp2
  go_ret
  exact ⟨ret_bool (by simp), h1.out⟩
set_option maxHeartbeats 1000000 in
set_option maxRecDepth 100000 in
theorem gives_S {w0 w : World} (s : ByteArray) (k tk tf tt : Nat) (N : Int) (U : Nat) (x : List UInt8) (y : ByteArray) (h : tB (tok s.data.toList k) tk tf tt N U x 0 = true) (hy : str x = y) (hk : k ≤ s.size) (hs : s.size ≤ 60000) (hS : SL w0 w) :
    Calls Tryz.prog 24 #[.string s, .int .i64 k, .agg #[.int .i64 tk, .int .i64 tf, .int .i64 tt, .int .i64 N, .int .u64 U, .string y]] w (SE2 w0 (.bool true)) := by
  have ht := tB_eq h
  have HB0 := Lib.hid ((Below.refl w.heap.size w).alloc (Nat.le_refl _) (.cells #[.int .i64 tk, .int .i64 tf, .int .i64 tt, .int .i64 N, .int .u64 U, .string y] 36))
  have hL := (hS.lb.below HB0.out).here
  have HN := Lib.hid (show Calls Tryz.prog 11 #[.string s, .int .i64 k] (w.alloc (.cells #[.int .i64 tk, .int .i64 tf, .int .i64 tt, .int .i64 N, .int .u64 U, .string y] 36)) fun e w' => e = .returned (.tuple #[.agg #[.int .i64 tk, .int .i64 tf, .int .i64 tt, .int .i64 N, .int .u64 U, .string y], .int .i64 0]) ∧ Below (w.alloc (.cells #[.int .i64 tk, .int .i64 tf, .int .i64 tt, .int .i64 N, .int .u64 U, .string y] 36)).heap.size (w.alloc (.cells #[.int .i64 tk, .int .i64 tf, .int .i64 tt, .int .i64 N, .int .u64 U, .string y] 36)) w' by
    refine (Next_any s _ k _ rfl hk (by omega) (Or.inl (by omega)) hL).mono ?_
    rintro e w' ⟨rfl, hb⟩
    rw [ht]
    exact ⟨by rw [← hy]; rfl, hb⟩)
  have HS := Lib.hid hS
  have HE := Lib.hid (fun W => eqTok W tk tf tt N U y)
  have hG := tokG
  clear ht h hy hL hS
  go_enter Tryz.func24, Tryz.ntmps24
  go_wp2_with (go_at_call 11; (with_reducible refine HN.out.mono ?_); rintro e w1 ⟨rfl, hb1⟩; have HB1 := Lib.hid (HB0.out.trans (hb1.mono HB0.out.size)); obtain ⟨hc1, hf1⟩ := bcell hb1; have hz1 : w.heap.size < w1.heap.size := (by have := hb1.size; simp at this; omega); have he := HE.out (w1.alloc (.cells #[.int .i64 tk, .int .i64 tf, .int .i64 tt, .int .i64 N, .int .u64 U, .string y] 36)); clear hb1)
  go_ret
  exact ⟨ret_bool (by simp), HS.out.step (HB1.out.alloc HB1.out.size _)⟩
set_option maxHeartbeats 1000000 in
set_option maxRecDepth 100000 in
theorem fails_S {w0 w : World} (s : ByteArray) (k p x : Nat) (h : tB (tok s.data.toList k) 0 p p 0 0 [] x = true) (hk : k ≤ s.size) (hs : s.size ≤ 60000) (hS : SL w0 w) :
    Calls Tryz.prog 15 #[.string s, .int .i64 k, .int .i64 p, .int .i64 x] w (SE2 w0 (.bool true)) := by
  have HN := Lib.hid (show Calls Tryz.prog 11 #[.string s, .int .i64 k] w fun e w' => e = .returned (.tuple #[.agg #[.int .i64 0, .int .i64 p, .int .i64 p, .int .i64 0, .int .u64 0, .string ⟨#[]⟩], .int .i64 x]) ∧ Below w.heap.size w w' by
    refine (Next_any s _ k _ rfl hk (by omega) (Or.inl (by omega)) hS.lb).mono ?_
    rintro e w' ⟨rfl, hb⟩
    rw [tB_eq h]
    exact ⟨rfl, hb⟩)
  have HS := Lib.hid hS
  have HE := Lib.hid (fun W => eqTok W 0 p p 0 0 ⟨#[]⟩)
  have hG := tokG
  clear hS
  go_enter Tryz.func15, Tryz.ntmps15
  go_wp2_with (go_at_call 11; (with_reducible refine HN.out.mono ?_); rintro e w1 ⟨rfl, hb1⟩; have HB1 := Lib.hid hb1; have he := HE.out (w1.alloc (.cells #[.int .i64 0, .int .i64 p, .int .i64 p, .int .i64 0, .int .u64 0, .string ⟨#[]⟩] 36)); clear hb1)
  go_ret
  exact ⟨ret_bool (by simp), HS.out.step (HB1.out.alloc HB1.out.size _)⟩
set_option maxHeartbeats 1000000 in
set_option maxRecDepth 100000 in
theorem failsR_S {w0 w : World} (s : ByteArray) (k : Int) (hk : k < 0 ∨ (s.size : Int) < k) (hS : SL w0 w) :
    Calls Tryz.prog 15 #[.string s, .int .i64 k, .int .i64 0, .int .i64 6] w (SE2 w0 (.bool true)) := by
  have HN := Lib.hid (show Calls Tryz.prog 11 #[.string s, .int .i64 k] w fun e w' => e = .returned (.tuple #[.agg #[.int .i64 0, .int .i64 0, .int .i64 0, .int .i64 0, .int .u64 0, .string ⟨#[]⟩], .int .i64 6]) ∧ Below w.heap.size w w' by
    refine (Next_out s k w hk).mono ?_
    rintro e w' ⟨rfl, hb⟩
    exact ⟨rfl, hb⟩)
  have HS := Lib.hid hS
  have HE := Lib.hid (fun W => eqTok W 0 0 0 0 0 ⟨#[]⟩)
  have hG := tokG
  clear hS
  go_enter Tryz.func15, Tryz.ntmps15
  go_wp2_with (go_at_call 11; (with_reducible refine HN.out.mono ?_); rintro e w1 ⟨rfl, hb1⟩; have HB1 := Lib.hid hb1; have he := HE.out (w1.alloc (.cells #[.int .i64 0, .int .i64 0, .int .i64 0, .int .i64 0, .int .u64 0, .string ⟨#[]⟩] 36)); clear hb1)
  go_ret
  exact ⟨ret_bool (by simp), HS.out.step (HB1.out.alloc HB1.out.size _)⟩
/-- A slice that reads as tokens. -/
def RdT (w : World) (v : Value) (ts : List TK) : Prop :=
  ∃ A c, v = .slice A ts.length c ∧ (0 < ts.length → ∃ g, A = some ⟨g, 0, none⟩ ∧ g < w.heap.size ∧ ∀ j u, (tcs ts)[j]? = some u → w.cell? ⟨g, j, none⟩ = some u)
theorem add_zero_at (g j : Nat) : ((⟨g, 0, none⟩ : Addr).add j) = ⟨g, j, none⟩ := by
  unfold Addr.add
  by_cases h : j = 0 <;> simp [h]
theorem OwnT.rd {w : World} {B : Nat} {v : Value} {ts : List TK} (h : OwnT w B v ts) : RdT w v ts := by
  rcases h.2 with ⟨rfl, h0⟩ | ⟨g, cap, cur, rfl, hg, hh, r⟩
  · refine ⟨none, 0, by rw [h0], fun hp => by omega⟩
  · refine ⟨_, cap, rfl, fun hp => ⟨g, rfl, (h.lt g rfl).2, fun j u hu => ?_⟩⟩
    have := h.cells (g := g) rfl j u hu
    rwa [add_zero_at] at this
theorem RdT.below {w w' : World} {v : Value} {ts : List TK} {B : Nat} (h : RdT w v ts) (hb : Below B w w') (hB : w.heap.size ≤ B) : RdT w' v ts := by
  obtain ⟨A, c, rfl, hr⟩ := h
  refine ⟨A, c, rfl, fun hp => ?_⟩
  obtain ⟨g, rfl, hg, hc⟩ := hr hp
  exact ⟨g, rfl, by have := hb.size; omega, fun j u hu => (hb.cell (p := ⟨g, j, none⟩) (by show g < B; omega)).trans (hc j u hu)⟩
theorem all_S {w0 w : World} (s : ByteArray) (hs : s.size ≤ 60000) (hS : SL w0 w) :
    Calls Tryz.prog 7 #[.string s] w fun e w' => ∃ v, e = .returned (.tuple #[v, .int .i64 ((alls s.data.toList).2.1 : Nat), .int .i64 ((alls s.data.toList).2.2 : Nat)]) ∧ SL w0 w' ∧ RdT w' v (alls s.data.toList).1 ∧ Below w.heap.size w w' := by
  refine (All_any s _ w rfl (by omega) (Or.inl (by omega)) hS.lb).mono ?_
  rintro e w' ⟨v, rfl, hb, ho⟩
  exact ⟨v, rfl, hS.step hb, ho.rd, hb⟩
def t4 : List TK := [⟨3, 0, 1, 0, 0, [], 0⟩, ⟨10, 1, 2, 1, 0, [], 0⟩, ⟨5, 2, 3, 0, 0, [], 0⟩, ⟨4, 3, 4, 0, 0, [], 0⟩]
theorem tok_of {l : List UInt8} {k : Nat} (k1 f t : Nat) (N : Int) (U : Nat) (x : List UInt8) (e : Nat) (h : tB (tok l k) k1 f t N U x e = true) : tok l k = ⟨k1, f, t, N, U, x, e⟩ := tB_eq h
theorem alls4 : alls [91, 49, 44, 93] = (t4, 0, 0) := by
  have h0 : tok [91, 49, 44, 93] 0 = _ := tok_of 3 0 1 0 0 [] 0 (by decide +kernel)
  have h1 : tok [91, 49, 44, 93] 1 = _ := tok_of 10 1 2 1 0 [] 0 (by decide +kernel)
  have h2 : tok [91, 49, 44, 93] 2 = _ := tok_of 5 2 3 0 0 [] 0 (by decide +kernel)
  have h3 : tok [91, 49, 44, 93] 3 = _ := tok_of 4 3 4 0 0 [] 0 (by decide +kernel)
  have h4 : tok [91, 49, 44, 93] 4 = _ := tok_of 0 4 4 0 0 [] 0 (by decide +kernel)
  unfold alls
  rw [← pre_nil]
  show pre [] (toks [91, 49, 44, 93] (4 + 1) 0) = _
  rw [toks_step (by rw [h0]) (by rw [h0]; decide), h0]
  show pre _ (toks _ (3 + 1) 1) = _
  rw [toks_step (by rw [h1]) (by rw [h1]; decide), h1]
  show pre _ (toks _ (2 + 1) 2) = _
  rw [toks_step (by rw [h2]) (by rw [h2]; decide), h2]
  show pre _ (toks _ (1 + 1) 3) = _
  rw [toks_step (by rw [h3]) (by rw [h3]; decide), h3]
  show pre _ (toks _ (0 + 1) 4) = _
  rw [toks_end (by rw [h4]) (by rw [h4])]
  rfl
theorem all4_S {w0 w : World} (hS : SL w0 w) : Calls Tryz.prog 7 #[.string ⟨#[91, 49, 44, 93]⟩] w fun e w' => ∃ g c, e = .returned (.tuple #[.slice (some ⟨g, 0, none⟩) 4 c, .int .i64 0, .int .i64 0]) ∧ SL w0 w' ∧
    ∀ j u, (tcs t4)[j]? = some u → w'.cell? ⟨g, j, none⟩ = some u := by
  refine (all_S ⟨#[91, 49, 44, 93]⟩ (by decide) hS).mono ?_
  rintro e w' ⟨v, rfl, h1, h2, _⟩
  rw [show (⟨#[91, 49, 44, 93]⟩ : ByteArray).data.toList = [91, 49, 44, 93] from rfl, alls4] at h2 ⊢
  obtain ⟨A, c, rfl, hr⟩ := h2
  obtain ⟨g, rfl, _, hc⟩ := hr (by decide)
  exact ⟨g, c, rfl, h1, hc⟩
end Go.Proofs.YtodmlgbomhmbpaaGreatDoor
namespace Go.Proofs.YtodmlgbomhmbpaaGreatDoor
open Go.RowKit Ut Lx Go.Maps

set_option maxHeartbeats 4000000 in
set_option maxRecDepth 1000000 in
theorem works_S {w0 w : World} (hS : SL w0 w) : Calls Tryz.prog 9 #[] w (SE2 w0 (.bool true)) := by
  have G0 := Lib.hid (fun (W : World) (h : SL w0 W) => (show Calls Tryz.prog 24 #[.string ⟨#[32, 123, 34, 97, 34, 58, 49, 125]⟩, .int .i64 0, .agg #[.int .i64 1, .int .i64 1, .int .i64 2, .int .i64 0, .int .u64 0, .string ⟨#[]⟩]] W (SE2 w0 (.bool true)) from
    gives_S ⟨#[32, 123, 34, 97, 34, 58, 49, 125]⟩ 0 1 1 2 0 0 [] ⟨#[]⟩ (by decide +kernel) rfl (by decide) (by decide) h))
  have G1 := Lib.hid (fun (W : World) (h : SL w0 W) => (show Calls Tryz.prog 24 #[.string ⟨#[32, 123, 34, 97, 34, 58, 49, 125]⟩, .int .i64 2, .agg #[.int .i64 12, .int .i64 2, .int .i64 5, .int .i64 0, .int .u64 0, .string ⟨#[97]⟩]] W (SE2 w0 (.bool true)) from
    gives_S ⟨#[32, 123, 34, 97, 34, 58, 49, 125]⟩ 2 12 2 5 0 0 [97] ⟨#[97]⟩ (by decide +kernel) rfl (by decide) (by decide) h))
  have G2 := Lib.hid (fun (W : World) (h : SL w0 W) => (show Calls Tryz.prog 24 #[.string ⟨#[32, 123, 34, 97, 34, 58, 49, 125]⟩, .int .i64 5, .agg #[.int .i64 6, .int .i64 5, .int .i64 6, .int .i64 0, .int .u64 0, .string ⟨#[]⟩]] W (SE2 w0 (.bool true)) from
    gives_S ⟨#[32, 123, 34, 97, 34, 58, 49, 125]⟩ 5 6 5 6 0 0 [] ⟨#[]⟩ (by decide +kernel) rfl (by decide) (by decide) h))
  have G3 := Lib.hid (fun (W : World) (h : SL w0 W) => (show Calls Tryz.prog 24 #[.string ⟨#[32, 123, 34, 97, 34, 58, 49, 125]⟩, .int .i64 8, .agg #[.int .i64 0, .int .i64 8, .int .i64 8, .int .i64 0, .int .u64 0, .string ⟨#[]⟩]] W (SE2 w0 (.bool true)) from
    gives_S ⟨#[32, 123, 34, 97, 34, 58, 49, 125]⟩ 8 0 8 8 0 0 [] ⟨#[]⟩ (by decide +kernel) rfl (by decide) (by decide) h))
  have G4 := Lib.hid (fun (W : World) (h : SL w0 W) => (show Calls Tryz.prog 24 #[.string ⟨#[45, 49, 50, 32]⟩, .int .i64 0, .agg #[.int .i64 10, .int .i64 0, .int .i64 3, .int .i64 (-12), .int .u64 0, .string ⟨#[]⟩]] W (SE2 w0 (.bool true)) from
    gives_S ⟨#[45, 49, 50, 32]⟩ 0 10 0 3 (-12) 0 [] ⟨#[]⟩ (by decide +kernel) rfl (by decide) (by decide) h))
  have G5 := Lib.hid (fun (W : World) (h : SL w0 W) => (show Calls Tryz.prog 24 #[.string ⟨#[49, 56, 52, 52, 54, 55, 52, 52, 48, 55, 51, 55, 48, 57, 53, 53, 49, 54, 49, 53]⟩, .int .i64 0, .agg #[.int .i64 11, .int .i64 0, .int .i64 20, .int .i64 0, .int .u64 18446744073709551615, .string ⟨#[]⟩]] W (SE2 w0 (.bool true)) from
    gives_S ⟨#[49, 56, 52, 52, 54, 55, 52, 52, 48, 55, 51, 55, 48, 57, 53, 53, 49, 54, 49, 53]⟩ 0 11 0 20 0 18446744073709551615 [] ⟨#[]⟩ (by decide +kernel) rfl (by decide) (by decide) h))
  have G6 := Lib.hid (fun (W : World) (h : SL w0 W) => (show Calls Tryz.prog 24 #[.string ⟨#[45, 48]⟩, .int .i64 0, .agg #[.int .i64 10, .int .i64 0, .int .i64 2, .int .i64 0, .int .u64 0, .string ⟨#[]⟩]] W (SE2 w0 (.bool true)) from
    gives_S ⟨#[45, 48]⟩ 0 10 0 2 0 0 [] ⟨#[]⟩ (by decide +kernel) rfl (by decide) (by decide) h))
  have G7 := Lib.hid (fun (W : World) (h : SL w0 W) => (show Calls Tryz.prog 24 #[.string ⟨#[48, 49]⟩, .int .i64 0, .agg #[.int .i64 10, .int .i64 0, .int .i64 1, .int .i64 0, .int .u64 0, .string ⟨#[]⟩]] W (SE2 w0 (.bool true)) from
    gives_S ⟨#[48, 49]⟩ 0 10 0 1 0 0 [] ⟨#[]⟩ (by decide +kernel) rfl (by decide) (by decide) h))
  have F0 := Lib.hid (fun (W : World) (h : SL w0 W) => (show Calls Tryz.prog 15 #[.string ⟨#[116, 114, 117, 101]⟩, .int .i64 1, .int .i64 1, .int .i64 100] W (SE2 w0 (.bool true)) from
    fails_S ⟨#[116, 114, 117, 101]⟩ 1 1 100 (by decide +kernel) (by decide) (by decide) h))
  have F1 := Lib.hid (fun (W : World) (h : SL w0 W) => (show Calls Tryz.prog 15 #[.string ⟨#[49, 46, 53]⟩, .int .i64 0, .int .i64 0, .int .i64 101] W (SE2 w0 (.bool true)) from
    fails_S ⟨#[49, 46, 53]⟩ 0 0 101 (by decide +kernel) (by decide) (by decide) h))
  have F2 := Lib.hid (fun (W : World) (h : SL w0 W) => (show Calls Tryz.prog 15 #[.string ⟨#[49, 46]⟩, .int .i64 0, .int .i64 2, .int .i64 100] W (SE2 w0 (.bool true)) from
    fails_S ⟨#[49, 46]⟩ 0 2 100 (by decide +kernel) (by decide) (by decide) h))
  have F3 := Lib.hid (fun (W : World) (h : SL w0 W) => (show Calls Tryz.prog 15 #[.string ⟨#[49, 101]⟩, .int .i64 0, .int .i64 2, .int .i64 100] W (SE2 w0 (.bool true)) from
    fails_S ⟨#[49, 101]⟩ 0 2 100 (by decide +kernel) (by decide) (by decide) h))
  have F4 := Lib.hid (fun (W : World) (h : SL w0 W) => (show Calls Tryz.prog 15 #[.string ⟨#[45]⟩, .int .i64 0, .int .i64 1, .int .i64 100] W (SE2 w0 (.bool true)) from
    fails_S ⟨#[45]⟩ 0 1 100 (by decide +kernel) (by decide) (by decide) h))
  have F5 := Lib.hid (fun (W : World) (h : SL w0 W) => (show Calls Tryz.prog 15 #[.string ⟨#[49, 56, 52, 52, 54, 55, 52, 52, 48, 55, 51, 55, 48, 57, 53, 53, 49, 54, 49, 54]⟩, .int .i64 0, .int .i64 0, .int .i64 101] W (SE2 w0 (.bool true)) from
    fails_S ⟨#[49, 56, 52, 52, 54, 55, 52, 52, 48, 55, 51, 55, 48, 57, 53, 53, 49, 54, 49, 54]⟩ 0 0 101 (by decide +kernel) (by decide) (by decide) h))
  have F6 := Lib.hid (fun (W : World) (h : SL w0 W) => (show Calls Tryz.prog 15 #[.string ⟨#[110, 117, 108]⟩, .int .i64 0, .int .i64 3, .int .i64 100] W (SE2 w0 (.bool true)) from
    fails_S ⟨#[110, 117, 108]⟩ 0 3 100 (by decide +kernel) (by decide) (by decide) h))
  have F7 := Lib.hid (fun (W : World) (h : SL w0 W) => (show Calls Tryz.prog 15 #[.string ⟨#[110, 117, 108, 120]⟩, .int .i64 0, .int .i64 3, .int .i64 100] W (SE2 w0 (.bool true)) from
    fails_S ⟨#[110, 117, 108, 120]⟩ 0 3 100 (by decide +kernel) (by decide) (by decide) h))
  have F8 := Lib.hid (fun (W : World) (h : SL w0 W) => (show Calls Tryz.prog 15 #[.string ⟨#[34, 97]⟩, .int .i64 0, .int .i64 2, .int .i64 3] W (SE2 w0 (.bool true)) from
    fails_S ⟨#[34, 97]⟩ 0 2 3 (by decide +kernel) (by decide) (by decide) h))
  have F9 := Lib.hid (fun (W : World) (h : SL w0 W) => (show Calls Tryz.prog 15 #[.string ⟨#[97]⟩, .int .i64 0, .int .i64 0, .int .i64 100] W (SE2 w0 (.bool true)) from
    fails_S ⟨#[97]⟩ 0 0 100 (by decide +kernel) (by decide) (by decide) h))
  have F10 := Lib.hid (fun (W : World) (h : SL w0 W) => (show Calls Tryz.prog 15 #[.string ⟨#[97]⟩, .int .i64 2, .int .i64 0, .int .i64 6] W (SE2 w0 (.bool true)) from failsR_S ⟨#[97]⟩ 2 (Or.inr (by decide)) h))
  have A0 := Lib.hid (fun (W : World) (h : SL w0 W) => all4_S h)
  have HS0 := Lib.hid hS
  clear hS
  have hG := tokG
  go_enter Tryz.func9, Tryz.ntmps9
  go_wp2_with (first
    | (go_at_call 24; (with_reducible refine (G0.out _ HS0.out).mono ?_); rintro e w1 ⟨rfl, h1⟩; have HS1 := Lib.hid h1; clear h1 HS0; have HS0 := HS1; clear HS1)
    | (go_at_call 24; (with_reducible refine (G1.out _ HS0.out).mono ?_); rintro e w1 ⟨rfl, h1⟩; have HS1 := Lib.hid h1; clear h1 HS0; have HS0 := HS1; clear HS1)
    | (go_at_call 24; (with_reducible refine (G2.out _ HS0.out).mono ?_); rintro e w1 ⟨rfl, h1⟩; have HS1 := Lib.hid h1; clear h1 HS0; have HS0 := HS1; clear HS1)
    | (go_at_call 24; (with_reducible refine (G3.out _ HS0.out).mono ?_); rintro e w1 ⟨rfl, h1⟩; have HS1 := Lib.hid h1; clear h1 HS0; have HS0 := HS1; clear HS1)
    | (go_at_call 24; (with_reducible refine (G4.out _ HS0.out).mono ?_); rintro e w1 ⟨rfl, h1⟩; have HS1 := Lib.hid h1; clear h1 HS0; have HS0 := HS1; clear HS1)
    | (go_at_call 24; (with_reducible refine (G5.out _ HS0.out).mono ?_); rintro e w1 ⟨rfl, h1⟩; have HS1 := Lib.hid h1; clear h1 HS0; have HS0 := HS1; clear HS1)
    | (go_at_call 24; (with_reducible refine (G6.out _ HS0.out).mono ?_); rintro e w1 ⟨rfl, h1⟩; have HS1 := Lib.hid h1; clear h1 HS0; have HS0 := HS1; clear HS1)
    | (go_at_call 24; (with_reducible refine (G7.out _ HS0.out).mono ?_); rintro e w1 ⟨rfl, h1⟩; have HS1 := Lib.hid h1; clear h1 HS0; have HS0 := HS1; clear HS1)
    | (go_at_call 15; (with_reducible refine (F0.out _ HS0.out).mono ?_); rintro e w1 ⟨rfl, h1⟩; have HS1 := Lib.hid h1; clear h1 HS0; have HS0 := HS1; clear HS1)
    | (go_at_call 15; (with_reducible refine (F1.out _ HS0.out).mono ?_); rintro e w1 ⟨rfl, h1⟩; have HS1 := Lib.hid h1; clear h1 HS0; have HS0 := HS1; clear HS1)
    | (go_at_call 15; (with_reducible refine (F2.out _ HS0.out).mono ?_); rintro e w1 ⟨rfl, h1⟩; have HS1 := Lib.hid h1; clear h1 HS0; have HS0 := HS1; clear HS1)
    | (go_at_call 15; (with_reducible refine (F3.out _ HS0.out).mono ?_); rintro e w1 ⟨rfl, h1⟩; have HS1 := Lib.hid h1; clear h1 HS0; have HS0 := HS1; clear HS1)
    | (go_at_call 15; (with_reducible refine (F4.out _ HS0.out).mono ?_); rintro e w1 ⟨rfl, h1⟩; have HS1 := Lib.hid h1; clear h1 HS0; have HS0 := HS1; clear HS1)
    | (go_at_call 15; (with_reducible refine (F5.out _ HS0.out).mono ?_); rintro e w1 ⟨rfl, h1⟩; have HS1 := Lib.hid h1; clear h1 HS0; have HS0 := HS1; clear HS1)
    | (go_at_call 15; (with_reducible refine (F6.out _ HS0.out).mono ?_); rintro e w1 ⟨rfl, h1⟩; have HS1 := Lib.hid h1; clear h1 HS0; have HS0 := HS1; clear HS1)
    | (go_at_call 15; (with_reducible refine (F7.out _ HS0.out).mono ?_); rintro e w1 ⟨rfl, h1⟩; have HS1 := Lib.hid h1; clear h1 HS0; have HS0 := HS1; clear HS1)
    | (go_at_call 15; (with_reducible refine (F8.out _ HS0.out).mono ?_); rintro e w1 ⟨rfl, h1⟩; have HS1 := Lib.hid h1; clear h1 HS0; have HS0 := HS1; clear HS1)
    | (go_at_call 15; (with_reducible refine (F9.out _ HS0.out).mono ?_); rintro e w1 ⟨rfl, h1⟩; have HS1 := Lib.hid h1; clear h1 HS0; have HS0 := HS1; clear HS1)
    | (go_at_call 15; (with_reducible refine (F10.out _ HS0.out).mono ?_); rintro e w1 ⟨rfl, h1⟩; have HS1 := Lib.hid h1; clear h1 HS0; have HS0 := HS1; clear HS1)
    | (go_at_call 7; (with_reducible refine (A0.out _ HS0.out).mono ?_); rintro e w1 ⟨g, c, rfl, h1, hcl⟩; have HS1 := Lib.hid h1; have c0 : w1.cell? ⟨g, 0, none⟩ = some (.int .i64 3) := hcl 0 _ rfl; have c6 : w1.cell? ⟨g, 6, none⟩ = some (.int .i64 10) := hcl 6 _ rfl; have c7 : w1.cell? ⟨g, 7, none⟩ = some (.int .i64 1) := hcl 7 _ rfl; have c8 : w1.cell? ⟨g, 8, none⟩ = some (.int .i64 2) := hcl 8 _ rfl; have c9 : w1.cell? ⟨g, 9, none⟩ = some (.int .i64 1) := hcl 9 _ rfl; have c10 : w1.cell? ⟨g, 10, none⟩ = some (.int .u64 0) := hcl 10 _ rfl; have c11 : w1.cell? ⟨g, 11, none⟩ = some (.string ⟨#[]⟩) := hcl 11 _ rfl; have c12 : w1.cell? ⟨g, 12, none⟩ = some (.int .i64 5) := hcl 12 _ rfl; have c18 : w1.cell? ⟨g, 18, none⟩ = some (.int .i64 4) := hcl 18 _ rfl; have he := eqTok w1 10 1 2 1 0 ⟨#[]⟩; clear hcl h1 HS0; have HS0 := HS1; clear HS1))
  go_ret
  exact ⟨ret_bool (by simp), HS0.out⟩
end Go.Proofs.YtodmlgbomhmbpaaGreatDoor
