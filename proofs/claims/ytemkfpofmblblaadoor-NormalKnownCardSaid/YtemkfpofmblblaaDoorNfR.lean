/-
  What is proved here: contracts of normal.ofNumber and of the four function literals of normal.rules; conditions: the numbers are in range; and: normal.rules makes a map from ten kinds to four function literals; what a look-up in it answers; no condition.
-/
import Derived.Test.YtemkfpofmblblaaDoorMake
import Derived.Maps.Own
import Derived.Maps.OwnSet
import Derived.Maps.OwnOps
namespace Go.Proofs.YtemkfpofmblblaaDoor
open Go.RowKit

theorem as_ii (n : Int) (W : World) : (Instr.typeAssert (.iface 2 (.int .i64 n)) 20 2 true).run Tryd.prog W = .ok (.tuple #[.int .i64 n, .bool true]) W := by kernel_rfl
theorem as_ui (n : Int) (W : World) : (Instr.typeAssert (.iface 22 (.int .u64 n)) 20 2 true).run Tryd.prog W = .ok (.tuple #[.int .i64 0, .bool false]) W := by kernel_rfl
theorem as_uu (n : Int) (W : World) : (Instr.typeAssert (.iface 22 (.int .u64 n)) 20 22 true).run Tryd.prog W = .ok (.tuple #[.int .u64 n, .bool true]) W := by kernel_rfl

theorem ofI_any (n : Int) (w : World) : Calls Tryd.prog 34 #[.iface 2 (.int .i64 n)] w fun e w' => e = .returned (.agg #[.int .i64 3, .int .i64 n, .int .u64 0, .string ⟨#[]⟩, .slice none 0 0, .slice none 0 0]) ∧ Below w.heap.size w w' := by
  have h1 := fun W => as_ii n W
  go_enter Tryd.func34, Tryd.ntmps34
  go_wp2_with fail
  refine ret_six (p := 2) (g := w.heap.size) rfl rfl (Blk.new _ _ _) rfl ⟨rfl, (Below.refl _ _).alloc (Nat.le_refl _) _⟩

theorem ofU_lo (n : Int) (w : World) (h0 : 0 ≤ n) (h : n ≤ 9223372036854775807) : Calls Tryd.prog 34 #[.iface 22 (.int .u64 n)] w fun e w' => e = .returned (.agg #[.int .i64 3, .int .i64 n, .int .u64 0, .string ⟨#[]⟩, .slice none 0 0, .slice none 0 0]) ∧ Below w.heap.size w w' := by
  have h1 := fun W => as_ui n W
  have h2 := fun W => as_uu n W
  have h3 : ¬ (9223372036854775807 : Int) < n := by omega
  have h4 : IntKind.i64.wrap n = n := by simp [IntKind.wrap, IntKind.bits, IntKind.signed]; omega
  clear h0 h
  go_enter Tryd.func34, Tryd.ntmps34
  go_wp2_with fail
  refine ret_six (p := 2) (g := w.heap.size) rfl rfl (Blk.new _ _ _) rfl ⟨rfl, (Below.refl _ _).alloc (Nat.le_refl _) _⟩
theorem ofU_hi (n : Int) (w : World) (h : ¬ n ≤ 9223372036854775807) : Calls Tryd.prog 34 #[.iface 22 (.int .u64 n)] w fun e w' => e = .returned (.agg #[.int .i64 4, .int .i64 0, .int .u64 n, .string ⟨#[]⟩, .slice none 0 0, .slice none 0 0]) ∧ Below w.heap.size w w' := by
  have h1 := fun W => as_ui n W
  have h2 := fun W => as_uu n W
  have h3 : (9223372036854775807 : Int) < n := by omega
  clear h
  go_enter Tryd.func34, Tryd.ntmps34
  go_wp2_with fail
  refine ret_six (p := 2) (g := w.heap.size) rfl rfl (Blk.new _ _ _) rfl ⟨rfl, (Below.refl _ _).alloc (Nat.le_refl _) _⟩

def bxv (k n u : Int) (s : ByteArray) (v4 v5 : Value) : Array Value := #[.int .i64 k, .int .i64 n, .int .u64 u, .string s, v4, v5]
theorem two_allocs (w : World) (a b : Array Value) : Below w.heap.size w ((w.alloc (.cells a 27)).alloc (.cells b 27)) := ((Below.refl _ _).alloc (Nat.le_refl _) _).alloc (by simp) _
theorem blk_two (w : World) (a b : Array Value) : Blk ((w.alloc (.cells a 27)).alloc (.cells b 27)) (w.heap.size + 1) 27 b := by
  have := Blk.new (w.alloc (.cells a 27)) 27 b
  rwa [World.size_alloc] at this
theorem ruleT_any (k n u : Int) (s : ByteArray) (A1 : Option Addr) (m1 c1 : Nat) (A2 : Option Addr) (m2 c2 : Nat) (w : World) : Calls Tryd.prog 36 #[.agg #[.int .i64 k, .int .i64 n, .int .u64 u, .string s, .slice A1 m1 c1, .slice A2 m2 c2]] w fun e w' =>
    e = .returned (.agg #[.int .i64 6, .int .i64 0, .int .u64 0, .string s, .slice none 0 0, .slice none 0 0]) ∧ Below w.heap.size w w' := by
  go_enter Tryd.func36, Tryd.ntmps36
  go_wp2_with fail
  refine ret_six (p := 2) (g := w.heap.size + 1) rfl rfl (blk_two _ _ _) rfl ⟨rfl, two_allocs _ _ _⟩
theorem ruleV_any (k n u : Int) (s : ByteArray) (A1 : Option Addr) (m1 c1 : Nat) (A2 : Option Addr) (m2 c2 : Nat) (w : World) : Calls Tryd.prog 37 #[.agg #[.int .i64 k, .int .i64 n, .int .u64 u, .string s, .slice A1 m1 c1, .slice A2 m2 c2]] w fun e w' =>
    e = .returned (.agg #[.int .i64 10, .int .i64 0, .int .u64 0, .string ⟨#[]⟩, .slice none 0 0, .slice A2 m2 c2]) ∧ Below w.heap.size w w' := by
  go_enter Tryd.func37, Tryd.ntmps37
  go_wp2_with fail
  refine ret_six (p := 2) (g := w.heap.size + 1) rfl rfl (blk_two _ _ _) rfl ⟨rfl, two_allocs _ _ _⟩
theorem ruleI_any (k n u : Int) (s : ByteArray) (A1 : Option Addr) (m1 c1 : Nat) (A2 : Option Addr) (m2 c2 : Nat) (w : World) : Calls Tryd.prog 33 #[.agg #[.int .i64 k, .int .i64 n, .int .u64 u, .string s, .slice A1 m1 c1, .slice A2 m2 c2]] w fun e w' =>
    e = .returned (.agg #[.int .i64 3, .int .i64 n, .int .u64 0, .string ⟨#[]⟩, .slice none 0 0, .slice none 0 0]) ∧ Below w.heap.size w w' := by
  have HB := Lib.hid (two_allocs w #[.int .i64 k, .int .i64 n, .int .u64 u, .string s, .slice A1 m1 c1, .slice A2 m2 c2] #[.int .i64 0, .int .i64 0, .int .u64 0, .string ⟨#[]⟩, .slice none 0 0, .slice none 0 0])
  have HX := Lib.hid (blk_two w #[.int .i64 k, .int .i64 n, .int .u64 u, .string s, .slice A1 m1 c1, .slice A2 m2 c2] #[.int .i64 0, .int .i64 0, .int .u64 0, .string ⟨#[]⟩, .slice none 0 0, .slice none 0 0])
  go_enter Tryd.func33, Tryd.ntmps33
  go_wp2_with (go_at_call 34; refine (ofI_any n _).mono ?_; rintro e w2 ⟨rfl, hb2⟩; have HX2 := Lib.hid (Blk.below HX.out hb2 (Blk.lt HX.out)); have HB2 := Lib.hid (HB.out.trans (hb2.mono HB.out.size)); clear hb2; obtain ⟨⟨z0, z1, z2, z3, z4, z5⟩, y0, y1, y2, y3, y4, y5⟩ := Bx.both HX2.out)
  refine ret_six (p := 2) (g := w.heap.size + 1) rfl rfl (Bx.put6 HX2.out _ _ _ _ _ _) rfl ⟨rfl, put6_below HB2.out _ _ _ _ _ _ _ _ (by omega)⟩
theorem ruleU_lo (k n u : Int) (s : ByteArray) (A1 : Option Addr) (m1 c1 : Nat) (A2 : Option Addr) (m2 c2 : Nat) (w : World) (h0 : 0 ≤ u) (hu : u ≤ 9223372036854775807) : Calls Tryd.prog 35 #[.agg #[.int .i64 k, .int .i64 n, .int .u64 u, .string s, .slice A1 m1 c1, .slice A2 m2 c2]] w fun e w' =>
    e = .returned (.agg #[.int .i64 3, .int .i64 u, .int .u64 0, .string ⟨#[]⟩, .slice none 0 0, .slice none 0 0]) ∧ Below w.heap.size w w' := by
  have HB := Lib.hid (two_allocs w #[.int .i64 k, .int .i64 n, .int .u64 u, .string s, .slice A1 m1 c1, .slice A2 m2 c2] #[.int .i64 0, .int .i64 0, .int .u64 0, .string ⟨#[]⟩, .slice none 0 0, .slice none 0 0])
  have HX := Lib.hid (blk_two w #[.int .i64 k, .int .i64 n, .int .u64 u, .string s, .slice A1 m1 c1, .slice A2 m2 c2] #[.int .i64 0, .int .i64 0, .int .u64 0, .string ⟨#[]⟩, .slice none 0 0, .slice none 0 0])
  have HC := Lib.hid (fun W => ofU_lo u W h0 hu)
  clear h0 hu
  go_enter Tryd.func35, Tryd.ntmps35
  go_wp2_with (go_at_call 34; refine (HC.out _).mono ?_; rintro e w2 ⟨rfl, hb2⟩; have HX2 := Lib.hid (Blk.below HX.out hb2 (Blk.lt HX.out)); have HB2 := Lib.hid (HB.out.trans (hb2.mono HB.out.size)); clear hb2; obtain ⟨⟨z0, z1, z2, z3, z4, z5⟩, y0, y1, y2, y3, y4, y5⟩ := Bx.both HX2.out)
  refine ret_six (p := 2) (g := w.heap.size + 1) rfl rfl (Bx.put6 HX2.out _ _ _ _ _ _) rfl ⟨rfl, put6_below HB2.out _ _ _ _ _ _ _ _ (by omega)⟩
theorem ruleU_hi (k n u : Int) (s : ByteArray) (A1 : Option Addr) (m1 c1 : Nat) (A2 : Option Addr) (m2 c2 : Nat) (w : World) (hu : ¬ u ≤ 9223372036854775807) : Calls Tryd.prog 35 #[.agg #[.int .i64 k, .int .i64 n, .int .u64 u, .string s, .slice A1 m1 c1, .slice A2 m2 c2]] w fun e w' =>
    e = .returned (.agg #[.int .i64 4, .int .i64 0, .int .u64 u, .string ⟨#[]⟩, .slice none 0 0, .slice none 0 0]) ∧ Below w.heap.size w w' := by
  have HB := Lib.hid (two_allocs w #[.int .i64 k, .int .i64 n, .int .u64 u, .string s, .slice A1 m1 c1, .slice A2 m2 c2] #[.int .i64 0, .int .i64 0, .int .u64 0, .string ⟨#[]⟩, .slice none 0 0, .slice none 0 0])
  have HX := Lib.hid (blk_two w #[.int .i64 k, .int .i64 n, .int .u64 u, .string s, .slice A1 m1 c1, .slice A2 m2 c2] #[.int .i64 0, .int .i64 0, .int .u64 0, .string ⟨#[]⟩, .slice none 0 0, .slice none 0 0])
  have HC := Lib.hid (fun W => ofU_hi u W hu)
  clear hu
  go_enter Tryd.func35, Tryd.ntmps35
  go_wp2_with (go_at_call 34; refine (HC.out _).mono ?_; rintro e w2 ⟨rfl, hb2⟩; have HX2 := Lib.hid (Blk.below HX.out hb2 (Blk.lt HX.out)); have HB2 := Lib.hid (HB.out.trans (hb2.mono HB.out.size)); clear hb2; obtain ⟨⟨z0, z1, z2, z3, z4, z5⟩, y0, y1, y2, y3, y4, y5⟩ := Bx.both HX2.out)
  refine ret_six (p := 2) (g := w.heap.size + 1) rfl rfl (Bx.put6 HX2.out _ _ _ _ _ _) rfl ⟨rfl, put6_below HB2.out _ _ _ _ _ _ _ _ (by omega)⟩
end Go.Proofs.YtemkfpofmblblaaDoor
namespace Go.Proofs.YtemkfpofmblblaaDoor
open Go.RowKit Go.Maps

/-- A function literal without captured variables reads as its number. -/
noncomputable def elF (v : Value) : Option (DataW Unit × List MemPlace) :=
  match v with
  | .func (.func n) a b => if a.size = 0 ∧ b.size = 0 then some (.lit (.int .i64 (n : Int)), []) else none
  | .nilFunc => some (.lit (.int .i64 (-1)), [])
  | _ => none
theorem elF_lit (n : Nat) : elF (.func (.func n) #[] #[]) = some (.lit (.int .i64 (n : Int)), []) := by simp [elF]
theorem elF_nil : elF .nilFunc = some (.lit (.int .i64 (-1)), []) := rfl
theorem elF_inv {v : Value} {z : Int} {ps : List MemPlace} (h : elF v = some (.lit (.int .i64 z), ps)) : (z = -1 ∧ v = .nilFunc) ∨ ∃ n : Nat, z = (n : Int) ∧ v = .func (.func n) #[] #[] := by
  unfold elF at h
  split at h
  · rename_i n a b
    split at h
    · rename_i hs
      obtain ⟨ha, hb⟩ := hs
      simp only [Option.some.injEq, Prod.mk.injEq, DataW.lit.injEq, Lit.int.injEq, true_and] at h
      exact .inr ⟨n, h.1.symm, by rw [Array.eq_empty_of_size_eq_zero ha, Array.eq_empty_of_size_eq_zero hb]⟩
    · cases h
  · simp only [Option.some.injEq, Prod.mk.injEq, DataW.lit.injEq, Lit.int.injEq, true_and] at h
    exact .inl ⟨h.1.symm, rfl⟩
  · cases h
/-- What a list of entries, the newest first, says of a key. -/
def lk : List (Int × Nat) → Int → Option Nat
  | [], _ => none
  | p :: ps, k => if k = p.1 then some p.2 else lk ps k
structure Ct (D : DataW Unit) (ps : List (Int × Nat)) : Prop where
  isMap : IsMap D
  get : ∀ k, Maps.has D (.int .i64 k) = (lk ps k).isSome ∧ ∀ f, lk ps k = some f → ∀ z, D.atKey (.int .i64 k) z = .lit (.int .i64 (f : Int))
theorem Ct.nil : Ct (.map []) [] := ⟨isMap_empty, fun _ => ⟨rfl, fun _ h => by cases h⟩⟩
theorem Ct.put {D : DataW Unit} {ps : List (Int × Nat)} (h : Ct D ps) (p : Int × Nat) : Ct (D.put (.int .i64 p.1) (.lit (.int .i64 (p.2 : Int)))) (p :: ps) := by
  refine ⟨h.isMap.put _ _, fun k => ?_⟩
  unfold lk
  by_cases hk : k = p.1
  · subst hk
    rw [if_pos rfl]
    refine ⟨has_put_same h.isMap (by simp [WideAt.IsKeyLit]) _, fun f hf z => ?_⟩
    cases hf
    exact atKey_put_same h.isMap (by simp [WideAt.IsKeyLit]) _ _
  · rw [if_neg hk]
    have hne : (Lit.int .i64 k) ≠ .int .i64 p.1 := fun e => hk (by simpa using e)
    rw [has_put_other hne]
    refine ⟨(h.get k).1, fun f hf z => ?_⟩
    rw [atKey_put_other hne]
    exact (h.get k).2 f hf z
def rulesL : List (Int × Nat) := [(16, 37), (15, 37), (14, 37), (13, 37), (12, 37), (11, 37), (5, 36), (8, 33), (9, 35), (4, 35)]
theorem keyI : Keyed Tryd.prog 3 := int_keyed Tryd.underlying3
theorem underR : Tryd.prog.underlying 43 = some (.map 3 50) := Tryd.underlying43
theorem zeroR (w : World) : (zeroValue 50).run Tryd.prog w = .ok .nilFunc w := by kernel_rfl
/-- 'm[k] = v' in a literal. -/
theorem wpList_insert_own {H : Type} {P : Program} (w : World) {ops : Array Oper} {rest : List Oper} {o : Oper} {a : Act} {Q : Exit → Act → World → Prop}
    (hg : o.guard = none) (m x v : Operand) (t : TypeId) (hop : o.op = Op.insert t m x v)
    (k e : TypeId) (K : Keyed P k) (ht : P.underlying t = some (.map k e)) (R : Value → Option (DataW H × List MemPlace)) (b n : Nat) (D : DataW H)
    (hm : a.eval m = .map (some b)) (hown : w.ownsMap P k R b n D) (hn : n < maxLen) (key val : Value) (kl : Lit) (hx : a.eval x = key) (hv : a.eval v = val) (hkey : keyOf P k key = some kl)
    (d : DataW H) (ps : List MemPlace) (hval : R val = some (d, ps))
    (hK : ∀ w', w'.ownsMap P k R b (n + 1) (D.put kl d) → w.grownBy w' (some b) → wpList P ops Q rest (a.put o.dst undef) w') :
    wpList P ops Q (o :: rest) a w := by
  refine wpList_plain hg fun K' hK' => ?_
  obtain ⟨w', hrun, r1, r2⟩ := hown.update K ht hn hkey hval
  unfold Oper.wp
  simp [execOp, hop, hm, hx, hv, hrun, Result.andThen]
  exact hK' _ _ (hK w' r1 r2)

set_option maxRecDepth 100000 in
set_option maxHeartbeats 4000000 in
theorem rules_any (w : World) : Calls Tryd.prog 24 #[] w fun e w' => ∃ (b n : Nat) (D : DataW Unit), e = .returned (.map (some b)) ∧ w.heap.size ≤ b ∧ Below w.heap.size w w' ∧ w'.ownsMap Tryd.prog 3 elF b n D ∧ Ct D rulesL := by
  have hmm := @run_makeMap Tryd.prog
  have HM : (w.alloc (.map #[] 0)).ownsMap Tryd.prog 3 elF w.heap.size 0 (.map []) := World.ownsMap_made w Tryd.prog 3 elF
  have HB : Hid (Below w.heap.size w (w.alloc (.map #[] 0))) := Lib.hid ((Below.refl _ _).alloc (Nat.le_refl _) _)
  go_enter Tryd.func24, Tryd.ntmps24
  go_wp2_with (first
    | (refine wpList_insert_own _ rfl _ _ _ 43 rfl 3 50 keyI underR elF w.heap.size _ _ rfl (by assumption) (by unfold maxLen; omega) _ _ _ rfl rfl (keyOf_int_mk Tryd.underlying3 rfl) _ [] (elF_lit _) ?_; intro w1 hown1 hgrow1; have HB1 := Lib.hid (HB.out.grown hgrow1 HB.out.size (fun k e => by cases e; omega)); clear HB; have HB := HB1; clear HB1))
  go_ret
  refine ⟨w.heap.size, _, _, rfl, Nat.le_refl _, HB.out, hown1, ?_⟩
  exact (((((((((Ct.nil.put (4, 35)).put (9, 35)).put (8, 33)).put (5, 36)).put (11, 37)).put (12, 37)).put (13, 37)).put (14, 37)).put (15, 37)).put (16, 37)
end Go.Proofs.YtemkfpofmblblaaDoor
