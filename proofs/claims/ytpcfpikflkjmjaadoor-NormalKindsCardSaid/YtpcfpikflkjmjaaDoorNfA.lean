/-
  What is proved here: contracts of normal.ofNumber and of the four function literals of normal.rules; conditions: the numbers are in range.
-/
import Derived.Test.YtpcfpikflkjmjaaDoorMake
namespace Go.Proofs.YtpcfpikflkjmjaaDoor
open Go.RowKit

theorem as_ii (n : Int) (W : World) : (Instr.typeAssert (.iface 2 (.int .i64 n)) 20 2 true).run Tryd.prog W = .ok (.tuple #[.int .i64 n, .bool true]) W := by kernel_rfl
theorem as_ui (n : Int) (W : World) : (Instr.typeAssert (.iface 22 (.int .u64 n)) 20 2 true).run Tryd.prog W = .ok (.tuple #[.int .i64 0, .bool false]) W := by kernel_rfl
theorem as_uu (n : Int) (W : World) : (Instr.typeAssert (.iface 22 (.int .u64 n)) 20 22 true).run Tryd.prog W = .ok (.tuple #[.int .u64 n, .bool true]) W := by kernel_rfl

theorem ofI_any (n : Int) (w : World) : Calls Tryd.prog 89 #[.iface 2 (.int .i64 n)] w fun e w' => e = .returned (.agg #[.int .i64 3, .int .i64 n, .int .u64 0, .string ⟨#[]⟩, .slice none 0 0, .slice none 0 0]) ∧ Below w.heap.size w w' := by
  have h1 := fun W => as_ii n W
  go_enter Tryd.func89, Tryd.ntmps89
  go_wp2_with fail
  refine ret_six (p := 2) (g := w.heap.size) rfl rfl (Blk.new _ _ _) rfl ⟨rfl, (Below.refl _ _).alloc (Nat.le_refl _) _⟩

theorem ofU_lo (n : Int) (w : World) (h0 : 0 ≤ n) (h : n ≤ 9223372036854775807) : Calls Tryd.prog 89 #[.iface 22 (.int .u64 n)] w fun e w' => e = .returned (.agg #[.int .i64 3, .int .i64 n, .int .u64 0, .string ⟨#[]⟩, .slice none 0 0, .slice none 0 0]) ∧ Below w.heap.size w w' := by
  have h1 := fun W => as_ui n W
  have h2 := fun W => as_uu n W
  have h3 : ¬ (9223372036854775807 : Int) < n := by omega
  have h4 : IntKind.i64.wrap n = n := by simp [IntKind.wrap, IntKind.bits, IntKind.signed]; omega
  clear h0 h
  go_enter Tryd.func89, Tryd.ntmps89
  go_wp2_with fail
  refine ret_six (p := 2) (g := w.heap.size) rfl rfl (Blk.new _ _ _) rfl ⟨rfl, (Below.refl _ _).alloc (Nat.le_refl _) _⟩
theorem ofU_hi (n : Int) (w : World) (h : ¬ n ≤ 9223372036854775807) : Calls Tryd.prog 89 #[.iface 22 (.int .u64 n)] w fun e w' => e = .returned (.agg #[.int .i64 4, .int .i64 0, .int .u64 n, .string ⟨#[]⟩, .slice none 0 0, .slice none 0 0]) ∧ Below w.heap.size w w' := by
  have h1 := fun W => as_ui n W
  have h2 := fun W => as_uu n W
  have h3 : (9223372036854775807 : Int) < n := by omega
  clear h
  go_enter Tryd.func89, Tryd.ntmps89
  go_wp2_with fail
  refine ret_six (p := 2) (g := w.heap.size) rfl rfl (Blk.new _ _ _) rfl ⟨rfl, (Below.refl _ _).alloc (Nat.le_refl _) _⟩

def bxv (k n u : Int) (s : ByteArray) (v4 v5 : Value) : Array Value := #[.int .i64 k, .int .i64 n, .int .u64 u, .string s, v4, v5]
theorem two_allocs (w : World) (a b : Array Value) : Below w.heap.size w ((w.alloc (.cells a 26)).alloc (.cells b 26)) := ((Below.refl _ _).alloc (Nat.le_refl _) _).alloc (by simp) _
theorem blk_two (w : World) (a b : Array Value) : Blk ((w.alloc (.cells a 26)).alloc (.cells b 26)) (w.heap.size + 1) 26 b := by
  have := Blk.new (w.alloc (.cells a 26)) 26 b
  rwa [World.size_alloc] at this
theorem ruleT_any (k n u : Int) (s : ByteArray) (A1 : Option Addr) (m1 c1 : Nat) (A2 : Option Addr) (m2 c2 : Nat) (w : World) : Calls Tryd.prog 91 #[.agg #[.int .i64 k, .int .i64 n, .int .u64 u, .string s, .slice A1 m1 c1, .slice A2 m2 c2]] w fun e w' =>
    e = .returned (.agg #[.int .i64 6, .int .i64 0, .int .u64 0, .string s, .slice none 0 0, .slice none 0 0]) ∧ Below w.heap.size w w' := by
  go_enter Tryd.func91, Tryd.ntmps91
  go_wp2_with fail
  refine ret_six (p := 2) (g := w.heap.size + 1) rfl rfl (blk_two _ _ _) rfl ⟨rfl, two_allocs _ _ _⟩
theorem ruleV_any (k n u : Int) (s : ByteArray) (A1 : Option Addr) (m1 c1 : Nat) (A2 : Option Addr) (m2 c2 : Nat) (w : World) : Calls Tryd.prog 92 #[.agg #[.int .i64 k, .int .i64 n, .int .u64 u, .string s, .slice A1 m1 c1, .slice A2 m2 c2]] w fun e w' =>
    e = .returned (.agg #[.int .i64 10, .int .i64 0, .int .u64 0, .string ⟨#[]⟩, .slice none 0 0, .slice A2 m2 c2]) ∧ Below w.heap.size w w' := by
  go_enter Tryd.func92, Tryd.ntmps92
  go_wp2_with fail
  refine ret_six (p := 2) (g := w.heap.size + 1) rfl rfl (blk_two _ _ _) rfl ⟨rfl, two_allocs _ _ _⟩
theorem ruleI_any (k n u : Int) (s : ByteArray) (A1 : Option Addr) (m1 c1 : Nat) (A2 : Option Addr) (m2 c2 : Nat) (w : World) : Calls Tryd.prog 88 #[.agg #[.int .i64 k, .int .i64 n, .int .u64 u, .string s, .slice A1 m1 c1, .slice A2 m2 c2]] w fun e w' =>
    e = .returned (.agg #[.int .i64 3, .int .i64 n, .int .u64 0, .string ⟨#[]⟩, .slice none 0 0, .slice none 0 0]) ∧ Below w.heap.size w w' := by
  have HB := Lib.hid (two_allocs w #[.int .i64 k, .int .i64 n, .int .u64 u, .string s, .slice A1 m1 c1, .slice A2 m2 c2] #[.int .i64 0, .int .i64 0, .int .u64 0, .string ⟨#[]⟩, .slice none 0 0, .slice none 0 0])
  have HX := Lib.hid (blk_two w #[.int .i64 k, .int .i64 n, .int .u64 u, .string s, .slice A1 m1 c1, .slice A2 m2 c2] #[.int .i64 0, .int .i64 0, .int .u64 0, .string ⟨#[]⟩, .slice none 0 0, .slice none 0 0])
  go_enter Tryd.func88, Tryd.ntmps88
  go_wp2_with (go_at_call 89; refine (ofI_any n _).mono ?_; rintro e w2 ⟨rfl, hb2⟩; have HX2 := Lib.hid (Blk.below HX.out hb2 (Blk.lt HX.out)); have HB2 := Lib.hid (HB.out.trans (hb2.mono HB.out.size)); clear hb2; obtain ⟨⟨z0, z1, z2, z3, z4, z5⟩, y0, y1, y2, y3, y4, y5⟩ := Bx.both HX2.out)
  refine ret_six (p := 2) (g := w.heap.size + 1) rfl rfl (Bx.put6 HX2.out _ _ _ _ _ _) rfl ⟨rfl, put6_below HB2.out _ _ _ _ _ _ _ _ (by omega)⟩
theorem ruleU_lo (k n u : Int) (s : ByteArray) (A1 : Option Addr) (m1 c1 : Nat) (A2 : Option Addr) (m2 c2 : Nat) (w : World) (h0 : 0 ≤ u) (hu : u ≤ 9223372036854775807) : Calls Tryd.prog 90 #[.agg #[.int .i64 k, .int .i64 n, .int .u64 u, .string s, .slice A1 m1 c1, .slice A2 m2 c2]] w fun e w' =>
    e = .returned (.agg #[.int .i64 3, .int .i64 u, .int .u64 0, .string ⟨#[]⟩, .slice none 0 0, .slice none 0 0]) ∧ Below w.heap.size w w' := by
  have HB := Lib.hid (two_allocs w #[.int .i64 k, .int .i64 n, .int .u64 u, .string s, .slice A1 m1 c1, .slice A2 m2 c2] #[.int .i64 0, .int .i64 0, .int .u64 0, .string ⟨#[]⟩, .slice none 0 0, .slice none 0 0])
  have HX := Lib.hid (blk_two w #[.int .i64 k, .int .i64 n, .int .u64 u, .string s, .slice A1 m1 c1, .slice A2 m2 c2] #[.int .i64 0, .int .i64 0, .int .u64 0, .string ⟨#[]⟩, .slice none 0 0, .slice none 0 0])
  have HC := Lib.hid (fun W => ofU_lo u W h0 hu)
  clear h0 hu
  go_enter Tryd.func90, Tryd.ntmps90
  go_wp2_with (go_at_call 89; refine (HC.out _).mono ?_; rintro e w2 ⟨rfl, hb2⟩; have HX2 := Lib.hid (Blk.below HX.out hb2 (Blk.lt HX.out)); have HB2 := Lib.hid (HB.out.trans (hb2.mono HB.out.size)); clear hb2; obtain ⟨⟨z0, z1, z2, z3, z4, z5⟩, y0, y1, y2, y3, y4, y5⟩ := Bx.both HX2.out)
  refine ret_six (p := 2) (g := w.heap.size + 1) rfl rfl (Bx.put6 HX2.out _ _ _ _ _ _) rfl ⟨rfl, put6_below HB2.out _ _ _ _ _ _ _ _ (by omega)⟩
theorem ruleU_hi (k n u : Int) (s : ByteArray) (A1 : Option Addr) (m1 c1 : Nat) (A2 : Option Addr) (m2 c2 : Nat) (w : World) (hu : ¬ u ≤ 9223372036854775807) : Calls Tryd.prog 90 #[.agg #[.int .i64 k, .int .i64 n, .int .u64 u, .string s, .slice A1 m1 c1, .slice A2 m2 c2]] w fun e w' =>
    e = .returned (.agg #[.int .i64 4, .int .i64 0, .int .u64 u, .string ⟨#[]⟩, .slice none 0 0, .slice none 0 0]) ∧ Below w.heap.size w w' := by
  have HB := Lib.hid (two_allocs w #[.int .i64 k, .int .i64 n, .int .u64 u, .string s, .slice A1 m1 c1, .slice A2 m2 c2] #[.int .i64 0, .int .i64 0, .int .u64 0, .string ⟨#[]⟩, .slice none 0 0, .slice none 0 0])
  have HX := Lib.hid (blk_two w #[.int .i64 k, .int .i64 n, .int .u64 u, .string s, .slice A1 m1 c1, .slice A2 m2 c2] #[.int .i64 0, .int .i64 0, .int .u64 0, .string ⟨#[]⟩, .slice none 0 0, .slice none 0 0])
  have HC := Lib.hid (fun W => ofU_hi u W hu)
  clear hu
  go_enter Tryd.func90, Tryd.ntmps90
  go_wp2_with (go_at_call 89; refine (HC.out _).mono ?_; rintro e w2 ⟨rfl, hb2⟩; have HX2 := Lib.hid (Blk.below HX.out hb2 (Blk.lt HX.out)); have HB2 := Lib.hid (HB.out.trans (hb2.mono HB.out.size)); clear hb2; obtain ⟨⟨z0, z1, z2, z3, z4, z5⟩, y0, y1, y2, y3, y4, y5⟩ := Bx.both HX2.out)
  refine ret_six (p := 2) (g := w.heap.size + 1) rfl rfl (Bx.put6 HX2.out _ _ _ _ _ _) rfl ⟨rfl, put6_below HB2.out _ _ _ _ _ _ _ _ (by omega)⟩
end Go.Proofs.YtpcfpikflkjmjaaDoor
