/-
  What is proved here: TreeKnown returns true and leaves all memory that was there as it was; conditions: its calls return true (known_core).
-/
import Derived.Test.YtlleknofnlmecaaDoorLit
import Derived.Test.YtlleknofnlmecaaDoorStp
import Derived.Test.YtlleknofnlmecaaDoorExB
import Derived.Deep.DeepCutAuto
import Derived.Deep.CutBlock
namespace Go.Proofs.YtlleknofnlmecaaDoor
open Go.RowKit

/-- What the law's own calls give, in every world later than w. -/
abbrev OKc (w : World) : Prop := ∀ (W : World) (cs : List Value), Below w.heap.size w W → NdE W cs → Calls Tryd.prog 5 #[.agg cs.toArray] W fun e w' => e = .returned (.bool true) ∧ Below W.heap.size W w'
abbrev OKt (w : World) : Prop := ∀ (W : World) (cs : List Value) (n k : Int), Below w.heap.size w W → NdE W cs → (Lit.int .i64 n).wf = true → (Lit.int .i64 k).wf = true → Calls Tryd.prog 6 #[.agg cs.toArray, .int .i64 n, .int .i64 k] W fun e w' => e = .returned (.bool true) ∧ Below W.heap.size W w'
abbrev OKz (w : World) : Prop := ∀ (W : World) (cs : List Value) (n : Int), Below w.heap.size w W → NdE W cs → Calls Tryd.prog 11 #[.agg cs.toArray, .int .i64 n] W fun e w' => e = .returned (.bool true) ∧ Below W.heap.size W w'
abbrev OKs (w : World) : Prop := ∀ (W : World) (ca cb : List Value), Below w.heap.size w W → NdE W ca → NdE W cb → Calls Tryd.prog 12 #[.agg ca.toArray, .agg cb.toArray] W fun e w' => e = .returned (.bool true) ∧ Below W.heap.size W w'
abbrev OKw (w : World) : Prop := ∀ (W : World), Below w.heap.size w W → Calls Tryd.prog 13 #[] W fun e w' => e = .returned (.bool true) ∧ Below W.heap.size W w'
theorem wf_small {n : Int} (h0 : -1000 ≤ n) (h1 : n ≤ 1000) : (Lit.int .i64 n).wf = true := by simp [Lit.wf, IntKind.min, IntKind.max, IntKind.signed, IntKind.bits]; omega
theorem rngk {k n u : Int} (h0 : -1000 ≤ k) (h1 : k ≤ 1000) (h2 : -1000 ≤ n) (h3 : n ≤ 1000) (h4 : 0 ≤ u) (h5 : u ≤ 1000) : Rng k n u := ⟨by omega, by omega, by omega, by omega, by omega, by omega⟩

/-- The law's nine nodes of a kind. -/
theorem one_lit {wr w1 w2 w3 : World} {k : Int} (h0 : -1000 ≤ k) (h1 : k ≤ 1000) (hb1 : Below ((wr.alloc (.cells #[.string ⟨#[97]⟩] 9)).alloc (.cells #[.string ⟨#[97]⟩] 9)).heap.size ((wr.alloc (.cells #[.string ⟨#[97]⟩] 9)).alloc (.cells #[.string ⟨#[97]⟩] 9)) w1) (hb2 : Below ((w1.alloc (.cells #[.int .i64 3, .int .i64 1, .int .u64 0, .string ⟨#[]⟩, .slice none 0 0, .slice none 0 0] 26)).alloc (.cells #[.string ⟨#[98]⟩, .string ⟨#[97, 0]⟩] 9)).heap.size ((w1.alloc (.cells #[.int .i64 3, .int .i64 1, .int .u64 0, .string ⟨#[]⟩, .slice none 0 0, .slice none 0 0] 26)).alloc (.cells #[.string ⟨#[98]⟩, .string ⟨#[97, 0]⟩] 9)) w2) (hb3 : Below w2.heap.size w2 w3) :
    RdN ((w3.alloc (.cells #[.int .i64 3, .int .i64 1, .int .u64 0, .string ⟨#[]⟩, .slice none 0 0, .slice none 0 0, .int .i64 3, .int .i64 2, .int .u64 0, .string ⟨#[]⟩, .slice none 0 0, .slice none 0 0] 26)).alloc (.cells ((.int .i64 k) :: (.int .i64 0) :: (.int .u64 0) :: (.string ⟨#[]⟩) :: (.slice none 0 0) :: (.slice none 0 0) :: (.int .i64 k) :: (.int .i64 1) :: (.int .u64 0) :: (.string ⟨#[]⟩) :: (.slice none 0 0) :: (.slice none 0 0) :: (.int .i64 k) :: (.int .i64 (-1)) :: (.int .u64 0) :: (.string ⟨#[]⟩) :: (.slice none 0 0) :: (.slice none 0 0) :: (.int .i64 k) :: (.int .i64 0) :: (.int .u64 1) :: (.string ⟨#[]⟩) :: (.slice none 0 0) :: (.slice none 0 0) :: (.int .i64 k) :: (.int .i64 0) :: (.int .u64 0) :: (.string ⟨#[97]⟩) :: (.slice none 0 0) :: (.slice none 0 0) :: (.int .i64 k) :: (.int .i64 0) :: (.int .u64 0) :: (.string ⟨#[0]⟩) :: (.slice none 0 0) :: (.slice none 0 0) :: (.int .i64 k) :: (.int .i64 0) :: (.int .u64 0) :: (.string ⟨#[]⟩) :: (.slice (some ⟨wr.heap.size, 0, none⟩) 1 1) :: (.slice none 0 0) :: (.int .i64 k) :: (.int .i64 0) :: (.int .u64 0) :: (.string ⟨#[]⟩) :: (.slice (some ⟨(wr.heap.size + 1), 0, none⟩) 1 1) :: (.slice (some ⟨w1.heap.size, 0, none⟩) 1 1) :: (.int .i64 k) :: (.int .i64 0) :: (.int .u64 0) :: (.string ⟨#[]⟩) :: (.slice (some ⟨(w1.heap.size + 1), 0, none⟩) 2 2) :: (.slice (some ⟨w3.heap.size, 0, none⟩) 2 2) :: []).toArray 26)) (.slice (some ⟨w3.heap.size + 1, 0, none⟩) 9 9) 9 ∧ Below wr.heap.size wr ((w3.alloc (.cells #[.int .i64 3, .int .i64 1, .int .u64 0, .string ⟨#[]⟩, .slice none 0 0, .slice none 0 0, .int .i64 3, .int .i64 2, .int .u64 0, .string ⟨#[]⟩, .slice none 0 0, .slice none 0 0] 26)).alloc (.cells ((.int .i64 k) :: (.int .i64 0) :: (.int .u64 0) :: (.string ⟨#[]⟩) :: (.slice none 0 0) :: (.slice none 0 0) :: (.int .i64 k) :: (.int .i64 1) :: (.int .u64 0) :: (.string ⟨#[]⟩) :: (.slice none 0 0) :: (.slice none 0 0) :: (.int .i64 k) :: (.int .i64 (-1)) :: (.int .u64 0) :: (.string ⟨#[]⟩) :: (.slice none 0 0) :: (.slice none 0 0) :: (.int .i64 k) :: (.int .i64 0) :: (.int .u64 1) :: (.string ⟨#[]⟩) :: (.slice none 0 0) :: (.slice none 0 0) :: (.int .i64 k) :: (.int .i64 0) :: (.int .u64 0) :: (.string ⟨#[97]⟩) :: (.slice none 0 0) :: (.slice none 0 0) :: (.int .i64 k) :: (.int .i64 0) :: (.int .u64 0) :: (.string ⟨#[0]⟩) :: (.slice none 0 0) :: (.slice none 0 0) :: (.int .i64 k) :: (.int .i64 0) :: (.int .u64 0) :: (.string ⟨#[]⟩) :: (.slice (some ⟨wr.heap.size, 0, none⟩) 1 1) :: (.slice none 0 0) :: (.int .i64 k) :: (.int .i64 0) :: (.int .u64 0) :: (.string ⟨#[]⟩) :: (.slice (some ⟨(wr.heap.size + 1), 0, none⟩) 1 1) :: (.slice (some ⟨w1.heap.size, 0, none⟩) 1 1) :: (.int .i64 k) :: (.int .i64 0) :: (.int .u64 0) :: (.string ⟨#[]⟩) :: (.slice (some ⟨(w1.heap.size + 1), 0, none⟩) 2 2) :: (.slice (some ⟨w3.heap.size, 0, none⟩) 2 2) :: []).toArray 26)) := by
  have ha1 := al0 wr (.cells #[.string ⟨#[97]⟩] 9)
  have ha2 := al0 (wr.alloc (.cells #[.string ⟨#[97]⟩] 9)) (.cells #[.string ⟨#[97]⟩] 9)
  have ha3 := al0 w1 (.cells #[.int .i64 3, .int .i64 1, .int .u64 0, .string ⟨#[]⟩, .slice none 0 0, .slice none 0 0] 26)
  have ha4 := al0 (w1.alloc (.cells #[.int .i64 3, .int .i64 1, .int .u64 0, .string ⟨#[]⟩, .slice none 0 0, .slice none 0 0] 26)) (.cells #[.string ⟨#[98]⟩, .string ⟨#[97, 0]⟩] 9)
  have ha5 := al0 w3 (.cells #[.int .i64 3, .int .i64 1, .int .u64 0, .string ⟨#[]⟩, .slice none 0 0, .slice none 0 0, .int .i64 3, .int .i64 2, .int .u64 0, .string ⟨#[]⟩, .slice none 0 0, .slice none 0 0] 26)
  have ha6 := al0 (w3.alloc (.cells #[.int .i64 3, .int .i64 1, .int .u64 0, .string ⟨#[]⟩, .slice none 0 0, .slice none 0 0, .int .i64 3, .int .i64 2, .int .u64 0, .string ⟨#[]⟩, .slice none 0 0, .slice none 0 0] 26)) (.cells ((.int .i64 k) :: (.int .i64 0) :: (.int .u64 0) :: (.string ⟨#[]⟩) :: (.slice none 0 0) :: (.slice none 0 0) :: (.int .i64 k) :: (.int .i64 1) :: (.int .u64 0) :: (.string ⟨#[]⟩) :: (.slice none 0 0) :: (.slice none 0 0) :: (.int .i64 k) :: (.int .i64 (-1)) :: (.int .u64 0) :: (.string ⟨#[]⟩) :: (.slice none 0 0) :: (.slice none 0 0) :: (.int .i64 k) :: (.int .i64 0) :: (.int .u64 1) :: (.string ⟨#[]⟩) :: (.slice none 0 0) :: (.slice none 0 0) :: (.int .i64 k) :: (.int .i64 0) :: (.int .u64 0) :: (.string ⟨#[97]⟩) :: (.slice none 0 0) :: (.slice none 0 0) :: (.int .i64 k) :: (.int .i64 0) :: (.int .u64 0) :: (.string ⟨#[0]⟩) :: (.slice none 0 0) :: (.slice none 0 0) :: (.int .i64 k) :: (.int .i64 0) :: (.int .u64 0) :: (.string ⟨#[]⟩) :: (.slice (some ⟨wr.heap.size, 0, none⟩) 1 1) :: (.slice none 0 0) :: (.int .i64 k) :: (.int .i64 0) :: (.int .u64 0) :: (.string ⟨#[]⟩) :: (.slice (some ⟨(wr.heap.size + 1), 0, none⟩) 1 1) :: (.slice (some ⟨w1.heap.size, 0, none⟩) 1 1) :: (.int .i64 k) :: (.int .i64 0) :: (.int .u64 0) :: (.string ⟨#[]⟩) :: (.slice (some ⟨(w1.heap.size + 1), 0, none⟩) 2 2) :: (.slice (some ⟨w3.heap.size, 0, none⟩) 2 2) :: []).toArray 26)
  have k1 : RdK (wr.alloc (.cells #[.string ⟨#[97]⟩] 9)) (.slice (some ⟨wr.heap.size, 0, none⟩) 1 1) := rdk_lit [⟨#[97]⟩] (Blk.new _ _ _) rfl rfl (by intro s hs; simp only [List.mem_singleton] at hs; subst hs; decide) (by decide)
  have k2 : RdK ((wr.alloc (.cells #[.string ⟨#[97]⟩] 9)).alloc (.cells #[.string ⟨#[97]⟩] 9)) (.slice (some ⟨(wr.heap.size + 1), 0, none⟩) 1 1) := rdk_lit [⟨#[97]⟩] (by simpa using Blk.new (wr.alloc (.cells #[.string ⟨#[97]⟩] 9)) 9 #[.string ⟨#[97]⟩]) rfl rfl (by intro s hs; simp only [List.mem_singleton] at hs; subst hs; decide) (by decide)
  have r1 : RdN (w1.alloc (.cells #[.int .i64 3, .int .i64 1, .int .u64 0, .string ⟨#[]⟩, .slice none 0 0, .slice none 0 0] 26)) (.slice (some ⟨w1.heap.size, 0, none⟩) 1 1) 1 := rdn_lit [[.int .i64 3, .int .i64 1, .int .u64 0, .string ⟨#[]⟩, .slice none 0 0, .slice none 0 0]] (Blk.new _ _ _) rfl rfl (by intro x hx; simp only [List.mem_singleton] at hx; subst hx; exact nde_leaf _ (rngk (by omega) (by omega) (by omega) (by omega) (by omega) (by omega)) (by decide)) (by decide)
  have k3 : RdK ((w1.alloc (.cells #[.int .i64 3, .int .i64 1, .int .u64 0, .string ⟨#[]⟩, .slice none 0 0, .slice none 0 0] 26)).alloc (.cells #[.string ⟨#[98]⟩, .string ⟨#[97, 0]⟩] 9)) (.slice (some ⟨(w1.heap.size + 1), 0, none⟩) 2 2) := rdk_lit [⟨#[98]⟩, ⟨#[97, 0]⟩] (by simpa using Blk.new (w1.alloc (.cells #[.int .i64 3, .int .i64 1, .int .u64 0, .string ⟨#[]⟩, .slice none 0 0, .slice none 0 0] 26)) 9 #[.string ⟨#[98]⟩, .string ⟨#[97, 0]⟩]) rfl rfl (by intro s hs; simp only [List.mem_cons, List.not_mem_nil, or_false] at hs; rcases hs with rfl | rfl <;> decide) (by decide)
  have r2 : RdN (w3.alloc (.cells #[.int .i64 3, .int .i64 1, .int .u64 0, .string ⟨#[]⟩, .slice none 0 0, .slice none 0 0, .int .i64 3, .int .i64 2, .int .u64 0, .string ⟨#[]⟩, .slice none 0 0, .slice none 0 0] 26)) (.slice (some ⟨w3.heap.size, 0, none⟩) 2 2) 2 := rdn_lit [[.int .i64 3, .int .i64 1, .int .u64 0, .string ⟨#[]⟩, .slice none 0 0, .slice none 0 0], [.int .i64 3, .int .i64 2, .int .u64 0, .string ⟨#[]⟩, .slice none 0 0, .slice none 0 0]] (Blk.new _ _ _) rfl rfl (by intro x hx; simp only [List.mem_cons, List.not_mem_nil, or_false] at hx; rcases hx with rfl | rfl <;> exact nde_leaf _ (rngk (by omega) (by omega) (by omega) (by omega) (by omega) (by omega)) (by decide)) (by decide)
  have k1' := ((((((k1.below ha2).below hb1).below ha3).below ha4).below hb2).below hb3).below ha5 |>.below ha6
  have k2' := (((((k2.below hb1).below ha3).below ha4).below hb2).below hb3).below ha5 |>.below ha6
  have r1' := (((r1.below ha4).below hb2).below hb3).below ha5 |>.below ha6
  have k3' := ((k3.below hb2).below hb3).below ha5 |>.below ha6
  have r2' := r2.below ha6
  refine ⟨rdn_lit [[.int .i64 k, .int .i64 0, .int .u64 0, .string ⟨#[]⟩, .slice none 0 0, .slice none 0 0], [.int .i64 k, .int .i64 1, .int .u64 0, .string ⟨#[]⟩, .slice none 0 0, .slice none 0 0], [.int .i64 k, .int .i64 (-1), .int .u64 0, .string ⟨#[]⟩, .slice none 0 0, .slice none 0 0], [.int .i64 k, .int .i64 0, .int .u64 1, .string ⟨#[]⟩, .slice none 0 0, .slice none 0 0], [.int .i64 k, .int .i64 0, .int .u64 0, .string ⟨#[97]⟩, .slice none 0 0, .slice none 0 0], [.int .i64 k, .int .i64 0, .int .u64 0, .string ⟨#[0]⟩, .slice none 0 0, .slice none 0 0], [.int .i64 k, .int .i64 0, .int .u64 0, .string ⟨#[]⟩, .slice (some ⟨wr.heap.size, 0, none⟩) 1 1, .slice none 0 0], [.int .i64 k, .int .i64 0, .int .u64 0, .string ⟨#[]⟩, .slice (some ⟨(wr.heap.size + 1), 0, none⟩) 1 1, .slice (some ⟨w1.heap.size, 0, none⟩) 1 1], [.int .i64 k, .int .i64 0, .int .u64 0, .string ⟨#[]⟩, .slice (some ⟨(w1.heap.size + 1), 0, none⟩) 2 2, .slice (some ⟨w3.heap.size, 0, none⟩) 2 2]] (by simpa using Blk.new (w3.alloc (.cells #[.int .i64 3, .int .i64 1, .int .u64 0, .string ⟨#[]⟩, .slice none 0 0, .slice none 0 0, .int .i64 3, .int .i64 2, .int .u64 0, .string ⟨#[]⟩, .slice none 0 0, .slice none 0 0] 26)) 26 _) rfl rfl ?_ (by decide), ?_⟩
  · intro x hx
    simp only [List.mem_cons, List.not_mem_nil, or_false] at hx
    rcases hx with rfl | rfl | rfl | rfl | rfl | rfl | rfl | rfl | rfl
    · exact nde_leaf _ (rngk (by omega) (by omega) (by omega) (by omega) (by omega) (by omega)) (by decide)
    · exact nde_leaf _ (rngk (by omega) (by omega) (by omega) (by omega) (by omega) (by omega)) (by decide)
    · exact nde_leaf _ (rngk (by omega) (by omega) (by omega) (by omega) (by omega) (by omega)) (by decide)
    · exact nde_leaf _ (rngk (by omega) (by omega) (by omega) (by omega) (by omega) (by omega)) (by decide)
    · exact nde_leaf _ (rngk (by omega) (by omega) (by omega) (by omega) (by omega) (by omega)) (by decide)
    · exact nde_leaf _ (rngk (by omega) (by omega) (by omega) (by omega) (by omega) (by omega)) (by decide)
    · exact nde_mk (rngk (by omega) (by omega) (by omega) (by omega) (by omega) (by omega)) (by decide) k1' (rdn_nil _)
    · exact nde_mk (rngk (by omega) (by omega) (by omega) (by omega) (by omega) (by omega)) (by decide) k2' r1'
    · exact nde_mk (rngk (by omega) (by omega) (by omega) (by omega) (by omega) (by omega)) (by decide) k3' r2'
  · exact tr (tr (tr (tr (tr (tr (tr ha1 ha2) hb1) ha3) ha4) hb2) hb3) (tr ha5 ha6)

/-- The law's six parts. -/
theorem parts_lit (p3 : World) : RdN (p3.alloc (.cells ((.int .i64 3) :: (.int .i64 1) :: (.int .u64 0) :: (.string ⟨#[]⟩) :: (.slice none 0 0) :: (.slice none 0 0) :: (.int .i64 5) :: (.int .i64 0) :: (.int .u64 0) :: (.string ⟨#[97]⟩) :: (.slice none 0 0) :: (.slice none 0 0) :: (.int .i64 4) :: (.int .i64 0) :: (.int .u64 1) :: (.string ⟨#[]⟩) :: (.slice none 0 0) :: (.slice none 0 0) :: (.int .i64 2) :: (.int .i64 0) :: (.int .u64 0) :: (.string ⟨#[]⟩) :: (.slice none 0 0) :: (.slice none 0 0) :: (.int .i64 1) :: (.int .i64 0) :: (.int .u64 0) :: (.string ⟨#[]⟩) :: (.slice none 0 0) :: (.slice none 0 0) :: (.int .i64 10) :: (.int .i64 0) :: (.int .u64 0) :: (.string ⟨#[]⟩) :: (.slice none 0 0) :: (.slice none 0 0) :: []).toArray 26)) (.slice (some ⟨p3.heap.size, 0, none⟩) 6 6) 6 := by
  refine rdn_lit [[.int .i64 3, .int .i64 1, .int .u64 0, .string ⟨#[]⟩, .slice none 0 0, .slice none 0 0], [.int .i64 5, .int .i64 0, .int .u64 0, .string ⟨#[97]⟩, .slice none 0 0, .slice none 0 0], [.int .i64 4, .int .i64 0, .int .u64 1, .string ⟨#[]⟩, .slice none 0 0, .slice none 0 0], [.int .i64 2, .int .i64 0, .int .u64 0, .string ⟨#[]⟩, .slice none 0 0, .slice none 0 0], [.int .i64 1, .int .i64 0, .int .u64 0, .string ⟨#[]⟩, .slice none 0 0, .slice none 0 0], [.int .i64 10, .int .i64 0, .int .u64 0, .string ⟨#[]⟩, .slice none 0 0, .slice none 0 0]] (Blk.new _ _ _) rfl rfl ?_ (by decide)
  intro x hx
  simp only [List.mem_cons, List.not_mem_nil, or_false] at hx
  rcases hx with rfl | rfl | rfl | rfl | rfl | rfl <;> exact nde_leaf _ (rngk (by omega) (by omega) (by omega) (by omega) (by omega) (by omega)) (by decide)

theorem two_kinds {wn X : World} {x0 x1 x2 a0 a1 a2 : Int} {x3 a3 : ByteArray} {y1 y4 b1 b4 : Option Addr} {y2 y3 y5 y6 b2 b3 b5 b6 g o1 o2 : Nat}
    (hX : ∀ X, Below wn.heap.size wn X → (X.cell? ⟨g, o1, none⟩ = some (.int .i64 x0) ∧ X.cell? ⟨g, o1 + 1, none⟩ = some (.int .i64 x1) ∧ X.cell? ⟨g, o1 + 2, none⟩ = some (.int .u64 x2) ∧ X.cell? ⟨g, o1 + 3, none⟩ = some (.string x3) ∧ X.cell? ⟨g, o1 + 4, none⟩ = some (.slice y1 y2 y3) ∧ X.cell? ⟨g, o1 + 5, none⟩ = some (.slice y4 y5 y6) ∧ NdE X [.int .i64 x0, .int .i64 x1, .int .u64 x2, .string x3, .slice y1 y2 y3, .slice y4 y5 y6]))
    (hY : ∀ X, Below wn.heap.size wn X → (X.cell? ⟨g, o2, none⟩ = some (.int .i64 a0) ∧ X.cell? ⟨g, o2 + 1, none⟩ = some (.int .i64 a1) ∧ X.cell? ⟨g, o2 + 2, none⟩ = some (.int .u64 a2) ∧ X.cell? ⟨g, o2 + 3, none⟩ = some (.string a3) ∧ X.cell? ⟨g, o2 + 4, none⟩ = some (.slice b1 b2 b3) ∧ X.cell? ⟨g, o2 + 5, none⟩ = some (.slice b4 b5 b6) ∧ NdE X [.int .i64 a0, .int .i64 a1, .int .u64 a2, .string a3, .slice b1 b2 b3, .slice b4 b5 b6]))
    (hb : Below wn.heap.size wn X) (q : Nat) : ∀ x ∈ List.replicate q [Value.int .i64 x0, .int .i64 x1, .int .u64 x2, .string x3, .slice y1 y2 y3, .slice y4 y5 y6] ++ [[Value.int .i64 a0, .int .i64 a1, .int .u64 a2, .string a3, .slice b1 b2 b3, .slice b4 b5 b6]], NdE X x := by
  intro x hx
  rcases List.mem_append.1 hx with h | h
  · rw [List.eq_of_mem_replicate h]; exact (hX X hb).2.2.2.2.2.2
  · rw [List.mem_singleton.1 h]; exact (hY X hb).2.2.2.2.2.2

/-- The values of the last literal's operations: their temporaries, and what each is. -/
def dsX : List Tmp := [126, 127, 128, 129, 130, 131, 132, 133, 134, 135, 136, 137, 138, 139, 140, 141, 142, 143, 144, 145, 146, 147, 148, 149, 150, 151, 152, 153, 154, 155, 156, 157, 158, 159, 160, 10]
def kdX : List Kd := [.n, .n, .r 2, .n, .n, .n, .r 2, .n, .n, .n, .r 2, .n, .k 3, .n, .n, .n, .r 3, .n, .k 3, .n, .n, .n, .r 3, .n, .k 2, .n, .n, .r 2, .n, .k 2, .n, .n, .r 2, .n, .r 7, .r 7]
/-- What stays in every world of the last literal: the box of deep. -/
def SXk (Xb : World) (g : Nat) (k3 n3 u3 : Int) (s3 : ByteArray) (A3 : Option Addr) (a3 c3 : Nat) (B3 : Option Addr) (b3 d3 : Nat) (X : World) : Prop := Bx X g (.int .i64 k3) (.int .i64 n3) (.int .u64 u3) (.string s3) (.slice A3 a3 c3) (.slice B3 b3 d3) ∧ Below Xb.heap.size Xb X ∧ NdE X [.int .i64 k3, .int .i64 n3, .int .u64 u3, .string s3, .slice A3 a3 c3, .slice B3 b3 d3]

set_option maxRecDepth 20000 in
set_option maxHeartbeats 4000000 in
theorem known_core (w : World) (hC : OKc w) (hT : OKt w) (hZ : OKz w) (hS : OKs w) (hW : OKw w) : Calls Tryd.prog 3 #[] w fun e w' => e = .returned (.bool true) ∧ Below w.heap.size w w' := by
  have HCK := Lib.hid hC
  have HTE := Lib.hid hT
  have HSI := Lib.hid hZ
  have HSA := Lib.hid hS
  have HWK := Lib.hid hW
  clear hC hT hZ hS hW
  go_enter Tryd.func3, Tryd.ntmps3
  go_upto_block 0 with fail
  go_cut [1] (fun _ wx => Hid (Below w.heap.size w wx))
  case first =>
    go_wp2_with fail
    go_loopw [1] (fun x wr => ∃ k : Int, -1 ≤ k ∧ k ≤ 20 ∧ x = .int .i64 k ∧ Hid (Below w.heap.size w wr)) (fun x _ => (20 - intOf x).toNat)
    case atStart => exact ⟨-1, by omega, by omega, rfl, Lib.hid (Below.refl _ _)⟩
    case round =>
      obtain ⟨k, hk0, hk1, rfl, HB⟩ := hrel
      by_cases hlt : k < 20
      · have HNU : Hid (∀ n W, Calls Tryd.prog 4 #[.int .i64 n] W fun e w' => e = .returned (.agg #[.int .i64 3, .int .i64 n, .int .u64 0, .string ⟨#[]⟩, .slice none 0 0, .slice none 0 0]) ∧ Below W.heap.size W w') := Lib.hid fun n W => num_any n W
        go_upto_region 5 with (first
          | (go_at_call 4; (with_reducible refine (HNU.out 1 (((wr.alloc (.cells #[.string ⟨#[97]⟩] 9)).alloc (.cells #[.string ⟨#[97]⟩] 9)))).mono ?_); rintro e w1 ⟨rfl, hb⟩; have HB1 := Lib.hid hb; clear hb)
          | (go_at_call 4; (with_reducible refine (HNU.out 1 _).mono ?_); rintro e w2 ⟨rfl, hb⟩; have HB2 := Lib.hid hb; clear hb)
          | (go_at_call 4; (with_reducible refine (HNU.out 2 _).mono ?_); rintro e w3 ⟨rfl, hb⟩; have HB3 := Lib.hid hb; clear hb))
        obtain ⟨hRN, hBW⟩ := one_lit (k := k) (by omega) (by omega) HB1.out HB2.out HB3.out
        obtain ⟨Wf, hWf⟩ : ∃ Wf, ((w3.alloc (.cells #[.int .i64 3, .int .i64 1, .int .u64 0, .string ⟨#[]⟩, .slice none 0 0, .slice none 0 0, .int .i64 3, .int .i64 2, .int .u64 0, .string ⟨#[]⟩, .slice none 0 0, .slice none 0 0] 26)).alloc (.cells ((.int .i64 k) :: (.int .i64 0) :: (.int .u64 0) :: (.string ⟨#[]⟩) :: (.slice none 0 0) :: (.slice none 0 0) :: (.int .i64 k) :: (.int .i64 1) :: (.int .u64 0) :: (.string ⟨#[]⟩) :: (.slice none 0 0) :: (.slice none 0 0) :: (.int .i64 k) :: (.int .i64 (-1)) :: (.int .u64 0) :: (.string ⟨#[]⟩) :: (.slice none 0 0) :: (.slice none 0 0) :: (.int .i64 k) :: (.int .i64 0) :: (.int .u64 1) :: (.string ⟨#[]⟩) :: (.slice none 0 0) :: (.slice none 0 0) :: (.int .i64 k) :: (.int .i64 0) :: (.int .u64 0) :: (.string ⟨#[97]⟩) :: (.slice none 0 0) :: (.slice none 0 0) :: (.int .i64 k) :: (.int .i64 0) :: (.int .u64 0) :: (.string ⟨#[0]⟩) :: (.slice none 0 0) :: (.slice none 0 0) :: (.int .i64 k) :: (.int .i64 0) :: (.int .u64 0) :: (.string ⟨#[]⟩) :: (.slice (some ⟨wr.heap.size, 0, none⟩) 1 1) :: (.slice none 0 0) :: (.int .i64 k) :: (.int .i64 0) :: (.int .u64 0) :: (.string ⟨#[]⟩) :: (.slice (some ⟨(wr.heap.size + 1), 0, none⟩) 1 1) :: (.slice (some ⟨w1.heap.size, 0, none⟩) 1 1) :: (.int .i64 k) :: (.int .i64 0) :: (.int .u64 0) :: (.string ⟨#[]⟩) :: (.slice (some ⟨(w1.heap.size + 1), 0, none⟩) 2 2) :: (.slice (some ⟨w3.heap.size, 0, none⟩) 2 2) :: []).toArray 26)) = Wf := ⟨_, rfl⟩
        obtain ⟨g, hg⟩ : ∃ g, w3.heap.size + 1 = g := ⟨_, rfl⟩
        rw [hWf, hg] at hRN
        rw [hWf] at hBW
        simp only [hWf, hg]
        have HBF : Hid (Below w.heap.size w Wf) := Lib.hid (HB.out.trans (hBW.mono HB.out.size))
        have HRF := Lib.hid hRN
        have HVE : Hid (∀ A m c W, Calls Tryd.prog 7 #[.slice A m c] W fun e w' => e = .returned (.agg #[.int .i64 10, .int .i64 0, .int .u64 0, .string ⟨#[]⟩, .slice none 0 0, .slice A m c]) ∧ Below W.heap.size W w') := Lib.hid fun A m c W => vec_any A m c W
        clear HB1 HB2 HB3 HB hRN hBW hWf hg
        go_wp2_with fail
        go_loopw [3] (fun x wi => ∃ j : Nat, j ≤ 9 ∧ x = .int .i64 (j : Int) ∧ Hid (Below Wf.heap.size Wf wi)) (fun x _ => 9 - (intOf x).toNat)
        case atStart => exact ⟨0, Nat.zero_le _, rfl, Lib.hid (Below.refl _ _)⟩
        case round =>
          obtain ⟨j, hj, rfl, HJ⟩ := hrel
          by_cases hj9 : j < 9
          · obtain ⟨x0, x1, x2, x3, y1, y2, y3, y4, y5, y6, hX⟩ := (HRF.out.below HJ.out).held hj9
            have HX := Lib.hid hX
            obtain ⟨z0, z1, z2, z3, z4, z5, -⟩ := hX _ (Below.refl _ _)
            have HBJ : Hid (∀ X, Below wr.heap.size wr X → Below w.heap.size w X) := Lib.hid fun X h => (HBF.out.trans (HJ.out.mono HBF.out.size)).trans (h.mono (Nat.le_trans HBF.out.size HJ.out.size))
            clear hX
            go_wp2_with (first
              | (go_at_call 5; (with_reducible refine (HCK.out wr _ (HBJ.out _ (Below.refl _ _)) (HX.out _ (Below.refl _ _)).2.2.2.2.2.2).mono ?_); rintro e v1 ⟨rfl, hb⟩; have HV1 := Lib.hid hb; clear z0 z1 z2 z3 z4 z5; obtain ⟨z0, z1, z2, z3, z4, z5, -⟩ := HX.out _ hb; clear hb)
              | (go_at_call 6; (with_reducible refine (HTE.out v1 _ (j : Int) k (HBJ.out _ HV1.out) (HX.out _ HV1.out).2.2.2.2.2.2 (wf_small (by omega) (by omega)) (wf_small (by omega) (by omega))).mono ?_); rintro e v2 ⟨rfl, hb⟩; have HV2 : Hid (Below wr.heap.size wr v2) := Lib.hid (tr HV1.out hb); clear z0 z1 z2 z3 z4 z5; obtain ⟨z0, z1, z2, z3, z4, z5, -⟩ := HX.out _ HV2.out; clear hb)
              | (go_at_call 7; (with_reducible refine (HVE.out _ _ _ _).mono ?_); rintro e v3 ⟨rfl, hb⟩; have HV3 := Lib.hid (two_vec (HX.out _ HV2.out).2.2.2.2.2.2 (nde_zero _) hb); clear hb)
              | (go_at_call 5; (with_reducible refine (HCK.out v3 _ (HBJ.out _ (tr HV2.out HV3.out.2)) HV3.out.1).mono ?_); rintro e v4 ⟨rfl, hb⟩; have HV4 : Hid (Below wr.heap.size wr v4) := Lib.hid (tr (tr HV2.out HV3.out.2) hb); clear hb))
            go_roundw
            case rel => exact ⟨j + 1, by omega, by go_num, Lib.hid (tr HJ.out HV4.out)⟩
            case measure => simp [intOf]; omega
          · obtain rfl : j = 9 := by omega
            have HBW : Hid (Below w.heap.size w wr) := Lib.hid (HBF.out.trans (HJ.out.mono HBF.out.size))
            have HKE : Hid (∀ s W, Calls Tryd.prog 8 #[.string s] W fun e w' => e = .returned (.agg #[.int .i64 5, .int .i64 0, .int .u64 0, .string s, .slice none 0 0, .slice none 0 0]) ∧ Below W.heap.size W w') := Lib.hid fun s W => key_any s W
            clear HBF HRF HJ
            go_upto_region 11 with (first
              | (go_at_call 4; (with_reducible refine (HNU.out 1 _).mono ?_); rintro e p1 ⟨rfl, hb⟩; have HP1 := Lib.hid hb; clear hb)
              | (go_at_call 8; (with_reducible refine (HKE.out _ _).mono ?_); rintro e p2 ⟨rfl, hb⟩; have HP2 : Hid (Below wr.heap.size wr p2) := Lib.hid (tr HP1.out hb); clear hb)
              | (go_at_call 7; (with_reducible refine (HVE.out _ _ _ _).mono ?_); rintro e p3 ⟨rfl, hb⟩; have HP3 : Hid (Below wr.heap.size wr p3) := Lib.hid (tr HP2.out hb); clear hb))
            have hRN := parts_lit p3
            have hBW : Below w.heap.size w (p3.alloc (.cells ((.int .i64 3) :: (.int .i64 1) :: (.int .u64 0) :: (.string ⟨#[]⟩) :: (.slice none 0 0) :: (.slice none 0 0) :: (.int .i64 5) :: (.int .i64 0) :: (.int .u64 0) :: (.string ⟨#[97]⟩) :: (.slice none 0 0) :: (.slice none 0 0) :: (.int .i64 4) :: (.int .i64 0) :: (.int .u64 1) :: (.string ⟨#[]⟩) :: (.slice none 0 0) :: (.slice none 0 0) :: (.int .i64 2) :: (.int .i64 0) :: (.int .u64 0) :: (.string ⟨#[]⟩) :: (.slice none 0 0) :: (.slice none 0 0) :: (.int .i64 1) :: (.int .i64 0) :: (.int .u64 0) :: (.string ⟨#[]⟩) :: (.slice none 0 0) :: (.slice none 0 0) :: (.int .i64 10) :: (.int .i64 0) :: (.int .u64 0) :: (.string ⟨#[]⟩) :: (.slice none 0 0) :: (.slice none 0 0) :: []).toArray 26)) := (HBW.out.trans (HP3.out.mono HBW.out.size)).trans ((al0 _ _).mono (Nat.le_trans HBW.out.size HP3.out.size))
            obtain ⟨Wp, hWp⟩ : ∃ Wp, p3.alloc (.cells ((.int .i64 3) :: (.int .i64 1) :: (.int .u64 0) :: (.string ⟨#[]⟩) :: (.slice none 0 0) :: (.slice none 0 0) :: (.int .i64 5) :: (.int .i64 0) :: (.int .u64 0) :: (.string ⟨#[97]⟩) :: (.slice none 0 0) :: (.slice none 0 0) :: (.int .i64 4) :: (.int .i64 0) :: (.int .u64 1) :: (.string ⟨#[]⟩) :: (.slice none 0 0) :: (.slice none 0 0) :: (.int .i64 2) :: (.int .i64 0) :: (.int .u64 0) :: (.string ⟨#[]⟩) :: (.slice none 0 0) :: (.slice none 0 0) :: (.int .i64 1) :: (.int .i64 0) :: (.int .u64 0) :: (.string ⟨#[]⟩) :: (.slice none 0 0) :: (.slice none 0 0) :: (.int .i64 10) :: (.int .i64 0) :: (.int .u64 0) :: (.string ⟨#[]⟩) :: (.slice none 0 0) :: (.slice none 0 0) :: []).toArray 26) = Wp := ⟨_, rfl⟩
            obtain ⟨g4, hg⟩ : ∃ g4, p3.heap.size = g4 := ⟨_, rfl⟩
            rw [hWp, hg] at hRN
            rw [hWp] at hBW
            simp only [hWp, hg]
            have HBP := Lib.hid hBW
            have HRP := Lib.hid hRN
            clear HP1 HP2 HP3 HBW hRN hBW hWp hg
            go_wp2_with fail
            go_loopw [5] (fun x wi => ∃ i : Nat, i ≤ 6 ∧ x = .int .i64 (i : Int) ∧ Hid (Below Wp.heap.size Wp wi)) (fun x _ => 6 - (intOf x).toNat)
            case atStart => exact ⟨0, Nat.zero_le _, rfl, Lib.hid (Below.refl _ _)⟩
            case round =>
              obtain ⟨i, hi, rfl, HI⟩ := hrel
              by_cases hi6 : i < 6
              · have hdi : decide ((i : Int) < 6) = true := by simp; omega
                go_wp2_with fail
                go_loopw [6] (fun x wi => ∃ n : Nat, n ≤ 6 ∧ x = .int .i64 (n : Int) ∧ Hid (Below Wp.heap.size Wp wi)) (fun x _ => 6 - (intOf x).toNat)
                case atStart => exact ⟨0, Nat.zero_le _, rfl, HI⟩
                case round =>
                  obtain ⟨n, hn, rfl, HN⟩ := hrel
                  by_cases hn6 : n < 6
                  · obtain ⟨wn, hwn⟩ : ∃ wn, wn = wr := ⟨_, rfl⟩
                    rw [← hwn] at HN ⊢
                    clear hwn
                    obtain ⟨x0, x1, x2, x3, y1, y2, y3, y4, y5, y6, hX⟩ := (HRP.out.below HN.out).held hi6
                    have hdn : decide ((n : Int) < 6) = true := by simp; omega
                    have HX := Lib.hid hX
                    have HLE : Hid (Wp.heap.size ≤ wn.heap.size) := Lib.hid HN.out.size
                    clear hX
                    go_wp2_with fail
                    go_loopw [8, 7] (fun x y wk => ∃ q : Nat, q ≤ n ∧ x = .int .i64 (q : Int) ∧ Hid (Below wn.heap.size wn wk) ∧ Hid (wk.ownsRow wn.heap.size 26 6 y q (List.replicate q [Value.int .i64 x0, .int .i64 x1, .int .u64 x2, .string x3, .slice y1 y2 y3, .slice y4 y5 y6]).flatten)) (fun x _ _ => n - (intOf x).toNat)
                    case atStart => exact ⟨0, Nat.zero_le _, rfl, Lib.hid (Below.refl _ _), Lib.hid (by simpa using World.ownsRow_nil _ _ _ _)⟩
                    case round =>
                      obtain ⟨q, hq, rfl, HK, HO⟩ := hrel
                      obtain ⟨z0, z1, z2, z3, z4, z5, -⟩ := HX.out _ HK.out
                      by_cases hqn : q < n
                      · have hB0 : wn.heap.size ≤ (wr.alloc (.cells #[.int .i64 x0, .int .i64 x1, .int .u64 x2, .string x3, .slice y1 y2 y3, .slice y4 y5 y6] 26)).heap.size := by have := HK.out.size; simp; omega
                        go_wp2_with (at_builtin; refine wpList_kid rfl _ _ rfl rfl rfl (HO.out.alloc _) (Blk.new wr _ _) (six_one _ _ _ _ _ _ _ _ _ _) (by omega) hB0 ?_; intro v' w' hown hgrow; have HO2 := Lib.hid hown; have HB2 := Lib.hid (HK.out.trans (app_bel HO.out HK.out.size hgrow)); clear hown hgrow)
                        go_roundw
                        case rel => exact ⟨q + 1, by omega, by go_num, HB2, Lib.hid (by rw [← rep_snoc]; exact HO2.out)⟩
                        case measure => simp [intOf]; omega
                      · obtain rfl : q = n := by omega
                        obtain ⟨a0, a1, a2, a3, b1, b2, b3, b4, b5, b6, hY⟩ := (HRP.out.below HN.out).held (j := (i + 1) % 6) (by omega)
                        have HY := Lib.hid hY
                        have HBN : Hid (∀ X, Below wn.heap.size wn X → Below w.heap.size w X) := Lib.hid fun X h => (HBP.out.trans (HN.out.mono HBP.out.size)).trans (h.mono (Nat.le_trans HBP.out.size HN.out.size))
                        have HBK : Hid (∀ X, Below wr.heap.size wr X → Below w.heap.size w X) := Lib.hid fun X h => (HBP.out.trans (HN.out.mono HBP.out.size)).trans ((HK.out.mono (Nat.le_trans HBP.out.size HN.out.size)).trans (h.mono (Nat.le_trans (Nat.le_trans HBP.out.size HN.out.size) HK.out.size)))
                        have HE1 : Hid (NdE wr [.int .i64 k, .int .i64 0, .int .u64 0, .string ⟨#[]⟩, .slice none 0 0, u7]) := Lib.hid (nde_mk (rngk (by omega) (by omega) (by omega) (by omega) (by omega) (by omega)) (by decide) (rdk_nil _) (rdn_own (List.replicate q [Value.int .i64 x0, .int .i64 x1, .int .u64 x2, .string x3, .slice y1 y2 y3, .slice y4 y5 y6]) HO.out rfl (by simp) (fun x hx => by rw [List.eq_of_mem_replicate hx]; exact (HX.out _ HK.out).2.2.2.2.2.2)))
                        obtain ⟨A7, c7, rfl, -⟩ := (Ow.of HO.out).cells
                        clear hY z0 z1 z2 z3 z4 z5
                        go_wp2_with (first
                          | (go_at_call 5; (with_reducible refine (HCK.out wr _ (HBK.out _ (Below.refl _ _)) HE1.out).mono ?_); rintro e v1 ⟨rfl, hb⟩; have HV1 := Lib.hid hb; have HO1 := Lib.hid (own_keep HO.out hb); have HK1 := Lib.hid (HK.out.trans (hb.mono HK.out.size)); obtain ⟨z0, z1, z2, z3, z4, z5, -⟩ := HY.out _ HK1.out; clear hb)
                          | (at_builtin; refine wpList_kid rfl _ _ rfl rfl rfl (HO1.out.alloc _) (Blk.new v1 _ _) (six_one _ _ _ _ _ _ _ _ _ _) (by omega) (Nat.le_trans HK1.out.size (al0 v1 _).size) ?_; intro v' w' hown hgrow; have HO2 := Lib.hid hown; have HB2 := Lib.hid (HK1.out.trans (app_bel HO1.out HK1.out.size hgrow)); obtain ⟨A8, c8, rfl, -⟩ := (Ow.of hown).cells; clear hown hgrow; have HE2 : Hid (NdE w' [.int .i64 k, .int .i64 0, .int .u64 0, .string ⟨#[]⟩, .slice none 0 0, .slice A8 (q + 1) c8]) := Lib.hid (nde_mk (rngk (by omega) (by omega) (by omega) (by omega) (by omega) (by omega)) (by decide) (rdk_nil _) (rdn_own (List.replicate q [Value.int .i64 x0, .int .i64 x1, .int .u64 x2, .string x3, .slice y1 y2 y3, .slice y4 y5 y6] ++ [[Value.int .i64 a0, .int .i64 a1, .int .u64 a2, .string a3, .slice b1 b2 b3, .slice b4 b5 b6]]) HO2.out (by simp) (by simp) (two_kinds HX.out HY.out HB2.out q))))
                          | (go_at_call 5; (with_reducible refine (HCK.out _ _ (HBN.out _ HB2.out) HE2.out).mono ?_); rintro e v4 ⟨rfl, hb⟩; have HV4 := Lib.hid (HB2.out.trans (hb.mono HB2.out.size)); clear hb))
                        go_roundw
                        case rel => exact ⟨q + 1, by omega, by go_num, Lib.hid (HN.out.trans (HV4.out.mono HN.out.size))⟩
                        case measure => simp [intOf]; omega
                  · obtain rfl : n = 6 := by omega
                    go_wp2_with fail
                    go_roundw
                    case rel => exact ⟨i + 1, by omega, by go_num, HN⟩
                    case measure => simp [intOf]; omega
              · obtain rfl : i = 6 := by omega
                go_wp2_with fail
                go_roundw
                case rel => exact ⟨k + 1, by omega, by omega, by go_num, Lib.hid (HBP.out.trans (HI.out.mono HBP.out.size))⟩
                case measure => simp [intOf]; omega
      · obtain rfl : k = 20 := by omega
        go_wp2_with fail
        go_meet
        exact HB
  case rest =>
    have HNE : Hid (∀ W, Calls Tryd.prog 9 #[.int .i64 63] W fun e w' => (∃ cs, e = .returned (.agg cs.toArray) ∧ Nd w' (nestT 62) cs) ∧ Below W.heap.size W w') := Lib.hid fun W => nest_any 63 W (by omega) (by omega)
    have HNF : Hid (∀ W, Calls Tryd.prog 9 #[.int .i64 64] W fun e w' => (∃ cs, e = .returned (.agg cs.toArray) ∧ Nd w' (nestT 63) cs) ∧ Below W.heap.size W w') := Lib.hid fun W => nest_any 64 W (by omega) (by omega)
    have HNU : Hid (∀ n W, Calls Tryd.prog 4 #[.int .i64 n] W fun e w' => e = .returned (.agg #[.int .i64 3, .int .i64 n, .int .u64 0, .string ⟨#[]⟩, .slice none 0 0, .slice none 0 0]) ∧ Below W.heap.size W w') := Lib.hid fun n W => num_any n W
    have HKE : Hid (∀ s W, Calls Tryd.prog 8 #[.string s] W fun e w' => e = .returned (.agg #[.int .i64 5, .int .i64 0, .int .u64 0, .string s, .slice none 0 0, .slice none 0 0]) ∧ Below W.heap.size W w') := Lib.hid fun s W => key_any s W
    have HVE : Hid (∀ A m c W, Calls Tryd.prog 7 #[.slice A m c] W fun e w' => e = .returned (.agg #[.int .i64 10, .int .i64 0, .int .u64 0, .string ⟨#[]⟩, .slice none 0 0, .slice A m c]) ∧ Below W.heap.size W w') := Lib.hid fun A m c W => vec_any A m c W
    have HTA : Hid (∀ B k d A m c W, Calls Tryd.prog 10 #[.slice B k d, .slice A m c] W fun e w' => e = .returned (.agg #[.int .i64 17, .int .i64 0, .int .u64 0, .string ⟨#[]⟩, .slice B k d, .slice A m c]) ∧ Below W.heap.size W w') := Lib.hid fun B k d A m c W => table_any B k d A m c W
    go_upto_region 25 with (go_at_call 9; (with_reducible refine (HNE.out _).mono ?_); rintro e y1 ⟨⟨cs, rfl, hn⟩, hb⟩; obtain ⟨k3, n3, u3, s3, A3, a3, c3, B3, b3, d3, rfl⟩ := hn.shape; have HY1 := Lib.hid hb; have HD1 : Hid (NdE y1 [.int .i64 k3, .int .i64 n3, .int .u64 u3, .string s3, .slice A3 a3 c3, .slice B3 b3 d3]) := Lib.hid ⟨_, hn⟩; clear hb hn)
    have hwd : Below wc.heap.size wc (y1.alloc (.cells #[.int .i64 k3, .int .i64 n3, .int .u64 u3, .string s3, .slice A3 a3 c3, .slice B3 b3 d3] 26)) := tr HY1.out (al0 _ _)
    have hbx := Blk.new y1 26 #[.int .i64 k3, .int .i64 n3, .int .u64 u3, .string s3, .slice A3 a3 c3, .slice B3 b3 d3]
    have hdd := HD1.out.below (al0 y1 (.cells #[.int .i64 k3, .int .i64 n3, .int .u64 u3, .string s3, .slice A3 a3 c3, .slice B3 b3 d3] 26))
    obtain ⟨Xb, hXb⟩ : ∃ Xb, y1.alloc (.cells #[.int .i64 k3, .int .i64 n3, .int .u64 u3, .string s3, .slice A3 a3 c3, .slice B3 b3 d3] 26) = Xb := ⟨_, rfl⟩
    obtain ⟨g, hg⟩ : ∃ g, y1.heap.size = g := ⟨_, rfl⟩
    rw [hXb] at hwd hdd hbx
    rw [hg] at hbx
    simp only [hXb, hg]
    have HWD : Hid (Below w.heap.size w Xb) := Lib.hid (hcut.out.trans (hwd.mono hcut.out.size))
    have hS0 : SXk Xb g k3 n3 u3 s3 A3 a3 c3 B3 b3 d3 Xb.drew := ⟨Blk.below hbx (Below.refl _ _).drew hbx.lt, (Below.refl _ _).drew, hdd.below (Below.refl _ _).drew⟩
    have hkp : ∀ {X Y : World}, SXk Xb g k3 n3 u3 s3 A3 a3 c3 B3 b3 d3 X → Below X.heap.size X Y → SXk Xb g k3 n3 u3 s3 A3 a3 c3 B3 b3 d3 Y := fun h k => ⟨Blk.below h.1 k (Blk.lt h.1), tr h.2.1 k, h.2.2.below k⟩
    clear hwd hdd hbx hXb hg HY1 HD1 hcut HNE
    refine wp_region_vals dsX (SXk Xb g k3 n3 u3 s3 A3 a3 c3 B3 b3 d3) (RK kdX) (by kernel_rfl) (by kernel_rfl) (by kernel_rfl) (by decide) (lt_all (n := 201) (by decide)) hS0 ?step ?fin
    case step =>
      refine each_op ?_
      refine ⟨?_, ?_, ?_, ?_, ?_, ?_, ?_, ?_, ?_, ?_, ?_, ?_, ?_, ?_, ?_, ?_, ?_, ?_, ?_, ?_, ?_, ?_, ?_, ?_, ?_, ?_, ?_, ?_, ?_, ?_, ?_, ?_, ?_, ?_, ?_, ?_, trivial⟩
      · intro hi b wx hF hS hd K hK
        refine stp_call (enters_of Tryd.func9 (by kernel_rfl) rfl) hi rfl rfl (args := #[.int .i64 64]) (by simp [Act.eval]) (HNF.out _) ?_
        rintro e w' ⟨⟨cs, rfl, hn⟩, hb⟩
        obtain ⟨k, n, u, s, A, m, c, B, q, r, rfl⟩ := hn.shape
        exact ⟨_, rfl, hK _ _ (hkp hS hb) ⟨_, _, _, _, _, _, _, _, _, _, rfl, _, hn⟩ (fun _ _ h => rk_keep hb h)⟩
      · intro hi b wx hF hS hd K hK
        exact stp_zero hi rfl rfl (hK _ _ hS (isn_leaf _ ⟨by decide, by decide, by decide, by decide, by decide, by decide⟩ (by decide)) (fun _ _ h => h))
      · intro hi b wx hF hS hd K hK
        obtain ⟨ka, na, ua, sa, Aa, ma, ca, Ba, pa, qa, hva, hna⟩ : IsN (valOf dsX b 0) wx := dep (F := fun k => RK kdX k (valOf dsX b k) wx) hd 0 (by kernel_rfl)
        have hwa := val_at (t := 126) rfl hva
        obtain ⟨kb, nb, ub, sb, Ab, mb, cb, Bb, pb, qb, hvb, hnb⟩ : IsN (valOf dsX b 1) wx := dep (F := fun k => RK kdX k (valOf dsX b k) wx) hd 1 (by kernel_rfl)
        have hwb := val_at (t := 127) rfl hvb
        have hb := al0 wx (.cells ((.int .i64 ka) :: (.int .i64 na) :: (.int .u64 ua) :: (.string sa) :: (.slice Aa ma ca) :: (.slice Ba pa qa) :: (.int .i64 kb) :: (.int .i64 nb) :: (.int .u64 ub) :: (.string sb) :: (.slice Ab mb cb) :: (.slice Bb pb qb) :: []).toArray 26)
        exact stp_two hi rfl rfl hwa hwb (hK _ _ (hkp hS hb) ⟨_, rfl, rdn_lit (m := 2) [[.int .i64 ka, .int .i64 na, .int .u64 ua, .string sa, .slice Aa ma ca, .slice Ba pa qa], [.int .i64 kb, .int .i64 nb, .int .u64 ub, .string sb, .slice Ab mb cb, .slice Bb pb qb]] (Blk.new wx _ _) rfl rfl (by intro z hz; simp only [List.mem_cons, List.not_mem_nil, or_false] at hz; rcases hz with rfl | rfl; all_goals first | exact hna.below hb | exact hnb.below hb) (by decide)⟩ (fun _ _ h => rk_keep hb h))
      · intro hi b wx hF hS hd K hK
        obtain ⟨g0, hv, hr⟩ : IsR 2 (valOf dsX b 2) wx := dep (F := fun k => RK kdX k (valOf dsX b k) wx) hd 2 (by kernel_rfl)
        have hv2 := val_at (t := 128) rfl hv
        refine stp_call (enters_of Tryd.func7 (by kernel_rfl) rfl) hi rfl rfl (args := #[.slice (some ⟨g0, 0, none⟩) 2 2]) (by simp [Act.eval, hv2]) (HVE.out _ _ _ _) ?_
        rintro e w' ⟨rfl, hb⟩
        exact ⟨_, rfl, hK _ _ (hkp hS hb) ⟨_, _, _, _, _, _, _, _, _, _, rfl, nde_mk ⟨by decide, by decide, by decide, by decide, by decide, by decide⟩ (by decide) (rdk_nil _) (hr.below hb)⟩ (fun _ _ h => rk_keep hb h)⟩
      · intro hi b wx hF hS hd K hK
        exact stp_zero hi rfl rfl (hK _ _ hS (isn_leaf _ ⟨by decide, by decide, by decide, by decide, by decide, by decide⟩ (by decide)) (fun _ _ h => h))
      · intro hi b wx hF hS hd K hK
        refine stp_call (enters_of Tryd.func9 (by kernel_rfl) rfl) hi rfl rfl (args := #[.int .i64 64]) (by simp [Act.eval]) (HNF.out _) ?_
        rintro e w' ⟨⟨cs, rfl, hn⟩, hb⟩
        obtain ⟨k, n, u, s, A, m, c, B, q, r, rfl⟩ := hn.shape
        exact ⟨_, rfl, hK _ _ (hkp hS hb) ⟨_, _, _, _, _, _, _, _, _, _, rfl, _, hn⟩ (fun _ _ h => rk_keep hb h)⟩
      · intro hi b wx hF hS hd K hK
        obtain ⟨ka, na, ua, sa, Aa, ma, ca, Ba, pa, qa, hva, hna⟩ : IsN (valOf dsX b 4) wx := dep (F := fun k => RK kdX k (valOf dsX b k) wx) hd 4 (by kernel_rfl)
        have hwa := val_at (t := 130) rfl hva
        obtain ⟨kb, nb, ub, sb, Ab, mb, cb, Bb, pb, qb, hvb, hnb⟩ : IsN (valOf dsX b 5) wx := dep (F := fun k => RK kdX k (valOf dsX b k) wx) hd 5 (by kernel_rfl)
        have hwb := val_at (t := 131) rfl hvb
        have hb := al0 wx (.cells ((.int .i64 ka) :: (.int .i64 na) :: (.int .u64 ua) :: (.string sa) :: (.slice Aa ma ca) :: (.slice Ba pa qa) :: (.int .i64 kb) :: (.int .i64 nb) :: (.int .u64 ub) :: (.string sb) :: (.slice Ab mb cb) :: (.slice Bb pb qb) :: []).toArray 26)
        exact stp_two hi rfl rfl hwa hwb (hK _ _ (hkp hS hb) ⟨_, rfl, rdn_lit (m := 2) [[.int .i64 ka, .int .i64 na, .int .u64 ua, .string sa, .slice Aa ma ca, .slice Ba pa qa], [.int .i64 kb, .int .i64 nb, .int .u64 ub, .string sb, .slice Ab mb cb, .slice Bb pb qb]] (Blk.new wx _ _) rfl rfl (by intro z hz; simp only [List.mem_cons, List.not_mem_nil, or_false] at hz; rcases hz with rfl | rfl; all_goals first | exact hna.below hb | exact hnb.below hb) (by decide)⟩ (fun _ _ h => rk_keep hb h))
      · intro hi b wx hF hS hd K hK
        obtain ⟨g0, hv, hr⟩ : IsR 2 (valOf dsX b 6) wx := dep (F := fun k => RK kdX k (valOf dsX b k) wx) hd 6 (by kernel_rfl)
        have hv2 := val_at (t := 132) rfl hv
        refine stp_call (enters_of Tryd.func7 (by kernel_rfl) rfl) hi rfl rfl (args := #[.slice (some ⟨g0, 0, none⟩) 2 2]) (by simp [Act.eval, hv2]) (HVE.out _ _ _ _) ?_
        rintro e w' ⟨rfl, hb⟩
        exact ⟨_, rfl, hK _ _ (hkp hS hb) ⟨_, _, _, _, _, _, _, _, _, _, rfl, nde_mk ⟨by decide, by decide, by decide, by decide, by decide, by decide⟩ (by decide) (rdk_nil _) (hr.below hb)⟩ (fun _ _ h => rk_keep hb h)⟩
      · intro hi b wx hF hS hd K hK
        exact stp_load hi rfl rfl (hF.at (t := 9) rfl rfl) hS.1 (hK _ _ hS ⟨_, _, _, _, _, _, _, _, _, _, rfl, hS.2.2⟩ (fun _ _ h => h))
      · intro hi b wx hF hS hd K hK
        exact stp_zero hi rfl rfl (hK _ _ hS (isn_leaf _ ⟨by decide, by decide, by decide, by decide, by decide, by decide⟩ (by decide)) (fun _ _ h => h))
      · intro hi b wx hF hS hd K hK
        obtain ⟨ka, na, ua, sa, Aa, ma, ca, Ba, pa, qa, hva, hna⟩ : IsN (valOf dsX b 8) wx := dep (F := fun k => RK kdX k (valOf dsX b k) wx) hd 8 (by kernel_rfl)
        have hwa := val_at (t := 134) rfl hva
        obtain ⟨kb, nb, ub, sb, Ab, mb, cb, Bb, pb, qb, hvb, hnb⟩ : IsN (valOf dsX b 9) wx := dep (F := fun k => RK kdX k (valOf dsX b k) wx) hd 9 (by kernel_rfl)
        have hwb := val_at (t := 135) rfl hvb
        have hb := al0 wx (.cells ((.int .i64 ka) :: (.int .i64 na) :: (.int .u64 ua) :: (.string sa) :: (.slice Aa ma ca) :: (.slice Ba pa qa) :: (.int .i64 kb) :: (.int .i64 nb) :: (.int .u64 ub) :: (.string sb) :: (.slice Ab mb cb) :: (.slice Bb pb qb) :: []).toArray 26)
        exact stp_two hi rfl rfl hwa hwb (hK _ _ (hkp hS hb) ⟨_, rfl, rdn_lit (m := 2) [[.int .i64 ka, .int .i64 na, .int .u64 ua, .string sa, .slice Aa ma ca, .slice Ba pa qa], [.int .i64 kb, .int .i64 nb, .int .u64 ub, .string sb, .slice Ab mb cb, .slice Bb pb qb]] (Blk.new wx _ _) rfl rfl (by intro z hz; simp only [List.mem_cons, List.not_mem_nil, or_false] at hz; rcases hz with rfl | rfl; all_goals first | exact hna.below hb | exact hnb.below hb) (by decide)⟩ (fun _ _ h => rk_keep hb h))
      · intro hi b wx hF hS hd K hK
        obtain ⟨g0, hv, hr⟩ : IsR 2 (valOf dsX b 10) wx := dep (F := fun k => RK kdX k (valOf dsX b k) wx) hd 10 (by kernel_rfl)
        have hv2 := val_at (t := 136) rfl hv
        refine stp_call (enters_of Tryd.func7 (by kernel_rfl) rfl) hi rfl rfl (args := #[.slice (some ⟨g0, 0, none⟩) 2 2]) (by simp [Act.eval, hv2]) (HVE.out _ _ _ _) ?_
        rintro e w' ⟨rfl, hb⟩
        exact ⟨_, rfl, hK _ _ (hkp hS hb) ⟨_, _, _, _, _, _, _, _, _, _, rfl, nde_mk ⟨by decide, by decide, by decide, by decide, by decide, by decide⟩ (by decide) (rdk_nil _) (hr.below hb)⟩ (fun _ _ h => rk_keep hb h)⟩
      · intro hi b wx hF hS hd K hK
        have hb := al0 wx (.cells #[.string ⟨#[97]⟩, .string ⟨#[97]⟩, .string ⟨#[0]⟩] 9)
        exact stp_keys3 hi rfl rfl (hK _ _ (hkp hS hb) ⟨_, rfl, rdk_lit [⟨#[97]⟩, ⟨#[97]⟩, ⟨#[0]⟩] (Blk.new wx _ _) rfl rfl (by intro s hs; simp only [List.mem_cons, List.not_mem_nil, or_false] at hs; rcases hs with rfl | rfl | rfl <;> decide) (by decide)⟩ (fun _ _ h => rk_keep hb h))
      · intro hi b wx hF hS hd K hK
        refine stp_call (enters_of Tryd.func4 (by kernel_rfl) rfl) hi rfl rfl (args := #[.int .i64 1]) (by simp [Act.eval]) (HNU.out _ _) ?_
        rintro e w' ⟨rfl, hb⟩
        exact ⟨_, rfl, hK _ _ (hkp hS hb) (isn_leaf _ ⟨by decide, by decide, by decide, by decide, by decide, by decide⟩ (by decide)) (fun _ _ h => rk_keep hb h)⟩
      · intro hi b wx hF hS hd K hK
        refine stp_call (enters_of Tryd.func4 (by kernel_rfl) rfl) hi rfl rfl (args := #[.int .i64 2]) (by simp [Act.eval]) (HNU.out _ _) ?_
        rintro e w' ⟨rfl, hb⟩
        exact ⟨_, rfl, hK _ _ (hkp hS hb) (isn_leaf _ ⟨by decide, by decide, by decide, by decide, by decide, by decide⟩ (by decide)) (fun _ _ h => rk_keep hb h)⟩
      · intro hi b wx hF hS hd K hK
        refine stp_call (enters_of Tryd.func4 (by kernel_rfl) rfl) hi rfl rfl (args := #[.int .i64 3]) (by simp [Act.eval]) (HNU.out _ _) ?_
        rintro e w' ⟨rfl, hb⟩
        exact ⟨_, rfl, hK _ _ (hkp hS hb) (isn_leaf _ ⟨by decide, by decide, by decide, by decide, by decide, by decide⟩ (by decide)) (fun _ _ h => rk_keep hb h)⟩
      · intro hi b wx hF hS hd K hK
        obtain ⟨ka, na, ua, sa, Aa, ma, ca, Ba, pa, qa, hva, hna⟩ : IsN (valOf dsX b 13) wx := dep (F := fun k => RK kdX k (valOf dsX b k) wx) hd 13 (by kernel_rfl)
        have hwa := val_at (t := 139) rfl hva
        obtain ⟨kb, nb, ub, sb, Ab, mb, cb, Bb, pb, qb, hvb, hnb⟩ : IsN (valOf dsX b 14) wx := dep (F := fun k => RK kdX k (valOf dsX b k) wx) hd 14 (by kernel_rfl)
        have hwb := val_at (t := 140) rfl hvb
        obtain ⟨kc, nc, uc, sc, Ac, mc, cc, Bc, pc, qc, hvc, hnc⟩ : IsN (valOf dsX b 15) wx := dep (F := fun k => RK kdX k (valOf dsX b k) wx) hd 15 (by kernel_rfl)
        have hwc := val_at (t := 141) rfl hvc
        have hb := al0 wx (.cells ((.int .i64 ka) :: (.int .i64 na) :: (.int .u64 ua) :: (.string sa) :: (.slice Aa ma ca) :: (.slice Ba pa qa) :: (.int .i64 kb) :: (.int .i64 nb) :: (.int .u64 ub) :: (.string sb) :: (.slice Ab mb cb) :: (.slice Bb pb qb) :: (.int .i64 kc) :: (.int .i64 nc) :: (.int .u64 uc) :: (.string sc) :: (.slice Ac mc cc) :: (.slice Bc pc qc) :: []).toArray 26)
        exact stp_three hi rfl rfl hwa hwb hwc (hK _ _ (hkp hS hb) ⟨_, rfl, rdn_lit (m := 3) [[.int .i64 ka, .int .i64 na, .int .u64 ua, .string sa, .slice Aa ma ca, .slice Ba pa qa], [.int .i64 kb, .int .i64 nb, .int .u64 ub, .string sb, .slice Ab mb cb, .slice Bb pb qb], [.int .i64 kc, .int .i64 nc, .int .u64 uc, .string sc, .slice Ac mc cc, .slice Bc pc qc]] (Blk.new wx _ _) rfl rfl (by intro z hz; simp only [List.mem_cons, List.not_mem_nil, or_false] at hz; rcases hz with rfl | rfl | rfl; all_goals first | exact hna.below hb | exact hnb.below hb | exact hnc.below hb) (by decide)⟩ (fun _ _ h => rk_keep hb h))
      · intro hi b wx hF hS hd K hK
        obtain ⟨g0, hv, hr⟩ : IsK 3 (valOf dsX b 12) wx := dep (F := fun k => RK kdX k (valOf dsX b k) wx) hd 12 (by kernel_rfl)
        have hv2 := val_at (t := 138) rfl hv
        obtain ⟨g1, hv3, hr2⟩ : IsR 3 (valOf dsX b 16) wx := dep (F := fun k => RK kdX k (valOf dsX b k) wx) hd 16 (by kernel_rfl)
        have hv4 := val_at (t := 142) rfl hv3
        refine stp_call (enters_of Tryd.func10 (by kernel_rfl) rfl) hi rfl rfl (args := #[.slice (some ⟨g0, 0, none⟩) 3 3, .slice (some ⟨g1, 0, none⟩) 3 3]) (by simp [Act.eval, hv2, hv4]) (HTA.out _ _ _ _ _ _ _) ?_
        rintro e w' ⟨rfl, hb⟩
        exact ⟨_, rfl, hK _ _ (hkp hS hb) ⟨_, _, _, _, _, _, _, _, _, _, rfl, nde_mk ⟨by decide, by decide, by decide, by decide, by decide, by decide⟩ (by decide) (hr.below hb) (hr2.below hb)⟩ (fun _ _ h => rk_keep hb h)⟩
      · intro hi b wx hF hS hd K hK
        have hb := al0 wx (.cells #[.string ⟨#[0]⟩, .string ⟨#[97]⟩, .string ⟨#[97]⟩] 9)
        exact stp_keys3 hi rfl rfl (hK _ _ (hkp hS hb) ⟨_, rfl, rdk_lit [⟨#[0]⟩, ⟨#[97]⟩, ⟨#[97]⟩] (Blk.new wx _ _) rfl rfl (by intro s hs; simp only [List.mem_cons, List.not_mem_nil, or_false] at hs; rcases hs with rfl | rfl | rfl <;> decide) (by decide)⟩ (fun _ _ h => rk_keep hb h))
      · intro hi b wx hF hS hd K hK
        refine stp_call (enters_of Tryd.func4 (by kernel_rfl) rfl) hi rfl rfl (args := #[.int .i64 1]) (by simp [Act.eval]) (HNU.out _ _) ?_
        rintro e w' ⟨rfl, hb⟩
        exact ⟨_, rfl, hK _ _ (hkp hS hb) (isn_leaf _ ⟨by decide, by decide, by decide, by decide, by decide, by decide⟩ (by decide)) (fun _ _ h => rk_keep hb h)⟩
      · intro hi b wx hF hS hd K hK
        refine stp_call (enters_of Tryd.func4 (by kernel_rfl) rfl) hi rfl rfl (args := #[.int .i64 2]) (by simp [Act.eval]) (HNU.out _ _) ?_
        rintro e w' ⟨rfl, hb⟩
        exact ⟨_, rfl, hK _ _ (hkp hS hb) (isn_leaf _ ⟨by decide, by decide, by decide, by decide, by decide, by decide⟩ (by decide)) (fun _ _ h => rk_keep hb h)⟩
      · intro hi b wx hF hS hd K hK
        exact stp_zero hi rfl rfl (hK _ _ hS (isn_leaf _ ⟨by decide, by decide, by decide, by decide, by decide, by decide⟩ (by decide)) (fun _ _ h => h))
      · intro hi b wx hF hS hd K hK
        obtain ⟨ka, na, ua, sa, Aa, ma, ca, Ba, pa, qa, hva, hna⟩ : IsN (valOf dsX b 19) wx := dep (F := fun k => RK kdX k (valOf dsX b k) wx) hd 19 (by kernel_rfl)
        have hwa := val_at (t := 145) rfl hva
        obtain ⟨kb, nb, ub, sb, Ab, mb, cb, Bb, pb, qb, hvb, hnb⟩ : IsN (valOf dsX b 20) wx := dep (F := fun k => RK kdX k (valOf dsX b k) wx) hd 20 (by kernel_rfl)
        have hwb := val_at (t := 146) rfl hvb
        obtain ⟨kc, nc, uc, sc, Ac, mc, cc, Bc, pc, qc, hvc, hnc⟩ : IsN (valOf dsX b 21) wx := dep (F := fun k => RK kdX k (valOf dsX b k) wx) hd 21 (by kernel_rfl)
        have hwc := val_at (t := 147) rfl hvc
        have hb := al0 wx (.cells ((.int .i64 ka) :: (.int .i64 na) :: (.int .u64 ua) :: (.string sa) :: (.slice Aa ma ca) :: (.slice Ba pa qa) :: (.int .i64 kb) :: (.int .i64 nb) :: (.int .u64 ub) :: (.string sb) :: (.slice Ab mb cb) :: (.slice Bb pb qb) :: (.int .i64 kc) :: (.int .i64 nc) :: (.int .u64 uc) :: (.string sc) :: (.slice Ac mc cc) :: (.slice Bc pc qc) :: []).toArray 26)
        exact stp_three hi rfl rfl hwa hwb hwc (hK _ _ (hkp hS hb) ⟨_, rfl, rdn_lit (m := 3) [[.int .i64 ka, .int .i64 na, .int .u64 ua, .string sa, .slice Aa ma ca, .slice Ba pa qa], [.int .i64 kb, .int .i64 nb, .int .u64 ub, .string sb, .slice Ab mb cb, .slice Bb pb qb], [.int .i64 kc, .int .i64 nc, .int .u64 uc, .string sc, .slice Ac mc cc, .slice Bc pc qc]] (Blk.new wx _ _) rfl rfl (by intro z hz; simp only [List.mem_cons, List.not_mem_nil, or_false] at hz; rcases hz with rfl | rfl | rfl; all_goals first | exact hna.below hb | exact hnb.below hb | exact hnc.below hb) (by decide)⟩ (fun _ _ h => rk_keep hb h))
      · intro hi b wx hF hS hd K hK
        obtain ⟨g0, hv, hr⟩ : IsK 3 (valOf dsX b 18) wx := dep (F := fun k => RK kdX k (valOf dsX b k) wx) hd 18 (by kernel_rfl)
        have hv2 := val_at (t := 144) rfl hv
        obtain ⟨g1, hv3, hr2⟩ : IsR 3 (valOf dsX b 22) wx := dep (F := fun k => RK kdX k (valOf dsX b k) wx) hd 22 (by kernel_rfl)
        have hv4 := val_at (t := 148) rfl hv3
        refine stp_call (enters_of Tryd.func10 (by kernel_rfl) rfl) hi rfl rfl (args := #[.slice (some ⟨g0, 0, none⟩) 3 3, .slice (some ⟨g1, 0, none⟩) 3 3]) (by simp [Act.eval, hv2, hv4]) (HTA.out _ _ _ _ _ _ _) ?_
        rintro e w' ⟨rfl, hb⟩
        exact ⟨_, rfl, hK _ _ (hkp hS hb) ⟨_, _, _, _, _, _, _, _, _, _, rfl, nde_mk ⟨by decide, by decide, by decide, by decide, by decide, by decide⟩ (by decide) (hr.below hb) (hr2.below hb)⟩ (fun _ _ h => rk_keep hb h)⟩
      · intro hi b wx hF hS hd K hK
        have hb := al0 wx (.cells #[.string ⟨#[97]⟩, .string ⟨#[98]⟩] 9)
        exact stp_keys2 hi rfl rfl (hK _ _ (hkp hS hb) ⟨_, rfl, rdk_lit [⟨#[97]⟩, ⟨#[98]⟩] (Blk.new wx _ _) rfl rfl (by intro s hs; simp only [List.mem_cons, List.not_mem_nil, or_false] at hs; rcases hs with rfl | rfl <;> decide) (by decide)⟩ (fun _ _ h => rk_keep hb h))
      · intro hi b wx hF hS hd K hK
        exact stp_zero hi rfl rfl (hK _ _ hS (isn_leaf _ ⟨by decide, by decide, by decide, by decide, by decide, by decide⟩ (by decide)) (fun _ _ h => h))
      · intro hi b wx hF hS hd K hK
        refine stp_call (enters_of Tryd.func8 (by kernel_rfl) rfl) hi rfl rfl (args := #[.string ⟨#[0]⟩]) (by simp [Act.eval]) (HKE.out _ _) ?_
        rintro e w' ⟨rfl, hb⟩
        exact ⟨_, rfl, hK _ _ (hkp hS hb) (isn_leaf _ ⟨by decide, by decide, by decide, by decide, by decide, by decide⟩ (by decide)) (fun _ _ h => rk_keep hb h)⟩
      · intro hi b wx hF hS hd K hK
        obtain ⟨ka, na, ua, sa, Aa, ma, ca, Ba, pa, qa, hva, hna⟩ : IsN (valOf dsX b 25) wx := dep (F := fun k => RK kdX k (valOf dsX b k) wx) hd 25 (by kernel_rfl)
        have hwa := val_at (t := 151) rfl hva
        obtain ⟨kb, nb, ub, sb, Ab, mb, cb, Bb, pb, qb, hvb, hnb⟩ : IsN (valOf dsX b 26) wx := dep (F := fun k => RK kdX k (valOf dsX b k) wx) hd 26 (by kernel_rfl)
        have hwb := val_at (t := 152) rfl hvb
        have hb := al0 wx (.cells ((.int .i64 ka) :: (.int .i64 na) :: (.int .u64 ua) :: (.string sa) :: (.slice Aa ma ca) :: (.slice Ba pa qa) :: (.int .i64 kb) :: (.int .i64 nb) :: (.int .u64 ub) :: (.string sb) :: (.slice Ab mb cb) :: (.slice Bb pb qb) :: []).toArray 26)
        exact stp_two hi rfl rfl hwa hwb (hK _ _ (hkp hS hb) ⟨_, rfl, rdn_lit (m := 2) [[.int .i64 ka, .int .i64 na, .int .u64 ua, .string sa, .slice Aa ma ca, .slice Ba pa qa], [.int .i64 kb, .int .i64 nb, .int .u64 ub, .string sb, .slice Ab mb cb, .slice Bb pb qb]] (Blk.new wx _ _) rfl rfl (by intro z hz; simp only [List.mem_cons, List.not_mem_nil, or_false] at hz; rcases hz with rfl | rfl; all_goals first | exact hna.below hb | exact hnb.below hb) (by decide)⟩ (fun _ _ h => rk_keep hb h))
      · intro hi b wx hF hS hd K hK
        obtain ⟨g0, hv, hr⟩ : IsK 2 (valOf dsX b 24) wx := dep (F := fun k => RK kdX k (valOf dsX b k) wx) hd 24 (by kernel_rfl)
        have hv2 := val_at (t := 150) rfl hv
        obtain ⟨g1, hv3, hr2⟩ : IsR 2 (valOf dsX b 27) wx := dep (F := fun k => RK kdX k (valOf dsX b k) wx) hd 27 (by kernel_rfl)
        have hv4 := val_at (t := 153) rfl hv3
        refine stp_call (enters_of Tryd.func10 (by kernel_rfl) rfl) hi rfl rfl (args := #[.slice (some ⟨g0, 0, none⟩) 2 2, .slice (some ⟨g1, 0, none⟩) 2 2]) (by simp [Act.eval, hv2, hv4]) (HTA.out _ _ _ _ _ _ _) ?_
        rintro e w' ⟨rfl, hb⟩
        exact ⟨_, rfl, hK _ _ (hkp hS hb) ⟨_, _, _, _, _, _, _, _, _, _, rfl, nde_mk ⟨by decide, by decide, by decide, by decide, by decide, by decide⟩ (by decide) (hr.below hb) (hr2.below hb)⟩ (fun _ _ h => rk_keep hb h)⟩
      · intro hi b wx hF hS hd K hK
        have hb := al0 wx (.cells #[.string ⟨#[]⟩, .string ⟨#[97]⟩] 9)
        exact stp_keys2 hi rfl rfl (hK _ _ (hkp hS hb) ⟨_, rfl, rdk_lit [⟨#[]⟩, ⟨#[97]⟩] (Blk.new wx _ _) rfl rfl (by intro s hs; simp only [List.mem_cons, List.not_mem_nil, or_false] at hs; rcases hs with rfl | rfl <;> decide) (by decide)⟩ (fun _ _ h => rk_keep hb h))
      · intro hi b wx hF hS hd K hK
        refine stp_call (enters_of Tryd.func8 (by kernel_rfl) rfl) hi rfl rfl (args := #[.string ⟨#[]⟩]) (by simp [Act.eval]) (HKE.out _ _) ?_
        rintro e w' ⟨rfl, hb⟩
        exact ⟨_, rfl, hK _ _ (hkp hS hb) (isn_leaf _ ⟨by decide, by decide, by decide, by decide, by decide, by decide⟩ (by decide)) (fun _ _ h => rk_keep hb h)⟩
      · intro hi b wx hF hS hd K hK
        refine stp_call (enters_of Tryd.func8 (by kernel_rfl) rfl) hi rfl rfl (args := #[.string ⟨#[195, 169]⟩]) (by simp [Act.eval]) (HKE.out _ _) ?_
        rintro e w' ⟨rfl, hb⟩
        exact ⟨_, rfl, hK _ _ (hkp hS hb) (isn_leaf _ ⟨by decide, by decide, by decide, by decide, by decide, by decide⟩ (by decide)) (fun _ _ h => rk_keep hb h)⟩
      · intro hi b wx hF hS hd K hK
        obtain ⟨ka, na, ua, sa, Aa, ma, ca, Ba, pa, qa, hva, hna⟩ : IsN (valOf dsX b 30) wx := dep (F := fun k => RK kdX k (valOf dsX b k) wx) hd 30 (by kernel_rfl)
        have hwa := val_at (t := 156) rfl hva
        obtain ⟨kb, nb, ub, sb, Ab, mb, cb, Bb, pb, qb, hvb, hnb⟩ : IsN (valOf dsX b 31) wx := dep (F := fun k => RK kdX k (valOf dsX b k) wx) hd 31 (by kernel_rfl)
        have hwb := val_at (t := 157) rfl hvb
        have hb := al0 wx (.cells ((.int .i64 ka) :: (.int .i64 na) :: (.int .u64 ua) :: (.string sa) :: (.slice Aa ma ca) :: (.slice Ba pa qa) :: (.int .i64 kb) :: (.int .i64 nb) :: (.int .u64 ub) :: (.string sb) :: (.slice Ab mb cb) :: (.slice Bb pb qb) :: []).toArray 26)
        exact stp_two hi rfl rfl hwa hwb (hK _ _ (hkp hS hb) ⟨_, rfl, rdn_lit (m := 2) [[.int .i64 ka, .int .i64 na, .int .u64 ua, .string sa, .slice Aa ma ca, .slice Ba pa qa], [.int .i64 kb, .int .i64 nb, .int .u64 ub, .string sb, .slice Ab mb cb, .slice Bb pb qb]] (Blk.new wx _ _) rfl rfl (by intro z hz; simp only [List.mem_cons, List.not_mem_nil, or_false] at hz; rcases hz with rfl | rfl; all_goals first | exact hna.below hb | exact hnb.below hb) (by decide)⟩ (fun _ _ h => rk_keep hb h))
      · intro hi b wx hF hS hd K hK
        obtain ⟨g0, hv, hr⟩ : IsK 2 (valOf dsX b 29) wx := dep (F := fun k => RK kdX k (valOf dsX b k) wx) hd 29 (by kernel_rfl)
        have hv2 := val_at (t := 155) rfl hv
        obtain ⟨g1, hv3, hr2⟩ : IsR 2 (valOf dsX b 32) wx := dep (F := fun k => RK kdX k (valOf dsX b k) wx) hd 32 (by kernel_rfl)
        have hv4 := val_at (t := 158) rfl hv3
        refine stp_call (enters_of Tryd.func10 (by kernel_rfl) rfl) hi rfl rfl (args := #[.slice (some ⟨g0, 0, none⟩) 2 2, .slice (some ⟨g1, 0, none⟩) 2 2]) (by simp [Act.eval, hv2, hv4]) (HTA.out _ _ _ _ _ _ _) ?_
        rintro e w' ⟨rfl, hb⟩
        exact ⟨_, rfl, hK _ _ (hkp hS hb) ⟨_, _, _, _, _, _, _, _, _, _, rfl, nde_mk ⟨by decide, by decide, by decide, by decide, by decide, by decide⟩ (by decide) (hr.below hb) (hr2.below hb)⟩ (fun _ _ h => rk_keep hb h)⟩
      · intro hi b wx hF hS hd K hK
        obtain ⟨ka, na, ua, sa, Aa, ma, ca, Ba, pa, qa, hva, hna⟩ : IsN (valOf dsX b 3) wx := dep (F := fun k => RK kdX k (valOf dsX b k) wx) hd 3 (by kernel_rfl)
        have hwa := val_at (t := 129) rfl hva
        obtain ⟨kb, nb, ub, sb, Ab, mb, cb, Bb, pb, qb, hvb, hnb⟩ : IsN (valOf dsX b 7) wx := dep (F := fun k => RK kdX k (valOf dsX b k) wx) hd 7 (by kernel_rfl)
        have hwb := val_at (t := 133) rfl hvb
        obtain ⟨kc, nc, uc, sc, Ac, mc, cc, Bc, pc, qc, hvc, hnc⟩ : IsN (valOf dsX b 11) wx := dep (F := fun k => RK kdX k (valOf dsX b k) wx) hd 11 (by kernel_rfl)
        have hwc := val_at (t := 137) rfl hvc
        obtain ⟨kd, nd, ud, sd, Ad, md, cd, Bd, pd, qd, hvd, hnd⟩ : IsN (valOf dsX b 17) wx := dep (F := fun k => RK kdX k (valOf dsX b k) wx) hd 17 (by kernel_rfl)
        have hwd := val_at (t := 143) rfl hvd
        obtain ⟨ke, ne, ue, se, Ae, me, ce, Be, pe, qe, hve, hne⟩ : IsN (valOf dsX b 23) wx := dep (F := fun k => RK kdX k (valOf dsX b k) wx) hd 23 (by kernel_rfl)
        have hwe := val_at (t := 149) rfl hve
        obtain ⟨kf, nf, uf, sf, Af, mf, cf, Bf, pf, qf, hvf, hnf⟩ : IsN (valOf dsX b 28) wx := dep (F := fun k => RK kdX k (valOf dsX b k) wx) hd 28 (by kernel_rfl)
        have hwf := val_at (t := 154) rfl hvf
        obtain ⟨kg, ng, ug, sg, Ag, mg, cg, Bg, pg, qg, hvg, hng⟩ : IsN (valOf dsX b 33) wx := dep (F := fun k => RK kdX k (valOf dsX b k) wx) hd 33 (by kernel_rfl)
        have hwg := val_at (t := 159) rfl hvg
        have hb := al0 wx (.cells ((.int .i64 ka) :: (.int .i64 na) :: (.int .u64 ua) :: (.string sa) :: (.slice Aa ma ca) :: (.slice Ba pa qa) :: (.int .i64 kb) :: (.int .i64 nb) :: (.int .u64 ub) :: (.string sb) :: (.slice Ab mb cb) :: (.slice Bb pb qb) :: (.int .i64 kc) :: (.int .i64 nc) :: (.int .u64 uc) :: (.string sc) :: (.slice Ac mc cc) :: (.slice Bc pc qc) :: (.int .i64 kd) :: (.int .i64 nd) :: (.int .u64 ud) :: (.string sd) :: (.slice Ad md cd) :: (.slice Bd pd qd) :: (.int .i64 ke) :: (.int .i64 ne) :: (.int .u64 ue) :: (.string se) :: (.slice Ae me ce) :: (.slice Be pe qe) :: (.int .i64 kf) :: (.int .i64 nf) :: (.int .u64 uf) :: (.string sf) :: (.slice Af mf cf) :: (.slice Bf pf qf) :: (.int .i64 kg) :: (.int .i64 ng) :: (.int .u64 ug) :: (.string sg) :: (.slice Ag mg cg) :: (.slice Bg pg qg) :: []).toArray 26)
        exact stp_seven hi rfl rfl hwa hwb hwc hwd hwe hwf hwg (hK _ _ (hkp hS hb) ⟨_, rfl, rdn_lit (m := 7) [[.int .i64 ka, .int .i64 na, .int .u64 ua, .string sa, .slice Aa ma ca, .slice Ba pa qa], [.int .i64 kb, .int .i64 nb, .int .u64 ub, .string sb, .slice Ab mb cb, .slice Bb pb qb], [.int .i64 kc, .int .i64 nc, .int .u64 uc, .string sc, .slice Ac mc cc, .slice Bc pc qc], [.int .i64 kd, .int .i64 nd, .int .u64 ud, .string sd, .slice Ad md cd, .slice Bd pd qd], [.int .i64 ke, .int .i64 ne, .int .u64 ue, .string se, .slice Ae me ce, .slice Be pe qe], [.int .i64 kf, .int .i64 nf, .int .u64 uf, .string sf, .slice Af mf cf, .slice Bf pf qf], [.int .i64 kg, .int .i64 ng, .int .u64 ug, .string sg, .slice Ag mg cg, .slice Bg pg qg]] (Blk.new wx _ _) rfl rfl (by intro z hz; simp only [List.mem_cons, List.not_mem_nil, or_false] at hz; rcases hz with rfl | rfl | rfl | rfl | rfl | rfl | rfl; all_goals first | exact hna.below hb | exact hnb.below hb | exact hnc.below hb | exact hnd.below hb | exact hne.below hb | exact hnf.below hb | exact hng.below hb) (by decide)⟩ (fun _ _ h => rk_keep hb h))
      · intro hi b wx hF hS hd K hK
        have hr : IsR 7 (valOf dsX b 34) wx := dep (F := fun k => RK kdX k (valOf dsX b k) wx) hd 34 (by kernel_rfl)
        have e : b.eval (.tmp 160) = valOf dsX b 34 := rfl
        exact stp_move hi rfl rfl (hK _ _ hS (by rw [e]; exact hr) (fun _ _ h => h))
    case fin =>
      intro b w1 hF hS hR
      have hb := hF.lit (by decide) (lt_all (n := 201) (by decide))
      obtain ⟨f, hf⟩ : ∃ f, valOf dsX b = f := ⟨_, rfl⟩
      rw [hf] at hb hR
      obtain ⟨gb, hv, hrn⟩ : IsR 7 (f 35) w1 := hR 35 (by decide)
      have HRB := Lib.hid hrn
      have HBW : Hid (Below w.heap.size w w1) := Lib.hid (HWD.out.trans (hS.2.1.mono HWD.out.size))
      subst hb
      simp only [putAll, dsX, Nat.reduceAdd, List.setIfInBounds_toArray, List.set_cons_zero, List.set_cons_succ, hv]
      clear hR hF hf hS hS0 hkp HWD hv hrn HNF HNU HKE HVE HTA
      go_wp2_with fail
      go_loopw [11] (fun x wi => ∃ j : Nat, j ≤ 7 ∧ x = .int .i64 (j : Int) ∧ Hid (Below w1.heap.size w1 wi)) (fun x _ => 7 - (intOf x).toNat)
      case atStart => exact ⟨0, Nat.zero_le _, rfl, Lib.hid (Below.refl _ _)⟩
      case round =>
        obtain ⟨j, hj, rfl, HJ⟩ := hrel
        by_cases hj7 : j < 7
        · obtain ⟨x0, x1, x2, x3, y1, y2, y3, y4, y5, y6, hX⟩ := (HRB.out.below HJ.out).held hj7
          obtain ⟨a0, a1, a2, a3, b1, b2, b3, b4, b5, b6, hY⟩ := (HRB.out.below HJ.out).held (j := (j + 1) % 7) (by omega)
          have HX := Lib.hid hX
          have HY := Lib.hid hY
          have HBJ : Hid (∀ X, Below wr.heap.size wr X → Below w.heap.size w X) := Lib.hid fun X h => (HBW.out.trans (HJ.out.mono HBW.out.size)).trans (h.mono (Nat.le_trans HBW.out.size HJ.out.size))
          clear hX hY
          obtain ⟨q, hq⟩ : ∃ q, q = (j + 1) % 7 := ⟨_, rfl⟩
          rw [← hq] at HY
          have hq7 : (q : Int) < 7 := by omega
          have hq0 : (0 : Int) ≤ (q : Int) := by omega
          have hj0 : (0 : Int) ≤ (j : Int) := by omega
          have hj1 : (j : Int) < 7 := by omega
          have hwj : IntKind.i64.wrap ((j : Int) + 1) = (j : Int) + 1 := IntWalk.i64_in _ ⟨by omega, by omega⟩
          have hmj : ((j : Int) + 1).tmod 7 = (q : Int) := by rw [Int.tmod_eq_emod_of_nonneg (by omega)]; omega
          have hwq : IntKind.i64.wrap (q : Int) = (q : Int) := IntWalk.i64_in _ ⟨by omega, by omega⟩
          have hall : ∀ X, Hid (Below wr.heap.size wr X) → (X.cell? ⟨gb, j * 6, none⟩ = some (.int .i64 x0) ∧ X.cell? ⟨gb, j * 6 + 1, none⟩ = some (.int .i64 x1) ∧ X.cell? ⟨gb, j * 6 + 2, none⟩ = some (.int .u64 x2) ∧ X.cell? ⟨gb, j * 6 + 3, none⟩ = some (.string x3) ∧ X.cell? ⟨gb, j * 6 + 4, none⟩ = some (.slice y1 y2 y3) ∧ X.cell? ⟨gb, j * 6 + 5, none⟩ = some (.slice y4 y5 y6) ∧ X.cell? ⟨gb, q * 6, none⟩ = some (.int .i64 a0) ∧ X.cell? ⟨gb, q * 6 + 1, none⟩ = some (.int .i64 a1) ∧ X.cell? ⟨gb, q * 6 + 2, none⟩ = some (.int .u64 a2) ∧ X.cell? ⟨gb, q * 6 + 3, none⟩ = some (.string a3) ∧ X.cell? ⟨gb, q * 6 + 4, none⟩ = some (.slice b1 b2 b3) ∧ X.cell? ⟨gb, q * 6 + 5, none⟩ = some (.slice b4 b5 b6) ∧ Hid (Below wr.heap.size wr X)) := fun X h => by
            obtain ⟨c0, c1, c2, c3, c4, c5, -⟩ := HX.out X h.out
            obtain ⟨d0, d1, d2, d3, d4, d5, -⟩ := HY.out X h.out
            exact ⟨c0, c1, c2, c3, c4, c5, d0, d1, d2, d3, d4, d5, h⟩
          have HSd : Hid (Below wr.heap.size wr wr.drew) := Lib.hid (Below.refl _ _).drew
          clear hq
          go_upto_region 29 with fail
          go_region_held3 (fun X => X.cell? ⟨gb, j * 6, none⟩ = some (.int .i64 x0) ∧ X.cell? ⟨gb, j * 6 + 1, none⟩ = some (.int .i64 x1) ∧ X.cell? ⟨gb, j * 6 + 2, none⟩ = some (.int .u64 x2) ∧ X.cell? ⟨gb, j * 6 + 3, none⟩ = some (.string x3) ∧ X.cell? ⟨gb, j * 6 + 4, none⟩ = some (.slice y1 y2 y3) ∧ X.cell? ⟨gb, j * 6 + 5, none⟩ = some (.slice y4 y5 y6) ∧ X.cell? ⟨gb, q * 6, none⟩ = some (.int .i64 a0) ∧ X.cell? ⟨gb, q * 6 + 1, none⟩ = some (.int .i64 a1) ∧ X.cell? ⟨gb, q * 6 + 2, none⟩ = some (.int .u64 a2) ∧ X.cell? ⟨gb, q * 6 + 3, none⟩ = some (.string a3) ∧ X.cell? ⟨gb, q * 6 + 4, none⟩ = some (.slice b1 b2 b3) ∧ X.cell? ⟨gb, q * 6 + 5, none⟩ = some (.slice b4 b5 b6) ∧ Hid (Below wr.heap.size wr X))
            (first | (with_reducible exact hall _ HSd) | (with_reducible exact hall _ (by assumption)))
            (first
              | (go_at_call 5; (with_reducible refine (HCK.out wr.drew _ (HBJ.out _ HSd.out) (HX.out _ HSd.out).2.2.2.2.2.2).mono ?_); rintro e v1 ⟨rfl, hb⟩; have HV1 : Hid (Below wr.heap.size wr v1) := Lib.hid (tr HSd.out hb); clear hb)
              | (go_at_call 11; (with_reducible refine (HSI.out v1 _ (j : Int) (HBJ.out _ HV1.out) (HX.out _ HV1.out).2.2.2.2.2.2).mono ?_); rintro e v2 ⟨rfl, hb⟩; have HV2 : Hid (Below wr.heap.size wr v2) := Lib.hid (tr HV1.out hb); clear hb)
              | (go_at_call 12; (with_reducible refine (HSA.out v2 _ _ (HBJ.out _ HV2.out) (HX.out _ HV2.out).2.2.2.2.2.2 (HY.out _ HV2.out).2.2.2.2.2.2).mono ?_); rintro e v3 ⟨rfl, hb⟩; have HV3 : Hid (Below wr.heap.size wr v3) := Lib.hid (tr HV2.out hb); clear hb))
          go_wp2_with fail
          go_roundw
          case rel => exact ⟨j + 1, by omega, by go_num, Lib.hid (tr HJ.out HV3.out)⟩
          case measure => simp [intOf]; omega
        · obtain rfl : j = 7 := by omega
          go_wp2_with (go_at_call 13; (with_reducible refine (HWK.out _ (HBW.out.trans (HJ.out.mono HBW.out.size))).mono ?_); rintro e w4 ⟨rfl, hb⟩; have HB4 := Lib.hid hb; clear hb)
          go_ret
          exact ⟨rfl, tr (HBW.out.trans (HJ.out.mono HBW.out.size)) HB4.out⟩
end Go.Proofs.YtlleknofnlmecaaDoor
