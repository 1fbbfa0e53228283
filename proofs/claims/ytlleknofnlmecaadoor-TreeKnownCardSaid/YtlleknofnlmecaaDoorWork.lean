/-
  What is proved here: works, the chapter's examples, returns true; condition: the table holds what is laid.
-/
import Derived.Test.YtlleknofnlmecaaDoorLast
namespace Go.Proofs.YtlleknofnlmecaaDoor
open Go.RowKit

theorem ret_t0 {f : Func} {R : Ending → World → Prop} {tm : Array Value} {df : List Deferred} {w : World} {v : Value} (hres : f.results = #[.tmp 0]) (hp : tm.getD 0 undef = v) (hd : df = []) (hR : R (.returned v) w) : bodyPost Tryd.prog f R .ret { tmps := tm, defers := df } w := by
  refine bodyPost_ret ?_ hd hR
  have hp' : tm[0]?.getD undef = v := by simpa using hp
  simp only [results, hres]
  simp [hp']
theorem fine_row {w w1 w2 w3 w4 w5 w6 w7 w8 : World} {k8 i8 u8 : Int} {s8 : ByteArray} {C1' C2' : Option Addr} {m1' d1' m2' d2' : Nat} (hT : Tab w) (h1 : Below w.heap.size w w1) (h2 : Below w1.heap.size w1 w2) (h3 : Below w2.heap.size w2 w3) (h4 : Below (w3.alloc (.cells #[.int .i64 3, .int .i64 5, .int .u64 0, .string ⟨#[]⟩, .slice none 0 0, .slice none 0 0, .int .i64 5, .int .i64 0, .int .u64 0, .string ⟨#[97]⟩, .slice none 0 0, .slice none 0 0] 26)).heap.size (w3.alloc (.cells #[.int .i64 3, .int .i64 5, .int .u64 0, .string ⟨#[]⟩, .slice none 0 0, .slice none 0 0, .int .i64 5, .int .i64 0, .int .u64 0, .string ⟨#[97]⟩, .slice none 0 0, .slice none 0 0] 26)) w4)
    (h5 : Below (w4.alloc (.cells #[.string ⟨#[98]⟩, .string ⟨#[97]⟩] 9)).heap.size (w4.alloc (.cells #[.string ⟨#[98]⟩, .string ⟨#[97]⟩] 9)) w5) (h6 : Below w5.heap.size w5 w6) (h7 : Below (w6.alloc (.cells #[.int .i64 3, .int .i64 5, .int .u64 0, .string ⟨#[]⟩, .slice none 0 0, .slice none 0 0, .int .i64 10, .int .i64 0, .int .u64 0, .string ⟨#[]⟩, .slice none 0 0, .slice none 0 0] 26)).heap.size (w6.alloc (.cells #[.int .i64 3, .int .i64 5, .int .u64 0, .string ⟨#[]⟩, .slice none 0 0, .slice none 0 0, .int .i64 10, .int .i64 0, .int .u64 0, .string ⟨#[]⟩, .slice none 0 0, .slice none 0 0] 26)) w7) (h8 : Below w7.heap.size w7 w8) (hN : Nd w8 (nestT (64 - 1)) [.int .i64 k8, .int .i64 i8, .int .u64 u8, .string s8, .slice C1' m1' d1', .slice C2' m2' d2']) :
    Tab (w8.alloc (.cells #[.int .i64 3, .int .i64 5, .int .u64 0, .string ⟨#[]⟩, .slice none 0 0, .slice none 0 0, .int .i64 10, .int .i64 0, .int .u64 0, .string ⟨#[]⟩, .slice none 0 0, .slice (some ⟨w3.heap.size, 0, none⟩) 2 2, .int .i64 17, .int .i64 0, .int .u64 0, .string ⟨#[]⟩, .slice (some ⟨w4.heap.size, 0, none⟩) 2 2, .slice (some ⟨w6.heap.size, 0, none⟩) 2 2, .int .i64 k8, .int .i64 i8, .int .u64 u8, .string s8, .slice C1' m1' d1', .slice C2' m2' d2'] 26)) ∧ Below w.heap.size w (w8.alloc (.cells #[.int .i64 3, .int .i64 5, .int .u64 0, .string ⟨#[]⟩, .slice none 0 0, .slice none 0 0, .int .i64 10, .int .i64 0, .int .u64 0, .string ⟨#[]⟩, .slice none 0 0, .slice (some ⟨w3.heap.size, 0, none⟩) 2 2, .int .i64 17, .int .i64 0, .int .u64 0, .string ⟨#[]⟩, .slice (some ⟨w4.heap.size, 0, none⟩) 2 2, .slice (some ⟨w6.heap.size, 0, none⟩) 2 2, .int .i64 k8, .int .i64 i8, .int .u64 u8, .string s8, .slice C1' m1' d1', .slice C2' m2' d2'] 26)) ∧ w8.heap.size < (w8.alloc (.cells #[.int .i64 3, .int .i64 5, .int .u64 0, .string ⟨#[]⟩, .slice none 0 0, .slice none 0 0, .int .i64 10, .int .i64 0, .int .u64 0, .string ⟨#[]⟩, .slice none 0 0, .slice (some ⟨w3.heap.size, 0, none⟩) 2 2, .int .i64 17, .int .i64 0, .int .u64 0, .string ⟨#[]⟩, .slice (some ⟨w4.heap.size, 0, none⟩) 2 2, .slice (some ⟨w6.heap.size, 0, none⟩) 2 2, .int .i64 k8, .int .i64 i8, .int .u64 u8, .string s8, .slice C1' m1' d1', .slice C2' m2' d2'] 26)).heap.size ∧ NdL (w8.alloc (.cells #[.int .i64 3, .int .i64 5, .int .u64 0, .string ⟨#[]⟩, .slice none 0 0, .slice none 0 0, .int .i64 10, .int .i64 0, .int .u64 0, .string ⟨#[]⟩, .slice none 0 0, .slice (some ⟨w3.heap.size, 0, none⟩) 2 2, .int .i64 17, .int .i64 0, .int .u64 0, .string ⟨#[]⟩, .slice (some ⟨w4.heap.size, 0, none⟩) 2 2, .slice (some ⟨w6.heap.size, 0, none⟩) 2 2, .int .i64 k8, .int .i64 i8, .int .u64 u8, .string s8, .slice C1' m1' d1', .slice C2' m2' d2'] 26)) w8.heap.size fineL 0 := by
  have a8 := al0 w8 (.cells #[.int .i64 3, .int .i64 5, .int .u64 0, .string ⟨#[]⟩, .slice none 0 0, .slice none 0 0, .int .i64 10, .int .i64 0, .int .u64 0, .string ⟨#[]⟩, .slice none 0 0, .slice (some ⟨w3.heap.size, 0, none⟩) 2 2, .int .i64 17, .int .i64 0, .int .u64 0, .string ⟨#[]⟩, .slice (some ⟨w4.heap.size, 0, none⟩) 2 2, .slice (some ⟨w6.heap.size, 0, none⟩) 2 2, .int .i64 k8, .int .i64 i8, .int .u64 u8, .string s8, .slice C1' m1' d1', .slice C2' m2' d2'] 26)
  have B9 : Blk (w8.alloc (.cells #[.int .i64 3, .int .i64 5, .int .u64 0, .string ⟨#[]⟩, .slice none 0 0, .slice none 0 0, .int .i64 10, .int .i64 0, .int .u64 0, .string ⟨#[]⟩, .slice none 0 0, .slice (some ⟨w3.heap.size, 0, none⟩) 2 2, .int .i64 17, .int .i64 0, .int .u64 0, .string ⟨#[]⟩, .slice (some ⟨w4.heap.size, 0, none⟩) 2 2, .slice (some ⟨w6.heap.size, 0, none⟩) 2 2, .int .i64 k8, .int .i64 i8, .int .u64 u8, .string s8, .slice C1' m1' d1', .slice C2' m2' d2'] 26)) w8.heap.size 26 _ := Blk.new w8 _ _
  have hN9 := hN.bel a8
  generalize w8.alloc (.cells #[.int .i64 3, .int .i64 5, .int .u64 0, .string ⟨#[]⟩, .slice none 0 0, .slice none 0 0, .int .i64 10, .int .i64 0, .int .u64 0, .string ⟨#[]⟩, .slice none 0 0, .slice (some ⟨w3.heap.size, 0, none⟩) 2 2, .int .i64 17, .int .i64 0, .int .u64 0, .string ⟨#[]⟩, .slice (some ⟨w4.heap.size, 0, none⟩) 2 2, .slice (some ⟨w6.heap.size, 0, none⟩) 2 2, .int .i64 k8, .int .i64 i8, .int .u64 u8, .string s8, .slice C1' m1' d1', .slice C2' m2' d2'] 26) = W at *
  have a7 := tr h8 a8
  have a6 := tr (al h7) a7
  have a5 := tr h6 a6
  have a4 := tr (al h5) a5
  have a3 := tr (al h4) a4
  have a0 := tr h1 (tr h2 (tr h3 a3))
  have B3 := (born h4).below a4 (born h4).lt
  have B4 := (born h5).below a5 (born h5).lt
  have B6 := (born h7).below a7 (born h7).lt
  have R3 := two_row B3 (nd_num W 5 (by decide) (by decide)) (nd_key W ⟨#[97]⟩ (by decide))
  have R6 := two_row B6 (nd_num W 5 (by decide) (by decide)) (nd_vec0 W)
  have hK := rds_two B4 (by decide) (by decide)
  exact ⟨hT.keep a0, a0, B9.lt, four_row B9 (nd_num W 5 (by decide) (by decide)) (nd_vec rfl (Nat.le_refl _) (by decide) B3.lt R3) (nd_tab hK rfl (Nat.le_refl _) (by decide) B6.lt R6) hN9⟩
theorem odd_row {w x1 x2 : World} (hT : Tab w) (h1 : Below w.heap.size w x1) (h2 : Below (x1.alloc (.cells #[.int .i64 3, .int .i64 1, .int .u64 0, .string ⟨#[]⟩, .slice none 0 0, .slice none 0 0] 26)).heap.size (x1.alloc (.cells #[.int .i64 3, .int .i64 1, .int .u64 0, .string ⟨#[]⟩, .slice none 0 0, .slice none 0 0] 26)) x2) :
    Tab (((x2.alloc (.cells #[.int .i64 5, .int .i64 0, .int .u64 0, .string ⟨#[97]⟩, .slice none 0 0, .slice none 0 0] 26)).alloc (.cells #[.string ⟨#[97]⟩] 9)).alloc (.cells #[.int .i64 0, .int .i64 0, .int .u64 0, .string ⟨#[]⟩, .slice none 0 0, .slice none 0 0, .int .i64 2, .int .i64 2, .int .u64 0, .string ⟨#[]⟩, .slice none 0 0, .slice none 0 0, .int .i64 3, .int .i64 0, .int .u64 0, .string ⟨#[97]⟩, .slice none 0 0, .slice none 0 0, .int .i64 15, .int .i64 0, .int .u64 0, .string ⟨#[]⟩, .slice none 0 0, .slice (some ⟨x1.heap.size, 0, none⟩) 1 1, .int .i64 11, .int .i64 0, .int .u64 0, .string ⟨#[]⟩, .slice none 0 0, .slice (some ⟨x2.heap.size, 0, none⟩) 1 1, .int .i64 17, .int .i64 0, .int .u64 0, .string ⟨#[]⟩, .slice (some ⟨(x2.heap.size + 1), 0, none⟩) 1 1, .slice none 0 0] 26)) ∧ Below w.heap.size w (((x2.alloc (.cells #[.int .i64 5, .int .i64 0, .int .u64 0, .string ⟨#[97]⟩, .slice none 0 0, .slice none 0 0] 26)).alloc (.cells #[.string ⟨#[97]⟩] 9)).alloc (.cells #[.int .i64 0, .int .i64 0, .int .u64 0, .string ⟨#[]⟩, .slice none 0 0, .slice none 0 0, .int .i64 2, .int .i64 2, .int .u64 0, .string ⟨#[]⟩, .slice none 0 0, .slice none 0 0, .int .i64 3, .int .i64 0, .int .u64 0, .string ⟨#[97]⟩, .slice none 0 0, .slice none 0 0, .int .i64 15, .int .i64 0, .int .u64 0, .string ⟨#[]⟩, .slice none 0 0, .slice (some ⟨x1.heap.size, 0, none⟩) 1 1, .int .i64 11, .int .i64 0, .int .u64 0, .string ⟨#[]⟩, .slice none 0 0, .slice (some ⟨x2.heap.size, 0, none⟩) 1 1, .int .i64 17, .int .i64 0, .int .u64 0, .string ⟨#[]⟩, .slice (some ⟨(x2.heap.size + 1), 0, none⟩) 1 1, .slice none 0 0] 26)) ∧ x2.heap.size + 1 + 1 < (((x2.alloc (.cells #[.int .i64 5, .int .i64 0, .int .u64 0, .string ⟨#[97]⟩, .slice none 0 0, .slice none 0 0] 26)).alloc (.cells #[.string ⟨#[97]⟩] 9)).alloc (.cells #[.int .i64 0, .int .i64 0, .int .u64 0, .string ⟨#[]⟩, .slice none 0 0, .slice none 0 0, .int .i64 2, .int .i64 2, .int .u64 0, .string ⟨#[]⟩, .slice none 0 0, .slice none 0 0, .int .i64 3, .int .i64 0, .int .u64 0, .string ⟨#[97]⟩, .slice none 0 0, .slice none 0 0, .int .i64 15, .int .i64 0, .int .u64 0, .string ⟨#[]⟩, .slice none 0 0, .slice (some ⟨x1.heap.size, 0, none⟩) 1 1, .int .i64 11, .int .i64 0, .int .u64 0, .string ⟨#[]⟩, .slice none 0 0, .slice (some ⟨x2.heap.size, 0, none⟩) 1 1, .int .i64 17, .int .i64 0, .int .u64 0, .string ⟨#[]⟩, .slice (some ⟨(x2.heap.size + 1), 0, none⟩) 1 1, .slice none 0 0] 26)).heap.size ∧ NdL (((x2.alloc (.cells #[.int .i64 5, .int .i64 0, .int .u64 0, .string ⟨#[97]⟩, .slice none 0 0, .slice none 0 0] 26)).alloc (.cells #[.string ⟨#[97]⟩] 9)).alloc (.cells #[.int .i64 0, .int .i64 0, .int .u64 0, .string ⟨#[]⟩, .slice none 0 0, .slice none 0 0, .int .i64 2, .int .i64 2, .int .u64 0, .string ⟨#[]⟩, .slice none 0 0, .slice none 0 0, .int .i64 3, .int .i64 0, .int .u64 0, .string ⟨#[97]⟩, .slice none 0 0, .slice none 0 0, .int .i64 15, .int .i64 0, .int .u64 0, .string ⟨#[]⟩, .slice none 0 0, .slice (some ⟨x1.heap.size, 0, none⟩) 1 1, .int .i64 11, .int .i64 0, .int .u64 0, .string ⟨#[]⟩, .slice none 0 0, .slice (some ⟨x2.heap.size, 0, none⟩) 1 1, .int .i64 17, .int .i64 0, .int .u64 0, .string ⟨#[]⟩, .slice (some ⟨(x2.heap.size + 1), 0, none⟩) 1 1, .slice none 0 0] 26)) (x2.heap.size + 1 + 1) oddL 0 := by
  have B1 := born h2
  have B2 : Blk (x2.alloc (.cells #[.int .i64 5, .int .i64 0, .int .u64 0, .string ⟨#[97]⟩, .slice none 0 0, .slice none 0 0] 26)) x2.heap.size 26 _ := Blk.new x2 _ _
  have B3 : Blk ((x2.alloc (.cells #[.int .i64 5, .int .i64 0, .int .u64 0, .string ⟨#[97]⟩, .slice none 0 0, .slice none 0 0] 26)).alloc (.cells #[.string ⟨#[97]⟩] 9)) (x2.alloc (.cells #[.int .i64 5, .int .i64 0, .int .u64 0, .string ⟨#[97]⟩, .slice none 0 0, .slice none 0 0] 26)).heap.size 9 _ := Blk.new _ _ _
  have B4 : Blk (((x2.alloc (.cells #[.int .i64 5, .int .i64 0, .int .u64 0, .string ⟨#[97]⟩, .slice none 0 0, .slice none 0 0] 26)).alloc (.cells #[.string ⟨#[97]⟩] 9)).alloc (.cells #[.int .i64 0, .int .i64 0, .int .u64 0, .string ⟨#[]⟩, .slice none 0 0, .slice none 0 0, .int .i64 2, .int .i64 2, .int .u64 0, .string ⟨#[]⟩, .slice none 0 0, .slice none 0 0, .int .i64 3, .int .i64 0, .int .u64 0, .string ⟨#[97]⟩, .slice none 0 0, .slice none 0 0, .int .i64 15, .int .i64 0, .int .u64 0, .string ⟨#[]⟩, .slice none 0 0, .slice (some ⟨x1.heap.size, 0, none⟩) 1 1, .int .i64 11, .int .i64 0, .int .u64 0, .string ⟨#[]⟩, .slice none 0 0, .slice (some ⟨x2.heap.size, 0, none⟩) 1 1, .int .i64 17, .int .i64 0, .int .u64 0, .string ⟨#[]⟩, .slice (some ⟨(x2.heap.size + 1), 0, none⟩) 1 1, .slice none 0 0] 26)) ((x2.alloc (.cells #[.int .i64 5, .int .i64 0, .int .u64 0, .string ⟨#[97]⟩, .slice none 0 0, .slice none 0 0] 26)).alloc (.cells #[.string ⟨#[97]⟩] 9)).heap.size 26 _ := Blk.new _ _ _
  have a1 := al0 x2 (.cells #[.int .i64 5, .int .i64 0, .int .u64 0, .string ⟨#[97]⟩, .slice none 0 0, .slice none 0 0] 26)
  have a2 := al0 (x2.alloc (.cells #[.int .i64 5, .int .i64 0, .int .u64 0, .string ⟨#[97]⟩, .slice none 0 0, .slice none 0 0] 26)) (.cells #[.string ⟨#[97]⟩] 9)
  have a3 := al0 ((x2.alloc (.cells #[.int .i64 5, .int .i64 0, .int .u64 0, .string ⟨#[97]⟩, .slice none 0 0, .slice none 0 0] 26)).alloc (.cells #[.string ⟨#[97]⟩] 9)) (.cells #[.int .i64 0, .int .i64 0, .int .u64 0, .string ⟨#[]⟩, .slice none 0 0, .slice none 0 0, .int .i64 2, .int .i64 2, .int .u64 0, .string ⟨#[]⟩, .slice none 0 0, .slice none 0 0, .int .i64 3, .int .i64 0, .int .u64 0, .string ⟨#[97]⟩, .slice none 0 0, .slice none 0 0, .int .i64 15, .int .i64 0, .int .u64 0, .string ⟨#[]⟩, .slice none 0 0, .slice (some ⟨x1.heap.size, 0, none⟩) 1 1, .int .i64 11, .int .i64 0, .int .u64 0, .string ⟨#[]⟩, .slice none 0 0, .slice (some ⟨x2.heap.size, 0, none⟩) 1 1, .int .i64 17, .int .i64 0, .int .u64 0, .string ⟨#[]⟩, .slice (some ⟨(x2.heap.size + 1), 0, none⟩) 1 1, .slice none 0 0] 26)
  simp only [World.size_alloc] at B3 B4
  have B1' := B1.below (tr a1 (tr a2 a3)) B1.lt
  have B2' := B2.below (tr a2 a3) B2.lt
  have B3' := B3.below a3 B3.lt
  have a0 := tr h1 (tr (al h2) (tr a1 (tr a2 a3)))
  clear a1 a2 a3 B1 B2 B3
  generalize (((x2.alloc (.cells #[.int .i64 5, .int .i64 0, .int .u64 0, .string ⟨#[97]⟩, .slice none 0 0, .slice none 0 0] 26)).alloc (.cells #[.string ⟨#[97]⟩] 9)).alloc (.cells #[.int .i64 0, .int .i64 0, .int .u64 0, .string ⟨#[]⟩, .slice none 0 0, .slice none 0 0, .int .i64 2, .int .i64 2, .int .u64 0, .string ⟨#[]⟩, .slice none 0 0, .slice none 0 0, .int .i64 3, .int .i64 0, .int .u64 0, .string ⟨#[97]⟩, .slice none 0 0, .slice none 0 0, .int .i64 15, .int .i64 0, .int .u64 0, .string ⟨#[]⟩, .slice none 0 0, .slice (some ⟨x1.heap.size, 0, none⟩) 1 1, .int .i64 11, .int .i64 0, .int .u64 0, .string ⟨#[]⟩, .slice none 0 0, .slice (some ⟨x2.heap.size, 0, none⟩) 1 1, .int .i64 17, .int .i64 0, .int .u64 0, .string ⟨#[]⟩, .slice (some ⟨(x2.heap.size + 1), 0, none⟩) 1 1, .slice none 0 0] 26)) = W at *
  have R1 := one_row B1' (nd_num W 1 (by decide) (by decide))
  have R2 := one_row B2' (nd_key W ⟨#[97]⟩ (by decide))
  have hK := rds_one B3' (by decide)
  exact ⟨hT.keep a0, a0, B4.lt, six_row B4 (nd_leaf W 0 0 0 _ (rng0 0 0 (by decide) (by decide) (by decide) (by decide)) (by decide)) (nd_leaf W 2 2 0 _ (rng0 2 2 (by decide) (by decide) (by decide) (by decide)) (by decide)) (nd_leaf W 3 0 0 _ (rng0 3 0 (by decide) (by decide) (by decide) (by decide)) (by decide))
    (nd_row (rng0 15 0 (by decide) (by decide) (by decide) (by decide)) (by decide) (rds_nil W) rfl (Nat.le_refl _) (by decide) B1'.lt R1) (nd_row (rng0 11 0 (by decide) (by decide) (by decide) (by decide)) (by decide) (rds_nil W) rfl (Nat.le_refl _) (by decide) B2'.lt R2)
    ⟨rng0 17 0 (by decide) (by decide) (by decide) (by decide), by decide, _, none, 0, 0, rfl, hK, rfl, Nat.le_refl _, Nat.zero_le _, fun h => absurd h (by omega)⟩⟩

theorem ex5_row {w y1 y2 y3 y4 y5 : World} (h1 : Below w.heap.size w y1) (h2 : Below y1.heap.size y1 y2) (h3 : Below y2.heap.size y2 y3) (h4 : Below (y3.alloc (.cells #[.int .i64 3, .int .i64 5, .int .u64 0, .string ⟨#[]⟩, .slice none 0 0, .slice none 0 0, .int .i64 3, .int .i64 5, .int .u64 0, .string ⟨#[]⟩, .slice none 0 0, .slice none 0 0] 26)).heap.size (y3.alloc (.cells #[.int .i64 3, .int .i64 5, .int .u64 0, .string ⟨#[]⟩, .slice none 0 0, .slice none 0 0, .int .i64 3, .int .i64 5, .int .u64 0, .string ⟨#[]⟩, .slice none 0 0, .slice none 0 0] 26)) y4) (h5 : Below (y4.alloc (.cells #[.int .i64 3, .int .i64 5, .int .u64 0, .string ⟨#[]⟩, .slice none 0 0, .slice none 0 0, .int .i64 10, .int .i64 0, .int .u64 0, .string ⟨#[]⟩, .slice none 0 0, .slice (some ⟨y3.heap.size, 0, none⟩) 2 2] 26)).heap.size (y4.alloc (.cells #[.int .i64 3, .int .i64 5, .int .u64 0, .string ⟨#[]⟩, .slice none 0 0, .slice none 0 0, .int .i64 10, .int .i64 0, .int .u64 0, .string ⟨#[]⟩, .slice none 0 0, .slice (some ⟨y3.heap.size, 0, none⟩) 2 2] 26)) y5) :
    Below w.heap.size w (y5.alloc (.cells #[.int .i64 10, .int .i64 0, .int .u64 0, .string ⟨#[]⟩, .slice none 0 0, .slice (some ⟨y4.heap.size, 0, none⟩) 2 2] 26)) ∧ Bx (y5.alloc (.cells #[.int .i64 10, .int .i64 0, .int .u64 0, .string ⟨#[]⟩, .slice none 0 0, .slice (some ⟨y4.heap.size, 0, none⟩) 2 2] 26)) y5.heap.size (.int .i64 10) (.int .i64 0) (.int .u64 0) (.string ⟨#[]⟩) (.slice none 0 0) (.slice (some ⟨y4.heap.size, 0, none⟩) 2 2) ∧ Nd (y5.alloc (.cells #[.int .i64 10, .int .i64 0, .int .u64 0, .string ⟨#[]⟩, .slice none 0 0, .slice (some ⟨y4.heap.size, 0, none⟩) 2 2] 26)) ex5 [.int .i64 10, .int .i64 0, .int .u64 0, .string ⟨#[]⟩, .slice none 0 0, .slice (some ⟨y4.heap.size, 0, none⟩) 2 2] := by
  have a5 := al0 y5 (.cells #[.int .i64 10, .int .i64 0, .int .u64 0, .string ⟨#[]⟩, .slice none 0 0, .slice (some ⟨y4.heap.size, 0, none⟩) 2 2] 26)
  have B6 : Blk (y5.alloc (.cells #[.int .i64 10, .int .i64 0, .int .u64 0, .string ⟨#[]⟩, .slice none 0 0, .slice (some ⟨y4.heap.size, 0, none⟩) 2 2] 26)) y5.heap.size 26 _ := Blk.new y5 _ _
  have a4 := tr (al h5) a5
  have B5 := (born h5).below a5 (born h5).lt
  have B4 := (born h4).below a4 (born h4).lt
  have a0 := tr h1 (tr h2 (tr h3 (tr (al h4) a4)))
  generalize y5.alloc (.cells #[.int .i64 10, .int .i64 0, .int .u64 0, .string ⟨#[]⟩, .slice none 0 0, .slice (some ⟨y4.heap.size, 0, none⟩) 2 2] 26) = W at *
  have R4 := two_row B4 (nd_num W 5 (by decide) (by decide)) (nd_num W 5 (by decide) (by decide))
  have R5 := two_row B5 (nd_num W 5 (by decide) (by decide)) (nd_vec rfl (Nat.le_refl _) (by decide) B4.lt R4)
  exact ⟨a0, B6, nd_vec rfl (Nat.le_refl _) (by decide) B5.lt R5⟩

set_option maxRecDepth 100000 in
set_option maxHeartbeats 4000000 in
theorem works_true (w : World) (hT : Tab w) : Calls Tryd.prog 13 #[] w fun e w' => e = .returned (.bool true) ∧ Below w.heap.size w w' := by
  have nest64 := Lib.hid fun W => nest_any 64 W (by omega) (by omega)
  go_enter Tryd.func13, Tryd.ntmps13
  go_wp2_with fail
  refine (num_any _ _).mono ?_
  rintro e w1 ⟨rfl, hb⟩
  have HB1 := Lib.hid hb
  clear hb
  go_wp2_with fail
  refine (num_any _ _).mono ?_
  rintro e w2 ⟨rfl, hb⟩
  have HB2 := Lib.hid hb
  clear hb
  go_wp2_with fail
  refine (key_any _ _).mono ?_
  rintro e w3 ⟨rfl, hb⟩
  have HB3 := Lib.hid hb
  clear hb
  go_wp2_with fail
  refine (vec_any _ _ _ _).mono ?_
  rintro e w4 ⟨rfl, hb⟩
  have HB4 := Lib.hid hb
  clear hb
  go_wp2_with fail
  refine (num_any _ _).mono ?_
  rintro e w5 ⟨rfl, hb⟩
  have HB5 := Lib.hid hb
  clear hb
  go_wp2_with fail
  refine (vec_any _ _ _ _).mono ?_
  rintro e w6 ⟨rfl, hb⟩
  have HB6 := Lib.hid hb
  clear hb
  go_wp2_with fail
  refine (table_any _ _ _ _ _ _ _).mono ?_
  rintro e w7 ⟨rfl, hb⟩
  have HB7 := Lib.hid hb
  clear hb
  go_wp2_with fail
  refine (nest64.out _).mono ?_
  rintro e w8 ⟨⟨cs, rfl, hn⟩, hb⟩
  have HB8 := Lib.hid hb
  have HN8 := Lib.hid hn
  obtain ⟨k8, i8, u8, s8, C1', m1', d1', C2', m2', d2', rfl⟩ := hn.shape
  go_wp2_with fail
  have HF := Lib.hid (fine_row hT HB1.out HB2.out HB3.out HB4.out HB5.out HB6.out HB7.out HB8.out HN8.out)
  obtain ⟨W1, hW⟩ : ∃ W1, w8.alloc (.cells #[.int .i64 3, .int .i64 5, .int .u64 0, .string ⟨#[]⟩, .slice none 0 0, .slice none 0 0, .int .i64 10, .int .i64 0, .int .u64 0, .string ⟨#[]⟩, .slice none 0 0, .slice (some ⟨w3.heap.size, 0, none⟩) 2 2, .int .i64 17, .int .i64 0, .int .u64 0, .string ⟨#[]⟩, .slice (some ⟨w4.heap.size, 0, none⟩) 2 2, .slice (some ⟨w6.heap.size, 0, none⟩) 2 2, .int .i64 k8, .int .i64 i8, .int .u64 u8, .string s8, .slice C1' m1' d1', .slice C2' m2' d2'] 26) = W1 := ⟨_, rfl⟩
  rw [hW] at HF
  rw [hW]
  obtain ⟨g1, hg⟩ : ∃ g1, w8.heap.size = g1 := ⟨_, rfl⟩
  rw [hg] at HF
  simp only [hg]
  clear hW hg hn hb HN8 HB8
  have HT1 := Lib.hid HF.out.1
  go_loopw [2] (fun i wr => ∃ j : Nat, j ≤ 4 ∧ i = .int .i64 (j : Int) ∧ Hid (Below W1.heap.size W1 wr)) (fun i _ => 4 - (intOf i).toNat)
  case atStart => exact ⟨0, Nat.zero_le _, rfl, Lib.hid (Below.refl _ _)⟩
  case round =>
    obtain ⟨j, hj, rfl, HB⟩ := hrel
    by_cases hjn : j < 4
    · obtain ⟨t, ht⟩ : ∃ t, fineL[j]? = some t := ⟨_, List.getElem?_eq_getElem hjn⟩
      obtain ⟨v0, v1, v2, v3, v4, v5, hS, hc⟩ := row_check HF.out.1 HF.out.2.2.2 HF.out.2.2.1 chkFs qqFs wr HB.out j t ht
      have HC : Hid (Calls Tryd.prog 15 #[.agg #[v0, v1, v2, v3, v4, v5]] wr fun e w' => e = .returned (.int .i64 0) ∧ Hid (Below W1.heap.size W1 w')) := Lib.hid hc
      rw [Nat.zero_add] at hS
      obtain ⟨a0, a1, a2, a3, a4, a5⟩ := hS
      clear hc ht
      go_wp2_with (go_at_call 15; refine HC.out.mono ?_; rintro e w2 ⟨rfl, HB2⟩)
      go_roundw
      case rel => exact ⟨j + 1, by omega, by simp, HB2⟩
      case measure => simp [intOf]; omega
    · obtain rfl : j = 4 := by omega
      go_wp2_with fail
      refine (num_any _ _).mono ?_
      rintro e x1 ⟨rfl, hb⟩
      have HX1 := Lib.hid hb
      go_wp2_with fail
      refine (key_any _ _).mono ?_
      rintro e x2 ⟨rfl, hb⟩
      have HX2 := Lib.hid hb
      go_wp2_with fail
      have HG := Lib.hid (odd_row (HT1.out.keep HB.out) HX1.out HX2.out)
      obtain ⟨W2, hW⟩ : ∃ W2, ((x2.alloc (.cells #[.int .i64 5, .int .i64 0, .int .u64 0, .string ⟨#[97]⟩, .slice none 0 0, .slice none 0 0] 26)).alloc (.cells #[.string ⟨#[97]⟩] 9)).alloc (.cells #[.int .i64 0, .int .i64 0, .int .u64 0, .string ⟨#[]⟩, .slice none 0 0, .slice none 0 0, .int .i64 2, .int .i64 2, .int .u64 0, .string ⟨#[]⟩, .slice none 0 0, .slice none 0 0, .int .i64 3, .int .i64 0, .int .u64 0, .string ⟨#[97]⟩, .slice none 0 0, .slice none 0 0, .int .i64 15, .int .i64 0, .int .u64 0, .string ⟨#[]⟩, .slice none 0 0, .slice (some ⟨x1.heap.size, 0, none⟩) 1 1, .int .i64 11, .int .i64 0, .int .u64 0, .string ⟨#[]⟩, .slice none 0 0, .slice (some ⟨x2.heap.size, 0, none⟩) 1 1, .int .i64 17, .int .i64 0, .int .u64 0, .string ⟨#[]⟩, .slice (some ⟨(x2.heap.size + 1), 0, none⟩) 1 1, .slice none 0 0] 26) = W2 := ⟨_, rfl⟩
      rw [hW] at HG
      rw [hW]
      obtain ⟨g2, hg⟩ : ∃ g2, x2.heap.size + 1 + 1 = g2 := ⟨_, rfl⟩
      rw [hg] at HG
      simp only [hg]
      clear hW hg
      have HT2 := Lib.hid HG.out.1
      have HB1w : Hid (Below W1.heap.size W1 W2) := Lib.hid (tr HB.out HG.out.2.1)
      go_loopw [4] (fun i wr => ∃ j : Nat, j ≤ 6 ∧ i = .int .i64 (j : Int) ∧ Hid (Below W2.heap.size W2 wr)) (fun i _ => 6 - (intOf i).toNat)
      case atStart => exact ⟨0, Nat.zero_le _, rfl, Lib.hid (Below.refl _ _)⟩
      case round =>
        obtain ⟨j, hj, rfl, HB⟩ := hrel
        by_cases hjn : j < 6
        · obtain ⟨t, ht⟩ : ∃ t, oddL[j]? = some t := ⟨_, List.getElem?_eq_getElem hjn⟩
          obtain ⟨v0, v1, v2, v3, v4, v5, hS, hc⟩ := row_check HG.out.1 HG.out.2.2.2 HG.out.2.2.1 chkO qqO wr HB.out j t ht
          have HC : Hid (Calls Tryd.prog 15 #[.agg #[v0, v1, v2, v3, v4, v5]] wr fun e w' => e = .returned (.int .i64 60) ∧ Hid (Below W2.heap.size W2 w')) := Lib.hid hc
          rw [Nat.zero_add] at hS
          obtain ⟨a0, a1, a2, a3, a4, a5⟩ := hS
          clear hc ht
          go_wp2_with (go_at_call 15; refine HC.out.mono ?_; rintro e w2 ⟨rfl, HB2⟩)
          go_roundw
          case rel => exact ⟨j + 1, by omega, by simp, HB2⟩
          case measure => simp [intOf]; omega
        · obtain rfl : j = 6 := by omega
          go_wp2_with fail
          refine (num_any _ _).mono ?_
          rintro e y1 ⟨rfl, hb⟩
          have HY1 := Lib.hid hb
          clear hb
          go_wp2_with fail
          refine (num_any _ _).mono ?_
          rintro e y2 ⟨rfl, hb⟩
          have HY2 := Lib.hid hb
          clear hb
          go_wp2_with fail
          refine (num_any _ _).mono ?_
          rintro e y3 ⟨rfl, hb⟩
          have HY3 := Lib.hid hb
          clear hb
          go_wp2_with fail
          refine (vec_any _ _ _ _).mono ?_
          rintro e y4 ⟨rfl, hb⟩
          have HY4 := Lib.hid hb
          clear hb
          go_wp2_with fail
          refine (vec_any _ _ _ _).mono ?_
          rintro e y5 ⟨rfl, hb⟩
          have HY5 := Lib.hid hb
          clear hb
          go_wp2_with fail
          have H5 := Lib.hid (ex5_row HY1.out HY2.out HY3.out HY4.out HY5.out)
          obtain ⟨W3, hW⟩ : ∃ W3, y5.alloc (.cells #[.int .i64 10, .int .i64 0, .int .u64 0, .string ⟨#[]⟩, .slice none 0 0, .slice (some ⟨y4.heap.size, 0, none⟩) 2 2] 26) = W3 := ⟨_, rfl⟩
          rw [hW] at H5
          rw [hW]
          obtain ⟨p5, hp⟩ : ∃ p5, y5.heap.size = p5 := ⟨_, rfl⟩
          rw [hp] at H5
          simp only [hp]
          obtain ⟨q4, hq⟩ : ∃ q4, y4.heap.size = q4 := ⟨_, rfl⟩
          rw [hq] at H5
          simp only [hq]
          clear hW hp hq HY1 HY2 HY3 HY4 HY5
          refine (at5 2 true _ rfl rfl H5.out.2.2).mono ?_
          rintro e z1 ⟨⟨k1, n1, u1, s1, A1, a1, b1, C1, c1, d1, rfl, HNa⟩, HZ1⟩
          have HM1 := Lib.hid (ats HZ1 HNa.out)
          obtain ⟨ca0, ca1, ca2, ca3, ca4, ca5⟩ := Bx.all (Blk.below H5.out.2.1 HM1.out.1 (Blk.lt H5.out.2.1))
          go_wp2_with fail
          obtain ⟨Z1, hZ⟩ : ∃ Z1, z1.alloc (.cells #[.int .i64 k1, .int .i64 n1, .int .u64 u1, .string s1, .slice A1 a1 b1, .slice C1 c1 d1] 26) = Z1 := ⟨_, rfl⟩
          rw [hZ] at HM1
          rw [hZ]
          obtain ⟨p6, hp⟩ : ∃ p6, z1.heap.size = p6 := ⟨_, rfl⟩
          rw [hp] at HM1
          simp only [hp]
          clear hp hZ ca0 ca1 ca2 ca3 ca4 ca5 HNa HZ1
          refine (at5 3 true _ rfl rfl (H5.out.2.2.bel HM1.out.1)).mono ?_
          rintro e z2 ⟨⟨k2, n2, u2, s2, A2, a2, b2, C2, c2, d2, rfl, HNa⟩, HZ2⟩
          have HM2 := Lib.hid (ats HZ2 HNa.out)
          obtain ⟨ca0, ca1, ca2, ca3, ca4, ca5⟩ := Bx.all (Blk.below H5.out.2.1 (tr HM1.out.1 HM2.out.1) (Blk.lt H5.out.2.1))
          go_wp2_with fail
          obtain ⟨Z2, hZ⟩ : ∃ Z2, z2.alloc (.cells #[.int .i64 k2, .int .i64 n2, .int .u64 u2, .string s2, .slice A2 a2 b2, .slice C2 c2 d2] 26) = Z2 := ⟨_, rfl⟩
          rw [hZ] at HM2
          rw [hZ]
          obtain ⟨p8, hp⟩ : ∃ p8, z2.heap.size = p8 := ⟨_, rfl⟩
          rw [hp] at HM2
          simp only [hp]
          clear hp hZ ca0 ca1 ca2 ca3 ca4 ca5 HNa HZ2
          refine (at5 5 false T0 rfl rfl (H5.out.2.2.bel (tr HM1.out.1 HM2.out.1))).mono ?_
          rintro e z3 ⟨⟨k3, n3, u3, s3, A3, a3, b3, C3, c3, d3, rfl, HNa⟩, HZ3⟩
          have HM3 := Lib.hid (ats HZ3 HNa.out)
          have HWS : Hid (Below W3.heap.size W3 (z3.alloc (.cells #[.int .i64 k3, .int .i64 n3, .int .u64 u3, .string s3, .slice A3 a3 b3, .slice C3 c3 d3] 26)) ∧ WS (z3.alloc (.cells #[.int .i64 k3, .int .i64 n3, .int .u64 u3, .string s3, .slice A3 a3 b3, .slice C3 c3 d3] 26)) p5 p6 p8 q4 k1 n1 u1 s1 A1 a1 b1 C1 c1 d1 k2 n2 u2 s2 A2 a2 b2 C2 c2 d2) := Lib.hid ⟨tr HM1.out.1 (tr HM2.out.1 HM3.out.1), (HT2.out.keep HB.out).keep (tr H5.out.1 (tr HM1.out.1 (tr HM2.out.1 HM3.out.1))), Blk.below H5.out.2.1 (tr HM1.out.1 (tr HM2.out.1 HM3.out.1)) (Blk.lt H5.out.2.1), H5.out.2.2.bel (tr HM1.out.1 (tr HM2.out.1 HM3.out.1)), Blk.below HM1.out.2.1 (tr HM2.out.1 HM3.out.1) (Blk.lt HM1.out.2.1), HM1.out.2.2.bel (tr HM2.out.1 HM3.out.1), Blk.below HM2.out.2.1 HM3.out.1 (Blk.lt HM2.out.2.1), HM2.out.2.2.bel HM3.out.1⟩
          go_wp2_with fail
          obtain ⟨W0, hZ⟩ : ∃ W0, z3.alloc (.cells #[.int .i64 k3, .int .i64 n3, .int .u64 u3, .string s3, .slice A3 a3 b3, .slice C3 c3 d3] 26) = W0 := ⟨_, rfl⟩
          rw [hZ] at HWS
          rw [hZ]
          obtain ⟨p10, hp⟩ : ∃ p10, z3.heap.size = p10 := ⟨_, rfl⟩
          simp only [hp]
          have HB0 : Hid (Below w.heap.size w W0) := Lib.hid (HF.out.2.1.trans ((tr HB1w.out (tr HB.out (tr H5.out.1 HWS.out.1))).mono HF.out.2.1.size))
          clear hp hZ HNa HZ3 HM1 HM2 HM3 H5 HB HG HT2
          refine last_line _ _ p5 p6 p8 q4 k1 n1 u1 s1 A1 a1 b1 C1 c1 d1 k2 n2 u2 s2 A2 a2 b2 C2 c2 d2 HWS.out.2 _ _ _ _ _ _ _ _ _ _ _ _ _ _ _ _ _ _ _ _ _ _ _ _ _ _ _ _ _ _ _ _ _ _ _ _ _ _ _ _ _ _ _ _ _ _ _ _ _ _ _ _ _ _ _ _ _ _ _ _ _ _ _ _ _ _ _ _ _ _ _ _ _ _ _ _ _ _ _ _ _ _ _ _ _ _ _ _ _ _ _ _ _ _ _ _ _ _ _ _ _ _ _ _ _ _ _ _ _ _ _ _ _ _ _ _ _ _ _ _ _ _ _ _ _ _ (fun a W g1' g2' g3' => ?_)
          obtain ⟨tm, df⟩ := a
          have HG3 := Lib.hid g3'
          have HG1 := Lib.hid g1'
          have HG2 := Lib.hid g2'
          clear g1' g2' g3'
          go_wp2_with fail
          exact ret_t0 rfl HG1.out HG2.out ⟨rfl, HB0.out.trans (Below.mono HG3.out HB0.out.size)⟩
end Go.Proofs.YtlleknofnlmecaaDoor
