/-
  What is proved here: rows of nodes that the law lays down, as trees; no condition but those that each fact states.
-/
import Derived.Test.YtnplkamkeadlgaaDoorMake
namespace Go.Proofs.YtnplkamkeadlgaaDoor
open Go.RowKit

theorem al {w w' : World} {o : Obj} (hb : Below (w.alloc o).heap.size (w.alloc o) w') : Below w.heap.size w w' := ((Below.refl _ w).alloc (Nat.le_refl _) o).trans (hb.mono (by simp))
theorem tr {a b c : World} (h : Below a.heap.size a b) (k : Below b.heap.size b c) : Below a.heap.size a c := h.trans (k.mono h.size)
theorem al0 (w : World) (o : Obj) : Below w.heap.size w (w.alloc o) := (Below.refl _ w).alloc (Nat.le_refl _) o
theorem one_row {w : World} {g : Nat} {t1 : T} {a0 a1 a2 a3 a4 a5 : Value} (hB : Blk w g 31 #[a0, a1, a2, a3, a4, a5]) (h1 : Nd w t1 [a0, a1, a2, a3, a4, a5]) : NdL w g [t1] 0 :=
  ndl_blk (xs := [a0, a1, a2, a3, a4, a5]) hB ⟨_, [], rfl, h1, rfl⟩
theorem two_row {w : World} {g : Nat} {t1 t2 : T} {a0 a1 a2 a3 a4 a5 b0 b1 b2 b3 b4 b5 : Value} (hB : Blk w g 31 #[a0, a1, a2, a3, a4, a5, b0, b1, b2, b3, b4, b5]) (h1 : Nd w t1 [a0, a1, a2, a3, a4, a5]) (h2 : Nd w t2 [b0, b1, b2, b3, b4, b5]) : NdL w g [t1, t2] 0 :=
  ndl_blk (xs := [a0, a1, a2, a3, a4, a5, b0, b1, b2, b3, b4, b5]) hB ⟨[a0, a1, a2, a3, a4, a5], [b0, b1, b2, b3, b4, b5], rfl, h1, _, [], rfl, h2, rfl⟩
theorem four_row {w : World} {g : Nat} {t1 t2 t3 t4 : T} {a0 a1 a2 a3 a4 a5 b0 b1 b2 b3 b4 b5 c0 c1 c2 c3 c4 c5 d0 d1 d2 d3 d4 d5 : Value}
    (hB : Blk w g 31 #[a0, a1, a2, a3, a4, a5, b0, b1, b2, b3, b4, b5, c0, c1, c2, c3, c4, c5, d0, d1, d2, d3, d4, d5]) (h1 : Nd w t1 [a0, a1, a2, a3, a4, a5]) (h2 : Nd w t2 [b0, b1, b2, b3, b4, b5]) (h3 : Nd w t3 [c0, c1, c2, c3, c4, c5]) (h4 : Nd w t4 [d0, d1, d2, d3, d4, d5]) : NdL w g [t1, t2, t3, t4] 0 :=
  ndl_blk (xs := [a0, a1, a2, a3, a4, a5, b0, b1, b2, b3, b4, b5, c0, c1, c2, c3, c4, c5, d0, d1, d2, d3, d4, d5]) hB
    ⟨[a0, a1, a2, a3, a4, a5], [b0, b1, b2, b3, b4, b5, c0, c1, c2, c3, c4, c5, d0, d1, d2, d3, d4, d5], rfl, h1, [b0, b1, b2, b3, b4, b5], [c0, c1, c2, c3, c4, c5, d0, d1, d2, d3, d4, d5], rfl, h2, [c0, c1, c2, c3, c4, c5], [d0, d1, d2, d3, d4, d5], rfl, h3, _, [], rfl, h4, rfl⟩
theorem six_row {w : World} {g : Nat} {t1 t2 t3 t4 t5 t6 : T} {a0 a1 a2 a3 a4 a5 b0 b1 b2 b3 b4 b5 c0 c1 c2 c3 c4 c5 d0 d1 d2 d3 d4 d5 e0 e1 e2 e3 e4 e5 f0 f1 f2 f3 f4 f5 : Value}
    (hB : Blk w g 31 #[a0, a1, a2, a3, a4, a5, b0, b1, b2, b3, b4, b5, c0, c1, c2, c3, c4, c5, d0, d1, d2, d3, d4, d5, e0, e1, e2, e3, e4, e5, f0, f1, f2, f3, f4, f5]) (h1 : Nd w t1 [a0, a1, a2, a3, a4, a5]) (h2 : Nd w t2 [b0, b1, b2, b3, b4, b5]) (h3 : Nd w t3 [c0, c1, c2, c3, c4, c5]) (h4 : Nd w t4 [d0, d1, d2, d3, d4, d5])
    (h5 : Nd w t5 [e0, e1, e2, e3, e4, e5]) (h6 : Nd w t6 [f0, f1, f2, f3, f4, f5]) : NdL w g [t1, t2, t3, t4, t5, t6] 0 :=
  ndl_blk (xs := [a0, a1, a2, a3, a4, a5, b0, b1, b2, b3, b4, b5, c0, c1, c2, c3, c4, c5, d0, d1, d2, d3, d4, d5, e0, e1, e2, e3, e4, e5, f0, f1, f2, f3, f4, f5]) hB
    ⟨[a0, a1, a2, a3, a4, a5], [b0, b1, b2, b3, b4, b5, c0, c1, c2, c3, c4, c5, d0, d1, d2, d3, d4, d5, e0, e1, e2, e3, e4, e5, f0, f1, f2, f3, f4, f5], rfl, h1, [b0, b1, b2, b3, b4, b5], [c0, c1, c2, c3, c4, c5, d0, d1, d2, d3, d4, d5, e0, e1, e2, e3, e4, e5, f0, f1, f2, f3, f4, f5], rfl, h2,
      [c0, c1, c2, c3, c4, c5], [d0, d1, d2, d3, d4, d5, e0, e1, e2, e3, e4, e5, f0, f1, f2, f3, f4, f5], rfl, h3, [d0, d1, d2, d3, d4, d5], [e0, e1, e2, e3, e4, e5, f0, f1, f2, f3, f4, f5], rfl, h4, [e0, e1, e2, e3, e4, e5], [f0, f1, f2, f3, f4, f5], rfl, h5, _, [], rfl, h6, rfl⟩
theorem rds_two {w : World} {g : Nat} {x y : ByteArray} (hB : Blk w g 9 #[.string x, .string y]) (hx : x.size ≤ maxLen) (hy : y.size ≤ maxLen) : RdS w (.slice (some ⟨g, 0, none⟩) 2 2) [x, y] := by
  refine ⟨_, 2, 2, rfl, rfl, Nat.le_refl _, by decide, fun s h => ?_, fun _ => ⟨g, 0, rfl, hB.lt, fun j s h => ?_⟩⟩
  · simp only [List.mem_cons, List.not_mem_nil, or_false] at h
    rcases h with rfl | rfl
    · exact hx
    · exact hy
  · rw [Nat.zero_add, Blk.cell hB]
    match j, h with
    | 0, h => simp at h; subst h; rfl
    | 1, h => simp at h; subst h; rfl
theorem rds_one {w : World} {g : Nat} {x : ByteArray} (hB : Blk w g 9 #[.string x]) (hx : x.size ≤ maxLen) : RdS w (.slice (some ⟨g, 0, none⟩) 1 1) [x] := by
  refine ⟨_, 1, 1, rfl, rfl, Nat.le_refl _, by decide, fun s h => ?_, fun _ => ⟨g, 0, rfl, hB.lt, fun j s h => ?_⟩⟩
  · simp only [List.mem_cons, List.not_mem_nil, or_false] at h
    subst h; exact hx
  · rw [Nat.zero_add, Blk.cell hB]
    match j, h with
    | 0, h => simp at h; subst h; rfl
theorem rng_num (n : Int) (h1 : -9223372036854775808 ≤ n) (h2 : n ≤ 9223372036854775807) : Rng 3 n 0 := rng0 3 n (by decide) (by decide) h1 h2
theorem nd_num (w : World) (n : Int) (h1 : -9223372036854775808 ≤ n) (h2 : n ≤ 9223372036854775807) : Nd w (numT n) [.int .i64 3, .int .i64 n, .int .u64 0, .string ⟨#[]⟩, .slice none 0 0, .slice none 0 0] := nd_leaf w 3 n 0 _ (rng_num n h1 h2) (by decide)
theorem nd_key (w : World) (s : ByteArray) (h : s.size ≤ maxLen) : Nd w (keyT s) [.int .i64 5, .int .i64 0, .int .u64 0, .string s, .slice none 0 0, .slice none 0 0] := nd_leaf w 5 0 0 s (rng0 5 0 (by decide) (by decide) (by decide) (by decide)) h
theorem nd_vec0 (w : World) : Nd w (vecT []) [.int .i64 10, .int .i64 0, .int .u64 0, .string ⟨#[]⟩, .slice none 0 0, .slice none 0 0] := nd_leaf w 10 0 0 _ rng10 (by decide)
theorem nd_vec {w : World} {l : List T} {g m c : Nat} (hl : l.length = m) (hm : m ≤ c) (hc : c ≤ maxLen) (hg : g < w.heap.size) (h : NdL w g l 0) : Nd w (vecT l) [.int .i64 10, .int .i64 0, .int .u64 0, .string ⟨#[]⟩, .slice none 0 0, .slice (some ⟨g, 0, none⟩) m c] := nd_row rng10 (by decide) (rds_nil w) hl hm hc hg h
theorem nd_tab {w : World} {kv : Value} {ks : List ByteArray} {l : List T} {g m c : Nat} (hk : RdS w kv ks) (hl : l.length = m) (hm : m ≤ c) (hc : c ≤ maxLen) (hg : g < w.heap.size) (h : NdL w g l 0) : Nd w (tabT ks l) [.int .i64 17, .int .i64 0, .int .u64 0, .string ⟨#[]⟩, kv, .slice (some ⟨g, 0, none⟩) m c] := nd_row (rng0 17 0 (by decide) (by decide) (by decide) (by decide)) (by decide) hk hl hm hc hg h
end Go.Proofs.YtnplkamkeadlgaaDoor
