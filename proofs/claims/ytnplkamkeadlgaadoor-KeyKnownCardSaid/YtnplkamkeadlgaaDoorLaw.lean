/-
  What is proved here: contracts of key.Sorted, tree.Same, tree.Size, tree.Deep, tree.At, Cut in the words that the laws' walks use; conditions: those of the contracts they come from.
-/
import Derived.Test.YtnplkamkeadlgaaDoorPm
import Derived.Test.YtnplkamkeadlgaaDoorFew
import Derived.Test.YtnplkamkeadlgaaDoorSame
namespace Go.Proofs.YtnplkamkeadlgaaDoor
open Go.RowKit Go.Sort

theorem fewT_qq (t : T) : QQ (fewT t) := ⟨by have := fewT_sz t; omega, fewT_sm t⟩
theorem cutS_any (t : T) (cs : List Value) (w : World) (hnd : Nd w t cs) : Calls Tryd.prog 29 #[.agg cs.toArray, .int .i64 120, .int .i64 60] w fun e w' =>
    ∃ (k n u : Int) (s : ByteArray) (A1 : Option Addr) (m1 c1 : Nat) (A2 : Option Addr) (m2 c2 : Nat), e = .returned (.agg #[.int .i64 k, .int .i64 n, .int .u64 u, .string s, .slice A1 m1 c1, .slice A2 m2 c2]) ∧
      Hid (NdO (fun b => w.heap.size ≤ b) w' (fewT t) [.int .i64 k, .int .i64 n, .int .u64 u, .string s, .slice A1 m1 c1, .slice A2 m2 c2]) ∧ Hid (Below w.heap.size w w') := by
  refine (cut0_any t cs w hnd).mono ?_
  rintro e w' ⟨⟨cs', rfl, h1⟩, hb⟩
  obtain ⟨k, n, u, s, A1, m1, c1, A2, m2, c2, rfl⟩ := h1.shape6
  exact ⟨k, n, u, s, A1, m1, c1, A2, m2, c2, rfl, Lib.hid h1, Lib.hid hb⟩
theorem sorted_okO (t : T) (cs : List Value) (w : World) (hT : Tab w) (hq : QQ t) (hc : chk t = 0) (hnd : Nd w t cs) :
    Calls Tryd.prog 27 #[.agg cs.toArray] w fun e w' => ∃ (t' : T) (k n u : Int) (s : ByteArray) (A1 : Option Addr) (m1 c1 : Nat) (A2 : Option Addr) (m2 c2 : Nat), e = .returned (.tuple #[.agg #[.int .i64 k, .int .i64 n, .int .u64 u, .string s, .slice A1 m1 c1, .slice A2 m2 c2], .int .i64 0]) ∧
      Hid (Srt t t') ∧ Hid (NdO (fun b => w.heap.size ≤ b) w' t' [.int .i64 k, .int .i64 n, .int .u64 u, .string s, .slice A1 m1 c1, .slice A2 m2 c2]) ∧ Hid (Below w.heap.size w w') := by
  refine (sorted_any t cs w hT hq hnd).mono ?_
  rintro e w' ⟨hb, ⟨h, _⟩ | ⟨_, cs', t2, rfl, h2, h3⟩⟩
  · exact absurd hc h
  · obtain ⟨k, n, u, s, A1, m1, c1, A2, m2, c2, rfl⟩ := (NdS.ndo _ _ h3).shape6
    exact ⟨t2, k, n, u, s, A1, m1, c1, A2, m2, c2, rfl, Lib.hid h2, Lib.hid (NdS.ndo _ _ h3), Lib.hid hb⟩
/-- .. where the sorted tree is known. -/
theorem sorted_is (t t' : T) (cs : List Value) (w : World) (hT : Tab w) (hq : QQ t) (hc : chk t = 0) (hs : Srt t t') (hnd : Nd w t cs) :
    Calls Tryd.prog 27 #[.agg cs.toArray] w fun e w' => ∃ (k n u : Int) (s : ByteArray) (A1 : Option Addr) (m1 c1 : Nat) (A2 : Option Addr) (m2 c2 : Nat), e = .returned (.tuple #[.agg #[.int .i64 k, .int .i64 n, .int .u64 u, .string s, .slice A1 m1 c1, .slice A2 m2 c2], .int .i64 0]) ∧
      Hid (NdO (fun b => w.heap.size ≤ b) w' t' [.int .i64 k, .int .i64 n, .int .u64 u, .string s, .slice A1 m1 c1, .slice A2 m2 c2]) ∧ Hid (Below w.heap.size w w') := by
  refine (sorted_okO t cs w hT hq hc hnd).mono ?_
  rintro e w' ⟨t2, k, n, u, s, A1, m1, c1, A2, m2, c2, rfl, h1, h2, h3⟩
  obtain rfl := Srt.unique hs h1.out
  exact ⟨k, n, u, s, A1, m1, c1, A2, m2, c2, rfl, h2, h3⟩
theorem sorted_errL (t : T) (n : Nat) (cs : List Value) (w : World) (hT : Tab w) (hq : QQ t) (hc : chk t = n) (h0 : n ≠ 0) (hnd : Nd w t cs) :
    Calls Tryd.prog 27 #[.agg cs.toArray] w fun e w' => e = .returned (.tuple #[.agg #[.int .i64 0, .int .i64 0, .int .u64 0, .string ⟨#[]⟩, .slice none 0 0, .slice none 0 0], .int .i64 (n : Int)]) ∧ Hid (Below w.heap.size w w') := by
  refine (sorted_any t cs w hT hq hnd).mono ?_
  rintro e w' ⟨hb, ⟨_, h⟩ | ⟨h, _⟩⟩
  · exact ⟨by rw [h, hc], Lib.hid hb⟩
  · exact absurd (hc.symm.trans h) h0
theorem same_eq (t : T) (ca cb : List Value) (w : World) (hq : QQ t) (ha : Nd w t ca) (hb : Nd w t cb) : Calls Tryd.prog 33 #[.agg ca.toArray, .agg cb.toArray] w fun e w' => e = .returned (.bool true) ∧ Hid (Below w.heap.size w w') := by
  refine (same_any (dp t) t t ca cb w (Nat.le_refl _) hq.1 ha hb).mono ?_
  rintro e w' ⟨⟨β, rfl, hβ⟩, hb⟩
  rw [hβ.2 rfl]
  exact ⟨rfl, Lib.hid hb⟩
theorem eq_eq (t : T) (ca cb : List Value) (w : World) (hq : QQ t) (ha : Nd w t ca) (hb : Nd w t cb) : Calls Tryd.prog 28 #[.agg ca.toArray, .agg cb.toArray] w fun e w' => e = .returned (.bool true) ∧ Hid (Below w.heap.size w w') := by
  refine (eqNode_any (dp t) t t ca cb w (Nat.le_refl _) hq.1 hq.2 ha hb).mono ?_
  rintro e w' ⟨⟨β, rfl, hβ⟩, hb⟩
  rw [hβ.2 rfl]
  exact ⟨rfl, Lib.hid hb⟩
/-- A box that holds a tree. -/
def Bd (W : World) (b : Nat) (t : T) (v0 v1 v2 v3 v4 v5 : Value) : Prop := Bx W b v0 v1 v2 v3 v4 v5 ∧ Nd W t [v0, v1, v2, v3, v4, v5]
theorem Bd.below {W W' : World} {b : Nat} {t : T} {v0 v1 v2 v3 v4 v5 : Value} (h : Bd W b t v0 v1 v2 v3 v4 v5) (hb : Below W.heap.size W W') : Bd W' b t v0 v1 v2 v3 v4 v5 := ⟨h.1.below hb h.1.lt, h.2.bel hb⟩
theorem Bd.new {W : World} {t : T} {v0 v1 v2 v3 v4 v5 : Value} (h : Nd W t [v0, v1, v2, v3, v4, v5]) : Bd (W.alloc (.cells #[v0, v1, v2, v3, v4, v5] 31)) W.heap.size t v0 v1 v2 v3 v4 v5 := ⟨Blk.new _ _ _, h.bel (al0 _ _)⟩
/-- Stored into a box that lay there when the call began that made the tree. -/
theorem Bd.put {W : World} {t : T} {p lo : Nat} {z0 z1 z2 z3 z4 z5 v0 v1 v2 v3 v4 v5 : Value} (hB : Bx W p z0 z1 z2 z3 z4 z5) (h : NdO (fun b => lo ≤ b) W t [v0, v1, v2, v3, v4, v5]) (hp : p < lo) : Bd (put6 W p 0 v0 v1 v2 v3 v4 v5) p t v0 v1 v2 v3 v4 v5 :=
  ⟨Bx.put6 hB _ _ _ _ _ _, NdO.nd _ _ (NdO.step (U' := fun b => lo ≤ b) (fun b hb _ => ⟨put6_other _ _ _ _ _ _ _ _ _ _ (by omega), hb⟩) _ _ h)⟩
/-- Only worlds later than A, but for blocks that A does not have. -/
theorem below_put {A W : World} (h : Below A.heap.size A W) {p : Nat} (hp : A.heap.size ≤ p) (a0 a1 a2 a3 a4 a5 : Value) : Below A.heap.size A (put6 W p 0 a0 a1 a2 a3 a4 a5) := put6_below h _ _ _ _ _ _ _ _ hp
end Go.Proofs.YtnplkamkeadlgaaDoor
