/-
  What is proved here: the law NormalAlike returns true; condition: the table of package tree holds what is laid; and: accordionlaw09.NormalAlike returns true for all pairs of trees and leaves its arguments as they were; condition: the package-level table of package tree holds when the call begins what its initialiser lays (tied to the program's text by the card).
-/
import Derived.Test.YtpcfpikflkjmjaaDoorLaw9
import Derived.Test.YtpcfpikflkjmjaaDoorRAlike
import Derived.Deep.DeepCutAuto
import Derived.Deep.RegionHeld3
import Derived.Test.YtpcfpikflkjmjaaDoorRow
namespace Go.Proofs.YtpcfpikflkjmjaaDoor
open Go.RowKit Go.Sort

def C0 (A W : World) : Prop := Below A.heap.size A W
theorem C0.al {A W : World} (h : C0 A W) {o : Obj} : C0 A (W.alloc o) := Below.alloc h (Below.size h) o
theorem C0.dr {A W : World} (h : C0 A W) : C0 A W.drew := Below.drew h
theorem C0.go {A W W' : World} (h : C0 A W) (k : Below W.heap.size W W') : C0 A W' := tr h k
theorem eq_C {A W : World} {t : T} {cs ds : List Value} (h : C0 A W) (hq : QQ t) (hN : Nd W t cs) (hM : Nd W t ds) : Calls Tryd.prog 16 #[.agg cs.toArray, .agg ds.toArray] W fun e w' => e = .returned (.bool true) ∧ C0 A w' := by
  refine (eqNode_any (dp t) t t cs ds W (Nat.le_refl _) hq.1 hq.2 hN hM).mono ?_
  rintro e w' ⟨⟨β, rfl, hβ⟩, hb⟩
  rw [hβ.2 rfl]
  exact ⟨rfl, h.go hb⟩
theorem bool_same {a b : Bool} (h : a = true ↔ b = true) : a = b := by cases a <;> cases b <;> simp_all
/-- Two trees in two boxes, beside the boxes of the arguments. -/
def XY (w : World) (v0 v1 v2 v3 v4 v5 u0 u1 u2 u3 u4 u5 : Value) (X Y : T) (s5 s6 : Value) (W : World) : Prop :=
  Two w v0 v1 v2 v3 v4 v5 u0 u1 u2 u3 u4 u5 W ∧ ∃ p q x0 x1 x2 x3 x4 x5 y0 y1 y2 y3 y4 y5, s5 = .pointer (some ⟨p, 0, none⟩) ∧ s6 = .pointer (some ⟨q, 0, none⟩) ∧ Bx W p x0 x1 x2 x3 x4 x5 ∧ Bx W q y0 y1 y2 y3 y4 y5 ∧ Nd W X [x0, x1, x2, x3, x4, x5] ∧ Nd W Y [y0, y1, y2, y3, y4, y5]
theorem xy_fin {w w1 w2 V : World} {v0 v1 v2 v3 v4 v5 u0 u1 u2 u3 u4 u5 : Value} {X Y : T} {lo1 lo2 p q : Nat} {x0 x1 x2 x3 x4 x5 y0 y1 y2 y3 y4 y5 : Value} (hT : Two w v0 v1 v2 v3 v4 v5 u0 u1 u2 u3 u4 u5 w2) (h1 : NdO (fun b => lo1 ≤ b) w1 X [x0, x1, x2, x3, x4, x5]) (hb : Below w1.heap.size w1 w2) (h2 : NdO (fun b => lo2 ≤ b) w2 Y [y0, y1, y2, y3, y4, y5])
    (hk : ∀ b, b < w2.heap.size → b ≠ p → b ≠ q → V.heap[b]? = w2.heap[b]?) (he : V.os = w2.os ∧ V.tape = w2.tape ∧ V.output = w2.output) (hs : w2.heap.size ≤ V.heap.size) (hp : Bx V p x0 x1 x2 x3 x4 x5) (hq : Bx V q y0 y1 y2 y3 y4 y5)
    (p0 : w.heap.size + 2 ≤ p) (q0 : w.heap.size + 2 ≤ q) (p1 : p < lo1 ∨ w1.heap.size ≤ p) (p2 : p < lo2 ∨ w2.heap.size ≤ p) (q1 : q < lo1 ∨ w1.heap.size ≤ q) (q2 : q < lo2 ∨ w2.heap.size ≤ q) :
    XY w v0 v1 v2 v3 v4 v5 u0 u1 u2 u3 u4 u5 X Y (.pointer (some ⟨p, 0, none⟩)) (.pointer (some ⟨q, 0, none⟩)) V := by
  have hs2 := hT.2.1
  have hs1 := hb.size
  refine ⟨⟨⟨he.1.trans hT.1.os, he.2.1.trans hT.1.tape, he.2.2.trans hT.1.output, Nat.le_trans hT.1.size hs, fun b hb => (hk b (by omega) (by omega) (by omega)).trans (hT.1.block b hb)⟩, by omega, (hk _ (by omega) (by omega) (by omega)).trans hT.2.2.1, (hk _ (by omega) (by omega) (by omega)).trans hT.2.2.2⟩,
    p, q, _, _, _, _, _, _, _, _, _, _, _, _, rfl, rfl, hp, hq, NdO.nd _ _ (NdO.step (U' := fun _ => True) (fun b hb1 hl => ⟨(hk b (by omega) (by omega) (by omega)).trans (hb.block b hl), trivial⟩) _ _ h1), NdO.nd _ _ (NdO.step (U' := fun _ => True) (fun b hb1 hl => ⟨hk b hl (by omega) (by omega), trivial⟩) _ _ h2)⟩
section
variable {w w1 w2 : World} {v0 v1 v2 v3 v4 v5 u0 u1 u2 u3 u4 u5 : Value} {X Y : T} {lo1 lo2 p q : Nat} {x0 x1 x2 x3 x4 x5 y0 y1 y2 y3 y4 y5 z0 z1 z2 z3 z4 z5 r0 r1 r2 r3 r4 r5 : Value} (hT : Two w v0 v1 v2 v3 v4 v5 u0 u1 u2 u3 u4 u5 w2) (h1 : NdO (fun b => lo1 ≤ b) w1 X [x0, x1, x2, x3, x4, x5]) (hb : Below w1.heap.size w1 w2) (h2 : NdO (fun b => lo2 ≤ b) w2 Y [y0, y1, y2, y3, y4, y5])
include hT h1 hb h2
theorem xy_a (hp : Bx w2 p z0 z1 z2 z3 z4 z5) (hq : Bx w2 q r0 r1 r2 r3 r4 r5) (p0 : w.heap.size + 2 ≤ p) (q0 : w.heap.size + 2 ≤ q) (p1 : p < lo1 ∨ w1.heap.size ≤ p) (p2 : p < lo2 ∨ w2.heap.size ≤ p) (q1 : q < lo1 ∨ w1.heap.size ≤ q) (q2 : q < lo2 ∨ w2.heap.size ≤ q) (hn : p ≠ q) :
    XY w v0 v1 v2 v3 v4 v5 u0 u1 u2 u3 u4 u5 X Y (.pointer (some ⟨p, 0, none⟩)) (.pointer (some ⟨q, 0, none⟩)) (put6 (put6 w2 p 0 x0 x1 x2 x3 x4 x5) q 0 y0 y1 y2 y3 y4 y5) := by
  have hB := put6_below (put6_below (Below.refl 0 w2) p 0 x0 x1 x2 x3 x4 x5 (Nat.zero_le _)) q 0 y0 y1 y2 y3 y4 y5 (Nat.zero_le _)
  exact xy_fin hT h1 hb h2 (fun b _ e1 e2 => by rw [put6_other _ _ _ _ _ _ _ _ _ _ e2, put6_other _ _ _ _ _ _ _ _ _ _ e1]) ⟨hB.os, hB.tape, hB.output⟩ (by rw [put6_size, put6_size]; exact Nat.le_refl _) (put6_blk (Bx.put6 hp _ _ _ _ _ _) hn _ _ _ _ _ _) (Bx.put6 (put6_blk hq (Ne.symm hn) _ _ _ _ _ _) _ _ _ _ _ _) p0 q0 p1 p2 q1 q2
theorem xy_b (hp : Bx w2 p z0 z1 z2 z3 z4 z5) (p0 : w.heap.size + 2 ≤ p) (p1 : p < lo1 ∨ w1.heap.size ≤ p) (p2 : p < lo2 ∨ w2.heap.size ≤ p) :
    XY w v0 v1 v2 v3 v4 v5 u0 u1 u2 u3 u4 u5 X Y (.pointer (some ⟨p, 0, none⟩)) (.pointer (some ⟨w2.heap.size, 0, none⟩)) ((put6 w2 p 0 x0 x1 x2 x3 x4 x5).alloc (.cells #[y0, y1, y2, y3, y4, y5] 26)) := by
  have hB := (put6_below (Below.refl 0 w2) p 0 x0 x1 x2 x3 x4 x5 (Nat.zero_le _)).alloc (Nat.zero_le _) (.cells #[y0, y1, y2, y3, y4, y5] 26)
  have hl := Blk.lt hp
  have hs2 := hT.2.1
  have hs1 := hb.size
  refine xy_fin hT h1 hb h2 (fun b hl e1 _ => (Below.heap_alloc _ _ b (by rw [put6_size]; exact hl)).trans (put6_other _ _ _ _ _ _ _ _ _ _ e1)) ⟨hB.os, hB.tape, hB.output⟩ (by rw [World.size_alloc, put6_size]; omega) ((Bx.put6 hp _ _ _ _ _ _).alloc _) ?_ p0 hs2 p1 p2 (.inr hs1) (.inr (Nat.le_refl _))
  have := Blk.new (put6 w2 p 0 x0 x1 x2 x3 x4 x5) 26 #[y0, y1, y2, y3, y4, y5]
  rwa [put6_size] at this
theorem xy_c (hq : Bx w2 q r0 r1 r2 r3 r4 r5) (q0 : w.heap.size + 2 ≤ q) (q1 : q < lo1 ∨ w1.heap.size ≤ q) (q2 : q < lo2 ∨ w2.heap.size ≤ q) :
    XY w v0 v1 v2 v3 v4 v5 u0 u1 u2 u3 u4 u5 X Y (.pointer (some ⟨w2.heap.size, 0, none⟩)) (.pointer (some ⟨q, 0, none⟩)) ((put6 w2 q 0 y0 y1 y2 y3 y4 y5).alloc (.cells #[x0, x1, x2, x3, x4, x5] 26)) := by
  have hB := (put6_below (Below.refl 0 w2) q 0 y0 y1 y2 y3 y4 y5 (Nat.zero_le _)).alloc (Nat.zero_le _) (.cells #[x0, x1, x2, x3, x4, x5] 26)
  have hl := Blk.lt hq
  have hs2 := hT.2.1
  have hs1 := hb.size
  refine xy_fin hT h1 hb h2 (fun b hl _ e1 => (Below.heap_alloc _ _ b (by rw [put6_size]; exact hl)).trans (put6_other _ _ _ _ _ _ _ _ _ _ e1)) ⟨hB.os, hB.tape, hB.output⟩ (by rw [World.size_alloc, put6_size]; omega) ?_ ((Bx.put6 hq _ _ _ _ _ _).alloc _) hs2 q0 (.inr hs1) (.inr (Nat.le_refl _)) q1 q2
  have := Blk.new (put6 w2 q 0 y0 y1 y2 y3 y4 y5) 26 #[x0, x1, x2, x3, x4, x5]
  rwa [put6_size] at this
theorem xy_d : XY w v0 v1 v2 v3 v4 v5 u0 u1 u2 u3 u4 u5 X Y (.pointer (some ⟨w2.heap.size, 0, none⟩)) (.pointer (some ⟨w2.heap.size + 1, 0, none⟩)) ((w2.alloc (.cells #[x0, x1, x2, x3, x4, x5] 26)).alloc (.cells #[y0, y1, y2, y3, y4, y5] 26)) := by
  have hB := ((Below.refl 0 w2).alloc (Nat.zero_le _) (.cells #[x0, x1, x2, x3, x4, x5] 26)).alloc (Nat.zero_le _) (.cells #[y0, y1, y2, y3, y4, y5] 26)
  have hs2 := hT.2.1
  have hs1 := hb.size
  refine xy_fin hT h1 hb h2 (fun b hl _ _ => (Below.heap_alloc _ _ b (by rw [World.size_alloc]; omega)).trans (Below.heap_alloc _ _ b hl)) ⟨hB.os, hB.tape, hB.output⟩ (by simp only [World.size_alloc]; omega) ((Blk.new _ _ _).alloc _) ?_ hs2 (by omega) (.inr hs1) (.inr (Nat.le_refl _)) (.inr (by omega)) (.inr (by omega))
  have := Blk.new (w2.alloc (.cells #[x0, x1, x2, x3, x4, x5] 26)) 26 #[y0, y1, y2, y3, y4, y5]
  rwa [World.size_alloc] at this
theorem xy_e : XY w v0 v1 v2 v3 v4 v5 u0 u1 u2 u3 u4 u5 X Y (.pointer (some ⟨w2.heap.size + 1, 0, none⟩)) (.pointer (some ⟨w2.heap.size, 0, none⟩)) ((w2.alloc (.cells #[y0, y1, y2, y3, y4, y5] 26)).alloc (.cells #[x0, x1, x2, x3, x4, x5] 26)) := by
  have hB := ((Below.refl 0 w2).alloc (Nat.zero_le _) (.cells #[y0, y1, y2, y3, y4, y5] 26)).alloc (Nat.zero_le _) (.cells #[x0, x1, x2, x3, x4, x5] 26)
  have hs2 := hT.2.1
  have hs1 := hb.size
  refine xy_fin hT h1 hb h2 (fun b hl _ _ => (Below.heap_alloc _ _ b (by rw [World.size_alloc]; omega)).trans (Below.heap_alloc _ _ b hl)) ⟨hB.os, hB.tape, hB.output⟩ (by simp only [World.size_alloc]; omega) ?_ ((Blk.new _ _ _).alloc _) (by omega) hs2 (.inr (by omega)) (.inr (by omega)) (.inr hs1) (.inr (Nat.le_refl _))
  have := Blk.new (w2.alloc (.cells #[y0, y1, y2, y3, y4, y5] 26)) 26 #[x0, x1, x2, x3, x4, x5]
  rwa [World.size_alloc] at this
theorem xy_a2 (hp : Bx w2 p z0 z1 z2 z3 z4 z5) (hq : Bx w2 q r0 r1 r2 r3 r4 r5) (p0 : w.heap.size + 2 ≤ p) (q0 : w.heap.size + 2 ≤ q) (p1 : p < lo1 ∨ w1.heap.size ≤ p) (p2 : p < lo2 ∨ w2.heap.size ≤ p) (q1 : q < lo1 ∨ w1.heap.size ≤ q) (q2 : q < lo2 ∨ w2.heap.size ≤ q) (hn : p ≠ q) :
    XY w v0 v1 v2 v3 v4 v5 u0 u1 u2 u3 u4 u5 X Y (.pointer (some ⟨p, 0, none⟩)) (.pointer (some ⟨q, 0, none⟩)) (((((((((((((w2).setCell ⟨p, 0, none⟩ x0).setCell ⟨p, 1, none⟩ x1).setCell ⟨p, 2, none⟩ x2).setCell ⟨p, 3, none⟩ x3).setCell ⟨p, 4, none⟩ x4).setCell ⟨p, 5, none⟩ x5).setCell ⟨q, 0, none⟩ y0).setCell ⟨q, 1, none⟩ y1).setCell ⟨q, 2, none⟩ y2).setCell ⟨q, 3, none⟩ y3).setCell ⟨q, 4, none⟩ y4).setCell ⟨q, 5, none⟩ y5) := xy_a hT h1 hb h2 hp hq p0 q0 p1 p2 q1 q2 hn
theorem xy_b2 (hp : Bx w2 p z0 z1 z2 z3 z4 z5) (p0 : w.heap.size + 2 ≤ p) (p1 : p < lo1 ∨ w1.heap.size ≤ p) (p2 : p < lo2 ∨ w2.heap.size ≤ p) :
    XY w v0 v1 v2 v3 v4 v5 u0 u1 u2 u3 u4 u5 X Y (.pointer (some ⟨p, 0, none⟩)) (.pointer (some ⟨w2.heap.size, 0, none⟩)) ((((((((w2).setCell ⟨p, 0, none⟩ x0).setCell ⟨p, 1, none⟩ x1).setCell ⟨p, 2, none⟩ x2).setCell ⟨p, 3, none⟩ x3).setCell ⟨p, 4, none⟩ x4).setCell ⟨p, 5, none⟩ x5).alloc (.cells #[y0, y1, y2, y3, y4, y5] 26)) := xy_b hT h1 hb h2 hp p0 p1 p2
theorem xy_c2 (hq : Bx w2 q r0 r1 r2 r3 r4 r5) (q0 : w.heap.size + 2 ≤ q) (q1 : q < lo1 ∨ w1.heap.size ≤ q) (q2 : q < lo2 ∨ w2.heap.size ≤ q) :
    XY w v0 v1 v2 v3 v4 v5 u0 u1 u2 u3 u4 u5 X Y (.pointer (some ⟨w2.heap.size, 0, none⟩)) (.pointer (some ⟨q, 0, none⟩)) ((((((((w2).setCell ⟨q, 0, none⟩ y0).setCell ⟨q, 1, none⟩ y1).setCell ⟨q, 2, none⟩ y2).setCell ⟨q, 3, none⟩ y3).setCell ⟨q, 4, none⟩ y4).setCell ⟨q, 5, none⟩ y5).alloc (.cells #[x0, x1, x2, x3, x4, x5] 26)) := xy_c hT h1 hb h2 hq q0 q1 q2
end
theorem born2 {w w' : World} {cs ds : Array Value} {t : TypeId} (hb : Below ((w.alloc (.cells cs t)).alloc (.cells ds t)).heap.size ((w.alloc (.cells cs t)).alloc (.cells ds t)) w') : Blk w' w.heap.size t cs ∧ Blk w' (w.heap.size + 1) t ds := by
  refine ⟨((Blk.new w t cs).alloc _).below hb (by simp; omega), ?_⟩
  have := (Blk.new (w.alloc (.cells cs t)) t ds).below hb (by simp)
  rwa [World.size_alloc] at this
theorem born2_eq {w w' : World} {n : Nat} {cs ds : Array Value} {t : TypeId} (hn : w.heap.size = n) (hb : Below (((w.alloc (.cells cs t)).alloc (.cells ds t)).drew).heap.size (((w.alloc (.cells cs t)).alloc (.cells ds t)).drew) w') : Blk w' n t cs ∧ Blk w' (n + 1) t ds := by
  rw [← hn]
  have hb' : Below ((w.alloc (.cells cs t)).alloc (.cells ds t)).heap.size ((w.alloc (.cells cs t)).alloc (.cells ds t)) w' := ((Below.refl _ _).drew).trans hb
  exact born2 hb'

set_option maxRecDepth 100000 in
set_option maxHeartbeats 4000000 in
theorem normalAlike_walk (ta : T) (ca : List Value) (tb : T) (cb : List Value) (w : World) (hT : Tab w) (hna : Nd w ta ca) (hnb : Nd w tb cb) : Calls Tryd.prog 7 #[.agg ca.toArray, .agg cb.toArray] w fun e w' => e = .returned (.bool true) ∧ Below w.heap.size w w' := by
  obtain ⟨k, n, u, s, A1, m1, c1, A2, m2, c2, rfl⟩ := hna.shape
  obtain ⟨k', n', u', s', A1', m1', c1', A2', m2', c2', rfl⟩ := hnb.shape
  have HFA := Lib.hid fun W (h : Below w.heap.size w W) => few9_any ta _ W (hna.bel h)
  have HFB := Lib.hid fun W (h : Below w.heap.size w W) => few9_any tb _ W (hnb.bel h)
  have HA : Hid (∀ W, Hid (Two w (.int .i64 k) (.int .i64 n) (.int .u64 u) (.string s) (.slice A1 m1 c1) (.slice A2 m2 c2) (.int .i64 k') (.int .i64 n') (.int .u64 u') (.string s') (.slice A1' m1' c1') (.slice A2' m2' c2') W) → Calls Tryd.prog 31 #[.agg #[.int .i64 k, .int .i64 n, .int .u64 u, .string s, .slice A1 m1 c1, .slice A2 m2 c2]] W fun e w' => (∃ (k n u : Int) (s : ByteArray) (A1 : Option Addr) (m1 c1 : Nat) (A2 : Option Addr) (m2 c2 : Nat), e = .returned (.agg #[.int .i64 k, .int .i64 n, .int .u64 u, .string s, .slice A1 m1 c1, .slice A2 m2 c2]) ∧ Hid (NdO (fun b => W.heap.size ≤ b) w' (fewT ta) [.int .i64 k, .int .i64 n, .int .u64 u, .string s, .slice A1 m1 c1, .slice A2 m2 c2])) ∧ Hid (Two w (.int .i64 k) (.int .i64 n) (.int .u64 u) (.string s) (.slice A1 m1 c1) (.slice A2 m2 c2) (.int .i64 k') (.int .i64 n') (.int .u64 u') (.string s') (.slice A1' m1' c1') (.slice A2' m2' c2') w') ∧ Hid (Below W.heap.size W w')) := Lib.hid fun W H => by
    refine (HFA.out W H.out.1).mono ?_
    rintro e w' ⟨⟨cs', rfl, hn⟩, hb⟩
    obtain ⟨k, n, u, s, A1, m1, c1, A2, m2, c2, rfl⟩ := hn.shape6
    exact ⟨⟨k, n, u, s, A1, m1, c1, A2, m2, c2, rfl, Lib.hid hn⟩, Lib.hid (H.out.below hb), Lib.hid hb⟩
  have HB : Hid (∀ W, Hid (Two w (.int .i64 k) (.int .i64 n) (.int .u64 u) (.string s) (.slice A1 m1 c1) (.slice A2 m2 c2) (.int .i64 k') (.int .i64 n') (.int .u64 u') (.string s') (.slice A1' m1' c1') (.slice A2' m2' c2') W) → Calls Tryd.prog 31 #[.agg #[.int .i64 k', .int .i64 n', .int .u64 u', .string s', .slice A1' m1' c1', .slice A2' m2' c2']] W fun e w' => (∃ (k n u : Int) (s : ByteArray) (A1 : Option Addr) (m1 c1 : Nat) (A2 : Option Addr) (m2 c2 : Nat), e = .returned (.agg #[.int .i64 k, .int .i64 n, .int .u64 u, .string s, .slice A1 m1 c1, .slice A2 m2 c2]) ∧ Hid (NdO (fun b => W.heap.size ≤ b) w' (fewT tb) [.int .i64 k, .int .i64 n, .int .u64 u, .string s, .slice A1 m1 c1, .slice A2 m2 c2])) ∧ Hid (Two w (.int .i64 k) (.int .i64 n) (.int .u64 u) (.string s) (.slice A1 m1 c1) (.slice A2 m2 c2) (.int .i64 k') (.int .i64 n') (.int .u64 u') (.string s') (.slice A1' m1' c1') (.slice A2' m2' c2') w') ∧ Hid (Below W.heap.size W w')) := Lib.hid fun W H => by
    refine (HFB.out W H.out.1).mono ?_
    rintro e w' ⟨⟨cs', rfl, hn⟩, hb⟩
    obtain ⟨k, n, u, s, A1, m1, c1, A2, m2, c2, rfl⟩ := hn.shape6
    exact ⟨⟨k, n, u, s, A1, m1, c1, A2, m2, c2, rfl, Lib.hid hn⟩, Lib.hid (H.out.below hb), Lib.hid hb⟩
  have HT0 : Hid (Two w (.int .i64 k) (.int .i64 n) (.int .u64 u) (.string s) (.slice A1 m1 c1) (.slice A2 m2 c2) (.int .i64 k') (.int .i64 n') (.int .u64 u') (.string s') (.slice A1' m1' c1') (.slice A2' m2' c2') ((w.alloc (.cells #[.int .i64 k, .int .i64 n, .int .u64 u, .string s, .slice A1 m1 c1, .slice A2 m2 c2] 26)).alloc (.cells #[.int .i64 k', .int .i64 n', .int .u64 u', .string s', .slice A1' m1' c1', .slice A2' m2' c2'] 26))) := Lib.hid (Two.start w _ _ _ _ _ _ _ _ _ _ _ _)
  have HT0d := Lib.hid (HT0.out.below (Below.refl _ _).drew)
  have HT0ad := Lib.hid ((HT0.out.below ((Below.refl _ _).alloc (Nat.le_refl _) (.cells #[.int .i64 0, .int .i64 0, .int .u64 0, .string ⟨#[]⟩, .slice none 0 0, .slice none 0 0] 26))).below (Below.refl _ _).drew)
  have HT0aad := Lib.hid (((HT0.out.below ((Below.refl _ _).alloc (Nat.le_refl _) (.cells #[.int .i64 0, .int .i64 0, .int .u64 0, .string ⟨#[]⟩, .slice none 0 0, .slice none 0 0] 26))).below ((Below.refl _ _).alloc (Nat.le_refl _) (.cells #[.int .i64 0, .int .i64 0, .int .u64 0, .string ⟨#[]⟩, .slice none 0 0, .slice none 0 0] 26))).below (Below.refl _ _).drew)
  have hcells : ∀ W, Hid (Two w (.int .i64 k) (.int .i64 n) (.int .u64 u) (.string s) (.slice A1 m1 c1) (.slice A2 m2 c2) (.int .i64 k') (.int .i64 n') (.int .u64 u') (.string s') (.slice A1' m1' c1') (.slice A2' m2' c2') W) → Hid (Two w (.int .i64 k) (.int .i64 n) (.int .u64 u) (.string s) (.slice A1 m1 c1) (.slice A2 m2 c2) (.int .i64 k') (.int .i64 n') (.int .u64 u') (.string s') (.slice A1' m1' c1') (.slice A2' m2' c2') W) ∧ W.cell? ⟨w.heap.size, 0, none⟩ = some (.int .i64 k) ∧ W.cell? ⟨w.heap.size, 1, none⟩ = some (.int .i64 n) ∧ W.cell? ⟨w.heap.size, 2, none⟩ = some (.int .u64 u) ∧ W.cell? ⟨w.heap.size, 3, none⟩ = some (.string s) ∧ W.cell? ⟨w.heap.size, 4, none⟩ = some (.slice A1 m1 c1) ∧ W.cell? ⟨w.heap.size, 5, none⟩ = some (.slice A2 m2 c2) ∧ W.cell? ⟨w.heap.size + 1, 0, none⟩ = some (.int .i64 k') ∧ W.cell? ⟨w.heap.size + 1, 1, none⟩ = some (.int .i64 n') ∧ W.cell? ⟨w.heap.size + 1, 2, none⟩ = some (.int .u64 u') ∧ W.cell? ⟨w.heap.size + 1, 3, none⟩ = some (.string s') ∧ W.cell? ⟨w.heap.size + 1, 4, none⟩ = some (.slice A1' m1' c1') ∧ W.cell? ⟨w.heap.size + 1, 5, none⟩ = some (.slice A2' m2' c2') := fun W H => by
    obtain ⟨a0, a1, a2, a3, a4, a5⟩ := Bx.all H.out.2.2.1
    exact ⟨H, a0, a1, a2, a3, a4, a5, Bx.all H.out.2.2.2⟩
  have hset : ∀ (W : World) (o : Nat) (a0 a1 a2 a3 a4 a5 : Value), Hid (Two w (.int .i64 k) (.int .i64 n) (.int .u64 u) (.string s) (.slice A1 m1 c1) (.slice A2 m2 c2) (.int .i64 k') (.int .i64 n') (.int .u64 u') (.string s') (.slice A1' m1' c1') (.slice A2' m2' c2') W) → Hid (w.heap.size + 2 ≤ o) → Hid (Two w (.int .i64 k) (.int .i64 n) (.int .u64 u) (.string s) (.slice A1 m1 c1) (.slice A2 m2 c2) (.int .i64 k') (.int .i64 n') (.int .u64 u') (.string s') (.slice A1' m1' c1') (.slice A2' m2' c2') ((((((W.setCell ⟨o, 0, none⟩ a0).setCell ⟨o, 1, none⟩ a1).setCell ⟨o, 2, none⟩ a2).setCell ⟨o, 3, none⟩ a3).setCell ⟨o, 4, none⟩ a4).setCell ⟨o, 5, none⟩ a5)) := fun W o a0 a1 a2 a3 a4 a5 H ho =>
      Lib.hid (put6_two H.out 0 ho.out _ _ _ _ _ _)
  obtain ⟨_, x0, x1, x2, x3, x4, x5, y0, y1, y2, y3, y4, y5⟩ := hcells _ HT0
  clear HFA HFB hna hnb
  have hc2 : ∀ (W : World) (o : Nat) (a0 a1 a2 a3 a4 a5 : Value), Hid (Two w (.int .i64 k) (.int .i64 n) (.int .u64 u) (.string s) (.slice A1 m1 c1) (.slice A2 m2 c2) (.int .i64 k') (.int .i64 n') (.int .u64 u') (.string s') (.slice A1' m1' c1') (.slice A2' m2' c2') W) → Hid (w.heap.size + 2 ≤ o) → Hid (Two w (.int .i64 k) (.int .i64 n) (.int .u64 u) (.string s) (.slice A1 m1 c1) (.slice A2 m2 c2) (.int .i64 k') (.int .i64 n') (.int .u64 u') (.string s') (.slice A1' m1' c1') (.slice A2' m2' c2') (((((((W).setCell ⟨o, 0, none⟩ a0).setCell ⟨o, 1, none⟩ a1).setCell ⟨o, 2, none⟩ a2).setCell ⟨o, 3, none⟩ a3).setCell ⟨o, 4, none⟩ a4).setCell ⟨o, 5, none⟩ a5)) ∧ (((((((W).setCell ⟨o, 0, none⟩ a0).setCell ⟨o, 1, none⟩ a1).setCell ⟨o, 2, none⟩ a2).setCell ⟨o, 3, none⟩ a3).setCell ⟨o, 4, none⟩ a4).setCell ⟨o, 5, none⟩ a5).cell? ⟨w.heap.size, 0, none⟩ = some (.int .i64 k) ∧ (((((((W).setCell ⟨o, 0, none⟩ a0).setCell ⟨o, 1, none⟩ a1).setCell ⟨o, 2, none⟩ a2).setCell ⟨o, 3, none⟩ a3).setCell ⟨o, 4, none⟩ a4).setCell ⟨o, 5, none⟩ a5).cell? ⟨w.heap.size, 1, none⟩ = some (.int .i64 n) ∧ (((((((W).setCell ⟨o, 0, none⟩ a0).setCell ⟨o, 1, none⟩ a1).setCell ⟨o, 2, none⟩ a2).setCell ⟨o, 3, none⟩ a3).setCell ⟨o, 4, none⟩ a4).setCell ⟨o, 5, none⟩ a5).cell? ⟨w.heap.size, 2, none⟩ = some (.int .u64 u) ∧ (((((((W).setCell ⟨o, 0, none⟩ a0).setCell ⟨o, 1, none⟩ a1).setCell ⟨o, 2, none⟩ a2).setCell ⟨o, 3, none⟩ a3).setCell ⟨o, 4, none⟩ a4).setCell ⟨o, 5, none⟩ a5).cell? ⟨w.heap.size, 3, none⟩ = some (.string s) ∧ (((((((W).setCell ⟨o, 0, none⟩ a0).setCell ⟨o, 1, none⟩ a1).setCell ⟨o, 2, none⟩ a2).setCell ⟨o, 3, none⟩ a3).setCell ⟨o, 4, none⟩ a4).setCell ⟨o, 5, none⟩ a5).cell? ⟨w.heap.size, 4, none⟩ = some (.slice A1 m1 c1) ∧ (((((((W).setCell ⟨o, 0, none⟩ a0).setCell ⟨o, 1, none⟩ a1).setCell ⟨o, 2, none⟩ a2).setCell ⟨o, 3, none⟩ a3).setCell ⟨o, 4, none⟩ a4).setCell ⟨o, 5, none⟩ a5).cell? ⟨w.heap.size, 5, none⟩ = some (.slice A2 m2 c2) ∧ (((((((W).setCell ⟨o, 0, none⟩ a0).setCell ⟨o, 1, none⟩ a1).setCell ⟨o, 2, none⟩ a2).setCell ⟨o, 3, none⟩ a3).setCell ⟨o, 4, none⟩ a4).setCell ⟨o, 5, none⟩ a5).cell? ⟨w.heap.size + 1, 0, none⟩ = some (.int .i64 k') ∧ (((((((W).setCell ⟨o, 0, none⟩ a0).setCell ⟨o, 1, none⟩ a1).setCell ⟨o, 2, none⟩ a2).setCell ⟨o, 3, none⟩ a3).setCell ⟨o, 4, none⟩ a4).setCell ⟨o, 5, none⟩ a5).cell? ⟨w.heap.size + 1, 1, none⟩ = some (.int .i64 n') ∧ (((((((W).setCell ⟨o, 0, none⟩ a0).setCell ⟨o, 1, none⟩ a1).setCell ⟨o, 2, none⟩ a2).setCell ⟨o, 3, none⟩ a3).setCell ⟨o, 4, none⟩ a4).setCell ⟨o, 5, none⟩ a5).cell? ⟨w.heap.size + 1, 2, none⟩ = some (.int .u64 u') ∧ (((((((W).setCell ⟨o, 0, none⟩ a0).setCell ⟨o, 1, none⟩ a1).setCell ⟨o, 2, none⟩ a2).setCell ⟨o, 3, none⟩ a3).setCell ⟨o, 4, none⟩ a4).setCell ⟨o, 5, none⟩ a5).cell? ⟨w.heap.size + 1, 3, none⟩ = some (.string s') ∧ (((((((W).setCell ⟨o, 0, none⟩ a0).setCell ⟨o, 1, none⟩ a1).setCell ⟨o, 2, none⟩ a2).setCell ⟨o, 3, none⟩ a3).setCell ⟨o, 4, none⟩ a4).setCell ⟨o, 5, none⟩ a5).cell? ⟨w.heap.size + 1, 4, none⟩ = some (.slice A1' m1' c1') ∧ (((((((W).setCell ⟨o, 0, none⟩ a0).setCell ⟨o, 1, none⟩ a1).setCell ⟨o, 2, none⟩ a2).setCell ⟨o, 3, none⟩ a3).setCell ⟨o, 4, none⟩ a4).setCell ⟨o, 5, none⟩ a5).cell? ⟨w.heap.size + 1, 5, none⟩ = some (.slice A2' m2' c2') := fun W o a0 a1 a2 a3 a4 a5 H ho => hcells _ (hset W o a0 a1 a2 a3 a4 a5 H ho)
  have hc3 : ∀ (W : World) (o o2 : Nat) (a0 a1 a2 a3 a4 a5 b0 b1 b2 b3 b4 b5 : Value), Hid (Two w (.int .i64 k) (.int .i64 n) (.int .u64 u) (.string s) (.slice A1 m1 c1) (.slice A2 m2 c2) (.int .i64 k') (.int .i64 n') (.int .u64 u') (.string s') (.slice A1' m1' c1') (.slice A2' m2' c2') W) → Hid (w.heap.size + 2 ≤ o) → Hid (w.heap.size + 2 ≤ o2) → Hid (Two w (.int .i64 k) (.int .i64 n) (.int .u64 u) (.string s) (.slice A1 m1 c1) (.slice A2 m2 c2) (.int .i64 k') (.int .i64 n') (.int .u64 u') (.string s') (.slice A1' m1' c1') (.slice A2' m2' c2') (((((((((((((W).setCell ⟨o, 0, none⟩ a0).setCell ⟨o, 1, none⟩ a1).setCell ⟨o, 2, none⟩ a2).setCell ⟨o, 3, none⟩ a3).setCell ⟨o, 4, none⟩ a4).setCell ⟨o, 5, none⟩ a5).setCell ⟨o2, 0, none⟩ b0).setCell ⟨o2, 1, none⟩ b1).setCell ⟨o2, 2, none⟩ b2).setCell ⟨o2, 3, none⟩ b3).setCell ⟨o2, 4, none⟩ b4).setCell ⟨o2, 5, none⟩ b5)) ∧ (((((((((((((W).setCell ⟨o, 0, none⟩ a0).setCell ⟨o, 1, none⟩ a1).setCell ⟨o, 2, none⟩ a2).setCell ⟨o, 3, none⟩ a3).setCell ⟨o, 4, none⟩ a4).setCell ⟨o, 5, none⟩ a5).setCell ⟨o2, 0, none⟩ b0).setCell ⟨o2, 1, none⟩ b1).setCell ⟨o2, 2, none⟩ b2).setCell ⟨o2, 3, none⟩ b3).setCell ⟨o2, 4, none⟩ b4).setCell ⟨o2, 5, none⟩ b5).cell? ⟨w.heap.size, 0, none⟩ = some (.int .i64 k) ∧ (((((((((((((W).setCell ⟨o, 0, none⟩ a0).setCell ⟨o, 1, none⟩ a1).setCell ⟨o, 2, none⟩ a2).setCell ⟨o, 3, none⟩ a3).setCell ⟨o, 4, none⟩ a4).setCell ⟨o, 5, none⟩ a5).setCell ⟨o2, 0, none⟩ b0).setCell ⟨o2, 1, none⟩ b1).setCell ⟨o2, 2, none⟩ b2).setCell ⟨o2, 3, none⟩ b3).setCell ⟨o2, 4, none⟩ b4).setCell ⟨o2, 5, none⟩ b5).cell? ⟨w.heap.size, 1, none⟩ = some (.int .i64 n) ∧ (((((((((((((W).setCell ⟨o, 0, none⟩ a0).setCell ⟨o, 1, none⟩ a1).setCell ⟨o, 2, none⟩ a2).setCell ⟨o, 3, none⟩ a3).setCell ⟨o, 4, none⟩ a4).setCell ⟨o, 5, none⟩ a5).setCell ⟨o2, 0, none⟩ b0).setCell ⟨o2, 1, none⟩ b1).setCell ⟨o2, 2, none⟩ b2).setCell ⟨o2, 3, none⟩ b3).setCell ⟨o2, 4, none⟩ b4).setCell ⟨o2, 5, none⟩ b5).cell? ⟨w.heap.size, 2, none⟩ = some (.int .u64 u) ∧ (((((((((((((W).setCell ⟨o, 0, none⟩ a0).setCell ⟨o, 1, none⟩ a1).setCell ⟨o, 2, none⟩ a2).setCell ⟨o, 3, none⟩ a3).setCell ⟨o, 4, none⟩ a4).setCell ⟨o, 5, none⟩ a5).setCell ⟨o2, 0, none⟩ b0).setCell ⟨o2, 1, none⟩ b1).setCell ⟨o2, 2, none⟩ b2).setCell ⟨o2, 3, none⟩ b3).setCell ⟨o2, 4, none⟩ b4).setCell ⟨o2, 5, none⟩ b5).cell? ⟨w.heap.size, 3, none⟩ = some (.string s) ∧ (((((((((((((W).setCell ⟨o, 0, none⟩ a0).setCell ⟨o, 1, none⟩ a1).setCell ⟨o, 2, none⟩ a2).setCell ⟨o, 3, none⟩ a3).setCell ⟨o, 4, none⟩ a4).setCell ⟨o, 5, none⟩ a5).setCell ⟨o2, 0, none⟩ b0).setCell ⟨o2, 1, none⟩ b1).setCell ⟨o2, 2, none⟩ b2).setCell ⟨o2, 3, none⟩ b3).setCell ⟨o2, 4, none⟩ b4).setCell ⟨o2, 5, none⟩ b5).cell? ⟨w.heap.size, 4, none⟩ = some (.slice A1 m1 c1) ∧ (((((((((((((W).setCell ⟨o, 0, none⟩ a0).setCell ⟨o, 1, none⟩ a1).setCell ⟨o, 2, none⟩ a2).setCell ⟨o, 3, none⟩ a3).setCell ⟨o, 4, none⟩ a4).setCell ⟨o, 5, none⟩ a5).setCell ⟨o2, 0, none⟩ b0).setCell ⟨o2, 1, none⟩ b1).setCell ⟨o2, 2, none⟩ b2).setCell ⟨o2, 3, none⟩ b3).setCell ⟨o2, 4, none⟩ b4).setCell ⟨o2, 5, none⟩ b5).cell? ⟨w.heap.size, 5, none⟩ = some (.slice A2 m2 c2) ∧ (((((((((((((W).setCell ⟨o, 0, none⟩ a0).setCell ⟨o, 1, none⟩ a1).setCell ⟨o, 2, none⟩ a2).setCell ⟨o, 3, none⟩ a3).setCell ⟨o, 4, none⟩ a4).setCell ⟨o, 5, none⟩ a5).setCell ⟨o2, 0, none⟩ b0).setCell ⟨o2, 1, none⟩ b1).setCell ⟨o2, 2, none⟩ b2).setCell ⟨o2, 3, none⟩ b3).setCell ⟨o2, 4, none⟩ b4).setCell ⟨o2, 5, none⟩ b5).cell? ⟨w.heap.size + 1, 0, none⟩ = some (.int .i64 k') ∧ (((((((((((((W).setCell ⟨o, 0, none⟩ a0).setCell ⟨o, 1, none⟩ a1).setCell ⟨o, 2, none⟩ a2).setCell ⟨o, 3, none⟩ a3).setCell ⟨o, 4, none⟩ a4).setCell ⟨o, 5, none⟩ a5).setCell ⟨o2, 0, none⟩ b0).setCell ⟨o2, 1, none⟩ b1).setCell ⟨o2, 2, none⟩ b2).setCell ⟨o2, 3, none⟩ b3).setCell ⟨o2, 4, none⟩ b4).setCell ⟨o2, 5, none⟩ b5).cell? ⟨w.heap.size + 1, 1, none⟩ = some (.int .i64 n') ∧ (((((((((((((W).setCell ⟨o, 0, none⟩ a0).setCell ⟨o, 1, none⟩ a1).setCell ⟨o, 2, none⟩ a2).setCell ⟨o, 3, none⟩ a3).setCell ⟨o, 4, none⟩ a4).setCell ⟨o, 5, none⟩ a5).setCell ⟨o2, 0, none⟩ b0).setCell ⟨o2, 1, none⟩ b1).setCell ⟨o2, 2, none⟩ b2).setCell ⟨o2, 3, none⟩ b3).setCell ⟨o2, 4, none⟩ b4).setCell ⟨o2, 5, none⟩ b5).cell? ⟨w.heap.size + 1, 2, none⟩ = some (.int .u64 u') ∧ (((((((((((((W).setCell ⟨o, 0, none⟩ a0).setCell ⟨o, 1, none⟩ a1).setCell ⟨o, 2, none⟩ a2).setCell ⟨o, 3, none⟩ a3).setCell ⟨o, 4, none⟩ a4).setCell ⟨o, 5, none⟩ a5).setCell ⟨o2, 0, none⟩ b0).setCell ⟨o2, 1, none⟩ b1).setCell ⟨o2, 2, none⟩ b2).setCell ⟨o2, 3, none⟩ b3).setCell ⟨o2, 4, none⟩ b4).setCell ⟨o2, 5, none⟩ b5).cell? ⟨w.heap.size + 1, 3, none⟩ = some (.string s') ∧ (((((((((((((W).setCell ⟨o, 0, none⟩ a0).setCell ⟨o, 1, none⟩ a1).setCell ⟨o, 2, none⟩ a2).setCell ⟨o, 3, none⟩ a3).setCell ⟨o, 4, none⟩ a4).setCell ⟨o, 5, none⟩ a5).setCell ⟨o2, 0, none⟩ b0).setCell ⟨o2, 1, none⟩ b1).setCell ⟨o2, 2, none⟩ b2).setCell ⟨o2, 3, none⟩ b3).setCell ⟨o2, 4, none⟩ b4).setCell ⟨o2, 5, none⟩ b5).cell? ⟨w.heap.size + 1, 4, none⟩ = some (.slice A1' m1' c1') ∧ (((((((((((((W).setCell ⟨o, 0, none⟩ a0).setCell ⟨o, 1, none⟩ a1).setCell ⟨o, 2, none⟩ a2).setCell ⟨o, 3, none⟩ a3).setCell ⟨o, 4, none⟩ a4).setCell ⟨o, 5, none⟩ a5).setCell ⟨o2, 0, none⟩ b0).setCell ⟨o2, 1, none⟩ b1).setCell ⟨o2, 2, none⟩ b2).setCell ⟨o2, 3, none⟩ b3).setCell ⟨o2, 4, none⟩ b4).setCell ⟨o2, 5, none⟩ b5).cell? ⟨w.heap.size + 1, 5, none⟩ = some (.slice A2' m2' c2') := fun W o o2 a0 a1 a2 a3 a4 a5 b0 b1 b2 b3 b4 b5 H ho ho2 => hcells _ (hset _ o2 b0 b1 b2 b3 b4 b5 (hset W o a0 a1 a2 a3 a4 a5 H ho) ho2)
  have hc4 : ∀ (W : World) (o : Nat) (a0 a1 a2 a3 a4 a5 : Value) (ob : Obj), Hid (Two w (.int .i64 k) (.int .i64 n) (.int .u64 u) (.string s) (.slice A1 m1 c1) (.slice A2 m2 c2) (.int .i64 k') (.int .i64 n') (.int .u64 u') (.string s') (.slice A1' m1' c1') (.slice A2' m2' c2') W) → Hid (w.heap.size + 2 ≤ o) → Hid (Two w (.int .i64 k) (.int .i64 n) (.int .u64 u) (.string s) (.slice A1 m1 c1) (.slice A2 m2 c2) (.int .i64 k') (.int .i64 n') (.int .u64 u') (.string s') (.slice A1' m1' c1') (.slice A2' m2' c2') ((((((((W).setCell ⟨o, 0, none⟩ a0).setCell ⟨o, 1, none⟩ a1).setCell ⟨o, 2, none⟩ a2).setCell ⟨o, 3, none⟩ a3).setCell ⟨o, 4, none⟩ a4).setCell ⟨o, 5, none⟩ a5).alloc ob)) ∧ ((((((((W).setCell ⟨o, 0, none⟩ a0).setCell ⟨o, 1, none⟩ a1).setCell ⟨o, 2, none⟩ a2).setCell ⟨o, 3, none⟩ a3).setCell ⟨o, 4, none⟩ a4).setCell ⟨o, 5, none⟩ a5).alloc ob).cell? ⟨w.heap.size, 0, none⟩ = some (.int .i64 k) ∧ ((((((((W).setCell ⟨o, 0, none⟩ a0).setCell ⟨o, 1, none⟩ a1).setCell ⟨o, 2, none⟩ a2).setCell ⟨o, 3, none⟩ a3).setCell ⟨o, 4, none⟩ a4).setCell ⟨o, 5, none⟩ a5).alloc ob).cell? ⟨w.heap.size, 1, none⟩ = some (.int .i64 n) ∧ ((((((((W).setCell ⟨o, 0, none⟩ a0).setCell ⟨o, 1, none⟩ a1).setCell ⟨o, 2, none⟩ a2).setCell ⟨o, 3, none⟩ a3).setCell ⟨o, 4, none⟩ a4).setCell ⟨o, 5, none⟩ a5).alloc ob).cell? ⟨w.heap.size, 2, none⟩ = some (.int .u64 u) ∧ ((((((((W).setCell ⟨o, 0, none⟩ a0).setCell ⟨o, 1, none⟩ a1).setCell ⟨o, 2, none⟩ a2).setCell ⟨o, 3, none⟩ a3).setCell ⟨o, 4, none⟩ a4).setCell ⟨o, 5, none⟩ a5).alloc ob).cell? ⟨w.heap.size, 3, none⟩ = some (.string s) ∧ ((((((((W).setCell ⟨o, 0, none⟩ a0).setCell ⟨o, 1, none⟩ a1).setCell ⟨o, 2, none⟩ a2).setCell ⟨o, 3, none⟩ a3).setCell ⟨o, 4, none⟩ a4).setCell ⟨o, 5, none⟩ a5).alloc ob).cell? ⟨w.heap.size, 4, none⟩ = some (.slice A1 m1 c1) ∧ ((((((((W).setCell ⟨o, 0, none⟩ a0).setCell ⟨o, 1, none⟩ a1).setCell ⟨o, 2, none⟩ a2).setCell ⟨o, 3, none⟩ a3).setCell ⟨o, 4, none⟩ a4).setCell ⟨o, 5, none⟩ a5).alloc ob).cell? ⟨w.heap.size, 5, none⟩ = some (.slice A2 m2 c2) ∧ ((((((((W).setCell ⟨o, 0, none⟩ a0).setCell ⟨o, 1, none⟩ a1).setCell ⟨o, 2, none⟩ a2).setCell ⟨o, 3, none⟩ a3).setCell ⟨o, 4, none⟩ a4).setCell ⟨o, 5, none⟩ a5).alloc ob).cell? ⟨w.heap.size + 1, 0, none⟩ = some (.int .i64 k') ∧ ((((((((W).setCell ⟨o, 0, none⟩ a0).setCell ⟨o, 1, none⟩ a1).setCell ⟨o, 2, none⟩ a2).setCell ⟨o, 3, none⟩ a3).setCell ⟨o, 4, none⟩ a4).setCell ⟨o, 5, none⟩ a5).alloc ob).cell? ⟨w.heap.size + 1, 1, none⟩ = some (.int .i64 n') ∧ ((((((((W).setCell ⟨o, 0, none⟩ a0).setCell ⟨o, 1, none⟩ a1).setCell ⟨o, 2, none⟩ a2).setCell ⟨o, 3, none⟩ a3).setCell ⟨o, 4, none⟩ a4).setCell ⟨o, 5, none⟩ a5).alloc ob).cell? ⟨w.heap.size + 1, 2, none⟩ = some (.int .u64 u') ∧ ((((((((W).setCell ⟨o, 0, none⟩ a0).setCell ⟨o, 1, none⟩ a1).setCell ⟨o, 2, none⟩ a2).setCell ⟨o, 3, none⟩ a3).setCell ⟨o, 4, none⟩ a4).setCell ⟨o, 5, none⟩ a5).alloc ob).cell? ⟨w.heap.size + 1, 3, none⟩ = some (.string s') ∧ ((((((((W).setCell ⟨o, 0, none⟩ a0).setCell ⟨o, 1, none⟩ a1).setCell ⟨o, 2, none⟩ a2).setCell ⟨o, 3, none⟩ a3).setCell ⟨o, 4, none⟩ a4).setCell ⟨o, 5, none⟩ a5).alloc ob).cell? ⟨w.heap.size + 1, 4, none⟩ = some (.slice A1' m1' c1') ∧ ((((((((W).setCell ⟨o, 0, none⟩ a0).setCell ⟨o, 1, none⟩ a1).setCell ⟨o, 2, none⟩ a2).setCell ⟨o, 3, none⟩ a3).setCell ⟨o, 4, none⟩ a4).setCell ⟨o, 5, none⟩ a5).alloc ob).cell? ⟨w.heap.size + 1, 5, none⟩ = some (.slice A2' m2' c2') := fun W o a0 a1 a2 a3 a4 a5 ob H ho => hcells _ (Lib.hid (Two.below (Hid.out (hset W o a0 a1 a2 a3 a4 a5 H ho)) ((Below.refl _ _).alloc (Nat.le_refl _) ob)))
  have hc5 : ∀ (W : World) (ob : Obj), Hid (Two w (.int .i64 k) (.int .i64 n) (.int .u64 u) (.string s) (.slice A1 m1 c1) (.slice A2 m2 c2) (.int .i64 k') (.int .i64 n') (.int .u64 u') (.string s') (.slice A1' m1' c1') (.slice A2' m2' c2') W) → Hid (Two w (.int .i64 k) (.int .i64 n) (.int .u64 u) (.string s) (.slice A1 m1 c1) (.slice A2 m2 c2) (.int .i64 k') (.int .i64 n') (.int .u64 u') (.string s') (.slice A1' m1' c1') (.slice A2' m2' c2') (W.alloc ob)) ∧ (W.alloc ob).cell? ⟨w.heap.size, 0, none⟩ = some (.int .i64 k) ∧ (W.alloc ob).cell? ⟨w.heap.size, 1, none⟩ = some (.int .i64 n) ∧ (W.alloc ob).cell? ⟨w.heap.size, 2, none⟩ = some (.int .u64 u) ∧ (W.alloc ob).cell? ⟨w.heap.size, 3, none⟩ = some (.string s) ∧ (W.alloc ob).cell? ⟨w.heap.size, 4, none⟩ = some (.slice A1 m1 c1) ∧ (W.alloc ob).cell? ⟨w.heap.size, 5, none⟩ = some (.slice A2 m2 c2) ∧ (W.alloc ob).cell? ⟨w.heap.size + 1, 0, none⟩ = some (.int .i64 k') ∧ (W.alloc ob).cell? ⟨w.heap.size + 1, 1, none⟩ = some (.int .i64 n') ∧ (W.alloc ob).cell? ⟨w.heap.size + 1, 2, none⟩ = some (.int .u64 u') ∧ (W.alloc ob).cell? ⟨w.heap.size + 1, 3, none⟩ = some (.string s') ∧ (W.alloc ob).cell? ⟨w.heap.size + 1, 4, none⟩ = some (.slice A1' m1' c1') ∧ (W.alloc ob).cell? ⟨w.heap.size + 1, 5, none⟩ = some (.slice A2' m2' c2') := fun W ob H => hcells _ (Lib.hid (Two.below (Hid.out H) ((Below.refl _ _).alloc (Nat.le_refl _) ob)))
  have hc6 : ∀ (W : World) (ob ob2 : Obj), Hid (Two w (.int .i64 k) (.int .i64 n) (.int .u64 u) (.string s) (.slice A1 m1 c1) (.slice A2 m2 c2) (.int .i64 k') (.int .i64 n') (.int .u64 u') (.string s') (.slice A1' m1' c1') (.slice A2' m2' c2') W) → Hid (Two w (.int .i64 k) (.int .i64 n) (.int .u64 u) (.string s) (.slice A1 m1 c1) (.slice A2 m2 c2) (.int .i64 k') (.int .i64 n') (.int .u64 u') (.string s') (.slice A1' m1' c1') (.slice A2' m2' c2') ((W.alloc ob).alloc ob2)) ∧ ((W.alloc ob).alloc ob2).cell? ⟨w.heap.size, 0, none⟩ = some (.int .i64 k) ∧ ((W.alloc ob).alloc ob2).cell? ⟨w.heap.size, 1, none⟩ = some (.int .i64 n) ∧ ((W.alloc ob).alloc ob2).cell? ⟨w.heap.size, 2, none⟩ = some (.int .u64 u) ∧ ((W.alloc ob).alloc ob2).cell? ⟨w.heap.size, 3, none⟩ = some (.string s) ∧ ((W.alloc ob).alloc ob2).cell? ⟨w.heap.size, 4, none⟩ = some (.slice A1 m1 c1) ∧ ((W.alloc ob).alloc ob2).cell? ⟨w.heap.size, 5, none⟩ = some (.slice A2 m2 c2) ∧ ((W.alloc ob).alloc ob2).cell? ⟨w.heap.size + 1, 0, none⟩ = some (.int .i64 k') ∧ ((W.alloc ob).alloc ob2).cell? ⟨w.heap.size + 1, 1, none⟩ = some (.int .i64 n') ∧ ((W.alloc ob).alloc ob2).cell? ⟨w.heap.size + 1, 2, none⟩ = some (.int .u64 u') ∧ ((W.alloc ob).alloc ob2).cell? ⟨w.heap.size + 1, 3, none⟩ = some (.string s') ∧ ((W.alloc ob).alloc ob2).cell? ⟨w.heap.size + 1, 4, none⟩ = some (.slice A1' m1' c1') ∧ ((W.alloc ob).alloc ob2).cell? ⟨w.heap.size + 1, 5, none⟩ = some (.slice A2' m2' c2') := fun W ob ob2 H => hcells _ (Lib.hid (Two.below (Two.below (Hid.out H) ((Below.refl _ _).alloc (Nat.le_refl _) ob)) ((Below.refl _ _).alloc (Nat.le_refl _) ob2)))
  have HLa : Hid (w.heap.size + 2 ≤ w.heap.size + 1 + 1) := Lib.hid (Nat.le_refl _)
  have HLb : Hid (w.heap.size + 2 ≤ w.heap.size + 1 + 1 + 1) := Lib.hid (Nat.le_succ _)
  have HSZ0 : Hid (((w.alloc (.cells #[.int .i64 k, .int .i64 n, .int .u64 u, .string s, .slice A1 m1 c1, .slice A2 m2 c2] 26)).alloc (.cells #[.int .i64 k', .int .i64 n', .int .u64 u', .string s', .slice A1' m1' c1', .slice A2' m2' c2'] 26)).heap.size = w.heap.size + 1 + 1) := Lib.hid (by simp)
  go_enter Tryd.func7, Tryd.ntmps7
  go_upto_region 1 with fail
  go_cut [5, 6] (fun s5 s6 wx => Hid (XY w (.int .i64 k) (.int .i64 n) (.int .u64 u) (.string s) (.slice A1 m1 c1) (.slice A2 m2 c2) (.int .i64 k') (.int .i64 n') (.int .u64 u') (.string s') (.slice A1' m1' c1') (.slice A2' m2' c2') (fewT ta) (fewT tb) s5 s6 wx))
  case first =>
    go_region_held3 (fun W => Hid (Two w (.int .i64 k) (.int .i64 n) (.int .u64 u) (.string s) (.slice A1 m1 c1) (.slice A2 m2 c2) (.int .i64 k') (.int .i64 n') (.int .u64 u') (.string s') (.slice A1' m1' c1') (.slice A2' m2' c2') W) ∧ W.cell? ⟨w.heap.size, 0, none⟩ = some (.int .i64 k) ∧ W.cell? ⟨w.heap.size, 1, none⟩ = some (.int .i64 n) ∧ W.cell? ⟨w.heap.size, 2, none⟩ = some (.int .u64 u) ∧ W.cell? ⟨w.heap.size, 3, none⟩ = some (.string s) ∧ W.cell? ⟨w.heap.size, 4, none⟩ = some (.slice A1 m1 c1) ∧ W.cell? ⟨w.heap.size, 5, none⟩ = some (.slice A2 m2 c2) ∧ W.cell? ⟨w.heap.size + 1, 0, none⟩ = some (.int .i64 k') ∧ W.cell? ⟨w.heap.size + 1, 1, none⟩ = some (.int .i64 n') ∧ W.cell? ⟨w.heap.size + 1, 2, none⟩ = some (.int .u64 u') ∧ W.cell? ⟨w.heap.size + 1, 3, none⟩ = some (.string s') ∧ W.cell? ⟨w.heap.size + 1, 4, none⟩ = some (.slice A1' m1' c1') ∧ W.cell? ⟨w.heap.size + 1, 5, none⟩ = some (.slice A2' m2' c2')) (first | (with_reducible exact hcells _ (by assumption)) | (with_reducible exact hcells _ HT0d) | (with_reducible exact hcells _ HT0ad) | (with_reducible exact hcells _ HT0aad) | (with_reducible exact hc5 _ _ (by assumption)) | (with_reducible exact hc6 _ _ _ (by assumption)) | (with_reducible exact hc2 _ _ _ _ _ _ _ _ (by assumption) (by assumption)) | (with_reducible exact hc4 _ _ _ _ _ _ _ _ _ (by assumption) (by assumption)) | (with_reducible exact hc3 _ _ _ _ _ _ _ _ _ _ _ _ _ _ _ (by assumption) (by assumption) (by assumption)))
      (first
        | (go_at_call 31; (with_reducible refine (HA.out _ (by first | assumption | with_reducible exact HT0ad | with_reducible exact HT0aad)).mono ?_); rintro e w1 ⟨⟨k5, i5, u5, s5, A5, a5, b5, C5, c5, d5, rfl, HN1⟩, HT1, HB1⟩; have HLc := Lib.hid HT1.out.2.1; have HLd : Hid (w.heap.size + 2 ≤ w1.heap.size + 1) := Lib.hid (Nat.le_succ_of_le HT1.out.2.1); have HT1a := Lib.hid (Two.below HT1.out ((Below.refl _ _).alloc (Nat.le_refl _) (.cells #[.int .i64 0, .int .i64 0, .int .u64 0, .string ⟨#[]⟩, .slice none 0 0, .slice none 0 0] 26))); have HT1aa := Lib.hid (Two.below HT1a.out ((Below.refl _ _).alloc (Nat.le_refl _) (.cells #[.int .i64 0, .int .i64 0, .int .u64 0, .string ⟨#[]⟩, .slice none 0 0, .slice none 0 0] 26))); first | (with_reducible have HPP := Lib.hid (born2_eq HSZ0.out HB1.out)) | (with_reducible have HP := Lib.hid (born_eq HSZ0.out HB1.out)) | skip)
        | (go_at_call 31; (with_reducible refine (HB.out _ (by first | assumption | with_reducible exact HT1a | with_reducible exact HT1aa)).mono ?_); rintro e w2 ⟨⟨k6, i6, u6, s6, A6, a6, b6, C6, c6, d6, rfl, HN2⟩, HT2, HB2⟩; have HB12 : Hid (Below w1.heap.size w1 w2) := (by first | with_reducible exact HB2 | with_reducible exact Lib.hid (al HB2.out) | with_reducible exact Lib.hid (al (al HB2.out))); first
            | (have HPP2 := Lib.hid (Blk.below HPP.out.1 HB12.out HPP.out.1.lt); have HQQ2 := Lib.hid (Blk.below HPP.out.2 HB12.out HPP.out.2.lt); obtain ⟨⟨z0, z1, z2, z3, z4, z5⟩, p0, p1, p2, p3, p4, p5⟩ := Bx.both HPP2.out; obtain ⟨⟨r0, r1, r2, r3, r4, r5⟩, q0, q1, q2, q3, q4, q5⟩ := Bx.both HQQ2.out)
            | (have HP2 := Lib.hid (Blk.below HP.out HB12.out HP.out.lt); obtain ⟨⟨z0, z1, z2, z3, z4, z5⟩, p0, p1, p2, p3, p4, p5⟩ := Bx.both HP2.out; have hne1 : ¬ w.heap.size + 1 + 1 = w1.heap.size := (by have := HP.out.lt; omega); have hne2 : ¬ w1.heap.size = w.heap.size + 1 + 1 := (by omega); have hne3 : ¬ w.heap.size + 1 + 1 = w2.heap.size := (by have := HP2.out.lt; omega); have hne4 : ¬ w2.heap.size = w.heap.size + 1 + 1 := (by omega); have hlt1 := HP2.out.lt; first | ((with_reducible have HR2 := Lib.hid (born HB2.out)); have hne5 : ¬ w1.heap.size = w2.heap.size := (by have := HR2.out.lt; omega); have hne6 : ¬ w2.heap.size = w1.heap.size := (by omega); have hlt2 := HR2.out.lt; obtain ⟨⟨r0, r1, r2, r3, r4, r5⟩, q0, q1, q2, q3, q4, q5⟩ := Bx.both HR2.out) | skip)
            | ((with_reducible have HRR2 := Lib.hid (born2 HB2.out)); obtain ⟨⟨z0, z1, z2, z3, z4, z5⟩, p0, p1, p2, p3, p4, p5⟩ := Bx.both HRR2.out.1; obtain ⟨⟨r0, r1, r2, r3, r4, r5⟩, q0, q1, q2, q3, q4, q5⟩ := Bx.both HRR2.out.2)
            | ((with_reducible have HR2 := Lib.hid (born HB2.out)); have hne5 : ¬ w1.heap.size = w2.heap.size := (by have := HR2.out.lt; omega); have hne6 : ¬ w2.heap.size = w1.heap.size := (by omega); have hlt2 := HR2.out.lt; obtain ⟨⟨z0, z1, z2, z3, z4, z5⟩, p0, p1, p2, p3, p4, p5⟩ := Bx.both HR2.out)
            | skip))
    all_goals
      go_wp2_with fail
      go_meet
    all_goals
      have sz1 := HT1.out.2.1
      have sz2 := HB12.out.size
      (try have lt1 := HP.out.lt)
      (try have lt2 := HPP.out.2.lt)
      (try have lt3 := HR2.out.lt)
      (try have lt4 := HRR2.out.2.lt)
      refine Lib.hid ?_
      first
      | (with_reducible refine xy_d HT2.out HN1.out HB12.out HN2.out)
      | (with_reducible refine xy_e HT2.out HN1.out HB12.out HN2.out)
      | (with_reducible refine xy_b2 HT2.out HN1.out HB12.out HN2.out (by first | with_reducible exact HP2.out | with_reducible exact HR2.out | with_reducible exact HPP2.out | with_reducible exact HQQ2.out | with_reducible exact HRR2.out.1 | with_reducible exact HRR2.out.2) ?_ ?_ ?_)
      | (with_reducible refine xy_c2 HT2.out HN1.out HB12.out HN2.out (by first | with_reducible exact HP2.out | with_reducible exact HR2.out | with_reducible exact HPP2.out | with_reducible exact HQQ2.out | with_reducible exact HRR2.out.1 | with_reducible exact HRR2.out.2) ?_ ?_ ?_)
      | (with_reducible refine xy_a2 HT2.out HN1.out HB12.out HN2.out (by first | with_reducible exact HP2.out | with_reducible exact HR2.out | with_reducible exact HPP2.out | with_reducible exact HQQ2.out | with_reducible exact HRR2.out.1 | with_reducible exact HRR2.out.2) (by first | with_reducible exact HP2.out | with_reducible exact HR2.out | with_reducible exact HPP2.out | with_reducible exact HQQ2.out | with_reducible exact HRR2.out.1 | with_reducible exact HRR2.out.2) ?_ ?_ ?_ ?_ ?_ ?_ ?_)
    all_goals ((try simp only [World.size_alloc, World.size_drew]); omega)
  case rest =>
    obtain ⟨wa, hwa⟩ : ∃ wa, wa = wc := ⟨_, rfl⟩
    subst hwa
    clear HT0 HT0d HT0ad HT0aad HLa HLb HSZ0 hc2 hc3 hc4 hc5 hc6 hset x0 x1 x2 x3 x4 x5 y0 y1 y2 y3 y4 y5
    obtain ⟨hTW, p, q, x0, x1, x2, x3, x4, x5, y0, y1, y2, y3, y4, y5, rfl, rfl, hp, hq, hX, hY⟩ := hcut.out
    obtain ⟨k3, i3, v3, s3, A3, a3, b3, C3, c3, d3, rfl, rfl, rfl, rfl, rfl, rfl⟩ := hX.shape6
    obtain ⟨k4, i4, v4, s4, A4, a4, b4, C4, c4, d4, rfl, rfl, rfl, rfl, rfl, rfl⟩ := hY.shape6
    have HTW := Lib.hid hTW
    have HP := Lib.hid hp
    have HQ := Lib.hid hq
    have HX := Lib.hid hX
    have HY := Lib.hid hY
    obtain ⟨z0, z1, z2, z3, z4, z5⟩ := Bx.all hp
    have HQX : Hid (QQ (fewT ta)) := Lib.hid ⟨Nat.le_trans (fewT_sz ta) (by omega), fewT_sm ta⟩
    have HQY : Hid (QQ (fewT tb)) := Lib.hid ⟨Nat.le_trans (fewT_sz tb) (by omega), fewT_sm tb⟩
    have HSZ0' : Hid (sz (fewT ta) ≤ 60000 ∧ sz (fewT tb) ≤ 60000) := Lib.hid ⟨by have := fewT_sz ta; omega, by have := fewT_sz tb; omega⟩
    obtain ⟨X, hXX⟩ : ∃ X, fewT ta = X := ⟨_, rfl⟩
    obtain ⟨Y, hYY⟩ : ∃ Y, fewT tb = Y := ⟨_, rfl⟩
    rw [hXX] at HX HQX HA
    rw [hYY] at HY HQY HB
    have HSZ : Hid (sz X ≤ 60000 ∧ sz Y ≤ 60000) := Lib.hid (by rw [← hXX, ← hYY]; exact HSZ0'.out)
    clear HSZ0' hXX hYY hcut hTW hp hq hX hY
    have HFA2 : Hid (∀ W, C0 wa W → Calls Tryd.prog 31 #[.agg #[.int .i64 k, .int .i64 n, .int .u64 u, .string s, .slice A1 m1 c1, .slice A2 m2 c2]] W fun e w' => (∃ (k n u : Int) (s : ByteArray) (A1 : Option Addr) (m1 c1 : Nat) (A2 : Option Addr) (m2 c2 : Nat), e = .returned (.agg #[.int .i64 k, .int .i64 n, .int .u64 u, .string s, .slice A1 m1 c1, .slice A2 m2 c2]) ∧ Hid (Nd w' X [.int .i64 k, .int .i64 n, .int .u64 u, .string s, .slice A1 m1 c1, .slice A2 m2 c2])) ∧ C0 wa w') := Lib.hid fun W h => by
      refine (HA.out W (Lib.hid (HTW.out.below h))).mono ?_
      rintro e w' ⟨⟨k, n, u, s, A1, m1, c1, A2, m2, c2, rfl, hn⟩, -, hb⟩
      exact ⟨⟨k, n, u, s, A1, m1, c1, A2, m2, c2, rfl, Lib.hid (NdO.nd _ _ hn.out)⟩, h.go hb.out⟩
    have HFB2 : Hid (∀ W, C0 wa W → Calls Tryd.prog 31 #[.agg #[.int .i64 k', .int .i64 n', .int .u64 u', .string s', .slice A1' m1' c1', .slice A2' m2' c2']] W fun e w' => (∃ (k n u : Int) (s : ByteArray) (A1 : Option Addr) (m1 c1 : Nat) (A2 : Option Addr) (m2 c2 : Nat), e = .returned (.agg #[.int .i64 k, .int .i64 n, .int .u64 u, .string s, .slice A1 m1 c1, .slice A2 m2 c2]) ∧ Hid (Nd w' Y [.int .i64 k, .int .i64 n, .int .u64 u, .string s, .slice A1 m1 c1, .slice A2 m2 c2])) ∧ C0 wa w') := Lib.hid fun W h => by
      refine (HB.out W (Lib.hid (HTW.out.below h))).mono ?_
      rintro e w' ⟨⟨k, n, u, s, A1, m1, c1, A2, m2, c2, rfl, hn⟩, -, hb⟩
      exact ⟨⟨k, n, u, s, A1, m1, c1, A2, m2, c2, rfl, Lib.hid (NdO.nd _ _ hn.out)⟩, h.go hb.out⟩
    have HEX : Hid (∀ W ds, C0 wa W → Nd W X ds → Calls Tryd.prog 16 #[.agg #[.int .i64 k3, .int .i64 i3, .int .u64 v3, .string s3, .slice A3 a3 b3, .slice C3 c3 d3], .agg ds.toArray] W fun e w' => e = .returned (.bool true) ∧ C0 wa w') := Lib.hid fun W ds h hn => eq_C h HQX.out (HX.out.bel h) hn
    have HEY : Hid (∀ W ds, C0 wa W → Nd W Y ds → Calls Tryd.prog 16 #[.agg #[.int .i64 k4, .int .i64 i4, .int .u64 v4, .string s4, .slice A4 a4 b4, .slice C4 c4 d4], .agg ds.toArray] W fun e w' => e = .returned (.bool true) ∧ C0 wa w') := Lib.hid fun W ds h hn => eq_C h HQY.out (HY.out.bel h) hn
    have HTA : Hid (Tab wa) := Lib.hid (hT.keep HTW.out.1)
    have HWK : Hid (∀ W, C0 wa W → Calls Tryd.prog 34 #[] W fun e w' => e = .returned (.bool true) ∧ C0 wa w') := Lib.hid fun W h => (works9_true W (HTA.out.keep h)).mono fun e w' k => ⟨k.1, h.go k.2⟩
    have hc9 : ∀ W, C0 wa W → C0 wa W ∧ W.cell? ⟨p, 0, none⟩ = some (.int .i64 k3) ∧ W.cell? ⟨p, 1, none⟩ = some (.int .i64 i3) ∧ W.cell? ⟨p, 2, none⟩ = some (.int .u64 v3) ∧ W.cell? ⟨p, 3, none⟩ = some (.string s3) ∧ W.cell? ⟨p, 4, none⟩ = some (.slice A3 a3 b3) ∧ W.cell? ⟨p, 5, none⟩ = some (.slice C3 c3 d3) ∧ W.cell? ⟨q, 0, none⟩ = some (.int .i64 k4) ∧ W.cell? ⟨q, 1, none⟩ = some (.int .i64 i4) ∧ W.cell? ⟨q, 2, none⟩ = some (.int .u64 v4) ∧ W.cell? ⟨q, 3, none⟩ = some (.string s4) ∧ W.cell? ⟨q, 4, none⟩ = some (.slice A4 a4 b4) ∧ W.cell? ⟨q, 5, none⟩ = some (.slice C4 c4 d4) ∧ W.cell? ⟨w.heap.size, 0, none⟩ = some (.int .i64 k) ∧ W.cell? ⟨w.heap.size, 1, none⟩ = some (.int .i64 n) ∧ W.cell? ⟨w.heap.size, 2, none⟩ = some (.int .u64 u) ∧ W.cell? ⟨w.heap.size, 3, none⟩ = some (.string s) ∧ W.cell? ⟨w.heap.size, 4, none⟩ = some (.slice A1 m1 c1) ∧ W.cell? ⟨w.heap.size, 5, none⟩ = some (.slice A2 m2 c2) ∧ W.cell? ⟨w.heap.size + 1, 0, none⟩ = some (.int .i64 k') ∧ W.cell? ⟨w.heap.size + 1, 1, none⟩ = some (.int .i64 n') ∧ W.cell? ⟨w.heap.size + 1, 2, none⟩ = some (.int .u64 u') ∧ W.cell? ⟨w.heap.size + 1, 3, none⟩ = some (.string s') ∧ W.cell? ⟨w.heap.size + 1, 4, none⟩ = some (.slice A1' m1' c1') ∧ W.cell? ⟨w.heap.size + 1, 5, none⟩ = some (.slice A2' m2' c2') := fun W h => by
      have h2 := HTW.out.below h
      obtain ⟨f0, f1, f2, f3, f4, f5⟩ := Bx.all (Blk.below HP.out h (Blk.lt HP.out))
      obtain ⟨g0, g1, g2, g3, g4, g5⟩ := Bx.all (Blk.below HQ.out h (Blk.lt HQ.out))
      obtain ⟨m0, m1, m2, m3, m4, m5⟩ := Bx.all h2.2.2.1
      exact ⟨h, f0, f1, f2, f3, f4, f5, g0, g1, g2, g3, g4, g5, m0, m1, m2, m3, m4, m5, Bx.all h2.2.2.2⟩
    have HBW := Lib.hid HTW.out.1
    have hVd : C0 wa wa.drew := (Below.refl _ _).drew
    obtain ⟨β, hβ⟩ : ∃ β : Bool, (β = true ↔ alk X Y) := by
      by_cases h : alk X Y
      · exact ⟨true, by simp [h]⟩
      · exact ⟨false, by simp [h]⟩
    have HBT := Lib.hid hβ
    clear hβ
    have HAL : Hid (∀ W, C0 wa W → Calls Tryd.prog 35 #[.agg #[.int .i64 k3, .int .i64 i3, .int .u64 v3, .string s3, .slice A3 a3 b3, .slice C3 c3 d3], .agg #[.int .i64 k4, .int .i64 i4, .int .u64 v4, .string s4, .slice A4 a4 b4, .slice C4 c4 d4]] W fun e w' => e = .returned (.bool β) ∧ C0 wa w') := Lib.hid fun W h => (alike_any X Y _ _ W (HTA.out.keep h) HQX.out HQY.out (HX.out.bel h) (HY.out.bel h)).mono fun e w' k => by
      obtain ⟨⟨γ, rfl, hγ⟩, hb⟩ := k
      exact ⟨by rw [bool_same (hγ.trans HBT.out.symm)], h.go hb⟩
    have HRL : Hid (∀ W, C0 wa W → Calls Tryd.prog 36 #[.agg #[.int .i64 k3, .int .i64 i3, .int .u64 v3, .string s3, .slice A3 a3 b3, .slice C3 c3 d3], .agg #[.int .i64 k4, .int .i64 i4, .int .u64 v4, .string s4, .slice A4 a4 b4, .slice C4 c4 d4]] W fun e w' => e = .returned (.bool β) ∧ C0 wa w') := Lib.hid fun W h => (refAlike_any X Y _ _ W ⟨HQX.out, HSZ.out.1⟩ ⟨HQY.out, HSZ.out.2⟩ (HX.out.bel h) (HY.out.bel h)).mono fun e w' k => by
      obtain ⟨⟨γ, rfl, hγ⟩, hb⟩ := k
      exact ⟨by rw [bool_same (hγ.trans HBT.out.symm)], h.go hb⟩
    have hbb : (β == β) = true := by simp
    clear z0 z1 z2 z3 z4 z5
    go_wp2_with fail
    go_region_held3 (fun W => C0 wa W ∧ W.cell? ⟨p, 0, none⟩ = some (.int .i64 k3) ∧ W.cell? ⟨p, 1, none⟩ = some (.int .i64 i3) ∧ W.cell? ⟨p, 2, none⟩ = some (.int .u64 v3) ∧ W.cell? ⟨p, 3, none⟩ = some (.string s3) ∧ W.cell? ⟨p, 4, none⟩ = some (.slice A3 a3 b3) ∧ W.cell? ⟨p, 5, none⟩ = some (.slice C3 c3 d3) ∧ W.cell? ⟨q, 0, none⟩ = some (.int .i64 k4) ∧ W.cell? ⟨q, 1, none⟩ = some (.int .i64 i4) ∧ W.cell? ⟨q, 2, none⟩ = some (.int .u64 v4) ∧ W.cell? ⟨q, 3, none⟩ = some (.string s4) ∧ W.cell? ⟨q, 4, none⟩ = some (.slice A4 a4 b4) ∧ W.cell? ⟨q, 5, none⟩ = some (.slice C4 c4 d4) ∧ W.cell? ⟨w.heap.size, 0, none⟩ = some (.int .i64 k) ∧ W.cell? ⟨w.heap.size, 1, none⟩ = some (.int .i64 n) ∧ W.cell? ⟨w.heap.size, 2, none⟩ = some (.int .u64 u) ∧ W.cell? ⟨w.heap.size, 3, none⟩ = some (.string s) ∧ W.cell? ⟨w.heap.size, 4, none⟩ = some (.slice A1 m1 c1) ∧ W.cell? ⟨w.heap.size, 5, none⟩ = some (.slice A2 m2 c2) ∧ W.cell? ⟨w.heap.size + 1, 0, none⟩ = some (.int .i64 k') ∧ W.cell? ⟨w.heap.size + 1, 1, none⟩ = some (.int .i64 n') ∧ W.cell? ⟨w.heap.size + 1, 2, none⟩ = some (.int .u64 u') ∧ W.cell? ⟨w.heap.size + 1, 3, none⟩ = some (.string s') ∧ W.cell? ⟨w.heap.size + 1, 4, none⟩ = some (.slice A1' m1' c1') ∧ W.cell? ⟨w.heap.size + 1, 5, none⟩ = some (.slice A2' m2' c2')) (first | (with_reducible exact hc9 _ (by assumption)))
      (first
        | (go_at_call 35; (with_reducible refine (HAL.out _ (by first | assumption | exact hVd)).mono ?_); rintro e V4 ⟨rfl, hC4⟩)
        | (go_at_call 36; (with_reducible refine (HRL.out _ (by assumption)).mono ?_); rintro e V5 ⟨rfl, hC5⟩)
        | (go_at_call 31; (with_reducible refine (HFA2.out _ (by assumption)).mono ?_); rintro e V9 ⟨⟨k6, i6, v6, s6, A6, a6, b6, C6, c6, d6, rfl, HN9⟩, hC9⟩)
        | (go_at_call 16; (with_reducible refine (HEX.out _ _ (by assumption) HN9.out).mono ?_); rintro e V10 ⟨rfl, hC10⟩)
        | (go_at_call 31; (with_reducible refine (HFB2.out _ (by assumption)).mono ?_); rintro e V11 ⟨⟨k7, i7, v7, s7, A7, a7, b7, C7, c7, d7, rfl, HN11⟩, hC11⟩)
        | (go_at_call 16; (with_reducible refine (HEY.out _ _ (by assumption) HN11.out).mono ?_); rintro e V12 ⟨rfl, hC12⟩)
        | (go_at_call 34; (with_reducible refine (HWK.out _ (by assumption)).mono ?_); rintro e V13 ⟨rfl, hC13⟩))
    all_goals go_wp2_with fail
    all_goals go_ret
    all_goals exact ⟨rfl, HBW.out.trans (Below.mono hC13 HBW.out.size)⟩
end Go.Proofs.YtpcfpikflkjmjaaDoor
namespace Go.Proofs.YtpcfpikflkjmjaaDoor
open Go.ChangeShapes Go.WideShapes Go.ChangeAt Go.WideMaps Go.WideElems Go.RowKit Go.ChangeMaps

set_option maxRecDepth 100000 in
theorem normalAlike_lifted (os : Os) (started : os.Started) (H : Type) (enc : TypeId × Value → H) :
    ReturnsInHanded {} Tryd.checked os 7 .any (fun w args => (Rows.normalAlikeSpec.pre enc Tryd.prog Tryd.f7 [] false w args ∧ laidMetH Tryd.prog laidL w) ∧ sizedMet enc Tryd.prog Tryd.f7 (OpenSpec.ofChange Rows.normalAlikeSpec) false w args)
      (Rows.normalAlikeSpec.post enc Tryd.prog Tryd.f7 false true false false) := by
  refine returnsInHanded_of_change_and (C := Tryd.checked) (X := fun w _ => laidMetH Tryd.prog laidL w) (fun _ _ _ hh h => h.of_heap hh) ownK started (by kernel_rfl) Tryd.func7
    (ChangeSpec.witness_shaped (enc := enc) (C := Tryd.checked) (os := os) (X := fun w _ => laidMetH Tryd.prog laidL w) false (World.doorLaid Tryd.prog 50 os) #[.agg #[.int .i64 0, .int .i64 0, .int .u64 0, .string ⟨#[]⟩, .slice none 0 0, .slice none 0 0], .agg #[.int .i64 0, .int .i64 0, .int .u64 0, .string ⟨#[]⟩, .slice none 0 0, .slice none 0 0]] 8 rfl (World.shaped_of_RefB (by kernel_rfl) (by kernel_rfl)) (by kernel_rfl) (by kernel_rfl) (by kernel_rfl) (door_met os _)) ?_
  intro W base args ds gs before hval0 hW _ _ hL _
  have hval : ∀ (j : Nat) t v, Tryd.f7.params[j]? = some t → args[j]? = some v → Value.okWide Tryd.prog W .any base t v := hval0
  have hW' := hW
  obtain ⟨p, q, hA0, hV, rfl, hfz, hnd⟩ := hW
  have hA : DataW.TrodAll enc Tryd.prog W 0 (fun _ => true) true Tryd.f7.params.toList args.toList ds p := hA0
  rw [Tryd.params7] at hA hval
  obtain ⟨v0, vs0, d0, ds0, p0, q0, hargs, rfl, rfl, h0, r0⟩ := trodAll_cons hA
  obtain ⟨v1, vs1, d1, ds1, p1, q1, rfl, rfl, rfl, h1, r1⟩ := trodAll_cons r0
  obtain ⟨rfl, rfl, rfl⟩ := trodAll_nil r1
  obtain rfl : args = #[v0, v1] := by cases args; simp_all
  obtain ⟨rfl, rfl⟩ := trodVars_none hV
  obtain ⟨t0, cs0, rfl, n0⟩ := open_tree (hval 0 26 v0 rfl rfl) h0
  obtain ⟨t1, cs1, rfl, n1⟩ := open_tree (hval 1 26 v1 rfl rfl) h1
  refine (normalAlike_walk t0 cs0 t1 cs1 W (tab_of_laid hL) n0 n1).mono fun e W' ⟨he, hb⟩ => ?_
  subst he
  exact ⟨_, rfl, law_post (by rw [Tryd.params7]; decide +kernel) rfl rfl rfl rfl rfl hW' hb⟩

theorem normalAlike_row : Rows.NormalAlikeSaid :=
  OpenClaim.holds_of_wide 7 Tryd.f7 rfl rfl rfl rfl rfl rfl rfl ⟨rfl, rfl, rfl, rfl, rfl⟩ rfl rfl rfl rfl rfl (by kernel_rfl) Tryd.func7 (by kernel_rfl)
    (of_decide_eq_true (by kernel_rfl)) (by unfold Func.isWrapper; first | (rw [if_pos (by decide +kernel)]; kernel_rfl) | (rw [if_neg (by decide +kernel)]; exact ⟨rfl, rfl⟩))
    (fun os started H enc _ => normalAlike_lifted os started H enc)

theorem normalAlike_holds : Rows.NormalAlikeCardSaid :=
  Claim7.holds_tied_plain_at .later [] [.data] true Rows.normalAlikeCard.stood.harness true
    normalAlike_row (fun _ h => by cases h) (by kernel_rfl) (fun _ h => by cases h) normalAlike_row_tie rfl ⟨rfl, rfl⟩ (by kernel_rfl) rfl
    (fun f fn hf hfn => by
      obtain rfl : f = 7 := Option.some.inj ((show Tryd.prog.funcNamed "accordion/accordionlaw09.NormalAlike" = some 7 by kernel_rfl).symm.trans hf) |>.symm
      obtain rfl : fn = Tryd.f7 := (Option.some.inj (Tryd.func7.symm.trans hfn)).symm
      exact ⟨by kernel_rfl, fun j t ht => by
        rw [Tryd.params7] at ht
        have hm : t ∈ [26, 26] := by simpa using Array.mem_of_getElem? ht
        have hall : ([26, 26].all fun u => !Tryd.prog.wantsStandIn u) = true := by kernel_rfl
        exact (show Tryd.prog.wantsStandIn t = false by simpa using List.all_eq_true.1 hall t hm)⟩)
    (by kernel_rfl)
end Go.Proofs.YtpcfpikflkjmjaaDoor
