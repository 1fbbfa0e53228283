/-
  What is proved here: contracts of Cut and few: a tree within the limits in memory of the call's own; no condition.
-/
import Derived.Test.YtnplkamkeadlgaaDoorCutR
namespace Go.Proofs.YtnplkamkeadlgaaDoor
open Go.RowKit

def fewN : Nat := 119
/-- The tree as the law takes it. -/
def fewT (t : T) : T := (cutT t fewN).1
theorem fewN_int : ((fewN : Nat) : Int) = 119 := rfl
attribute [irreducible] fewT fewN
theorem fewT_eq (t : T) : fewT t = (cutT t fewN).1 := by unfold fewT; rfl
theorem fewN_le : fewN ≤ 200 := by unfold fewN; decide
theorem cutR_any (t : T) (cs : List Value) (w W : World) (R : Nat) (hR : w.heap.size ≤ R) (hnd : Nd w t cs) (hb : Below w.heap.size w W) (hB : Blk W R 66 #[.int .i64 119, .int .i64 60]) :
    Calls Tryd.prog 44 #[.pointer (some ⟨R, 0, none⟩), .agg cs.toArray] W fun e w' => (∃ cs', e = .returned (.agg cs'.toArray) ∧ Hid (NdO (fun b => W.heap.size ≤ b) w' (fewT t) cs')) ∧ Hid (Ex R W w') := by
  rw [← fewN_int] at hB
  refine (cut_any w R hR (dp t) t _ W fewN (Nat.le_refl _) fewN_le hnd hb hB).mono ?_
  rintro e w' ⟨⟨cs', h1, h2⟩, h3, _⟩
  rw [← fewT_eq] at h2
  exact ⟨⟨cs', h1, h2⟩, h3⟩

set_option maxRecDepth 100000 in
set_option maxHeartbeats 4000000 in
theorem cut0_any (t : T) (cs : List Value) (w : World) (hnd : Nd w t cs) : Calls Tryd.prog 29 #[.agg cs.toArray, .int .i64 120, .int .i64 60] w fun e w' =>
    (∃ cs', e = .returned (.agg cs'.toArray) ∧ NdO (fun b => w.heap.size ≤ b) w' (fewT t) cs') ∧ Below w.heap.size w w' := by
  obtain ⟨k, n, u, s, A1, m1, c1, A2, m2, c2, rfl⟩ := hnd.shape
  have hcut := Lib.hid fun W (hb : Below w.heap.size w W) (hB : Blk W (w.heap.size + 1 + 1) 66 #[.int .i64 119, .int .i64 60]) => cutR_any t _ w W (w.heap.size + 1 + 1) (by omega) hnd hb hB
  have hT0 := Lib.hid (Two.start w (.int .i64 k) (.int .i64 n) (.int .u64 u) (.string s) (.slice A1 m1 c1) (.slice A2 m2 c2) (.int .i64 0) (.int .i64 0) (.int .u64 0) (.string ⟨#[]⟩) (.slice none 0 0) (.slice none 0 0))
  have hbx := Lib.hid ((Blk.new ((w.alloc (.cells #[.int .i64 k, .int .i64 n, .int .u64 u, .string s, .slice A1 m1 c1, .slice A2 m2 c2] 31)).alloc (.cells #[.int .i64 0, .int .i64 0, .int .u64 0, .string ⟨#[]⟩, .slice none 0 0, .slice none 0 0] 31)) 66 #[.int .i64 119, .int .i64 60]))
  simp only [World.size_alloc] at hbx
  have hT1 := Lib.hid (hT0.out.below ((Below.refl _ _).alloc (Nat.le_refl _) (.cells #[.int .i64 119, .int .i64 60] 66)))
  go_enter Tryd.func29, Tryd.ntmps29
  go_wp2_with (go_at_call 44; refine (hcut.out _ hT1.out.1 hbx.out).mono ?_; rintro e w5 ⟨⟨cs', rfl, HN⟩, HX⟩; obtain ⟨k8, i8, u8, s8, C1', m1', d1', C2', m2', d2', rfl⟩ := HN.out.shape6; obtain ⟨⟨z0, z1, z2, z3, z4, z5⟩, y0, y1, y2, y3, y4, y5⟩ := Bx.both (HX.out.blk hT1.out.2.2.2 (by omega)))
  have HBR := Lib.hid (HX.out.blk hT1.out.2.2.2 (by omega))
  have hsz := hT1.out.2.1
  have hex := HX.out.size
  refine ret_six (p := 6) (g := w.heap.size + 1) rfl rfl (Bx.put6 HBR.out _ _ _ _ _ _) rfl ?_
  refine ⟨⟨_, rfl, NdO.step (fun b hb hlt => ⟨put6_other w5 (w.heap.size + 1) 0 b _ _ _ _ _ _ ?_, ?_⟩) _ _ HN.out⟩, put6_below (hT1.out.1.trans (HX.out.below ?_ ?_)) (w.heap.size + 1) 0 _ _ _ _ _ _ (by omega)⟩
  all_goals omega
mutual
theorem cutT_sz : ∀ (t : T) (c : Nat), sz (cutT t c).1 + (cutT t c).2 ≤ c + 1
  | .mk _ _ _ _ _ l, c => by
    have := cutL_sz l c
    show 1 + szL (cutL l c).1 + (cutL l c).2 ≤ c + 1
    omega
theorem cutL_sz : ∀ (l : List T) (c : Nat), szL (cutL l c).1 + (cutL l c).2 ≤ c
  | [], c => by show 0 + c ≤ c; omega
  | t :: ts, c => by
    unfold cutL
    by_cases h : c = 0
    · rw [if_pos h]; exact Nat.zero_le _
    · rw [if_neg h]
      have h1 := cutT_sz t (c - 1)
      have h2 := cutL_sz ts (cutT t (c - 1)).2
      show sz (cutT t (c - 1)).1 + szL (cutL ts (cutT t (c - 1)).2).1 + (cutL ts (cutT t (c - 1)).2).2 ≤ c
      omega
end
mutual
theorem cutT_sm : ∀ (t : T) (c : Nat), sm 1000 1000 (cutT t c).1
  | .mk _ _ _ s ks l, c => by
    refine ⟨Nat.le_trans (shortS_size s) (by omega), ?_, ?_, cutL_sm l c⟩
    · unfold cutK; rw [List.length_map, List.length_take]; omega
    · intro x hx
      unfold cutK at hx
      obtain ⟨y, _, rfl⟩ := List.mem_map.1 hx
      exact Nat.le_trans (shortS_size y) (by omega)
theorem cutL_sm : ∀ (l : List T) (c : Nat), smL 1000 1000 (cutL l c).1
  | [], _ => trivial
  | t :: ts, c => by
    unfold cutL
    by_cases h : c = 0
    · rw [if_pos h]; trivial
    · rw [if_neg h]
      exact ⟨cutT_sm t (c - 1), cutL_sm ts _⟩
end
theorem fewT_sz (t : T) : sz (fewT t) ≤ 120 := by
  have := cutT_sz t fewN
  rw [fewT_eq]
  have h : fewN = 119 := by unfold fewN; rfl
  omega
theorem fewT_sm (t : T) : sm 1000 1000 (fewT t) := by rw [fewT_eq]; exact cutT_sm t _
end Go.Proofs.YtnplkamkeadlgaaDoor
