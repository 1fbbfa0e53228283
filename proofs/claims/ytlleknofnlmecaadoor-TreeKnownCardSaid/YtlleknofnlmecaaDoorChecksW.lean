/-
  What is proved here: TreeChecks returns true and leaves old memory as it was; condition: the table holds what is laid.
-/
import Derived.Test.YtlleknofnlmecaaDoorRefCk
import Derived.Test.YtlleknofnlmecaaDoorWork
namespace Go.Proofs.YtlleknofnlmecaaDoor
open Go.RowKit

set_option maxRecDepth 100000 in
set_option maxHeartbeats 4000000 in
theorem treeChecks_walk (t : T) (cs : List Value) (w : World) (hT : Tab w) (hnd : Nd w t cs) : Calls Tryd.prog 5 #[.agg cs.toArray] w fun e w' => e = .returned (.bool true) ∧ Below w.heap.size w w' := by
  obtain ⟨k, n, u, s, A1, m1, c1, A2, m2, c2, rfl⟩ := hnd.shape
  have HFW := Lib.hid fun W (h : Below w.heap.size w W) => few_any t _ W (hnd.bel h)
  go_enter Tryd.func5, Tryd.ntmps5
  go_wp2_with fail
  refine (HFW.out _ (al0 _ _)).mono ?_
  rintro e w2 ⟨⟨cs', rfl, hno⟩, hb2⟩
  obtain ⟨k8, i8, u8, s8, C1', m1', d1', C2', m2', d2', rfl⟩ := hno.shape6
  have HI : Hid (Below w.heap.size w (w2.alloc (.cells #[.int .i64 k8, .int .i64 i8, .int .u64 u8, .string s8, .slice C1' m1' d1', .slice C2' m2' d2'] 26)) ∧ Bx (w2.alloc (.cells #[.int .i64 k8, .int .i64 i8, .int .u64 u8, .string s8, .slice C1' m1' d1', .slice C2' m2' d2'] 26)) w2.heap.size (.int .i64 k8) (.int .i64 i8) (.int .u64 u8) (.string s8) (.slice C1' m1' d1') (.slice C2' m2' d2') ∧ Nd (w2.alloc (.cells #[.int .i64 k8, .int .i64 i8, .int .u64 u8, .string s8, .slice C1' m1' d1', .slice C2' m2' d2'] 26)) (fewT t) [.int .i64 k8, .int .i64 i8, .int .u64 u8, .string s8, .slice C1' m1' d1', .slice C2' m2' d2'] ∧ Bx (w2.alloc (.cells #[.int .i64 k8, .int .i64 i8, .int .u64 u8, .string s8, .slice C1' m1' d1', .slice C2' m2' d2'] 26)) w.heap.size (.int .i64 k) (.int .i64 n) (.int .u64 u) (.string s) (.slice A1 m1 c1) (.slice A2 m2 c2)) := Lib.hid ⟨tr (al0 _ _) (tr hb2 (al0 _ _)), Blk.new _ _ _, (NdO.nd _ _ hno).bel (al0 _ _), (born hb2).alloc _⟩
  have hQ : QQ (fewT t) := ⟨Nat.le_trans (fewT_sz t) (by omega), fewT_sm t⟩
  clear hno hb2
  go_wp2_with fail
  obtain ⟨ib, hi⟩ : ∃ ib, w2.heap.size = ib := ⟨_, rfl⟩
  rw [hi] at HI
  simp only [hi]
  clear hi
  obtain ⟨W3, hW⟩ : ∃ W3, w2.alloc (.cells #[.int .i64 k8, .int .i64 i8, .int .u64 u8, .string s8, .slice C1' m1' d1', .slice C2' m2' d2'] 26) = W3 := ⟨_, rfl⟩
  rw [hW] at HI
  rw [hW]
  clear hW
  obtain ⟨X, hX⟩ : ∃ X, fewT t = X := ⟨_, rfl⟩
  have HX := Lib.hid hX
  rw [hX] at HI hQ
  have HQ := Lib.hid hQ
  clear hX hQ
  have HT3 := Lib.hid (hT.keep HI.out.1)
  obtain ⟨E, hE⟩ : ∃ E, chk X = E := ⟨_, rfl⟩
  have HE := Lib.hid hE
  clear hE
  have hcells : ∀ W, C0 W3 W → C0 W3 W ∧ W.cell? ⟨ib, 0, none⟩ = some (.int .i64 k8) ∧ W.cell? ⟨ib, 1, none⟩ = some (.int .i64 i8) ∧ W.cell? ⟨ib, 2, none⟩ = some (.int .u64 u8) ∧ W.cell? ⟨ib, 3, none⟩ = some (.string s8) ∧ W.cell? ⟨ib, 4, none⟩ = some (.slice C1' m1' d1') ∧ W.cell? ⟨ib, 5, none⟩ = some (.slice C2' m2' d2') ∧ W.cell? ⟨w.heap.size, 0, none⟩ = some (.int .i64 k) ∧ W.cell? ⟨w.heap.size, 1, none⟩ = some (.int .i64 n) ∧ W.cell? ⟨w.heap.size, 2, none⟩ = some (.int .u64 u) ∧ W.cell? ⟨w.heap.size, 3, none⟩ = some (.string s) ∧ W.cell? ⟨w.heap.size, 4, none⟩ = some (.slice A1 m1 c1) ∧ W.cell? ⟨w.heap.size, 5, none⟩ = some (.slice A2 m2 c2) := fun W h => by
    obtain ⟨a0, a1, a2, a3, a4, a5⟩ := Bx.all (Blk.below HI.out.2.1 h (Blk.lt HI.out.2.1))
    exact ⟨h, a0, a1, a2, a3, a4, a5, Bx.all (Blk.below HI.out.2.2.2 h (Blk.lt HI.out.2.2.2))⟩
  have HCK : Hid (∀ W, C0 W3 W → Calls Tryd.prog 15 #[.agg #[.int .i64 k8, .int .i64 i8, .int .u64 u8, .string s8, .slice C1' m1' d1', .slice C2' m2' d2']] W fun e w' => e = .returned (.int .i64 (E : Int)) ∧ C0 W3 w') := Lib.hid fun W h => chk_C HT3.out h HQ.out HE.out (HI.out.2.2.1.bel h)
  have HRC : Hid (∀ W, C0 W3 W → Calls Tryd.prog 16 #[.agg #[.int .i64 k8, .int .i64 i8, .int .u64 u8, .string s8, .slice C1' m1' d1', .slice C2' m2' d2']] W fun e w' => e = .returned (.int .i64 (E : Int)) ∧ C0 W3 w') := Lib.hid fun W h => (refCheck_any X _ W HQ.out.1 (HI.out.2.2.1.bel h)).mono fun e w' k => ⟨by rw [k.1, HE.out], h.go k.2⟩
  have HFF : Hid (∀ W, C0 W3 W → Calls Tryd.prog 14 #[.agg #[.int .i64 k, .int .i64 n, .int .u64 u, .string s, .slice A1 m1 c1, .slice A2 m2 c2]] W fun e w' => (∃ (k n u : Int) (s : ByteArray) (A1 : Option Addr) (m1 c1 : Nat) (A2 : Option Addr) (m2 c2 : Nat), e = .returned (.agg #[.int .i64 k, .int .i64 n, .int .u64 u, .string s, .slice A1 m1 c1, .slice A2 m2 c2]) ∧ Hid (Nd w' X [.int .i64 k, .int .i64 n, .int .u64 u, .string s, .slice A1 m1 c1, .slice A2 m2 c2])) ∧ C0 W3 w') := Lib.hid fun W h => by
    refine (HFW.out W (HI.out.1.trans (Below.mono h HI.out.1.size))).mono ?_
    rintro e w' ⟨⟨cs', rfl, hn⟩, hb⟩
    rw [HX.out] at hn
    have hn' := NdO.nd _ _ hn
    obtain ⟨k, n, u, s, A1, m1, c1, A2, m2, c2, rfl⟩ := hn'.shape
    exact ⟨⟨k, n, u, s, A1, m1, c1, A2, m2, c2, rfl, hn'⟩, h.go hb⟩
  have HEQ : Hid (∀ W ds, C0 W3 W → Nd W X ds → Calls Tryd.prog 17 #[.agg #[.int .i64 k8, .int .i64 i8, .int .u64 u8, .string s8, .slice C1' m1' d1', .slice C2' m2' d2'], .agg ds.toArray] W fun e w' => e = .returned (.bool true) ∧ C0 W3 w') := Lib.hid fun W ds h hn => eq_C h HQ.out (HI.out.2.2.1.bel h) hn
  have HWK : Hid (∀ W, C0 W3 W → Calls Tryd.prog 13 #[] W fun e w' => e = .returned (.bool true) ∧ C0 W3 w') := Lib.hid fun W h => (works_true W (HT3.out.keep h)).mono fun e w' k => ⟨k.1, h.go k.2⟩
  have HB3 := Lib.hid HI.out.1
  have hXd : C0 W3 W3.drew := (Below.refl _ _).drew
  have hee : ((E : Int) == (E : Int)) = true := by simp
  clear HI HFW HX HE HQ hnd hT HT3
  go_region_held3 (fun W => C0 W3 W ∧ W.cell? ⟨ib, 0, none⟩ = some (.int .i64 k8) ∧ W.cell? ⟨ib, 1, none⟩ = some (.int .i64 i8) ∧ W.cell? ⟨ib, 2, none⟩ = some (.int .u64 u8) ∧ W.cell? ⟨ib, 3, none⟩ = some (.string s8) ∧ W.cell? ⟨ib, 4, none⟩ = some (.slice C1' m1' d1') ∧ W.cell? ⟨ib, 5, none⟩ = some (.slice C2' m2' d2') ∧ W.cell? ⟨w.heap.size, 0, none⟩ = some (.int .i64 k) ∧ W.cell? ⟨w.heap.size, 1, none⟩ = some (.int .i64 n) ∧ W.cell? ⟨w.heap.size, 2, none⟩ = some (.int .u64 u) ∧ W.cell? ⟨w.heap.size, 3, none⟩ = some (.string s) ∧ W.cell? ⟨w.heap.size, 4, none⟩ = some (.slice A1 m1 c1) ∧ W.cell? ⟨w.heap.size, 5, none⟩ = some (.slice A2 m2 c2)) (first | (with_reducible exact hcells _ (by assumption)))
    (first
      | (go_at_call 15; (with_reducible refine (HCK.out _ (by assumption)).mono ?_); rintro e V1 ⟨rfl, hC1⟩)
      | (go_at_call 16; (with_reducible refine (HRC.out _ (by assumption)).mono ?_); rintro e V2 ⟨rfl, hC2⟩)
      | (go_at_call 14; (with_reducible refine (HFF.out _ (by assumption)).mono ?_); rintro e V3 ⟨⟨k5, i5, u5, s5, A5, a5, b5, C5, c5, d5, rfl, HN3⟩, hC3⟩)
      | (go_at_call 17; (with_reducible refine (HEQ.out _ _ (by assumption) HN3.out).mono ?_); rintro e V4 ⟨rfl, hC4⟩)
      | (go_at_call 13; (with_reducible refine (HWK.out _ (by assumption)).mono ?_); rintro e V5 ⟨rfl, hC5⟩))
  all_goals go_wp2_with fail
  all_goals go_ret
  all_goals exact ⟨rfl, HB3.out.trans (Below.mono hC5 HB3.out.size)⟩
end Go.Proofs.YtlleknofnlmecaaDoor
