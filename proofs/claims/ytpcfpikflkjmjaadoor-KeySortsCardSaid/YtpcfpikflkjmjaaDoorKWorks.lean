/-
  What is proved here: the law's works answers true; condition: the table of package tree holds what is laid.
-/
import Derived.Test.YtpcfpikflkjmjaaDoorKFacts
namespace Go.Proofs.YtpcfpikflkjmjaaDoor
open Go.RowKit Go.Sort

theorem blk_new2 (w : World) (o : Obj) (t : TypeId) (cs : Array Value) : Blk ((w.alloc o).alloc (.cells cs t)) (w.heap.size + 1) t cs := by
  have := Blk.new (w.alloc o) t cs
  rwa [World.size_alloc] at this
theorem blk_new3 (w : World) (o o' : Obj) (t : TypeId) (cs : Array Value) : Blk (((w.alloc o).alloc o').alloc (.cells cs t)) (w.heap.size + 1 + 1) t cs := by
  have := blk_new2 (w.alloc o) o' t cs
  rwa [World.size_alloc] at this
theorem eq_same (t : T) (ca cb : List Value) (w : World) (hq : QQ t) (ha : Nd w t ca) (hb : Nd w t cb) : Calls Tryd.prog 16 #[.agg ca.toArray, .agg cb.toArray] w fun e w' => e = .returned (.bool true) ∧ Below w.heap.size w w' := by
  refine (eqNode_any (dp t) t t ca cb w (Nat.le_refl _) hq.1 hq.2 ha hb).mono ?_
  rintro e w' ⟨⟨β, rfl, h⟩, hb'⟩
  rw [h.2 rfl]
  exact ⟨rfl, hb'⟩
theorem bel1 (w : World) (o : Obj) : Below w.heap.size w (w.alloc o) := (Below.refl _ _).alloc (Nat.le_refl _) o
theorem bel2 (w : World) (o o' : Obj) : Below w.heap.size w ((w.alloc o).alloc o') := (bel1 w o).alloc (by simp) o'
theorem all_small {xs : List ByteArray} (h : xs.all (fun x => decide (x.size ≤ 10)) = true) : ∀ x ∈ xs, x.size ≤ maxLen := fun x hx => small1 (by have := List.all_eq_true.1 h x hx; simpa using this)

theorem sorted_ok (t t' : T) (cs : List Value) (w : World) (hT : Tab w) (hq : QQ t) (hc : chk t = 0) (hs : Srt t t') (hnd : Nd w t cs) :
    Calls Tryd.prog 14 #[.agg cs.toArray] w fun e w' => ∃ (k n u : Int) (s : ByteArray) (A1 : Option Addr) (m1 c1 : Nat) (A2 : Option Addr) (m2 c2 : Nat), e = .returned (.tuple #[.agg #[.int .i64 k, .int .i64 n, .int .u64 u, .string s, .slice A1 m1 c1, .slice A2 m2 c2], .int .i64 0]) ∧
      Hid (Nd w' t' [.int .i64 k, .int .i64 n, .int .u64 u, .string s, .slice A1 m1 c1, .slice A2 m2 c2]) ∧ Hid (Below w.heap.size w w') := by
  refine (sorted_any t cs w hT hq hnd).mono ?_
  rintro e w' ⟨hb, ⟨h, _⟩ | ⟨_, cs', t2, rfl, h2, h3⟩⟩
  · exact absurd hc h
  · obtain rfl := hs.unique h2
    obtain ⟨k, n, u, s, A1, m1, c1, A2, m2, c2, rfl⟩ := (NdS.ndo _ _ h3).shape6
    exact ⟨k, n, u, s, A1, m1, c1, A2, m2, c2, rfl, Lib.hid h3.nd, Lib.hid hb⟩
theorem sorted_err (t : T) (n : Nat) (cs : List Value) (w : World) (hT : Tab w) (hq : QQ t) (hc : chk t = n) (h0 : n ≠ 0) (hnd : Nd w t cs) :
    Calls Tryd.prog 14 #[.agg cs.toArray] w fun e w' => e = .returned (.tuple #[.agg #[.int .i64 0, .int .i64 0, .int .u64 0, .string ⟨#[]⟩, .slice none 0 0, .slice none 0 0], .int .i64 (n : Int)]) ∧ Hid (Below w.heap.size w w') := by
  subst hc
  refine (sorted_any t cs w hT hq hnd).mono ?_
  rintro e w' ⟨hb, ⟨_, rfl⟩ | ⟨h, _⟩⟩
  · exact ⟨rfl, Lib.hid hb⟩
  · exact absurd h h0
def PF (w : World) (g1 g2 : Nat) (W : World) : Prop := Below w.heap.size w W ∧ RdS W (.slice (some ⟨g1, 0, none⟩) 3 3) [sA, sC, sF] ∧ RdS W (.slice (some ⟨g2, 0, none⟩) 3 3) [sC, sA, sB]
theorem PF.below {w W W' : World} {g1 g2 : Nat} (h : PF w g1 g2 W) (hb : Below W.heap.size W W') : PF w g1 g2 W' := ⟨h.1.trans (hb.mono h.1.size), h.2.1.below hb, h.2.2.below hb⟩

set_option maxRecDepth 100000 in
set_option maxHeartbeats 400000 in
theorem works_true (w : World) (hT : Tab w) : Calls Tryd.prog 18 #[] w fun e w' => e = .returned (.bool true) ∧ Below w.heap.size w w' := by
  have HT := Lib.hid hT
  have hC : ∀ (s : ByteArray) (n : Int), keyZ s = n → ∀ W, Calls Tryd.prog 49 #[.string s] W fun e w' => e = .returned (.int .i64 n) ∧ W = w' := fun s n h W => by rw [← h]; exact (keyCheck_any s W).mono fun e w' h => ⟨h.1, h.2.symm⟩
  have hL : ∀ (a b : ByteArray) (r : Bool), Op.bytesLess a.toList b.toList = r → ∀ W, Calls Tryd.prog 25 #[.string a, .string b] W fun e w' => e = .returned (.bool r) ∧ W = w' := fun a b r h W => by rw [← h]; exact (keyLess_any a b W).mono fun e w' h => ⟨h.1, h.2.symm⟩
  have HC1 := Lib.hid (hC ⟨#[97]⟩ 0 (by decide +kernel))
  have HC2 := Lib.hid (hC ⟨#[]⟩ 0 (by decide +kernel))
  have HC3 := Lib.hid (hC ⟨#[97, 0]⟩ 70 (by decide +kernel))
  have HL1 := Lib.hid (hL ⟨#[97]⟩ ⟨#[97, 98]⟩ true (by decide +kernel))
  have HL2 := Lib.hid (hL ⟨#[97, 98]⟩ ⟨#[98]⟩ true (by decide +kernel))
  have HL3 := Lib.hid (hL ⟨#[122]⟩ ⟨#[195, 169]⟩ true (by decide +kernel))
  have HL4 := Lib.hid (hL ⟨#[97]⟩ ⟨#[97]⟩ false (by decide +kernel))
  clear hC hL hT
  go_enter Tryd.func18, Tryd.ntmps18
  go_wp2_with (first
    | (go_at_call 49; first | (with_reducible refine (HC1.out _).mono ?_; rintro e w' ⟨rfl, rfl⟩) | (with_reducible refine (HC2.out _).mono ?_; rintro e w' ⟨rfl, rfl⟩) | (with_reducible refine (HC3.out _).mono ?_; rintro e w' ⟨rfl, rfl⟩))
    | (go_at_call 25; first | (with_reducible refine (HL1.out _).mono ?_; rintro e w' ⟨rfl, rfl⟩) | (with_reducible refine (HL2.out _).mono ?_; rintro e w' ⟨rfl, rfl⟩) | (with_reducible refine (HL3.out _).mono ?_; rintro e w' ⟨rfl, rfl⟩) | (with_reducible refine (HL4.out _).mono ?_; rintro e w' ⟨rfl, rfl⟩)))
  with_reducible refine (ordered_ok [sB, sA, sE, sAB] _ _ [2, 1, 3, 0] _ ?a1 ?a2 ?a3 ?a4).mono ?a5
  case a1 => exact rds_blk ((Blk.new _ _ _).alloc _) rfl rfl (small1 (by decide)) (all_small (by decide))
  case a2 => decide
  case a3 => exact sq4
  case a4 => exact rd_blk (blk_new2 _ _ _ _) rfl rfl
  rintro e w1 ⟨rfl, hb1⟩
  have HB1 : Hid (Below w.heap.size w w1) := Lib.hid (al (al hb1))
  clear hb1
  go_wp2_with fail
  with_reducible refine (ordered_twice [sA, sB, sA] _ _ ?b1 ?b2 nd3).mono ?b5
  case b1 => exact rds_blk (Blk.new _ _ _) rfl rfl (small1 (by decide)) (all_small (by decide))
  case b2 => decide
  rintro e w2 ⟨rfl, hb2⟩
  have HB2 : Hid (Below w.heap.size w w2) := Lib.hid (HB1.out.trans ((al hb2).mono HB1.out.size))
  clear hb2
  go_wp2_with fail
  with_reducible refine (ordered_ok [] _ _ [] w2 (rds_nil _) ?c2 ?c3 (Rd.nil _ _ _)).mono ?c5
  case c2 => decide
  case c3 => exact sq0
  rintro e w3 ⟨rfl, hb3⟩
  have HB3 : Hid (Below w.heap.size w w3) := Lib.hid (HB2.out.trans (hb3.mono HB2.out.size))
  clear hb3 HC1 HC2 HC3 HL1 HL2 HL3 HL4
  go_wp2_with fail
  obtain ⟨W4, hW4⟩ : ∃ W4, ((w3.alloc (.cells #[.string ⟨#[97]⟩, .string ⟨#[99]⟩, .string ⟨#[101]⟩] 9)).alloc (.cells #[.string ⟨#[99]⟩, .string ⟨#[97]⟩, .string ⟨#[98]⟩] 9)) = W4 := ⟨_, rfl⟩
  rw [hW4]
  obtain ⟨g1, hg1⟩ : ∃ g, w3.heap.size = g := ⟨_, rfl⟩
  obtain ⟨g2, hg2⟩ : ∃ g, g1 + 1 = g := ⟨_, rfl⟩
  rw [hg1, hg2]
  have HP0 : Hid (PF w g1 g2 W4) := by
    rw [← hW4, ← hg2, ← hg1]
    exact Lib.hid ⟨HB3.out.trans ((bel2 w3 _ _).mono HB3.out.size), rds_blk ((Blk.new _ _ _).alloc _) rfl rfl (small1 (by decide)) (all_small (by decide)), rds_blk (blk_new2 _ _ _ _) rfl rfl (small1 (by decide)) (all_small (by decide))⟩
  clear hW4 hg1 hg2 HB1 HB2 HB3
  have HF1 : Hid (∀ W, Hid (PF w g1 g2 W) → Calls Tryd.prog 51 #[.slice (some ⟨g1, 0, none⟩) 3 3, .string ⟨#[99]⟩, .int .i64 1, .bool true] W fun e w' => e = .returned (.bool true) ∧ Hid (PF w g1 g2 w')) := Lib.hid fun W H => (found_any [sA, sC, sF] _ sC 1 true W H.out.2.1 (by decide) fdU1.1 fdU1.2).mono fun e w' h => ⟨h.1, Lib.hid (H.out.below h.2)⟩
  have HF2 : Hid (∀ W, Hid (PF w g1 g2 W) → Calls Tryd.prog 51 #[.slice (some ⟨g1, 0, none⟩) 3 3, .string ⟨#[100]⟩, .int .i64 0, .bool false] W fun e w' => e = .returned (.bool true) ∧ Hid (PF w g1 g2 w')) := Lib.hid fun W H => (found_any [sA, sC, sF] _ sD 0 false W H.out.2.1 (by decide) fdU2.1 fdU2.2).mono fun e w' h => ⟨h.1, Lib.hid (H.out.below h.2)⟩
  have HF3 : Hid (∀ W, Hid (PF w g1 g2 W) → Calls Tryd.prog 51 #[.slice (some ⟨g2, 0, none⟩) 3 3, .string ⟨#[99]⟩, .int .i64 0, .bool false] W fun e w' => e = .returned (.bool true) ∧ Hid (PF w g1 g2 w')) := Lib.hid fun W H => (found_any [sC, sA, sB] _ sC 0 false W H.out.2.2 (by decide) fdO1.1 fdO1.2).mono fun e w' h => ⟨h.1, Lib.hid (H.out.below h.2)⟩
  have HF4 : Hid (∀ W, Hid (PF w g1 g2 W) → Calls Tryd.prog 51 #[.slice (some ⟨g2, 0, none⟩) 3 3, .string ⟨#[98]⟩, .int .i64 2, .bool true] W fun e w' => e = .returned (.bool true) ∧ Hid (PF w g1 g2 w')) := Lib.hid fun W H => (found_any [sC, sA, sB] _ sB 2 true W H.out.2.2 (by decide) fdO2.1 fdO2.2).mono fun e w' h => ⟨h.1, Lib.hid (H.out.below h.2)⟩
  have HF5 : Hid (∀ W, Hid (PF w g1 g2 W) → Calls Tryd.prog 51 #[.slice (some ⟨g2, 0, none⟩) 3 3, .string ⟨#[97]⟩, .int .i64 0, .bool false] W fun e w' => e = .returned (.bool true) ∧ Hid (PF w g1 g2 w')) := Lib.hid fun W H => (found_any [sC, sA, sB] _ sA 0 false W H.out.2.2 (by decide) fdO3.1 fdO3.2).mono fun e w' h => ⟨h.1, Lib.hid (H.out.below h.2)⟩
  with_reducible refine (HF1.out _ HP0).mono ?_
  rintro e w4 ⟨rfl, HP1⟩
  go_wp2_with fail
  with_reducible refine (HF2.out _ HP1).mono ?_
  rintro e w5 ⟨rfl, HP2⟩
  go_wp2_with fail
  with_reducible refine (HF3.out _ HP2).mono ?_
  rintro e w6 ⟨rfl, HP3⟩
  go_wp2_with fail
  with_reducible refine (HF4.out _ HP3).mono ?_
  rintro e w7 ⟨rfl, HP4⟩
  go_wp2_with fail
  with_reducible refine (HF5.out _ HP4).mono ?_
  rintro e w8 ⟨rfl, HP5⟩
  have HB8 := Lib.hid HP5.out.1
  clear HP0 HP1 HP2 HP3 HP4 HP5 HF1 HF2 HF3 HF4 HF5
  go_wp2_with fail
  with_reducible refine (num_any 5 _).mono ?_
  rintro e w9 ⟨rfl, hb9⟩
  have A9 : Hid (Blk w9 w8.heap.size 9 #[.string ⟨#[98]⟩, .string ⟨#[97]⟩]) := Lib.hid ((Blk.new w8 _ _).below hb9 (by simp))
  have B9 : Hid (Below w.heap.size w w9) := Lib.hid (HB8.out.trans ((al hb9).mono HB8.out.size))
  clear hb9
  go_wp2_with fail
  with_reducible refine (num_any 1 _).mono ?_
  rintro e w10 ⟨rfl, hb10⟩
  have A10 := Lib.hid (A9.out.below (al hb10) A9.out.lt)
  have C10 : Hid (Blk w10 w9.heap.size 9 #[.string ⟨#[100]⟩, .string ⟨#[99]⟩]) := Lib.hid ((Blk.new w9 _ _).below hb10 (by simp))
  have B10 : Hid (Below w.heap.size w w10) := Lib.hid (B9.out.trans ((al hb10).mono B9.out.size))
  clear hb10 A9 B9
  go_wp2_with fail
  with_reducible refine (num_any 2 _).mono ?_
  rintro e w11 ⟨rfl, hb11⟩
  have A11 := Lib.hid (A10.out.below hb11 A10.out.lt)
  have C11 := Lib.hid (C10.out.below hb11 C10.out.lt)
  have B11 : Hid (Below w.heap.size w w11) := Lib.hid (B10.out.trans ((hb11).mono B10.out.size))
  clear hb11 A10 C10 B10
  go_wp2_with fail
  with_reducible refine (table_any _ _ _ _ _ _ _).mono ?_
  rintro e w12 ⟨rfl, hb12⟩
  have N12 : Hid (Nd w12 exI [.int .i64 17, .int .i64 0, .int .u64 0, .string ⟨#[]⟩, .slice (some ⟨w9.heap.size, 0, none⟩) 2 2, .slice (some ⟨w11.heap.size, 0, none⟩) 2 2]) :=
    Lib.hid ((nd_tab (rds_blk (C11.out.alloc _) rfl rfl (small1 (by decide)) (all_small (by decide))) rfl (Nat.le_refl _) (small1 (by decide)) (by simp) (two_row (Blk.new w11 _ _) (nd_num _ 1 (by decide) (by decide)) (nd_num _ 2 (by decide) (by decide)))).bel hb12)
  have A12 := Lib.hid (A11.out.below (al hb12) A11.out.lt)
  have B12 : Hid (Below w.heap.size w w12) := Lib.hid (B11.out.trans ((al hb12).mono B11.out.size))
  clear hb12 A11 C11 B11
  go_wp2_with fail
  with_reducible refine (table_any _ _ _ _ _ _ _).mono ?_
  rintro e w13 ⟨rfl, hb13⟩
  have N13 : Hid (Nd w13 exM [.int .i64 17, .int .i64 0, .int .u64 0, .string ⟨#[]⟩, .slice (some ⟨w8.heap.size, 0, none⟩) 2 2, .slice (some ⟨w12.heap.size, 0, none⟩) 2 2]) :=
    Lib.hid ((nd_tab (rds_blk (A12.out.alloc _) rfl rfl (small1 (by decide)) (all_small (by decide))) rfl (Nat.le_refl _) (small1 (by decide)) (by simp) (two_row (Blk.new w12 _ _) (nd_num _ 5 (by decide) (by decide)) (N12.out.bel (bel1 w12 _)))).bel hb13)
  have B13 : Hid (Below w.heap.size w w13) := Lib.hid (B12.out.trans ((al hb13).mono B12.out.size))
  clear hb13 A12 N12 B12
  go_wp2_with fail
  with_reducible refine (sorted_ok exV exW [.int .i64 10, .int .i64 0, .int .u64 0, .string ⟨#[]⟩, .slice none 0 0, .slice (some ⟨w13.heap.size, 0, none⟩) 1 1] _ ?d1 qqV chkV srtV ?d2).mono ?_
  case d1 => exact HT.out.keep (B13.out.trans ((bel1 w13 _).mono B13.out.size))
  case d2 => exact nd_vec rfl (Nat.le_refl _) (small1 (by decide)) (by simp) (one_row (Blk.new w13 _ _) (N13.out.bel (bel1 w13 _)))
  rintro e w14 ⟨k, n, u, s, A1, m1, c1, A2, m2, c2, rfl, HNW, HB14⟩
  have B14 : Hid (Below w.heap.size w w14) := Lib.hid (B13.out.trans ((al HB14.out).mono B13.out.size))
  clear HB14 N13 B13
  go_wp2_with fail
  obtain ⟨wB, hwB⟩ : ∃ wB, w14.alloc (.cells #[.int .i64 k, .int .i64 n, .int .u64 u, .string s, .slice A1 m1 c1, .slice A2 m2 c2] 26) = wB := ⟨_, rfl⟩
  rw [hwB]
  have HBB : Hid (Below w.heap.size w wB) := Lib.hid (by rw [← hwB]; exact B14.out.trans ((bel1 w14 _).mono B14.out.size))
  obtain ⟨bx, hbx⟩ : ∃ bx, w14.heap.size = bx := ⟨_, rfl⟩
  rw [hbx]
  have hBs : wB.heap.size = bx + 1 := by rw [← hwB, ← hbx]; simp
  have HBS := Lib.hid hBs
  clear hBs
  have X14 : Hid (Bx wB bx (.int .i64 k) (.int .i64 n) (.int .u64 u) (.string s) (.slice A1 m1 c1) (.slice A2 m2 c2)) := Lib.hid (by rw [← hwB, ← hbx]; exact Blk.new _ _ _)
  have Y14 : Hid (Nd wB exW [.int .i64 k, .int .i64 n, .int .u64 u, .string s, .slice A1 m1 c1, .slice A2 m2 c2]) := Lib.hid (by rw [← hwB]; exact HNW.out.bel (bel1 w14 _))
  clear hwB hbx B14 HNW
  with_reducible refine (num_any 5 _).mono ?_
  rintro e w15 ⟨rfl, hb15⟩
  have A15 : Hid (Blk w15 (bx + 1) 9 #[.string ⟨#[97]⟩, .string ⟨#[97]⟩]) := Lib.hid (by rw [← HBS.out]; exact (Blk.new wB _ _).below hb15 (by simp))
  have X15 := Lib.hid (X14.out.below (al hb15) X14.out.lt)
  have Y15 := Lib.hid (Y14.out.bel (al hb15))
  have B15 : Hid (Below w.heap.size w w15) := Lib.hid (HBB.out.trans ((al hb15).mono HBB.out.size))
  clear hb15 X14 Y14 HBB
  go_wp2_with fail
  with_reducible refine (num_any 5 _).mono ?_
  rintro e w16 ⟨rfl, hb16⟩
  have A16 := Lib.hid (A15.out.below hb16 A15.out.lt)
  have X16 := Lib.hid (X15.out.below (hb16) X15.out.lt)
  have Y16 := Lib.hid (Y15.out.bel (hb16))
  have B16 : Hid (Below w.heap.size w w16) := Lib.hid (B15.out.trans ((hb16).mono B15.out.size))
  clear hb16 A15 X15 Y15 B15
  go_wp2_with fail
  with_reducible refine (table_any _ _ _ _ _ _ _).mono ?_
  rintro e w17 ⟨rfl, hb17⟩
  have N17 : Hid (Nd w17 exA [.int .i64 17, .int .i64 0, .int .u64 0, .string ⟨#[]⟩, .slice (some ⟨bx + 1, 0, none⟩) 2 2, .slice (some ⟨w16.heap.size, 0, none⟩) 2 2]) :=
    Lib.hid ((nd_tab (rds_blk (A16.out.alloc _) rfl rfl (small1 (by decide)) (all_small (by decide))) rfl (Nat.le_refl _) (small1 (by decide)) (by simp) (two_row (Blk.new w16 _ _) (nd_num _ 5 (by decide) (by decide)) (nd_num _ 5 (by decide) (by decide)))).bel hb17)
  have X17 := Lib.hid (X16.out.below (al hb17) X16.out.lt)
  have Y17 := Lib.hid (Y16.out.bel (al hb17))
  have B17 : Hid (Below w.heap.size w w17) := Lib.hid (B16.out.trans ((al hb17).mono B16.out.size))
  clear hb17 A16 X16 Y16 B16
  go_wp2_with fail
  with_reducible refine (sorted_err exA 71 [.int .i64 17, .int .i64 0, .int .u64 0, .string ⟨#[]⟩, .slice (some ⟨bx + 1, 0, none⟩) 2 2, .slice (some ⟨w16.heap.size, 0, none⟩) 2 2] _ ?f1 qqA chkA ?f3 ?f2).mono ?_
  case f1 => exact HT.out.keep B17.out
  case f2 => exact N17.out
  case f3 => decide
  rintro e w18 ⟨rfl, HB18⟩
  have X18 := Lib.hid (X17.out.below (HB18.out) X17.out.lt)
  have Y18 := Lib.hid (Y17.out.bel (HB18.out))
  have B18 : Hid (Below w.heap.size w w18) := Lib.hid (B17.out.trans ((HB18.out).mono B17.out.size))
  clear HB18 N17 X17 Y17 B17
  go_wp2_with fail
  with_reducible refine (num_any 2 _).mono ?_
  rintro e w19 ⟨rfl, hb19⟩
  have D19 : Hid (Blk w19 (w18.heap.size + 1) 9 #[.string ⟨#[97]⟩, .string ⟨#[98]⟩]) := Lib.hid (((blk_new2 w18 _ _ _).alloc _).below hb19 (by simp))
  have E19 : Hid (Blk w19 (w18.heap.size + 1 + 1) 9 #[.string ⟨#[99]⟩, .string ⟨#[100]⟩]) := Lib.hid ((blk_new3 w18 _ _ _ _).below hb19 (by simp))
  have X19 := Lib.hid (X18.out.below (al (al (al hb19))) X18.out.lt)
  have Y19 := Lib.hid (Y18.out.bel (al (al (al hb19))))
  have B19 : Hid (Below w.heap.size w w19) := Lib.hid (B18.out.trans ((al (al (al hb19))).mono B18.out.size))
  clear hb19 X18 Y18 B18
  go_wp2_with fail
  with_reducible refine (num_any 1 _).mono ?_
  rintro e w20 ⟨rfl, hb20⟩
  have D20 := Lib.hid (D19.out.below (hb20) D19.out.lt)
  have E20 := Lib.hid (E19.out.below (hb20) E19.out.lt)
  have X20 := Lib.hid (X19.out.below (hb20) X19.out.lt)
  have Y20 := Lib.hid (Y19.out.bel (hb20))
  have B20 : Hid (Below w.heap.size w w20) := Lib.hid (B19.out.trans ((hb20).mono B19.out.size))
  clear hb20 D19 E19 X19 Y19 B19
  go_wp2_with fail
  with_reducible refine (table_any _ _ _ _ _ _ _).mono ?_
  rintro e w21 ⟨rfl, hb21⟩
  have N21 : Hid (Nd w21 (tabT [sC, sD] [numT 2, numT 1]) [.int .i64 17, .int .i64 0, .int .u64 0, .string ⟨#[]⟩, .slice (some ⟨w18.heap.size + 1 + 1, 0, none⟩) 2 2, .slice (some ⟨w20.heap.size, 0, none⟩) 2 2]) :=
    Lib.hid ((nd_tab (rds_blk (E20.out.alloc _) rfl rfl (small1 (by decide)) (all_small (by decide))) rfl (Nat.le_refl _) (small1 (by decide)) (by simp) (two_row (Blk.new w20 _ _) (nd_num _ 2 (by decide) (by decide)) (nd_num _ 1 (by decide) (by decide)))).bel hb21)
  have D21 := Lib.hid (D20.out.below (al hb21) D20.out.lt)
  have X21 := Lib.hid (X20.out.below (al hb21) X20.out.lt)
  have Y21 := Lib.hid (Y20.out.bel (al hb21))
  have B21 : Hid (Below w.heap.size w w21) := Lib.hid (B20.out.trans ((al hb21).mono B20.out.size))
  clear hb21 D20 E20 X20 Y20 B20
  go_wp2_with fail
  with_reducible refine (num_any 5 _).mono ?_
  rintro e w22 ⟨rfl, hb22⟩
  have N22 := Lib.hid (N21.out.bel hb22)
  have D22 := Lib.hid (D21.out.below (hb22) D21.out.lt)
  have X22 := Lib.hid (X21.out.below (hb22) X21.out.lt)
  have Y22 := Lib.hid (Y21.out.bel (hb22))
  have B22 : Hid (Below w.heap.size w w22) := Lib.hid (B21.out.trans ((hb22).mono B21.out.size))
  clear hb22 D21 N21 X21 Y21 B21
  go_wp2_with fail
  with_reducible refine (table_any _ _ _ _ _ _ _).mono ?_
  rintro e w23 ⟨rfl, hb23⟩
  have N23 : Hid (Nd w23 (tabT [sA, sB] [tabT [sC, sD] [numT 2, numT 1], numT 5]) [.int .i64 17, .int .i64 0, .int .u64 0, .string ⟨#[]⟩, .slice (some ⟨w18.heap.size + 1, 0, none⟩) 2 2, .slice (some ⟨w22.heap.size, 0, none⟩) 2 2]) :=
    Lib.hid ((nd_tab (rds_blk (D22.out.alloc _) rfl rfl (small1 (by decide)) (all_small (by decide))) rfl (Nat.le_refl _) (small1 (by decide)) (by simp) (two_row (Blk.new w22 _ _) (N22.out.bel (bel1 w22 _)) (nd_num _ 5 (by decide) (by decide)))).bel hb23)
  have X23 := Lib.hid (X22.out.below (al hb23) X22.out.lt)
  have Y23 := Lib.hid (Y22.out.bel (al hb23))
  have B23 : Hid (Below w.heap.size w w23) := Lib.hid (B22.out.trans ((al hb23).mono B22.out.size))
  clear hb23 D22 N22 X22 Y22 B22
  have X24 : Hid (Bx ((w23.alloc (.cells #[.int .i64 17, .int .i64 0, .int .u64 0, .string ⟨#[]⟩, .slice (some ⟨w18.heap.size + 1, 0, none⟩) 2 2, .slice (some ⟨w22.heap.size, 0, none⟩) 2 2] 26)).alloc (.cells #[.int .i64 10, .int .i64 0, .int .u64 0, .string ⟨#[]⟩, .slice none 0 0, .slice (some ⟨w23.heap.size, 0, none⟩) 1 1] 26)) bx (.int .i64 k) (.int .i64 n) (.int .u64 u) (.string s) (.slice A1 m1 c1) (.slice A2 m2 c2)) := Lib.hid (Blk.alloc (Blk.alloc X23.out _) _)
  obtain ⟨c0, c1', c2', c3, c4, c5⟩ := Bx.all X24.out
  go_wp2_with fail
  with_reducible refine (eq_same exW [.int .i64 k, .int .i64 n, .int .u64 u, .string s, .slice A1 m1 c1, .slice A2 m2 c2] [.int .i64 10, .int .i64 0, .int .u64 0, .string ⟨#[]⟩, .slice none 0 0, .slice (some ⟨w23.heap.size, 0, none⟩) 1 1] _ qqW ?h1 ?h2).mono ?_
  case h1 => exact Y23.out.bel (bel2 w23 _ _)
  case h2 => exact (nd_vec rfl (Nat.le_refl _) (small1 (by decide)) (by simp) (one_row (Blk.new w23 _ _) (N23.out.bel (bel1 w23 _)))).bel (bel1 _ _)
  rintro e w24 ⟨rfl, hb24⟩
  have B24 : Hid (Below w.heap.size w w24) := Lib.hid (B23.out.trans ((al (al hb24)).mono B23.out.size))
  clear hb24 c0 c1' c2' c3 c4 c5
  go_wp2_with fail
  go_ret
  exact ⟨rfl, B24.out⟩
end Go.Proofs.YtpcfpikflkjmjaaDoor
