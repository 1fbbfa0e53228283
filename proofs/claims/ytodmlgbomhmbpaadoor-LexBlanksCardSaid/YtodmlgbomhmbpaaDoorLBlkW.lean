/-
  What is proved here: the contract of the law's word; condition: the tables that package lex and its library read hold what is laid.
-/
import Derived.Test.YtodmlgbomhmbpaaDoorLBlkP
import Derived.Test.YtodmlgbomhmbpaaDoorQuote
import Derived.Test.YtodmlgbomhmbpaaDoorBack
import Derived.Test.YtodmlgbomhmbpaaDoorLWorksW
import Derived.Deep.DeepCutAuto
import Derived.Deep.RegionHeld3
import Derived.Lib.ItoaLen
namespace Go.Proofs.YtodmlgbomhmbpaaDoor
open Go.RowKit Ut Lx Go.Maps Go.Lib

/-- What word answers: a token without its place, and a spelling of it. -/
def WdO (w : World) (e : Ending) (w' : World) : Prop := ∃ (d : RD) (x : List UInt8) (y s : ByteArray),
  e = .returned (.tuple #[.agg #[.int .i64 d.k, .int .i64 0, .int .i64 0, .int .i64 d.N, .int .u64 d.U, .string y], .string s]) ∧ y = str d.x ∧ s = str x ∧ Wd x d ∧ x.length ≤ 100 ∧ Below w.heap.size w w'
theorem dD_len (u : Nat) (hu : u < 18446744073709551616) : (Lib.decDigits u).length ≤ 20 := by rw [Lib.decDigits_length]; exact Lib.nDigits_le20 u hu
/-- An integer. -/
theorem wd_int (b : Int) (h0 : -9223372036854775808 ≤ b) (h1 : b ≤ 9223372036854775807) : Wd (Lib.itoa b) ⟨10, (Lib.itoa b).length, b, 0, [], 0⟩ ∧ (Lib.itoa b).length ≤ 100 := by
  by_cases hb : b < 0
  · have hu := dD_len b.natAbs (by omega)
    have := wd_num 1 b.natAbs (.inr rfl) (by omega) (by omega)
    rw [if_pos rfl] at this
    have e : numR 1 (1 + (Lib.decDigits b.natAbs).length) b.natAbs = ⟨10, (Lib.itoa b).length, b, 0, [], 0⟩ := by
      unfold numR Lib.itoa
      rw [if_pos rfl, if_neg (by omega), if_pos hb]
      simp only [List.length_cons]
      congr 1
      · omega
      · omega
    rw [e] at this
    unfold Lib.itoa at this ⊢
    rw [if_pos hb] at this ⊢
    exact ⟨this, by simp; omega⟩
  · have hu := dD_len b.toNat (by omega)
    have := wd_num 0 b.toNat (.inl rfl) (by omega) (by omega)
    rw [if_neg (by decide), List.nil_append] at this
    have e : numR 0 (0 + (Lib.decDigits b.toNat).length) b.toNat = ⟨10, (Lib.itoa b).length, b, 0, [], 0⟩ := by
      unfold numR Lib.itoa
      rw [if_neg (by decide), if_neg (by omega), if_neg hb]
      congr 1
      · omega
      · omega
    rw [e] at this
    unfold Lib.itoa at this ⊢
    rw [if_neg hb] at this ⊢
    exact ⟨this, by omega⟩
/-- An integer of the upper half. -/
theorem wd_uint (u : Nat) (h0 : 9223372036854775808 ≤ u) (h1 : u < 18446744073709551616) : Wd (Lib.decDigits u) ⟨11, (Lib.decDigits u).length, 0, u, [], 0⟩ ∧ (Lib.decDigits u).length ≤ 100 := by
  have hu := dD_len u h1
  have := wd_num 0 u (.inl rfl) h1 (by omega)
  rw [if_neg (by decide), List.nil_append] at this
  have e : numR 0 (0 + (Lib.decDigits u).length) u = ⟨11, (Lib.decDigits u).length, 0, u, [], 0⟩ := by
    unfold numR
    rw [if_neg (by decide), if_pos h0, Nat.zero_add]
  rw [e] at this
  exact ⟨this, by omega⟩
theorem or_top (b : Int) : ∃ u : Nat, bits .or .u64 9223372036854775808 (IntKind.u64.wrap b) = (u : Int) ∧ 9223372036854775808 ≤ u ∧ u < 18446744073709551616 := by
  have hb0 : 0 ≤ IntKind.u64.wrap b := by rw [IntKind.wrap_u64]; exact Int.emod_nonneg _ (by decide)
  have hb1 : IntKind.u64.wrap b < 18446744073709551616 := by rw [IntKind.wrap_u64]; exact Int.emod_lt_of_pos _ (by decide)
  obtain ⟨n, hn⟩ := Int.eq_ofNat_of_zero_le hb0
  rw [hn] at hb1 ⊢
  refine ⟨9223372036854775808 ||| n, ?_, Nat.left_le_or, ?_⟩
  · exact u64_or_nat 9223372036854775808 n (by decide) (by omega)
  · exact Nat.or_lt_two_pow (n := 64) (by decide) (by omega)
def wtx (j : Nat) : List UInt8 := if j = 0 then [] else if j = 1 then [97] else if j = 2 then [34] else if j = 3 then [92] else if j = 4 then [195, 169, 10] else if j = 5 then [32, 120] else [110, 117, 108, 108]
theorem wtx_ok (j : Nat) (hj : j < 7) : validD (wtx j) = true ∧ unq (quo (wtx j)) = (wtx j, (quo (wtx j)).length, 0, 0) ∧ (wtx j).length ≤ 4 := by
  have : j = 0 ∨ j = 1 ∨ j = 2 ∨ j = 3 ∨ j = 4 ∨ j = 5 ∨ j = 6 := by omega
  rcases this with rfl | rfl | rfl | rfl | rfl | rfl | rfl <;> exact ⟨by decide +kernel, by decide +kernel, by decide⟩
theorem wd_txt (j : Nat) (hj : j < 7) : Wd (quo (wtx j)) ⟨12, (quo (wtx j)).length, 0, 0, wtx j, 0⟩ ∧ (quo (wtx j)).length ≤ 100 := by
  obtain ⟨_, h2, h3⟩ := wtx_ok j hj
  refine ⟨wd_text _ _ h2 ⟨_, rfl⟩, ?_⟩
  have := quo_len (wtx j)
  omega
theorem wd_wordS (k : Nat) (h1 : 1 ≤ k) (h9 : k ≤ 9) : Wd (wordL k) ⟨k, (wordL k).length, 0, 0, [], 0⟩ ∧ (wordL k).length ≤ 100 := by
  refine ⟨wd_word k h1 h9, ?_⟩
  have : ∀ k : Nat, k < 10 → (wordL k).length ≤ 100 := by decide
  exact this k (by omega)
/-- Six stores into a block keep another block. -/
theorem Blk.put6 {w : World} {g p : Nat} {t : TypeId} {cs : Array Value} (h : Blk w g t cs) (hne : g ≠ p) (a b c d e f : Value) :
    Blk ((((((w.setCell ⟨p, 0, none⟩ a).setCell ⟨p, 1, none⟩ b).setCell ⟨p, 2, none⟩ c).setCell ⟨p, 3, none⟩ d).setCell ⟨p, 4, none⟩ e).setCell ⟨p, 5, none⟩ f) g t cs := by
  have hs : ∀ (w : World) (i : Nat) (u : Value), Blk w g t cs → Blk (w.setCell ⟨p, i, none⟩ u) g t cs := fun w i u h => (Below.heap_setCell w ⟨p, i, none⟩ u g (by exact hne)).trans h
  exact hs _ _ _ (hs _ _ _ (hs _ _ _ (hs _ _ _ (hs _ _ _ (hs _ _ _ h)))))
/-- .. and leave what is put. -/
theorem Blk.set6 {w : World} {p : Nat} {t : TypeId} {a0 b0 c0 d0 e0 f0 : Value} (h : Blk w p t #[a0, b0, c0, d0, e0, f0]) (a b c d e f : Value) :
    Blk ((((((w.setCell ⟨p, 0, none⟩ a).setCell ⟨p, 1, none⟩ b).setCell ⟨p, 2, none⟩ c).setCell ⟨p, 3, none⟩ d).setCell ⟨p, 4, none⟩ e).setCell ⟨p, 5, none⟩ f) p t #[a, b, c, d, e, f] :=
  (((((h.put 0 a).put 1 b).put 2 c).put 3 d).put 4 e).put 5 f
set_option maxRecDepth 100000 in
set_option maxHeartbeats 2000000 in
theorem word_int (a b : Int) (w : World) (hL : LB w.heap.size w) (ha : a % 12 = 9) (hb0 : -9223372036854775808 ≤ b) (hb1 : b ≤ 9223372036854775807) :
    Calls Tryd.prog 18 #[.agg #[.int .i64 a, .int .i64 b]] w (WdO w) := by
  obtain ⟨hw, hl⟩ := wd_int b hb0 hb1
  have HBR : Hid (∀ W, Calls Tryd.prog 17 #[.int .i64 a, .int .i64 12] W fun e w' => e = .returned (.int .i64 9) ∧ W = w') := Lib.hid fun W => by rw [← ha]; exact bring_small a 12 W (by omega) (by omega)
  have HF : Hid (∀ W, Hid (Below w.heap.size w W) → Calls Tryd.prog 30 #[.int .i64 b, .int .i64 10] W fun e w' => e = .returned (.string (str (Lib.itoa b))) ∧ Hid (Below W.heap.size W w')) := Lib.hid fun W hW => by
    refine (Tryd.strconv_FormatInt_10 b hb0 hb1 W (hL.below hW.out).pow).mono ?_
    rintro e w' ⟨rfl, k, os, rfl⟩
    exact ⟨rfl, Lib.hid (Lib.below_grow _ _ (Nat.le_refl _) _ _)⟩
  have HW := Lib.hid hw
  have HL := Lib.hid hl
  clear hw hl ha hL
  go_enter Tryd.func18, Tryd.ntmps18
  go_upto_region 5 with (go_at_call 17; (with_reducible refine (HBR.out _).mono ?_); rintro e1 w1 ⟨rfl, rfl⟩)
  obtain ⟨wx, hwx⟩ : ∃ wx, (((w.alloc (.cells #[.int .i64 a, .int .i64 b] 47)).alloc (.cells #[.int .i64 0, .int .i64 0, .int .i64 0, .int .i64 0, .int .u64 0, .string ⟨#[]⟩] 25)).alloc (.cells #[.int .i64 10, .int .i64 0, .int .i64 0, .int .i64 b, .int .u64 0, .string ⟨#[]⟩] 25)) = wx := ⟨_, rfl⟩
  obtain ⟨p2, hp2⟩ : ∃ p, w.heap.size + 1 = p := ⟨_, rfl⟩
  obtain ⟨p5, hp5⟩ : ∃ p, p2 + 1 = p := ⟨_, rfl⟩
  have HBX : Hid (Below w.heap.size w wx) := Lib.hid (by rw [← hwx]; exact (((Below.refl _ w).alloc (Nat.le_refl _) _).alloc (by simp) _).alloc (by simp; omega) _)
  have h2 := Blk.new (w.alloc (.cells #[.int .i64 a, .int .i64 b] 47)) 25 #[.int .i64 0, .int .i64 0, .int .i64 0, .int .i64 0, .int .u64 0, .string ⟨#[]⟩]
  have h5 := Blk.new ((w.alloc (.cells #[.int .i64 a, .int .i64 b] 47)).alloc (.cells #[.int .i64 0, .int .i64 0, .int .i64 0, .int .i64 0, .int .u64 0, .string ⟨#[]⟩] 25)) 25 #[.int .i64 10, .int .i64 0, .int .i64 0, .int .i64 b, .int .u64 0, .string ⟨#[]⟩]
  have h2' := h2.alloc (.cells #[.int .i64 10, .int .i64 0, .int .i64 0, .int .i64 b, .int .u64 0, .string ⟨#[]⟩] 25)
  rw [hwx] at h2' h5
  simp only [World.size_alloc, hp2, hp5] at h2' h5
  have H2 := Lib.hid h2'
  have H5 := Lib.hid h5
  have HLE : Hid (w.heap.size ≤ p2 ∧ p5 ≠ p2) := Lib.hid (by omega)
  simp only [hwx, hp2, hp5]
  clear hwx hp2 hp5 h2 h5 h2'
  have hall : ∀ W, Hid (Blk W p5 25 #[.int .i64 10, .int .i64 0, .int .i64 0, .int .i64 b, .int .u64 0, .string ⟨#[]⟩]) → W.cell? ⟨p5, 0, none⟩ = some (.int .i64 10) ∧ W.cell? ⟨p5, 1, none⟩ = some (.int .i64 0) ∧ W.cell? ⟨p5, 2, none⟩ = some (.int .i64 0) ∧ W.cell? ⟨p5, 3, none⟩ = some (.int .i64 b) ∧ W.cell? ⟨p5, 4, none⟩ = some (.int .u64 0) ∧ W.cell? ⟨p5, 5, none⟩ = some (.string ⟨#[]⟩) := fun W h => ⟨h.out.cell 0, h.out.cell 1, h.out.cell 2, h.out.cell 3, h.out.cell 4, h.out.cell 5⟩
  have HXd : Hid (Blk wx.drew p5 25 #[.int .i64 10, .int .i64 0, .int .i64 0, .int .i64 b, .int .u64 0, .string ⟨#[]⟩]) := Lib.hid (H5.out.below (Below.refl wx.heap.size wx).drew H5.out.lt)
  have HBd : Hid (Below w.heap.size w wx.drew) := Lib.hid HBX.out.drew
  have hput : ∀ (W : World) (a' b' c d e f : Value), Hid (Blk W p5 25 #[.int .i64 10, .int .i64 0, .int .i64 0, .int .i64 b, .int .u64 0, .string ⟨#[]⟩]) → ((((((W.setCell ⟨p2, 0, none⟩ a').setCell ⟨p2, 1, none⟩ b').setCell ⟨p2, 2, none⟩ c).setCell ⟨p2, 3, none⟩ d).setCell ⟨p2, 4, none⟩ e).setCell ⟨p2, 5, none⟩ f).cell? ⟨p5, 0, none⟩ = some (.int .i64 10) ∧ ((((((W.setCell ⟨p2, 0, none⟩ a').setCell ⟨p2, 1, none⟩ b').setCell ⟨p2, 2, none⟩ c).setCell ⟨p2, 3, none⟩ d).setCell ⟨p2, 4, none⟩ e).setCell ⟨p2, 5, none⟩ f).cell? ⟨p5, 1, none⟩ = some (.int .i64 0) ∧ ((((((W.setCell ⟨p2, 0, none⟩ a').setCell ⟨p2, 1, none⟩ b').setCell ⟨p2, 2, none⟩ c).setCell ⟨p2, 3, none⟩ d).setCell ⟨p2, 4, none⟩ e).setCell ⟨p2, 5, none⟩ f).cell? ⟨p5, 2, none⟩ = some (.int .i64 0) ∧ ((((((W.setCell ⟨p2, 0, none⟩ a').setCell ⟨p2, 1, none⟩ b').setCell ⟨p2, 2, none⟩ c).setCell ⟨p2, 3, none⟩ d).setCell ⟨p2, 4, none⟩ e).setCell ⟨p2, 5, none⟩ f).cell? ⟨p5, 3, none⟩ = some (.int .i64 b) ∧ ((((((W.setCell ⟨p2, 0, none⟩ a').setCell ⟨p2, 1, none⟩ b').setCell ⟨p2, 2, none⟩ c).setCell ⟨p2, 3, none⟩ d).setCell ⟨p2, 4, none⟩ e).setCell ⟨p2, 5, none⟩ f).cell? ⟨p5, 4, none⟩ = some (.int .u64 0) ∧ ((((((W.setCell ⟨p2, 0, none⟩ a').setCell ⟨p2, 1, none⟩ b').setCell ⟨p2, 2, none⟩ c).setCell ⟨p2, 3, none⟩ d).setCell ⟨p2, 4, none⟩ e).setCell ⟨p2, 5, none⟩ f).cell? ⟨p5, 5, none⟩ = some (.string ⟨#[]⟩) := fun W a' b' c d e f h => hall _ (Lib.hid (h.out.put6 HLE.out.2 a' b' c d e f))
  have HBs : ∀ (a' b' c d e f : Value), Hid (Below w.heap.size w ((((((wx.drew.setCell ⟨p2, 0, none⟩ a').setCell ⟨p2, 1, none⟩ b').setCell ⟨p2, 2, none⟩ c).setCell ⟨p2, 3, none⟩ d).setCell ⟨p2, 4, none⟩ e).setCell ⟨p2, 5, none⟩ f)) := fun a' b' c d e f => Lib.hid (six HBd.out (Nat.le_trans (Nat.le_refl _) HLE.out.1) a' b' c d e f)
  have HXs : ∀ (a' b' c d e f : Value), Hid (Blk ((((((wx.drew.setCell ⟨p2, 0, none⟩ a').setCell ⟨p2, 1, none⟩ b').setCell ⟨p2, 2, none⟩ c).setCell ⟨p2, 3, none⟩ d).setCell ⟨p2, 4, none⟩ e).setCell ⟨p2, 5, none⟩ f) p5 25 #[.int .i64 10, .int .i64 0, .int .i64 0, .int .i64 b, .int .u64 0, .string ⟨#[]⟩]) := fun a' b' c d e f => Lib.hid (HXd.out.put6 HLE.out.2 a' b' c d e f)
  obtain ⟨z0, z1, z2, z3, z4, z5⟩ : wx.cell? ⟨p2, 0, none⟩ = some (.int .i64 0) ∧ wx.cell? ⟨p2, 1, none⟩ = some (.int .i64 0) ∧ wx.cell? ⟨p2, 2, none⟩ = some (.int .i64 0) ∧ wx.cell? ⟨p2, 3, none⟩ = some (.int .i64 0) ∧ wx.cell? ⟨p2, 4, none⟩ = some (.int .u64 0) ∧ wx.cell? ⟨p2, 5, none⟩ = some (.string ⟨#[]⟩) := ⟨H2.out.cell 0, H2.out.cell 1, H2.out.cell 2, H2.out.cell 3, H2.out.cell 4, H2.out.cell 5⟩
  obtain ⟨y0, y1, y2, y3, y4, y5⟩ : wx.frozen? ⟨p2, 0, none⟩ = false ∧ wx.frozen? ⟨p2, 1, none⟩ = false ∧ wx.frozen? ⟨p2, 2, none⟩ = false ∧ wx.frozen? ⟨p2, 3, none⟩ = false ∧ wx.frozen? ⟨p2, 4, none⟩ = false ∧ wx.frozen? ⟨p2, 5, none⟩ = false := ⟨H2.out.frozen 0, H2.out.frozen 1, H2.out.frozen 2, H2.out.frozen 3, H2.out.frozen 4, H2.out.frozen 5⟩
  have HF1 := Lib.hid (HF.out _ HBd)
  have H2d : Hid (Blk wx.drew p2 25 #[.int .i64 0, .int .i64 0, .int .i64 0, .int .i64 0, .int .u64 0, .string ⟨#[]⟩]) := Lib.hid (H2.out.below (Below.refl wx.heap.size wx).drew H2.out.lt)
  go_region_held3 (fun W => W.cell? ⟨p5, 0, none⟩ = some (.int .i64 10) ∧ W.cell? ⟨p5, 1, none⟩ = some (.int .i64 0) ∧ W.cell? ⟨p5, 2, none⟩ = some (.int .i64 0) ∧ W.cell? ⟨p5, 3, none⟩ = some (.int .i64 b) ∧ W.cell? ⟨p5, 4, none⟩ = some (.int .u64 0) ∧ W.cell? ⟨p5, 5, none⟩ = some (.string ⟨#[]⟩)) (first | (with_reducible exact hall _ HXd) | (with_reducible exact hall _ HX5) | (with_reducible exact hput _ _ _ _ _ _ _ HXd) | (with_reducible exact hput _ _ _ _ _ _ _ HX5) | (with_reducible exact hall _ HX6))
    (first
      | (go_at_call 30; (with_reducible refine HF1.out.mono ?_); rintro e1 w5 ⟨rfl, HB5⟩; have HX5 := Lib.hid (HXd.out.below HB5.out HXd.out.lt); have H25 := Lib.hid (H2d.out.below HB5.out H2d.out.lt); have HW5 := Lib.hid (HBd.out.trans (HB5.out.mono HBd.out.size)); obtain ⟨q0, q1, q2, q3, q4, q5⟩ : w5.cell? ⟨p2, 0, none⟩ = some (.int .i64 0) ∧ w5.cell? ⟨p2, 1, none⟩ = some (.int .i64 0) ∧ w5.cell? ⟨p2, 2, none⟩ = some (.int .i64 0) ∧ w5.cell? ⟨p2, 3, none⟩ = some (.int .i64 0) ∧ w5.cell? ⟨p2, 4, none⟩ = some (.int .u64 0) ∧ w5.cell? ⟨p2, 5, none⟩ = some (.string ⟨#[]⟩) := ⟨H25.out.cell 0, H25.out.cell 1, H25.out.cell 2, H25.out.cell 3, H25.out.cell 4, H25.out.cell 5⟩; obtain ⟨r0, r1, r2, r3, r4, r5⟩ : w5.frozen? ⟨p2, 0, none⟩ = false ∧ w5.frozen? ⟨p2, 1, none⟩ = false ∧ w5.frozen? ⟨p2, 2, none⟩ = false ∧ w5.frozen? ⟨p2, 3, none⟩ = false ∧ w5.frozen? ⟨p2, 4, none⟩ = false ∧ w5.frozen? ⟨p2, 5, none⟩ = false := ⟨H25.out.frozen 0, H25.out.frozen 1, H25.out.frozen 2, H25.out.frozen 3, H25.out.frozen 4, H25.out.frozen 5⟩)
      | (go_at_call 30; (with_reducible refine (HF.out _ (HBs _ _ _ _ _ _)).mono ?_); rintro e1 w6 ⟨rfl, HB6⟩; have HX6 := Lib.hid ((HXs _ _ _ _ _ _).out.below HB6.out (HXs _ _ _ _ _ _).out.lt)))
  go_wp2_with fail
  have hend := H25.out.set6 (.int .i64 10) (.int .i64 0) (.int .i64 0) (.int .i64 b) (.int .u64 0) (.string ⟨#[]⟩)
  have k0 := hend.cell 0
  have k1 := hend.cell 1
  have k2 := hend.cell 2
  have k3 := hend.cell 3
  have k4 := hend.cell 4
  have k5 := hend.cell 5
  exact bodyPost_ret (v := .tuple #[.agg #[.int .i64 10, .int .i64 0, .int .i64 0, .int .i64 b, .int .u64 0, .string ⟨#[]⟩], .string (str (Lib.itoa b))]) (by simp [results, Tryd.results18, go_sem, k0, k1, k2, k3, k4, k5]) rfl
    ⟨_, _, _, _, rfl, rfl, rfl, HW.out, HL.out, six HW5.out HLE.out.1 _ _ _ _ _ _⟩
set_option maxRecDepth 100000 in
set_option maxHeartbeats 2000000 in
theorem word_uint (a b : Int) (w : World) (hL : LB w.heap.size w) (ha : a % 12 = 10) :
    Calls Tryd.prog 18 #[.agg #[.int .i64 a, .int .i64 b]] w (WdO w) := by
  obtain ⟨u, hu, hu0, hu1⟩ := or_top b
  obtain ⟨hw, hl⟩ := wd_uint u hu0 hu1
  have HBR : Hid (∀ W, Calls Tryd.prog 17 #[.int .i64 a, .int .i64 12] W fun e w' => e = .returned (.int .i64 10) ∧ W = w') := Lib.hid fun W => by rw [← ha]; exact bring_small a 12 W (by omega) (by omega)
  have HF : Hid (∀ W, Hid (Below w.heap.size w W) → Calls Tryd.prog 19 #[.int .u64 u, .int .i64 10] W fun e w' => e = .returned (.string (str (Lib.decDigits u))) ∧ Hid (Below W.heap.size W w')) := Lib.hid fun W hW => by
    refine (fmtU u hu1 W (hL.below hW.out).pow).mono ?_
    rintro e w' ⟨rfl, hb⟩
    exact ⟨rfl, Lib.hid hb⟩
  have HW := Lib.hid hw
  have HL := Lib.hid hl
  have HU0 := Lib.hid hu0
  have HU1 := Lib.hid hu1
  clear hw hl ha hL hu0 hu1
  go_enter Tryd.func18, Tryd.ntmps18
  go_upto_region 8 with (go_at_call 17; (with_reducible refine (HBR.out _).mono ?_); rintro e1 w1 ⟨rfl, rfl⟩)
  obtain ⟨wx, hwx⟩ : ∃ wx, (((w.alloc (.cells #[.int .i64 a, .int .i64 b] 47)).alloc (.cells #[.int .i64 0, .int .i64 0, .int .i64 0, .int .i64 0, .int .u64 0, .string ⟨#[]⟩] 25)).alloc (.cells #[.int .i64 11, .int .i64 0, .int .i64 0, .int .i64 0, .int .u64 (u : Int), .string ⟨#[]⟩] 25)) = wx := ⟨_, rfl⟩
  obtain ⟨p2, hp2⟩ : ∃ p, w.heap.size + 1 = p := ⟨_, rfl⟩
  obtain ⟨p5, hp5⟩ : ∃ p, p2 + 1 = p := ⟨_, rfl⟩
  have HBX : Hid (Below w.heap.size w wx) := Lib.hid (by rw [← hwx]; exact (((Below.refl _ w).alloc (Nat.le_refl _) _).alloc (by simp) _).alloc (by simp; omega) _)
  have h2 := Blk.new (w.alloc (.cells #[.int .i64 a, .int .i64 b] 47)) 25 #[.int .i64 0, .int .i64 0, .int .i64 0, .int .i64 0, .int .u64 0, .string ⟨#[]⟩]
  have h5 := Blk.new ((w.alloc (.cells #[.int .i64 a, .int .i64 b] 47)).alloc (.cells #[.int .i64 0, .int .i64 0, .int .i64 0, .int .i64 0, .int .u64 0, .string ⟨#[]⟩] 25)) 25 #[.int .i64 11, .int .i64 0, .int .i64 0, .int .i64 0, .int .u64 (u : Int), .string ⟨#[]⟩]
  have h2' := h2.alloc (.cells #[.int .i64 11, .int .i64 0, .int .i64 0, .int .i64 0, .int .u64 (u : Int), .string ⟨#[]⟩] 25)
  rw [hwx] at h2' h5
  simp only [World.size_alloc, hp2, hp5] at h2' h5
  have H2 := Lib.hid h2'
  have H5 := Lib.hid h5
  have HLE : Hid (w.heap.size ≤ p2 ∧ p5 ≠ p2) := Lib.hid (by omega)
  simp only [hwx, hp2, hp5]
  clear hwx hp2 hp5 h2 h5 h2'
  have hall : ∀ W, Hid (Blk W p5 25 #[.int .i64 11, .int .i64 0, .int .i64 0, .int .i64 0, .int .u64 (u : Int), .string ⟨#[]⟩]) → W.cell? ⟨p5, 0, none⟩ = some (.int .i64 11) ∧ W.cell? ⟨p5, 1, none⟩ = some (.int .i64 0) ∧ W.cell? ⟨p5, 2, none⟩ = some (.int .i64 0) ∧ W.cell? ⟨p5, 3, none⟩ = some (.int .i64 0) ∧ W.cell? ⟨p5, 4, none⟩ = some (.int .u64 (u : Int)) ∧ W.cell? ⟨p5, 5, none⟩ = some (.string ⟨#[]⟩) := fun W h => ⟨h.out.cell 0, h.out.cell 1, h.out.cell 2, h.out.cell 3, h.out.cell 4, h.out.cell 5⟩
  have HXd : Hid (Blk wx.drew p5 25 #[.int .i64 11, .int .i64 0, .int .i64 0, .int .i64 0, .int .u64 (u : Int), .string ⟨#[]⟩]) := Lib.hid (H5.out.below (Below.refl wx.heap.size wx).drew H5.out.lt)
  have HBd : Hid (Below w.heap.size w wx.drew) := Lib.hid HBX.out.drew
  have hput : ∀ (W : World) (a' b' c d e f : Value), Hid (Blk W p5 25 #[.int .i64 11, .int .i64 0, .int .i64 0, .int .i64 0, .int .u64 (u : Int), .string ⟨#[]⟩]) → ((((((W.setCell ⟨p2, 0, none⟩ a').setCell ⟨p2, 1, none⟩ b').setCell ⟨p2, 2, none⟩ c).setCell ⟨p2, 3, none⟩ d).setCell ⟨p2, 4, none⟩ e).setCell ⟨p2, 5, none⟩ f).cell? ⟨p5, 0, none⟩ = some (.int .i64 11) ∧ ((((((W.setCell ⟨p2, 0, none⟩ a').setCell ⟨p2, 1, none⟩ b').setCell ⟨p2, 2, none⟩ c).setCell ⟨p2, 3, none⟩ d).setCell ⟨p2, 4, none⟩ e).setCell ⟨p2, 5, none⟩ f).cell? ⟨p5, 1, none⟩ = some (.int .i64 0) ∧ ((((((W.setCell ⟨p2, 0, none⟩ a').setCell ⟨p2, 1, none⟩ b').setCell ⟨p2, 2, none⟩ c).setCell ⟨p2, 3, none⟩ d).setCell ⟨p2, 4, none⟩ e).setCell ⟨p2, 5, none⟩ f).cell? ⟨p5, 2, none⟩ = some (.int .i64 0) ∧ ((((((W.setCell ⟨p2, 0, none⟩ a').setCell ⟨p2, 1, none⟩ b').setCell ⟨p2, 2, none⟩ c).setCell ⟨p2, 3, none⟩ d).setCell ⟨p2, 4, none⟩ e).setCell ⟨p2, 5, none⟩ f).cell? ⟨p5, 3, none⟩ = some (.int .i64 0) ∧ ((((((W.setCell ⟨p2, 0, none⟩ a').setCell ⟨p2, 1, none⟩ b').setCell ⟨p2, 2, none⟩ c).setCell ⟨p2, 3, none⟩ d).setCell ⟨p2, 4, none⟩ e).setCell ⟨p2, 5, none⟩ f).cell? ⟨p5, 4, none⟩ = some (.int .u64 (u : Int)) ∧ ((((((W.setCell ⟨p2, 0, none⟩ a').setCell ⟨p2, 1, none⟩ b').setCell ⟨p2, 2, none⟩ c).setCell ⟨p2, 3, none⟩ d).setCell ⟨p2, 4, none⟩ e).setCell ⟨p2, 5, none⟩ f).cell? ⟨p5, 5, none⟩ = some (.string ⟨#[]⟩) := fun W a' b' c d e f h => hall _ (Lib.hid (h.out.put6 HLE.out.2 a' b' c d e f))
  have HBs : ∀ (a' b' c d e f : Value), Hid (Below w.heap.size w ((((((wx.drew.setCell ⟨p2, 0, none⟩ a').setCell ⟨p2, 1, none⟩ b').setCell ⟨p2, 2, none⟩ c).setCell ⟨p2, 3, none⟩ d).setCell ⟨p2, 4, none⟩ e).setCell ⟨p2, 5, none⟩ f)) := fun a' b' c d e f => Lib.hid (six HBd.out (Nat.le_trans (Nat.le_refl _) HLE.out.1) a' b' c d e f)
  have HXs : ∀ (a' b' c d e f : Value), Hid (Blk ((((((wx.drew.setCell ⟨p2, 0, none⟩ a').setCell ⟨p2, 1, none⟩ b').setCell ⟨p2, 2, none⟩ c).setCell ⟨p2, 3, none⟩ d).setCell ⟨p2, 4, none⟩ e).setCell ⟨p2, 5, none⟩ f) p5 25 #[.int .i64 11, .int .i64 0, .int .i64 0, .int .i64 0, .int .u64 (u : Int), .string ⟨#[]⟩]) := fun a' b' c d e f => Lib.hid (HXd.out.put6 HLE.out.2 a' b' c d e f)
  obtain ⟨z0, z1, z2, z3, z4, z5⟩ : wx.cell? ⟨p2, 0, none⟩ = some (.int .i64 0) ∧ wx.cell? ⟨p2, 1, none⟩ = some (.int .i64 0) ∧ wx.cell? ⟨p2, 2, none⟩ = some (.int .i64 0) ∧ wx.cell? ⟨p2, 3, none⟩ = some (.int .i64 0) ∧ wx.cell? ⟨p2, 4, none⟩ = some (.int .u64 0) ∧ wx.cell? ⟨p2, 5, none⟩ = some (.string ⟨#[]⟩) := ⟨H2.out.cell 0, H2.out.cell 1, H2.out.cell 2, H2.out.cell 3, H2.out.cell 4, H2.out.cell 5⟩
  obtain ⟨y0, y1, y2, y3, y4, y5⟩ : wx.frozen? ⟨p2, 0, none⟩ = false ∧ wx.frozen? ⟨p2, 1, none⟩ = false ∧ wx.frozen? ⟨p2, 2, none⟩ = false ∧ wx.frozen? ⟨p2, 3, none⟩ = false ∧ wx.frozen? ⟨p2, 4, none⟩ = false ∧ wx.frozen? ⟨p2, 5, none⟩ = false := ⟨H2.out.frozen 0, H2.out.frozen 1, H2.out.frozen 2, H2.out.frozen 3, H2.out.frozen 4, H2.out.frozen 5⟩
  have HF1 := Lib.hid (HF.out _ HBd)
  have H2d : Hid (Blk wx.drew p2 25 #[.int .i64 0, .int .i64 0, .int .i64 0, .int .i64 0, .int .u64 0, .string ⟨#[]⟩]) := Lib.hid (H2.out.below (Below.refl wx.heap.size wx).drew H2.out.lt)
  go_region_held3 (fun W => W.cell? ⟨p5, 0, none⟩ = some (.int .i64 11) ∧ W.cell? ⟨p5, 1, none⟩ = some (.int .i64 0) ∧ W.cell? ⟨p5, 2, none⟩ = some (.int .i64 0) ∧ W.cell? ⟨p5, 3, none⟩ = some (.int .i64 0) ∧ W.cell? ⟨p5, 4, none⟩ = some (.int .u64 (u : Int)) ∧ W.cell? ⟨p5, 5, none⟩ = some (.string ⟨#[]⟩)) (first | (with_reducible exact hall _ HXd) | (with_reducible exact hall _ HX5) | (with_reducible exact hput _ _ _ _ _ _ _ HXd) | (with_reducible exact hput _ _ _ _ _ _ _ HX5) | (with_reducible exact hall _ HX6))
    (first
      | (go_at_call 19; (with_reducible refine HF1.out.mono ?_); rintro e1 w5 ⟨rfl, HB5⟩; have HX5 := Lib.hid (HXd.out.below HB5.out HXd.out.lt); have H25 := Lib.hid (H2d.out.below HB5.out H2d.out.lt); have HW5 := Lib.hid (HBd.out.trans (HB5.out.mono HBd.out.size)); obtain ⟨q0, q1, q2, q3, q4, q5⟩ : w5.cell? ⟨p2, 0, none⟩ = some (.int .i64 0) ∧ w5.cell? ⟨p2, 1, none⟩ = some (.int .i64 0) ∧ w5.cell? ⟨p2, 2, none⟩ = some (.int .i64 0) ∧ w5.cell? ⟨p2, 3, none⟩ = some (.int .i64 0) ∧ w5.cell? ⟨p2, 4, none⟩ = some (.int .u64 0) ∧ w5.cell? ⟨p2, 5, none⟩ = some (.string ⟨#[]⟩) := ⟨H25.out.cell 0, H25.out.cell 1, H25.out.cell 2, H25.out.cell 3, H25.out.cell 4, H25.out.cell 5⟩; obtain ⟨r0, r1, r2, r3, r4, r5⟩ : w5.frozen? ⟨p2, 0, none⟩ = false ∧ w5.frozen? ⟨p2, 1, none⟩ = false ∧ w5.frozen? ⟨p2, 2, none⟩ = false ∧ w5.frozen? ⟨p2, 3, none⟩ = false ∧ w5.frozen? ⟨p2, 4, none⟩ = false ∧ w5.frozen? ⟨p2, 5, none⟩ = false := ⟨H25.out.frozen 0, H25.out.frozen 1, H25.out.frozen 2, H25.out.frozen 3, H25.out.frozen 4, H25.out.frozen 5⟩)
      | (go_at_call 19; (with_reducible refine (HF.out _ (HBs _ _ _ _ _ _)).mono ?_); rintro e1 w6 ⟨rfl, HB6⟩; have HX6 := Lib.hid ((HXs _ _ _ _ _ _).out.below HB6.out (HXs _ _ _ _ _ _).out.lt)))
  go_wp2_with fail
  have hend := H25.out.set6 (.int .i64 11) (.int .i64 0) (.int .i64 0) (.int .i64 0) (.int .u64 (u : Int)) (.string ⟨#[]⟩)
  have k0 := hend.cell 0
  have k1 := hend.cell 1
  have k2 := hend.cell 2
  have k3 := hend.cell 3
  have k4 := hend.cell 4
  have k5 := hend.cell 5
  exact bodyPost_ret (v := .tuple #[.agg #[.int .i64 11, .int .i64 0, .int .i64 0, .int .i64 0, .int .u64 (u : Int), .string ⟨#[]⟩], .string (str (Lib.decDigits u))]) (by simp [results, Tryd.results18, go_sem, k0, k1, k2, k3, k4, k5]) rfl
    ⟨_, _, _, _, rfl, rfl, rfl, HW.out, HL.out, six HW5.out HLE.out.1 _ _ _ _ _ _⟩
set_option maxRecDepth 100000 in
set_option maxHeartbeats 2000000 in
theorem word_text (a b : Int) (j : Nat) (y : ByteArray) (w : World) (hL : LB w.heap.size w) (ha : a % 12 = 11) (hb : b % 7 = (j : Int)) (hj : j < 7) (hy : str (wtx j) = y) (hyl : (#[.string ⟨#[]⟩, .string ⟨#[97]⟩, .string ⟨#[34]⟩, .string ⟨#[92]⟩, .string ⟨#[195, 169, 10]⟩, .string ⟨#[32, 120]⟩, .string ⟨#[110, 117, 108, 108]⟩] : Array Value)[j]? = some (.string y)) :
    Calls Tryd.prog 18 #[.agg #[.int .i64 a, .int .i64 b]] w (WdO w) := by
  obtain ⟨hw, hl⟩ := wd_txt j hj
  have HBR : Hid (∀ W, Calls Tryd.prog 17 #[.int .i64 a, .int .i64 12] W fun e w' => e = .returned (.int .i64 11) ∧ W = w') := Lib.hid fun W => by rw [← ha]; exact bring_small a 12 W (by omega) (by omega)
  have HB7 : Hid (∀ W, Calls Tryd.prog 17 #[.int .i64 b, .int .i64 7] W fun e w' => e = .returned (.int .i64 (j : Int)) ∧ W = w') := Lib.hid fun W => by rw [← hb]; exact bring_small b 7 W (by omega) (by omega)
  have HQ : Hid (∀ W, Hid (Below w.heap.size w W) → Calls Tryd.prog 31 #[.string y] W fun e w' => e = .returned (.tuple #[.string (str (quo (wtx j))), .int .i64 0]) ∧ Hid (Below W.heap.size W w')) := Lib.hid fun W hW => by
    obtain ⟨v1, v2, v3⟩ := wtx_ok j hj
    have hsz : y.data.toList = wtx j := by rw [← hy]; simp [str]
    have := quote_yes y W (hL.below hW.out).here.tb (by rw [← hy]; simp [str, ByteArray.size]; omega) (by rw [hsz]; exact v1)
    rw [hsz] at this
    refine this.mono ?_
    rintro e w' ⟨rfl, hb⟩
    exact ⟨rfl, Lib.hid hb⟩
  have HW := Lib.hid hw
  have HL := Lib.hid hl
  have HY := Lib.hid hy
  have hj0 : (0 : Int) ≤ (j : Int) := by omega
  have hj1 : (j : Int) < 7 := by omega
  clear hw hl ha hL hb hy
  go_enter Tryd.func18, Tryd.ntmps18
  go_upto_region 10 with (go_at_call 17; (with_reducible refine (HBR.out _).mono ?_); rintro e1 w1 ⟨rfl, rfl⟩)
  obtain ⟨wx, hwx⟩ : ∃ wx, (((w.alloc (.cells #[.int .i64 a, .int .i64 b] 47)).alloc (.cells #[.int .i64 0, .int .i64 0, .int .i64 0, .int .i64 0, .int .u64 0, .string ⟨#[]⟩] 25)).alloc (.cells #[.int .i64 12, .int .i64 0, .int .i64 0, .int .i64 0, .int .u64 0, .string ⟨#[]⟩] 25)) = wx := ⟨_, rfl⟩
  obtain ⟨p2, hp2⟩ : ∃ p, w.heap.size + 1 = p := ⟨_, rfl⟩
  obtain ⟨p5, hp5⟩ : ∃ p, p2 + 1 = p := ⟨_, rfl⟩
  have HBX : Hid (Below w.heap.size w wx) := Lib.hid (by rw [← hwx]; exact (((Below.refl _ w).alloc (Nat.le_refl _) _).alloc (by simp) _).alloc (by simp; omega) _)
  have h2 := Blk.new (w.alloc (.cells #[.int .i64 a, .int .i64 b] 47)) 25 #[.int .i64 0, .int .i64 0, .int .i64 0, .int .i64 0, .int .u64 0, .string ⟨#[]⟩]
  have h5 := Blk.new ((w.alloc (.cells #[.int .i64 a, .int .i64 b] 47)).alloc (.cells #[.int .i64 0, .int .i64 0, .int .i64 0, .int .i64 0, .int .u64 0, .string ⟨#[]⟩] 25)) 25 #[.int .i64 12, .int .i64 0, .int .i64 0, .int .i64 0, .int .u64 0, .string ⟨#[]⟩]
  have h2' := h2.alloc (.cells #[.int .i64 12, .int .i64 0, .int .i64 0, .int .i64 0, .int .u64 0, .string ⟨#[]⟩] 25)
  have h0' := ((Blk.new w 47 #[.int .i64 a, .int .i64 b]).alloc (.cells #[.int .i64 0, .int .i64 0, .int .i64 0, .int .i64 0, .int .u64 0, .string ⟨#[]⟩] 25)).alloc (.cells #[.int .i64 12, .int .i64 0, .int .i64 0, .int .i64 0, .int .u64 0, .string ⟨#[]⟩] 25)
  rw [hwx] at h2' h5 h0'
  have HX9 := Lib.hid h0'
  simp only [World.size_alloc, hp2, hp5] at h2' h5
  have H2 := Lib.hid h2'
  have H5 := Lib.hid h5
  have HLE : Hid (w.heap.size ≤ p2 ∧ p5 ≠ p2 ∧ w.heap.size ≤ p5) := Lib.hid (by omega)
  simp only [hwx, hp2, hp5]
  clear hwx hp2 hp5 h2 h5 h2' h0'
  have x9 : (wx.alloc (.cells #[.string ⟨#[]⟩, .string ⟨#[97]⟩, .string ⟨#[34]⟩, .string ⟨#[92]⟩, .string ⟨#[195, 169, 10]⟩, .string ⟨#[32, 120]⟩, .string ⟨#[110, 117, 108, 108]⟩] 9)).cell? ⟨w.heap.size, 1, none⟩ = some (.int .i64 b) := (HX9.out.alloc _).cell 1
  have H5a := Lib.hid (H5.out.alloc (.cells #[.string ⟨#[]⟩, .string ⟨#[97]⟩, .string ⟨#[34]⟩, .string ⟨#[92]⟩, .string ⟨#[195, 169, 10]⟩, .string ⟨#[32, 120]⟩, .string ⟨#[110, 117, 108, 108]⟩] 9))
  obtain ⟨x0, x1, x2, x3, x4, x5⟩ : (wx.alloc (.cells #[.string ⟨#[]⟩, .string ⟨#[97]⟩, .string ⟨#[34]⟩, .string ⟨#[92]⟩, .string ⟨#[195, 169, 10]⟩, .string ⟨#[32, 120]⟩, .string ⟨#[110, 117, 108, 108]⟩] 9)).cell? ⟨p5, 0, none⟩ = some (.int .i64 12) ∧ (wx.alloc (.cells #[.string ⟨#[]⟩, .string ⟨#[97]⟩, .string ⟨#[34]⟩, .string ⟨#[92]⟩, .string ⟨#[195, 169, 10]⟩, .string ⟨#[32, 120]⟩, .string ⟨#[110, 117, 108, 108]⟩] 9)).cell? ⟨p5, 1, none⟩ = some (.int .i64 0) ∧ (wx.alloc (.cells #[.string ⟨#[]⟩, .string ⟨#[97]⟩, .string ⟨#[34]⟩, .string ⟨#[92]⟩, .string ⟨#[195, 169, 10]⟩, .string ⟨#[32, 120]⟩, .string ⟨#[110, 117, 108, 108]⟩] 9)).cell? ⟨p5, 2, none⟩ = some (.int .i64 0) ∧ (wx.alloc (.cells #[.string ⟨#[]⟩, .string ⟨#[97]⟩, .string ⟨#[34]⟩, .string ⟨#[92]⟩, .string ⟨#[195, 169, 10]⟩, .string ⟨#[32, 120]⟩, .string ⟨#[110, 117, 108, 108]⟩] 9)).cell? ⟨p5, 3, none⟩ = some (.int .i64 0) ∧ (wx.alloc (.cells #[.string ⟨#[]⟩, .string ⟨#[97]⟩, .string ⟨#[34]⟩, .string ⟨#[92]⟩, .string ⟨#[195, 169, 10]⟩, .string ⟨#[32, 120]⟩, .string ⟨#[110, 117, 108, 108]⟩] 9)).cell? ⟨p5, 4, none⟩ = some (.int .u64 0) ∧ (wx.alloc (.cells #[.string ⟨#[]⟩, .string ⟨#[97]⟩, .string ⟨#[34]⟩, .string ⟨#[92]⟩, .string ⟨#[195, 169, 10]⟩, .string ⟨#[32, 120]⟩, .string ⟨#[110, 117, 108, 108]⟩] 9)).cell? ⟨p5, 5, none⟩ = some (.string ⟨#[]⟩) := ⟨H5a.out.cell 0, H5a.out.cell 1, H5a.out.cell 2, H5a.out.cell 3, H5a.out.cell 4, H5a.out.cell 5⟩; obtain ⟨f0, f1, f2, f3, f4, f5⟩ : (wx.alloc (.cells #[.string ⟨#[]⟩, .string ⟨#[97]⟩, .string ⟨#[34]⟩, .string ⟨#[92]⟩, .string ⟨#[195, 169, 10]⟩, .string ⟨#[32, 120]⟩, .string ⟨#[110, 117, 108, 108]⟩] 9)).frozen? ⟨p5, 0, none⟩ = false ∧ (wx.alloc (.cells #[.string ⟨#[]⟩, .string ⟨#[97]⟩, .string ⟨#[34]⟩, .string ⟨#[92]⟩, .string ⟨#[195, 169, 10]⟩, .string ⟨#[32, 120]⟩, .string ⟨#[110, 117, 108, 108]⟩] 9)).frozen? ⟨p5, 1, none⟩ = false ∧ (wx.alloc (.cells #[.string ⟨#[]⟩, .string ⟨#[97]⟩, .string ⟨#[34]⟩, .string ⟨#[92]⟩, .string ⟨#[195, 169, 10]⟩, .string ⟨#[32, 120]⟩, .string ⟨#[110, 117, 108, 108]⟩] 9)).frozen? ⟨p5, 2, none⟩ = false ∧ (wx.alloc (.cells #[.string ⟨#[]⟩, .string ⟨#[97]⟩, .string ⟨#[34]⟩, .string ⟨#[92]⟩, .string ⟨#[195, 169, 10]⟩, .string ⟨#[32, 120]⟩, .string ⟨#[110, 117, 108, 108]⟩] 9)).frozen? ⟨p5, 3, none⟩ = false ∧ (wx.alloc (.cells #[.string ⟨#[]⟩, .string ⟨#[97]⟩, .string ⟨#[34]⟩, .string ⟨#[92]⟩, .string ⟨#[195, 169, 10]⟩, .string ⟨#[32, 120]⟩, .string ⟨#[110, 117, 108, 108]⟩] 9)).frozen? ⟨p5, 4, none⟩ = false ∧ (wx.alloc (.cells #[.string ⟨#[]⟩, .string ⟨#[97]⟩, .string ⟨#[34]⟩, .string ⟨#[92]⟩, .string ⟨#[195, 169, 10]⟩, .string ⟨#[32, 120]⟩, .string ⟨#[110, 117, 108, 108]⟩] 9)).frozen? ⟨p5, 5, none⟩ = false := ⟨H5a.out.frozen 0, H5a.out.frozen 1, H5a.out.frozen 2, H5a.out.frozen 3, H5a.out.frozen 4, H5a.out.frozen 5⟩
  have hlist : (wx.alloc (.cells #[.string ⟨#[]⟩, .string ⟨#[97]⟩, .string ⟨#[34]⟩, .string ⟨#[92]⟩, .string ⟨#[195, 169, 10]⟩, .string ⟨#[32, 120]⟩, .string ⟨#[110, 117, 108, 108]⟩] 9)).cell? ⟨wx.heap.size, j, none⟩ = some (.string y) := by rw [World.cell?_alloc_new]; exact hyl
  go_upto_region 11 with (go_at_call 17; (with_reducible refine (HB7.out _).mono ?_); rintro e1 w1 ⟨rfl, rfl⟩)
  obtain ⟨wl, hwl⟩ : ∃ wl, wx.alloc (.cells #[.string ⟨#[]⟩, .string ⟨#[97]⟩, .string ⟨#[34]⟩, .string ⟨#[92]⟩, .string ⟨#[195, 169, 10]⟩, .string ⟨#[32, 120]⟩, .string ⟨#[110, 117, 108, 108]⟩] 9) = wl := ⟨_, rfl⟩
  have HBL : Hid (Below w.heap.size w wl) := Lib.hid (by rw [← hwl]; exact HBX.out.alloc HBX.out.size _)
  have HL5 : Hid (Blk wl p5 25 #[.int .i64 12, .int .i64 0, .int .i64 0, .int .i64 0, .int .u64 0, .string ⟨#[]⟩]) := Lib.hid (by rw [← hwl]; exact H5.out.alloc _)
  have HL2 : Hid (Blk wl p2 25 #[.int .i64 0, .int .i64 0, .int .i64 0, .int .i64 0, .int .u64 0, .string ⟨#[]⟩]) := Lib.hid (by rw [← hwl]; exact H2.out.alloc _)
  simp only [hwl]
  clear hwl hlist x0 x1 x2 x3 x4 x5 f0 f1 f2 f3 f4 f5 x9
  obtain ⟨wy, hwy⟩ : ∃ wy, wl.setCell ⟨p5, 5, none⟩ (.string y) = wy := ⟨_, rfl⟩
  have HY5 : Hid (Blk wy p5 25 #[.int .i64 12, .int .i64 0, .int .i64 0, .int .i64 0, .int .u64 0, .string y]) := Lib.hid (by rw [← hwy]; exact HL5.out.put 5 _)
  have HY2 : Hid (Blk wy p2 25 #[.int .i64 0, .int .i64 0, .int .i64 0, .int .i64 0, .int .u64 0, .string ⟨#[]⟩]) := Lib.hid (by rw [← hwy]; exact (Below.heap_setCell wl ⟨p5, 5, none⟩ (.string y) p2 (by exact HLE.out.2.1.symm)).trans HL2.out)
  have HBY : Hid (Below w.heap.size w wy) := Lib.hid (by rw [← hwy]; exact HBL.out.setCell (by show w.heap.size ≤ p5; have := HLE.out; omega) _)
  simp only [hwy]
  clear hwy HL5 HL2 HBL
  have c5 : wy.cell? ⟨p5, 5, none⟩ = some (.string y) := HY5.out.cell 5
  go_wp2_with (go_at_call 31; (with_reducible refine (HQ.out _ HBY).mono ?_); rintro e1 w6 ⟨rfl, HB6⟩; have H65 := Lib.hid (HY5.out.below HB6.out HY5.out.lt); have H62 := Lib.hid (HY2.out.below HB6.out HY2.out.lt); have HW6 := Lib.hid (HBY.out.trans (HB6.out.mono HBY.out.size)); obtain ⟨q0, q1, q2, q3, q4, q5⟩ : w6.cell? ⟨p5, 0, none⟩ = some (.int .i64 12) ∧ w6.cell? ⟨p5, 1, none⟩ = some (.int .i64 0) ∧ w6.cell? ⟨p5, 2, none⟩ = some (.int .i64 0) ∧ w6.cell? ⟨p5, 3, none⟩ = some (.int .i64 0) ∧ w6.cell? ⟨p5, 4, none⟩ = some (.int .u64 0) ∧ w6.cell? ⟨p5, 5, none⟩ = some (.string y) := ⟨H65.out.cell 0, H65.out.cell 1, H65.out.cell 2, H65.out.cell 3, H65.out.cell 4, H65.out.cell 5⟩; obtain ⟨f0, f1, f2, f3, f4, f5⟩ : w6.frozen? ⟨p5, 0, none⟩ = false ∧ w6.frozen? ⟨p5, 1, none⟩ = false ∧ w6.frozen? ⟨p5, 2, none⟩ = false ∧ w6.frozen? ⟨p5, 3, none⟩ = false ∧ w6.frozen? ⟨p5, 4, none⟩ = false ∧ w6.frozen? ⟨p5, 5, none⟩ = false := ⟨H65.out.frozen 0, H65.out.frozen 1, H65.out.frozen 2, H65.out.frozen 3, H65.out.frozen 4, H65.out.frozen 5⟩; obtain ⟨z0, z1, z2, z3, z4, z5⟩ : w6.cell? ⟨p2, 0, none⟩ = some (.int .i64 0) ∧ w6.cell? ⟨p2, 1, none⟩ = some (.int .i64 0) ∧ w6.cell? ⟨p2, 2, none⟩ = some (.int .i64 0) ∧ w6.cell? ⟨p2, 3, none⟩ = some (.int .i64 0) ∧ w6.cell? ⟨p2, 4, none⟩ = some (.int .u64 0) ∧ w6.cell? ⟨p2, 5, none⟩ = some (.string ⟨#[]⟩) := ⟨H62.out.cell 0, H62.out.cell 1, H62.out.cell 2, H62.out.cell 3, H62.out.cell 4, H62.out.cell 5⟩; obtain ⟨r0, r1, r2, r3, r4, r5⟩ : w6.frozen? ⟨p2, 0, none⟩ = false ∧ w6.frozen? ⟨p2, 1, none⟩ = false ∧ w6.frozen? ⟨p2, 2, none⟩ = false ∧ w6.frozen? ⟨p2, 3, none⟩ = false ∧ w6.frozen? ⟨p2, 4, none⟩ = false ∧ w6.frozen? ⟨p2, 5, none⟩ = false := ⟨H62.out.frozen 0, H62.out.frozen 1, H62.out.frozen 2, H62.out.frozen 3, H62.out.frozen 4, H62.out.frozen 5⟩)
  have hend := H62.out.set6 (.int .i64 12) (.int .i64 0) (.int .i64 0) (.int .i64 0) (.int .u64 0) (.string y)
  have k0 := hend.cell 0
  have k1 := hend.cell 1
  have k2 := hend.cell 2
  have k3 := hend.cell 3
  have k4 := hend.cell 4
  have k5 := hend.cell 5
  exact bodyPost_ret (v := .tuple #[.agg #[.int .i64 12, .int .i64 0, .int .i64 0, .int .i64 0, .int .u64 0, .string y], .string (str (quo (wtx j)))]) (by simp [results, Tryd.results18, go_sem, k0, k1, k2, k3, k4, k5]) rfl
    ⟨_, _, _, _, rfl, HY.out.symm, rfl, HW.out, HL.out, six HW6.out HLE.out.1 _ _ _ _ _ _⟩
theorem el_of {l : List Value} {k : Nat} {v : Value} (h : l.toArray[k]? = some v) (hk : k < l.length) : l[k] = v := by
  rw [List.getElem?_toArray, List.getElem?_eq_getElem hk] at h
  exact Option.some.inj h
set_option maxRecDepth 100000 in
set_option maxHeartbeats 2000000 in
theorem word_word (a b : Int) (r k : Nat) (y : ByteArray) (w : World) (ha : a % 12 = (r : Int)) (hk : k = r + 1) (hr : r < 9) (hy : str (wordL k) = y) (hyl : (#[.string ⟨#[]⟩, .string ⟨#[123]⟩, .string ⟨#[125]⟩, .string ⟨#[91]⟩, .string ⟨#[93]⟩, .string ⟨#[44]⟩, .string ⟨#[58]⟩, .string ⟨#[110, 117, 108, 108]⟩, .string ⟨#[102, 97, 108, 115, 101]⟩, .string ⟨#[116, 114, 117, 101]⟩] : Array Value)[k]? = some (.string y)) :
    Calls Tryd.prog 18 #[.agg #[.int .i64 a, .int .i64 b]] w (WdO w) := by
  obtain ⟨hw, hl⟩ := wd_wordS k (by omega) (by omega)
  have HBR : Hid (∀ W, Calls Tryd.prog 17 #[.int .i64 a, .int .i64 12] W fun e w' => e = .returned (.int .i64 (r : Int)) ∧ W = w') := Lib.hid fun W => by rw [← ha]; exact bring_small a 12 W (by omega) (by omega)
  have HW := Lib.hid hw
  have HL := Lib.hid hl
  have HY := Lib.hid hy
  have e1 : (1 : Int) + (r : Int) = (k : Int) := by omega
  have e2 : ((k : Int) == 10) = false := by simp; omega
  have e3 : ((k : Int) == 11) = false := by simp; omega
  have e4 : ((k : Int) == 12) = false := by simp; omega
  have i0 : (0 : Int) ≤ (k : Int) := by omega
  have i1 : (k : Int) < 10 := by omega
  have i2 : k < 10 := by omega
  clear hw hl ha hy hk hr
  go_enter Tryd.func18, Tryd.ntmps18
  go_upto_region 13 with (go_at_call 17; (with_reducible refine (HBR.out _).mono ?_); rintro e1 w1 ⟨rfl, rfl⟩)
  obtain ⟨wx, hwx⟩ : ∃ wx, (((w.alloc (.cells #[.int .i64 a, .int .i64 b] 47)).alloc (.cells #[.int .i64 0, .int .i64 0, .int .i64 0, .int .i64 0, .int .u64 0, .string ⟨#[]⟩] 25)).alloc (.cells #[.int .i64 (k : Int), .int .i64 0, .int .i64 0, .int .i64 0, .int .u64 0, .string ⟨#[]⟩] 25)) = wx := ⟨_, rfl⟩
  obtain ⟨p2, hp2⟩ : ∃ p, w.heap.size + 1 = p := ⟨_, rfl⟩
  obtain ⟨p5, hp5⟩ : ∃ p, p2 + 1 = p := ⟨_, rfl⟩
  have HBX : Hid (Below w.heap.size w wx) := Lib.hid (by rw [← hwx]; exact (((Below.refl _ w).alloc (Nat.le_refl _) _).alloc (by simp) _).alloc (by simp; omega) _)
  have h2 := Blk.new (w.alloc (.cells #[.int .i64 a, .int .i64 b] 47)) 25 #[.int .i64 0, .int .i64 0, .int .i64 0, .int .i64 0, .int .u64 0, .string ⟨#[]⟩]
  have h5 := Blk.new ((w.alloc (.cells #[.int .i64 a, .int .i64 b] 47)).alloc (.cells #[.int .i64 0, .int .i64 0, .int .i64 0, .int .i64 0, .int .u64 0, .string ⟨#[]⟩] 25)) 25 #[.int .i64 (k : Int), .int .i64 0, .int .i64 0, .int .i64 0, .int .u64 0, .string ⟨#[]⟩]
  have h2' := h2.alloc (.cells #[.int .i64 (k : Int), .int .i64 0, .int .i64 0, .int .i64 0, .int .u64 0, .string ⟨#[]⟩] 25)
  rw [hwx] at h2' h5
  simp only [World.size_alloc, hp2, hp5] at h2' h5
  have H2 := Lib.hid h2'
  have H5 := Lib.hid h5
  have HLE : Hid (w.heap.size ≤ p2 ∧ p5 ≠ p2) := Lib.hid (by omega)
  simp only [hwx, hp2, hp5]
  clear hwx hp2 hp5 h2 h5 h2'
  obtain ⟨x0, x1, x2, x3, x4, x5⟩ : wx.cell? ⟨p5, 0, none⟩ = some (.int .i64 (k : Int)) ∧ wx.cell? ⟨p5, 1, none⟩ = some (.int .i64 0) ∧ wx.cell? ⟨p5, 2, none⟩ = some (.int .i64 0) ∧ wx.cell? ⟨p5, 3, none⟩ = some (.int .i64 0) ∧ wx.cell? ⟨p5, 4, none⟩ = some (.int .u64 0) ∧ wx.cell? ⟨p5, 5, none⟩ = some (.string ⟨#[]⟩) := ⟨H5.out.cell 0, H5.out.cell 1, H5.out.cell 2, H5.out.cell 3, H5.out.cell 4, H5.out.cell 5⟩
  obtain ⟨z0, z1, z2, z3, z4, z5⟩ : wx.cell? ⟨p2, 0, none⟩ = some (.int .i64 0) ∧ wx.cell? ⟨p2, 1, none⟩ = some (.int .i64 0) ∧ wx.cell? ⟨p2, 2, none⟩ = some (.int .i64 0) ∧ wx.cell? ⟨p2, 3, none⟩ = some (.int .i64 0) ∧ wx.cell? ⟨p2, 4, none⟩ = some (.int .u64 0) ∧ wx.cell? ⟨p2, 5, none⟩ = some (.string ⟨#[]⟩) := ⟨H2.out.cell 0, H2.out.cell 1, H2.out.cell 2, H2.out.cell 3, H2.out.cell 4, H2.out.cell 5⟩; obtain ⟨f0, f1, f2, f3, f4, f5⟩ : wx.frozen? ⟨p2, 0, none⟩ = false ∧ wx.frozen? ⟨p2, 1, none⟩ = false ∧ wx.frozen? ⟨p2, 2, none⟩ = false ∧ wx.frozen? ⟨p2, 3, none⟩ = false ∧ wx.frozen? ⟨p2, 4, none⟩ = false ∧ wx.frozen? ⟨p2, 5, none⟩ = false := ⟨H2.out.frozen 0, H2.out.frozen 1, H2.out.frozen 2, H2.out.frozen 3, H2.out.frozen 4, H2.out.frozen 5⟩
  have H5a := Lib.hid (H5.out.alloc (.cells #[.string ⟨#[]⟩, .string ⟨#[123]⟩, .string ⟨#[125]⟩, .string ⟨#[91]⟩, .string ⟨#[93]⟩, .string ⟨#[44]⟩, .string ⟨#[58]⟩, .string ⟨#[110, 117, 108, 108]⟩, .string ⟨#[102, 97, 108, 115, 101]⟩, .string ⟨#[116, 114, 117, 101]⟩] 9))
  have H2a := Lib.hid (H2.out.alloc (.cells #[.string ⟨#[]⟩, .string ⟨#[123]⟩, .string ⟨#[125]⟩, .string ⟨#[91]⟩, .string ⟨#[93]⟩, .string ⟨#[44]⟩, .string ⟨#[58]⟩, .string ⟨#[110, 117, 108, 108]⟩, .string ⟨#[102, 97, 108, 115, 101]⟩, .string ⟨#[116, 114, 117, 101]⟩] 9))
  obtain ⟨q0, q1, q2, q3, q4, q5⟩ : (wx.alloc (.cells #[.string ⟨#[]⟩, .string ⟨#[123]⟩, .string ⟨#[125]⟩, .string ⟨#[91]⟩, .string ⟨#[93]⟩, .string ⟨#[44]⟩, .string ⟨#[58]⟩, .string ⟨#[110, 117, 108, 108]⟩, .string ⟨#[102, 97, 108, 115, 101]⟩, .string ⟨#[116, 114, 117, 101]⟩] 9)).cell? ⟨p5, 0, none⟩ = some (.int .i64 (k : Int)) ∧ (wx.alloc (.cells #[.string ⟨#[]⟩, .string ⟨#[123]⟩, .string ⟨#[125]⟩, .string ⟨#[91]⟩, .string ⟨#[93]⟩, .string ⟨#[44]⟩, .string ⟨#[58]⟩, .string ⟨#[110, 117, 108, 108]⟩, .string ⟨#[102, 97, 108, 115, 101]⟩, .string ⟨#[116, 114, 117, 101]⟩] 9)).cell? ⟨p5, 1, none⟩ = some (.int .i64 0) ∧ (wx.alloc (.cells #[.string ⟨#[]⟩, .string ⟨#[123]⟩, .string ⟨#[125]⟩, .string ⟨#[91]⟩, .string ⟨#[93]⟩, .string ⟨#[44]⟩, .string ⟨#[58]⟩, .string ⟨#[110, 117, 108, 108]⟩, .string ⟨#[102, 97, 108, 115, 101]⟩, .string ⟨#[116, 114, 117, 101]⟩] 9)).cell? ⟨p5, 2, none⟩ = some (.int .i64 0) ∧ (wx.alloc (.cells #[.string ⟨#[]⟩, .string ⟨#[123]⟩, .string ⟨#[125]⟩, .string ⟨#[91]⟩, .string ⟨#[93]⟩, .string ⟨#[44]⟩, .string ⟨#[58]⟩, .string ⟨#[110, 117, 108, 108]⟩, .string ⟨#[102, 97, 108, 115, 101]⟩, .string ⟨#[116, 114, 117, 101]⟩] 9)).cell? ⟨p5, 3, none⟩ = some (.int .i64 0) ∧ (wx.alloc (.cells #[.string ⟨#[]⟩, .string ⟨#[123]⟩, .string ⟨#[125]⟩, .string ⟨#[91]⟩, .string ⟨#[93]⟩, .string ⟨#[44]⟩, .string ⟨#[58]⟩, .string ⟨#[110, 117, 108, 108]⟩, .string ⟨#[102, 97, 108, 115, 101]⟩, .string ⟨#[116, 114, 117, 101]⟩] 9)).cell? ⟨p5, 4, none⟩ = some (.int .u64 0) ∧ (wx.alloc (.cells #[.string ⟨#[]⟩, .string ⟨#[123]⟩, .string ⟨#[125]⟩, .string ⟨#[91]⟩, .string ⟨#[93]⟩, .string ⟨#[44]⟩, .string ⟨#[58]⟩, .string ⟨#[110, 117, 108, 108]⟩, .string ⟨#[102, 97, 108, 115, 101]⟩, .string ⟨#[116, 114, 117, 101]⟩] 9)).cell? ⟨p5, 5, none⟩ = some (.string ⟨#[]⟩) := ⟨H5a.out.cell 0, H5a.out.cell 1, H5a.out.cell 2, H5a.out.cell 3, H5a.out.cell 4, H5a.out.cell 5⟩
  obtain ⟨s0, s1, s2, s3, s4, s5⟩ : (wx.alloc (.cells #[.string ⟨#[]⟩, .string ⟨#[123]⟩, .string ⟨#[125]⟩, .string ⟨#[91]⟩, .string ⟨#[93]⟩, .string ⟨#[44]⟩, .string ⟨#[58]⟩, .string ⟨#[110, 117, 108, 108]⟩, .string ⟨#[102, 97, 108, 115, 101]⟩, .string ⟨#[116, 114, 117, 101]⟩] 9)).cell? ⟨p2, 0, none⟩ = some (.int .i64 0) ∧ (wx.alloc (.cells #[.string ⟨#[]⟩, .string ⟨#[123]⟩, .string ⟨#[125]⟩, .string ⟨#[91]⟩, .string ⟨#[93]⟩, .string ⟨#[44]⟩, .string ⟨#[58]⟩, .string ⟨#[110, 117, 108, 108]⟩, .string ⟨#[102, 97, 108, 115, 101]⟩, .string ⟨#[116, 114, 117, 101]⟩] 9)).cell? ⟨p2, 1, none⟩ = some (.int .i64 0) ∧ (wx.alloc (.cells #[.string ⟨#[]⟩, .string ⟨#[123]⟩, .string ⟨#[125]⟩, .string ⟨#[91]⟩, .string ⟨#[93]⟩, .string ⟨#[44]⟩, .string ⟨#[58]⟩, .string ⟨#[110, 117, 108, 108]⟩, .string ⟨#[102, 97, 108, 115, 101]⟩, .string ⟨#[116, 114, 117, 101]⟩] 9)).cell? ⟨p2, 2, none⟩ = some (.int .i64 0) ∧ (wx.alloc (.cells #[.string ⟨#[]⟩, .string ⟨#[123]⟩, .string ⟨#[125]⟩, .string ⟨#[91]⟩, .string ⟨#[93]⟩, .string ⟨#[44]⟩, .string ⟨#[58]⟩, .string ⟨#[110, 117, 108, 108]⟩, .string ⟨#[102, 97, 108, 115, 101]⟩, .string ⟨#[116, 114, 117, 101]⟩] 9)).cell? ⟨p2, 3, none⟩ = some (.int .i64 0) ∧ (wx.alloc (.cells #[.string ⟨#[]⟩, .string ⟨#[123]⟩, .string ⟨#[125]⟩, .string ⟨#[91]⟩, .string ⟨#[93]⟩, .string ⟨#[44]⟩, .string ⟨#[58]⟩, .string ⟨#[110, 117, 108, 108]⟩, .string ⟨#[102, 97, 108, 115, 101]⟩, .string ⟨#[116, 114, 117, 101]⟩] 9)).cell? ⟨p2, 4, none⟩ = some (.int .u64 0) ∧ (wx.alloc (.cells #[.string ⟨#[]⟩, .string ⟨#[123]⟩, .string ⟨#[125]⟩, .string ⟨#[91]⟩, .string ⟨#[93]⟩, .string ⟨#[44]⟩, .string ⟨#[58]⟩, .string ⟨#[110, 117, 108, 108]⟩, .string ⟨#[102, 97, 108, 115, 101]⟩, .string ⟨#[116, 114, 117, 101]⟩] 9)).cell? ⟨p2, 5, none⟩ = some (.string ⟨#[]⟩) := ⟨H2a.out.cell 0, H2a.out.cell 1, H2a.out.cell 2, H2a.out.cell 3, H2a.out.cell 4, H2a.out.cell 5⟩; obtain ⟨t0, t1, t2, t3, t4, t5⟩ : (wx.alloc (.cells #[.string ⟨#[]⟩, .string ⟨#[123]⟩, .string ⟨#[125]⟩, .string ⟨#[91]⟩, .string ⟨#[93]⟩, .string ⟨#[44]⟩, .string ⟨#[58]⟩, .string ⟨#[110, 117, 108, 108]⟩, .string ⟨#[102, 97, 108, 115, 101]⟩, .string ⟨#[116, 114, 117, 101]⟩] 9)).frozen? ⟨p2, 0, none⟩ = false ∧ (wx.alloc (.cells #[.string ⟨#[]⟩, .string ⟨#[123]⟩, .string ⟨#[125]⟩, .string ⟨#[91]⟩, .string ⟨#[93]⟩, .string ⟨#[44]⟩, .string ⟨#[58]⟩, .string ⟨#[110, 117, 108, 108]⟩, .string ⟨#[102, 97, 108, 115, 101]⟩, .string ⟨#[116, 114, 117, 101]⟩] 9)).frozen? ⟨p2, 1, none⟩ = false ∧ (wx.alloc (.cells #[.string ⟨#[]⟩, .string ⟨#[123]⟩, .string ⟨#[125]⟩, .string ⟨#[91]⟩, .string ⟨#[93]⟩, .string ⟨#[44]⟩, .string ⟨#[58]⟩, .string ⟨#[110, 117, 108, 108]⟩, .string ⟨#[102, 97, 108, 115, 101]⟩, .string ⟨#[116, 114, 117, 101]⟩] 9)).frozen? ⟨p2, 2, none⟩ = false ∧ (wx.alloc (.cells #[.string ⟨#[]⟩, .string ⟨#[123]⟩, .string ⟨#[125]⟩, .string ⟨#[91]⟩, .string ⟨#[93]⟩, .string ⟨#[44]⟩, .string ⟨#[58]⟩, .string ⟨#[110, 117, 108, 108]⟩, .string ⟨#[102, 97, 108, 115, 101]⟩, .string ⟨#[116, 114, 117, 101]⟩] 9)).frozen? ⟨p2, 3, none⟩ = false ∧ (wx.alloc (.cells #[.string ⟨#[]⟩, .string ⟨#[123]⟩, .string ⟨#[125]⟩, .string ⟨#[91]⟩, .string ⟨#[93]⟩, .string ⟨#[44]⟩, .string ⟨#[58]⟩, .string ⟨#[110, 117, 108, 108]⟩, .string ⟨#[102, 97, 108, 115, 101]⟩, .string ⟨#[116, 114, 117, 101]⟩] 9)).frozen? ⟨p2, 4, none⟩ = false ∧ (wx.alloc (.cells #[.string ⟨#[]⟩, .string ⟨#[123]⟩, .string ⟨#[125]⟩, .string ⟨#[91]⟩, .string ⟨#[93]⟩, .string ⟨#[44]⟩, .string ⟨#[58]⟩, .string ⟨#[110, 117, 108, 108]⟩, .string ⟨#[102, 97, 108, 115, 101]⟩, .string ⟨#[116, 114, 117, 101]⟩] 9)).frozen? ⟨p2, 5, none⟩ = false := ⟨H2a.out.frozen 0, H2a.out.frozen 1, H2a.out.frozen 2, H2a.out.frozen 3, H2a.out.frozen 4, H2a.out.frozen 5⟩
  have hlist : (wx.alloc (.cells #[.string ⟨#[]⟩, .string ⟨#[123]⟩, .string ⟨#[125]⟩, .string ⟨#[91]⟩, .string ⟨#[93]⟩, .string ⟨#[44]⟩, .string ⟨#[58]⟩, .string ⟨#[110, 117, 108, 108]⟩, .string ⟨#[102, 97, 108, 115, 101]⟩, .string ⟨#[116, 114, 117, 101]⟩] 9)).cell? ⟨wx.heap.size, k, none⟩ = some (.string y) := by rw [World.cell?_alloc_new]; exact hyl
  have hlist2 : (((((((wx.alloc (.cells #[.string ⟨#[]⟩, .string ⟨#[123]⟩, .string ⟨#[125]⟩, .string ⟨#[91]⟩, .string ⟨#[93]⟩, .string ⟨#[44]⟩, .string ⟨#[58]⟩, .string ⟨#[110, 117, 108, 108]⟩, .string ⟨#[102, 97, 108, 115, 101]⟩, .string ⟨#[116, 114, 117, 101]⟩] 9)).setCell ⟨p2, 0, none⟩ (.int .i64 (k : Int))).setCell ⟨p2, 1, none⟩ (.int .i64 0)).setCell ⟨p2, 2, none⟩ (.int .i64 0)).setCell ⟨p2, 3, none⟩ (.int .i64 0)).setCell ⟨p2, 4, none⟩ (.int .u64 0)).setCell ⟨p2, 5, none⟩ (.string ⟨#[]⟩)).cell? ⟨wx.heap.size, k, none⟩ = some (.string y) := ((Blk.put6 (Blk.new wx 9 _) (Nat.ne_of_gt H2.out.lt) _ _ _ _ _ _).cell k).trans hyl
  go_region
  · go_wp2_with fail
    have hend := (H2.out.set6 (.int .i64 (k : Int)) (.int .i64 0) (.int .i64 0) (.int .i64 0) (.int .u64 0) (.string ⟨#[]⟩)).alloc (.cells #[.string ⟨#[]⟩, .string ⟨#[123]⟩, .string ⟨#[125]⟩, .string ⟨#[91]⟩, .string ⟨#[93]⟩, .string ⟨#[44]⟩, .string ⟨#[58]⟩, .string ⟨#[110, 117, 108, 108]⟩, .string ⟨#[102, 97, 108, 115, 101]⟩, .string ⟨#[116, 114, 117, 101]⟩] 9)
    have k0 := hend.cell 0
    have k1 := hend.cell 1
    have k2 := hend.cell 2
    have k3 := hend.cell 3
    have k4 := hend.cell 4
    have k5 := hend.cell 5
    have hB := six HBX.out HLE.out.1 (.int .i64 (k : Int)) (.int .i64 0) (.int .i64 0) (.int .i64 0) (.int .u64 0) (.string ⟨#[]⟩)
    exact bodyPost_ret (v := .tuple #[.agg #[.int .i64 (k : Int), .int .i64 0, .int .i64 0, .int .i64 0, .int .u64 0, .string ⟨#[]⟩], .string y]) (by simp [results, Tryd.results18, go_sem, k0, k1, k2, k3, k4, k5]; exact el_of hyl _) rfl
      ⟨_, _, _, _, rfl, rfl, HY.out.symm, HW.out, HL.out, (hB.alloc hB.size _).drew⟩
  · go_wp2_with fail
    have hend := H2a.out.set6 (.int .i64 (k : Int)) (.int .i64 0) (.int .i64 0) (.int .i64 0) (.int .u64 0) (.string ⟨#[]⟩)
    have k0 := hend.cell 0
    have k1 := hend.cell 1
    have k2 := hend.cell 2
    have k3 := hend.cell 3
    have k4 := hend.cell 4
    have k5 := hend.cell 5
    have hB := six (HBX.out.alloc HBX.out.size (.cells #[.string ⟨#[]⟩, .string ⟨#[123]⟩, .string ⟨#[125]⟩, .string ⟨#[91]⟩, .string ⟨#[93]⟩, .string ⟨#[44]⟩, .string ⟨#[58]⟩, .string ⟨#[110, 117, 108, 108]⟩, .string ⟨#[102, 97, 108, 115, 101]⟩, .string ⟨#[116, 114, 117, 101]⟩] 9)) HLE.out.1 (.int .i64 (k : Int)) (.int .i64 0) (.int .i64 0) (.int .i64 0) (.int .u64 0) (.string ⟨#[]⟩)
    exact bodyPost_ret (v := .tuple #[.agg #[.int .i64 (k : Int), .int .i64 0, .int .i64 0, .int .i64 0, .int .u64 0, .string ⟨#[]⟩], .string y]) (by simp [results, Tryd.results18, go_sem, k0, k1, k2, k3, k4, k5]) rfl
      ⟨_, _, _, _, rfl, rfl, HY.out.symm, HW.out, HL.out, hB.drew⟩
theorem word_any (a b : Int) (w : World) (hL : LB w.heap.size w) (hb0 : -9223372036854775808 ≤ b) (hb1 : b ≤ 9223372036854775807) :
    Calls Tryd.prog 18 #[.agg #[.int .i64 a, .int .i64 b]] w (WdO w) := by
  have h0 := Int.emod_nonneg a (show (12 : Int) ≠ 0 by decide)
  have h1 := Int.emod_lt_of_pos a (show (0 : Int) < 12 by decide)
  obtain ⟨r, hr⟩ := Int.eq_ofNat_of_zero_le h0
  have hr12 : r < 12 := by omega
  by_cases h9 : r = 9
  · subst h9; exact word_int a b w hL hr hb0 hb1
  by_cases h10 : r = 10
  · subst h10; exact word_uint a b w hL hr
  by_cases h11 : r = 11
  · subst h11
    have g0 := Int.emod_nonneg b (show (7 : Int) ≠ 0 by decide)
    have g1 := Int.emod_lt_of_pos b (show (0 : Int) < 7 by decide)
    obtain ⟨j, hj⟩ := Int.eq_ofNat_of_zero_le g0
    have hj7 : j < 7 := by omega
    have : j = 0 ∨ j = 1 ∨ j = 2 ∨ j = 3 ∨ j = 4 ∨ j = 5 ∨ j = 6 := by omega
    rcases this with rfl | rfl | rfl | rfl | rfl | rfl | rfl <;> exact word_text a b _ _ w hL hr hj hj7 rfl rfl
  have : r = 0 ∨ r = 1 ∨ r = 2 ∨ r = 3 ∨ r = 4 ∨ r = 5 ∨ r = 6 ∨ r = 7 ∨ r = 8 := by omega
  rcases this with rfl | rfl | rfl | rfl | rfl | rfl | rfl | rfl | rfl <;> exact word_word a b _ _ _ w hr rfl (by omega) rfl rfl
end Go.Proofs.YtodmlgbomhmbpaaDoor
