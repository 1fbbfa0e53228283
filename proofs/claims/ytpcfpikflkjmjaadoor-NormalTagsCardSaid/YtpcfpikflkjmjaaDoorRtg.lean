/-
  What is proved here: contract of the law's own retagged; conditions: a valid tree of at most 60000 nodes, strings and lists of at most 1000, a number of at most 200000.
-/
import Derived.Test.YtpcfpikflkjmjaaDoorTK
import Derived.Test.YtpcfpikflkjmjaaDoorCopyNode
import Derived.Test.YtpcfpikflkjmjaaDoorRetag
import Derived.Deep.RegionLaw
namespace Go.Proofs.YtpcfpikflkjmjaaDoor
open Go.RowKit Go.Sort

theorem ow_own {w : World} {B n size : Nat} {e : TypeId} {v : Value} {xs : List Value} (h : Ow (fun b => B ≤ b) w e size v n xs) : w.ownsRow B e size v n xs := by
  refine ⟨h.1.1, ?_⟩
  rcases h.1.2 with h0 | ⟨g, cap, cur, e, _, h4⟩
  · exact .inl h0
  · exact .inr ⟨g, cap, cur, e, h.2 g (by rw [e]; rfl), h4⟩
theorem CN.tb {w W : World} {o : Nat} {kk nn uu : Int} {s : ByteArray} {kv v5 kv' : Value} {ks : List ByteArray} (h : CN w o kk nn uu s kv v5 kv' ks [] [] (.slice none 0 0) W) :
    TB w o (.int .i64 kk) (.int .i64 nn) (.int .u64 uu) (.string s) kv v5 (.int .i64 kk) (.int .i64 nn) (.int .u64 uu) (.string s) kv' (.slice none 0 0) kv' (.slice none 0 0) ks [] [] W :=
  ⟨h.bl, Nat.le_trans (by omega) h.ob, h.bt, ⟨_, _, _, _, _, _, h.br⟩, h.bo, ow_own (h.keys.step fun b hb _ => ⟨rfl, hb.1⟩), fun e => (h.keys.2 o e).2.1 rfl, own_nil _ _, by simp [Value.ownBlock], fun g _ => by simp [Value.ownBlock], rfl⟩
theorem tb_leaf {w wr : World} {o : Nat} {v0 v1 v2 v3 v4 v5 o0 o1 o2 o3 o4 o5 kq lq : Value} {ks : List ByteArray} {d : List T} {ys : List Value} (h : TB w o v0 v1 v2 v3 v4 v5 o0 o1 o2 o3 o4 o5 kq lq ks d ys wr) {k n u : Int} {s : ByteArray} (hr : Rng k n u) (hs : s.size ≤ maxLen) :
    Bx (put6 wr (w.heap.size + 1) 0 (.int .i64 k) (.int .i64 n) (.int .u64 u) (.string s) (.slice none 0 0) (.slice none 0 0)) (w.heap.size + 1) (.int .i64 k) (.int .i64 n) (.int .u64 u) (.string s) (.slice none 0 0) (.slice none 0 0) ∧
    NdO (fun b => w.heap.size ≤ b) (put6 wr (w.heap.size + 1) 0 (.int .i64 k) (.int .i64 n) (.int .u64 u) (.string s) (.slice none 0 0) (.slice none 0 0)) (.mk k n u s [] []) [.int .i64 k, .int .i64 n, .int .u64 u, .string s, .slice none 0 0, .slice none 0 0] ∧
    Below w.heap.size w (put6 wr (w.heap.size + 1) 0 (.int .i64 k) (.int .i64 n) (.int .u64 u) (.string s) (.slice none 0 0) (.slice none 0 0)) := by
  obtain ⟨z0, z1, z2, z3, z4, z5, hz⟩ := h.br
  exact ⟨Bx.put6 hz _ _ _ _ _ _, ⟨hr, hs, by simp, .slice none 0 0, .slice none 0 0, [], rfl, Ow.of (World.ownsRow_nil _ _ _ _), Ow.of (own_nil _ _), rfl⟩, put6_below h.bl _ _ _ _ _ _ _ _ (by omega)⟩

set_option maxRecDepth 100000 in
set_option maxHeartbeats 20000000 in
theorem retagged_any (k : Nat) : ∀ (b : Nat) (t : T) (cs : List Value) (w : World), b ≤ 200000 → dp t ≤ k → sz t ≤ 60000 → sm 1000 1000 t → okT t → Nd w t cs →
    Calls Tryd.prog 38 #[.agg cs.toArray, .int .i64 (b : Int)] w fun e w' => (∃ cs', e = .returned (.agg cs'.toArray) ∧ NdO (fun b => w.heap.size ≤ b) w' (rtT b t) cs') ∧ Below w.heap.size w w' := by
  induction k with
  | zero => intro b t cs w _ h; exact absurd h (by have := dp_pos t; omega)
  | succ k ih =>
    rintro b ⟨kk, nn, uu, s, ks, L⟩ cs w hb2 hk hsz hsm hok ⟨hr, hs, kv, A, m, c, rfl, hks, hl, hm, hmm, hL⟩
    simp only [dp] at hk
    simp only [sz] at hsz
    have hmx : m ≤ 60000 := by have := len_le_szL L; omega
    have HSM := Lib.hid hsm
    have HL := Lib.hid hL
    have HLL := Lib.hid hl
    have HOK := Lib.hid hok
    have HI := Lib.hid ih
    have HBN := Lib.hid hb2
    have HFA := Lib.hid (such_facts (ownE_zero.1 hok.1).1)
    obtain ⟨KA, Kn, Kc, rfl, hkv⟩ : ∃ KA Kn Kc, kv = .slice KA Kn Kc ∧ RdS w (.slice KA Kn Kc) ks := by
      obtain ⟨KA, Kn, Kc, rfl, h⟩ := hks
      exact ⟨KA, Kn, Kc, rfl, KA, Kn, Kc, rfl, h⟩
    have hksz := hkv.len
    have hkl := hsm.2.1
    have HT0 : Hid (Two w (.int .i64 kk) (.int .i64 nn) (.int .u64 uu) (.string s) (.slice KA Kn Kc) (.slice A m c) (.int .i64 0) (.int .i64 0) (.int .u64 0) (.string ⟨#[]⟩) (.slice none 0 0) (.slice none 0 0) ((w.alloc (.cells #[.int .i64 kk, .int .i64 nn, .int .u64 uu, .string s, .slice KA Kn Kc, .slice A m c] 26)).alloc (.cells #[.int .i64 0, .int .i64 0, .int .u64 0, .string ⟨#[]⟩, .slice none 0 0, .slice none 0 0] 26))) := Lib.hid (Two.start w _ _ _ _ _ _ _ _ _ _ _ _)
    have HCT : Hid (∀ W, Hid (Two w (.int .i64 kk) (.int .i64 nn) (.int .u64 uu) (.string s) (.slice KA Kn Kc) (.slice A m c) (.int .i64 0) (.int .i64 0) (.int .u64 0) (.string ⟨#[]⟩) (.slice none 0 0) (.slice none 0 0) W) → Calls Tryd.prog 72 #[.slice KA Kn Kc] W fun e w' => (∃ XA Xn Xc, e = .returned (.slice XA Xn Xc) ∧ Hid (Ow (fun b => W.heap.size ≤ b) w' 9 1 (.slice XA Xn Xc) ks.length (ks.map Value.string))) ∧ Hid (Two w (.int .i64 kk) (.int .i64 nn) (.int .u64 uu) (.string s) (.slice KA Kn Kc) (.slice A m c) (.int .i64 0) (.int .i64 0) (.int .u64 0) (.string ⟨#[]⟩) (.slice none 0 0) (.slice none 0 0) w') ∧ Hid (Below W.heap.size W w')) :=
      Lib.hid fun W H => (copyTexts_any ks _ W (hkv.below H.out.1) (by omega)).mono fun e w' h => by
        obtain ⟨⟨v', rfl, ho⟩, hb⟩ := h
        obtain ⟨XA, Xc, rfl⟩ := ho.shape
        exact ⟨⟨XA, _, Xc, rfl, Lib.hid ho⟩, Lib.hid (H.out.below hb), Lib.hid hb⟩
    have hcells : ∀ W, Hid (Two w (.int .i64 kk) (.int .i64 nn) (.int .u64 uu) (.string s) (.slice KA Kn Kc) (.slice A m c) (.int .i64 0) (.int .i64 0) (.int .u64 0) (.string ⟨#[]⟩) (.slice none 0 0) (.slice none 0 0) W) → Hid (Two w (.int .i64 kk) (.int .i64 nn) (.int .u64 uu) (.string s) (.slice KA Kn Kc) (.slice A m c) (.int .i64 0) (.int .i64 0) (.int .u64 0) (.string ⟨#[]⟩) (.slice none 0 0) (.slice none 0 0) W) ∧ W.cell? ⟨w.heap.size, 0, none⟩ = some (.int .i64 kk) ∧ W.cell? ⟨w.heap.size, 1, none⟩ = some (.int .i64 nn) ∧ W.cell? ⟨w.heap.size, 2, none⟩ = some (.int .u64 uu) ∧ W.cell? ⟨w.heap.size, 3, none⟩ = some (.string s) ∧ W.cell? ⟨w.heap.size, 4, none⟩ = some (.slice KA Kn Kc) ∧ W.cell? ⟨w.heap.size, 5, none⟩ = some (.slice A m c) := by
      intro W H
      obtain ⟨c0, c1, c2, c3, c4, c5⟩ := H.out.2.2.1.all
      exact ⟨H, c0, c1, c2, c3, c4, c5⟩
    obtain ⟨_, x0, x1, x2, x3, x4, x5⟩ := hcells _ HT0
    have HT0d := Lib.hid (HT0.out.below (Below.refl _ _).drew)
    have HT0ad := Lib.hid ((HT0.out.below ((Below.refl _ _).alloc (Nat.le_refl _) (.cells #[.int .i64 0, .int .i64 0, .int .u64 0, .string ⟨#[]⟩, .slice none 0 0, .slice none 0 0] 26))).below (Below.refl _ _).drew)
    have HSZ0 : Hid (((w.alloc (.cells #[.int .i64 kk, .int .i64 nn, .int .u64 uu, .string s, .slice KA Kn Kc, .slice A m c] 26)).alloc (.cells #[.int .i64 0, .int .i64 0, .int .u64 0, .string ⟨#[]⟩, .slice none 0 0, .slice none 0 0] 26)).heap.size = w.heap.size + 1 + 1) := Lib.hid (by simp)
    have hset : ∀ (W : World) (o : Nat) (a0 a1 a2 a3 a4 a5 : Value), Hid (Two w (.int .i64 kk) (.int .i64 nn) (.int .u64 uu) (.string s) (.slice KA Kn Kc) (.slice A m c) (.int .i64 0) (.int .i64 0) (.int .u64 0) (.string ⟨#[]⟩) (.slice none 0 0) (.slice none 0 0) W) → Hid (w.heap.size + 2 ≤ o) → Hid (Two w (.int .i64 kk) (.int .i64 nn) (.int .u64 uu) (.string s) (.slice KA Kn Kc) (.slice A m c) (.int .i64 0) (.int .i64 0) (.int .u64 0) (.string ⟨#[]⟩) (.slice none 0 0) (.slice none 0 0) ((((((W.setCell ⟨o, 0, none⟩ a0).setCell ⟨o, 1, none⟩ a1).setCell ⟨o, 2, none⟩ a2).setCell ⟨o, 3, none⟩ a3).setCell ⟨o, 4, none⟩ a4).setCell ⟨o, 5, none⟩ a5)) := fun W o a0 a1 a2 a3 a4 a5 H ho =>
      Lib.hid (put6_two H.out 0 ho.out _ _ _ _ _ _)
    have HL0 : Hid (w.heap.size + 2 ≤ ((w.alloc (.cells #[.int .i64 kk, .int .i64 nn, .int .u64 uu, .string s, .slice KA Kn Kc, .slice A m c] 26)).alloc (.cells #[.int .i64 0, .int .i64 0, .int .u64 0, .string ⟨#[]⟩, .slice none 0 0, .slice none 0 0] 26)).heap.size) := Lib.hid HT0.out.2.1
    have HL1 : Hid (w.heap.size + 2 ≤ w.heap.size + 1 + 1) := Lib.hid (Nat.le_refl _)
    clear hsm hL hok ih hb2
    go_enter Tryd.func38, Tryd.ntmps38
    go_wp2_with fail
    go_region_held3 (fun W => Hid (Two w (.int .i64 kk) (.int .i64 nn) (.int .u64 uu) (.string s) (.slice KA Kn Kc) (.slice A m c) (.int .i64 0) (.int .i64 0) (.int .u64 0) (.string ⟨#[]⟩) (.slice none 0 0) (.slice none 0 0) W) ∧ W.cell? ⟨w.heap.size, 0, none⟩ = some (.int .i64 kk) ∧ W.cell? ⟨w.heap.size, 1, none⟩ = some (.int .i64 nn) ∧ W.cell? ⟨w.heap.size, 2, none⟩ = some (.int .u64 uu) ∧ W.cell? ⟨w.heap.size, 3, none⟩ = some (.string s) ∧ W.cell? ⟨w.heap.size, 4, none⟩ = some (.slice KA Kn Kc) ∧ W.cell? ⟨w.heap.size, 5, none⟩ = some (.slice A m c)) (first | (with_reducible exact hcells _ (by assumption)) | (with_reducible exact hcells _ HT0d) | (with_reducible exact hcells _ (hset _ _ _ _ _ _ _ _ (by assumption) (by first | exact HL1 | exact HL0))) | (with_reducible exact hcells _ (Lib.hid (Two.below (Hid.out (by assumption)) ((Below.refl _ _).alloc (Nat.le_refl _) _)))) | (with_reducible exact hcells _ HT0ad))
      (first
        | (go_at_call 72; (with_reducible refine (HCT.out _ (by first | assumption | exact HT0d | exact HT0ad)).mono ?_); rintro e w4 ⟨⟨XA, Xn, Xc, rfl, HO4⟩, HT4, HB4⟩; first | (have HO5 := Lib.hid (born_eq HSZ0.out HB4.out); obtain ⟨⟨z0, z1, z2, z3, z4, z5⟩, p0, p1, p2, p3, p4, p5⟩ := Bx.both HO5.out) | skip))
    · have HC : Hid (CN w w4.heap.size kk nn uu s (.slice KA Kn Kc) (.slice A m c) (.slice XA Xn Xc) ks [] [] (.slice none 0 0) (w4.alloc (.cells #[.int .i64 kk, .int .i64 nn, .int .u64 uu, .string s, .slice XA Xn Xc, .slice none 0 0] 26))) := Lib.hid (CN.start1 HT4.out HO4.out HL0.out)
      obtain ⟨o, ho⟩ : ∃ o, w4.heap.size = o := ⟨_, rfl⟩
      rw [ho] at HC
      simp only [ho]
      clear ho HO4 HB4 HT4
      obtain ⟨W9, hW9⟩ : ∃ W9, w4.alloc (.cells #[.int .i64 kk, .int .i64 nn, .int .u64 uu, .string s, .slice XA Xn Xc, .slice none 0 0] 26) = W9 := ⟨_, rfl⟩
      rw [hW9]
      rw [hW9] at HC
      clear hW9
      have HTB := Lib.hid (CN.tb HC.out)
      have HO2 : Hid (w.heap.size + 2 ≤ o) := Lib.hid HC.out.ob
      clear hcells hset HT0 HT0d HT0ad HSZ0 HL0 HL1 HCT HC x0 x1 x2 x3 x4 x5
      go_wp2_with fail
      go_loopw [6] (fun vi wr => ∃ (j : Nat) (lq : Value) (ys : List Value), j ≤ m ∧ vi = .int .i64 (j : Int) ∧ Hid (TB w o (.int .i64 kk) (.int .i64 nn) (.int .u64 uu) (.string s) (.slice KA Kn Kc) (.slice A m c) (.int .i64 kk) (.int .i64 nn) (.int .u64 uu) (.string s) (.slice XA Xn Xc) lq (.slice XA Xn Xc) lq ks ((rtL b 0 L).take j) ys wr)) (fun vi _ => m - (intOf vi).toNat)
      case atStart => exact ⟨0, _, _, Nat.zero_le _, rfl, HTB⟩
      case round =>
        obtain ⟨j, lq, ys, hj, rfl, HT⟩ := hrel
        obtain ⟨LA, Lc, hlv⟩ := (Ow.of HT.out.row).shape
        obtain ⟨Ln, hLn⟩ : ∃ Ln, ((rtL b 0 L).take j).length = Ln := ⟨_, rfl⟩
        rw [hLn] at hlv
        subst hlv
        obtain ⟨b0, b1, b2, b3, b4, b5⟩ := HT.out.bt.all
        by_cases hjm : j < m
        · obtain ⟨bb, off, rfl, hbb, hN⟩ := HL.out (by omega)
          obtain ⟨t0, ht0⟩ : ∃ t, L[j]? = some t := ⟨_, List.getElem?_eq_getElem (by rw [HLL.out]; exact hjm)⟩
          have HLN : Hid (Ln = j) := Lib.hid (by rw [← hLn, List.length_take, rtL_len, HLL.out]; omega)
          have ji0 : (0 : Int) ≤ (j : Int) := by omega
          have ji1 : (j : Int) < (m : Int) := by omega
          obtain ⟨q, hq⟩ : ∃ q, b / 2 + j = q := ⟨_, rfl⟩
          obtain ⟨h2, hh2⟩ : ∃ h2, b / 2 = h2 := ⟨_, rfl⟩
          have hb2 := HBN.out
          have r1 : IntKind.i64.wrap ((b : Int).tdiv 2) = (h2 : Int) := by
            rw [Int.tdiv_eq_ediv_of_nonneg (by omega)]
            simp [IntKind.wrap, IntKind.bits, IntKind.signed]; omega
          have r1' : IntKind.i64.wrap ((b : Int) / 2) = (h2 : Int) := by
            simp [IntKind.wrap, IntKind.bits, IntKind.signed]; omega
          have r2 : IntKind.i64.wrap ((h2 : Int) + (j : Int)) = (q : Int) := by
            simp [IntKind.wrap, IntKind.bits, IntKind.signed]; omega
          have HQB : Hid (q ≤ 200000) := Lib.hid (by have := HBN.out; omega)
          have HQ : Hid (L[j]? = some t0 ∧ (rtL b 0 L).take (j + 1) = (rtL b 0 L).take j ++ [rtT q t0]) := Lib.hid ⟨ht0, by
            rw [List.take_add_one, rtL_get, ht0, Nat.zero_add, hq]; rfl⟩
          have HT7 := HT
          clear ht0 hq hh2 hb2
          obtain ⟨z0, z1, z2, z3, z4, z5, hS0, hn0⟩ := hN.six' (Below.refl _ w) hbb HQ.out.1
          obtain ⟨k0, i0, n0, s0, B1, p1, d1, B2, p2, d2, hsh⟩ := hn0.shape
          simp only [List.cons.injEq, and_true] at hsh
          obtain ⟨rfl, rfl, rfl, rfl, rfl, rfl⟩ := hsh
          have HCALL : Hid (∀ W, Hid (TB w o (.int .i64 kk) (.int .i64 nn) (.int .u64 uu) (.string s) (.slice KA Kn Kc) (.slice (some ⟨bb, off, none⟩) m c) (.int .i64 kk) (.int .i64 nn) (.int .u64 uu) (.string s) (.slice XA Xn Xc) (.slice LA Ln Lc) (.slice XA Xn Xc) (.slice LA Ln Lc) ks ((rtL b 0 L).take j) ys W) → Calls Tryd.prog 38 #[.agg #[.int .i64 k0, .int .i64 i0, .int .u64 n0, .string s0, .slice B1 p1 d1, .slice B2 p2 d2], .int .i64 (q : Int)] W fun e w' => ∃ (k' n' u' : Int) (s' : ByteArray) (A1' : Option Addr) (m1' c1' : Nat) (A2' : Option Addr) (m2' c2' : Nat),
              e = .returned (.agg #[.int .i64 k', .int .i64 n', .int .u64 u', .string s', .slice A1' m1' c1', .slice A2' m2' c2']) ∧ Hid (TK w o (.int .i64 kk) (.int .i64 nn) (.int .u64 uu) (.string s) (.slice KA Kn Kc) (.slice (some ⟨bb, off, none⟩) m c) (.int .i64 kk) (.int .i64 nn) (.int .u64 uu) (.string s) (.slice XA Xn Xc) (.slice LA Ln Lc) (.slice XA Xn Xc) (.slice LA Ln Lc) ks ((rtL b 0 L).take j) ys (rtT q t0) [.int .i64 k', .int .i64 n', .int .u64 u', .string s', .slice A1' m1' c1', .slice A2' m2' c2'] w') ∧ Hid (TC w o (.int .i64 kk) (.int .i64 nn) (.int .u64 uu) (.string s) (.slice KA Kn Kc) (.slice (some ⟨bb, off, none⟩) m c) (.int .i64 kk) (.int .i64 nn) (.int .u64 uu) (.string s) (.slice XA Xn Xc) (.slice LA Ln Lc) w')) := Lib.hid fun W H => by
            have hdl := dp_le_of HQ.out.1
            have hsl := sz_le_of HQ.out.1
            have hw2 : w.heap.size + 2 ≤ W.heap.size := by
              obtain ⟨_, _, _, _, _, _, h1⟩ := H.out.br
              have := Blk.lt h1
              omega
            refine (HI.out q t0 _ W HQB.out (by omega) (by omega) (smL_at HSM.out.2.2.2 HQ.out.1) (okL_mem.1 HOK.out.2 t0 (List.mem_of_getElem? HQ.out.1)) (hn0.bel H.out.bl)).mono ?_
            rintro e w' ⟨⟨cs', rfl, h1⟩, h2⟩
            obtain ⟨k', n', u', s', A1', m1', c1', A2', m2', c2', rfl⟩ := h1.shape6
            exact ⟨k', n', u', s', A1', m1', c1', A2', m2', c2', rfl, Lib.hid (H.out.kidat hw2 h2 h1), Lib.hid (H.out.kidat hw2 h2 h1).tb.tc⟩
          obtain ⟨a0, a1, a2, a3, a4, a5⟩ := hS0.below (HT7.out.bl.trans ((Below.refl _ _).drew.mono HT7.out.bl.size) : Below w.heap.size w wr.drew) hbb
          have HT7d : Hid (TB w o (.int .i64 kk) (.int .i64 nn) (.int .u64 uu) (.string s) (.slice KA Kn Kc) (.slice (some ⟨bb, off, none⟩) m c) (.int .i64 kk) (.int .i64 nn) (.int .u64 uu) (.string s) (.slice XA Xn Xc) (.slice LA Ln Lc) (.slice XA Xn Xc) (.slice LA Ln Lc) ks ((rtL b 0 L).take j) ys wr.drew) := Lib.hid (HT7.out.below (Below.refl _ _).drew)
          obtain ⟨_, _, _, _, g4, g5⟩ := HT7d.out.bt.all
          obtain ⟨_, _, _, _, l4, l5⟩ := HT7d.out.bo.all
          clear hS0 hn0
          go_wp2_with fail
          go_region_law (first
            | (refine step_kid (kq := .slice XA Xn Xc) (lq := .slice LA Ln Lc) (t := rtT q t0) rfl _ _ rfl rfl rfl (H8.out.below (al0 w8 _)) (Blk.new w8 _ _) (by rw [hLn]; have := HLN.out; omega) ?_; intro YA Yn Yc w9 HT9 HTC9; obtain ⟨⟨y0, y1, y2, y3, y4, y5⟩, f0, f1, f2, f3, f4, f5⟩ := Bx.both HTC9.out.bo)
            | (go_simp; go_at_call 38; (with_reducible refine (HCALL.out _ HT7d).mono ?_); rintro e w8 ⟨k', n', u', s', A1', m1', c1', A2', m2', c2', rfl, H8, HC8⟩; obtain ⟨_, _, _, _, o4, o5⟩ := HC8.out.bo.all; have o5b : (w8.alloc (.cells #[.int .i64 k', .int .i64 n', .int .u64 u', .string s', .slice A1' m1' c1', .slice A2' m2' c2'] 26)).cell? ⟨o, 5, none⟩ = some (.slice LA Ln Lc) := by (obtain ⟨_, _, _, _, _, h⟩ := (HC8.out.below (al0 w8 (.cells #[.int .i64 k', .int .i64 n', .int .u64 u', .string s', .slice A1' m1' c1', .slice A2' m2' c2'] 26))).bo.all; exact h)))
          all_goals
            have HT10 := Lib.hid (HT9.out.set5 HO2.out (.slice YA Yn Yc))
            clear HT9 HTC9 y0 y1 y2 y3 y4 y5 f0 f1 f2 f3 f4 f5
            go_wp2_with fail
            go_roundw
            case rel => exact ⟨j + 1, _, _, by omega, by simp, by rw [HQ.out.2]; exact HT10⟩
            case measure => simp [intOf]; omega
        · obtain rfl : j = m := by omega
          have hT := HT.out
          rw [List.take_of_length_le (by rw [rtL_len, HLL.out]; exact Nat.le_refl _)] at hT
          obtain ⟨⟨o0, o1, o2, o3, o4, o5⟩, f0, f1, f2, f3, f4, f5⟩ := Bx.both HT.out.bo
          obtain ⟨z0, z1, z2, z3, z4, z5, hz⟩ := HT.out.br
          obtain ⟨⟨p0, p1, p2, p3, p4, p5⟩, e0, e1, e2, e3, e4, e5⟩ := Bx.both hz
          have hne1 : ¬ o = w.heap.size + 1 := by have := HO2.out; omega
          have hne2 : ¬ w.heap.size + 1 = o := by omega
          have HFT := Lib.hid hT
          have hks17 : kk = 1 ∨ kk = 2 ∨ kk = 3 ∨ kk = 4 ∨ kk = 5 ∨ kk = 6 ∨ kk = 7 ∨ kk = 8 ∨ kk = 9 ∨ kk = 10 ∨ kk = 11 ∨ kk = 12 ∨ kk = 13 ∨ kk = 14 ∨ kk = 15 ∨ kk = 16 ∨ kk = 17 := by have h1 := HFA.out.1; have h2 := HFA.out.2.1; omega
          obtain ⟨hr1, hr2, hr3, hr4, hr5, hr6⟩ := id hr
          obtain ⟨h3m, hm3⟩ : ∃ h3m, b % 3 = h3m := ⟨_, rfl⟩
          have hm3' : h3m = 0 ∨ h3m = 1 ∨ h3m = 2 := by omega
          obtain ⟨h2m, hm2⟩ : ∃ h2m, b % 2 = h2m := ⟨_, rfl⟩
          have hm2' : h2m = 0 ∨ h2m = 1 := by omega
          have t3 : (b : Int).tmod 3 = (h3m : Int) := by rw [Int.tmod_eq_emod_of_nonneg (by omega)]; omega
          have t3' : (b : Int) % 3 = (h3m : Int) := by omega
          have t2 : (b : Int).tmod 2 = (h2m : Int) := by rw [Int.tmod_eq_emod_of_nonneg (by omega)]; omega
          have t2' : (b : Int) % 2 = (h2m : Int) := by omega
          clear hT hz HI HT
          rcases hks17 with rfl | rfl | rfl | rfl | rfl | rfl | rfl | rfl | rfl | rfl | rfl | rfl | rfl | rfl | rfl | rfl | rfl
          · have HE : Hid (rtT b (.mk 1 nn uu s ks L) = .mk 1 nn uu s ks (rtL b 0 L)) := Lib.hid (by unfold rtT; rw [if_neg (by omega), if_neg (by omega), if_neg (by omega), if_neg (by omega), if_neg (by omega)])
            have HF := Lib.hid (HFT.out.fin hr hs hksz)
            go_wp2_with fail
            refine ret_six (p := 4) (g := w.heap.size + 1) rfl rfl HF.out.1 rfl ⟨⟨_, rfl, by rw [HE.out]; exact HF.out.2.1⟩, HF.out.2.2⟩
          · have HE : Hid (rtT b (.mk 2 nn uu s ks L) = .mk 2 nn uu s ks (rtL b 0 L)) := Lib.hid (by unfold rtT; rw [if_neg (by omega), if_neg (by omega), if_neg (by omega), if_neg (by omega), if_neg (by omega)])
            have HF := Lib.hid (HFT.out.fin hr hs hksz)
            go_wp2_with fail
            refine ret_six (p := 4) (g := w.heap.size + 1) rfl rfl HF.out.1 rfl ⟨⟨_, rfl, by rw [HE.out]; exact HF.out.2.1⟩, HF.out.2.2⟩
          · rcases hm3' with rfl | rfl | rfl
            · have HE : Hid (rtT b (.mk 3 nn uu s ks L) = .mk 3 nn uu s ks (rtL b 0 L)) := Lib.hid (by unfold rtT; rw [if_neg (by omega), if_neg (by omega), if_neg (by omega), if_neg (by omega), if_neg (by omega)])
              have HF := Lib.hid (HFT.out.fin hr hs hksz)
              go_wp2_with fail
              refine ret_six (p := 4) (g := w.heap.size + 1) rfl rfl HF.out.1 rfl ⟨⟨_, rfl, by rw [HE.out]; exact HF.out.2.1⟩, HF.out.2.2⟩
            · by_cases hn : 0 ≤ nn
              · have hw : IntKind.u64.wrap nn = nn := by simp [IntKind.wrap, IntKind.bits, IntKind.signed]; omega
                have hge : decide (0 ≤ nn) = true := by simpa using hn
                have HE : Hid (rtT b (.mk 3 nn uu s ks L) = .mk 4 0 nn ⟨#[]⟩ [] []) := Lib.hid (by unfold rtT; rw [if_pos (by omega)]; try rfl)
                have HF := Lib.hid (tb_leaf (k := 4) (n := 0) (u := nn) (s := ⟨#[]⟩) HFT.out ⟨by omega, by omega, by omega, by omega, by omega, by omega⟩ (by decide))
                go_wp2_with fail
                refine ret_six (p := 4) (g := w.heap.size + 1) rfl rfl HF.out.1 rfl ⟨⟨_, rfl, by rw [HE.out]; exact HF.out.2.1⟩, HF.out.2.2⟩
              · have hge : decide (0 ≤ nn) = false := by simpa using hn
                have HE : Hid (rtT b (.mk 3 nn uu s ks L) = .mk 3 nn uu s ks (rtL b 0 L)) := Lib.hid (by unfold rtT; rw [if_neg (by omega), if_neg (by omega), if_neg (by omega), if_neg (by omega), if_neg (by omega)])
                have HF := Lib.hid (HFT.out.fin hr hs hksz)
                go_wp2_with fail
                refine ret_six (p := 4) (g := w.heap.size + 1) rfl rfl HF.out.1 rfl ⟨⟨_, rfl, by rw [HE.out]; exact HF.out.2.1⟩, HF.out.2.2⟩
            · have HE : Hid (rtT b (.mk 3 nn uu s ks L) = .mk 8 nn 0 ⟨#[]⟩ [] []) := Lib.hid (by unfold rtT; rw [if_neg (by omega), if_pos (by omega)]; try rfl)
              have HF := Lib.hid (tb_leaf (k := 8) (n := nn) (u := 0) (s := ⟨#[]⟩) HFT.out ⟨by omega, by omega, by omega, by omega, by omega, by omega⟩ (by decide))
              go_wp2_with fail
              refine ret_six (p := 4) (g := w.heap.size + 1) rfl rfl HF.out.1 rfl ⟨⟨_, rfl, by rw [HE.out]; exact HF.out.2.1⟩, HF.out.2.2⟩
          · rcases hm3' with rfl | rfl | rfl
            · have HE : Hid (rtT b (.mk 4 nn uu s ks L) = .mk 4 nn uu s ks (rtL b 0 L)) := Lib.hid (by unfold rtT; rw [if_neg (by omega), if_neg (by omega), if_neg (by omega), if_neg (by omega), if_neg (by omega)])
              have HF := Lib.hid (HFT.out.fin hr hs hksz)
              go_wp2_with fail
              refine ret_six (p := 4) (g := w.heap.size + 1) rfl rfl HF.out.1 rfl ⟨⟨_, rfl, by rw [HE.out]; exact HF.out.2.1⟩, HF.out.2.2⟩
            · have HE : Hid (rtT b (.mk 4 nn uu s ks L) = .mk 9 0 uu ⟨#[]⟩ [] []) := Lib.hid (by unfold rtT; rw [if_neg (by omega), if_neg (by omega), if_pos (by omega)]; try rfl)
              have HF := Lib.hid (tb_leaf (k := 9) (n := 0) (u := uu) (s := ⟨#[]⟩) HFT.out ⟨by omega, by omega, by omega, by omega, by omega, by omega⟩ (by decide))
              go_wp2_with fail
              refine ret_six (p := 4) (g := w.heap.size + 1) rfl rfl HF.out.1 rfl ⟨⟨_, rfl, by rw [HE.out]; exact HF.out.2.1⟩, HF.out.2.2⟩
            · have HE : Hid (rtT b (.mk 4 nn uu s ks L) = .mk 4 nn uu s ks (rtL b 0 L)) := Lib.hid (by unfold rtT; rw [if_neg (by omega), if_neg (by omega), if_neg (by omega), if_neg (by omega), if_neg (by omega)])
              have HF := Lib.hid (HFT.out.fin hr hs hksz)
              go_wp2_with fail
              refine ret_six (p := 4) (g := w.heap.size + 1) rfl rfl HF.out.1 rfl ⟨⟨_, rfl, by rw [HE.out]; exact HF.out.2.1⟩, HF.out.2.2⟩
          · rcases hm2' with rfl | rfl
            · have HE : Hid (rtT b (.mk 5 nn uu s ks L) = .mk 6 0 0 s [] []) := Lib.hid (by unfold rtT; rw [if_neg (by omega), if_neg (by omega), if_neg (by omega), if_pos (by omega)]; try rfl)
              have HF := Lib.hid (tb_leaf (k := 6) (n := 0) (u := 0) (s := s) HFT.out ⟨by omega, by omega, by omega, by omega, by omega, by omega⟩ hs)
              go_wp2_with fail
              refine ret_six (p := 4) (g := w.heap.size + 1) rfl rfl HF.out.1 rfl ⟨⟨_, rfl, by rw [HE.out]; exact HF.out.2.1⟩, HF.out.2.2⟩
            · have HE : Hid (rtT b (.mk 5 nn uu s ks L) = .mk 5 nn uu s ks (rtL b 0 L)) := Lib.hid (by unfold rtT; rw [if_neg (by omega), if_neg (by omega), if_neg (by omega), if_neg (by omega), if_neg (by omega)])
              have HF := Lib.hid (HFT.out.fin hr hs hksz)
              go_wp2_with fail
              refine ret_six (p := 4) (g := w.heap.size + 1) rfl rfl HF.out.1 rfl ⟨⟨_, rfl, by rw [HE.out]; exact HF.out.2.1⟩, HF.out.2.2⟩
          · have HE : Hid (rtT b (.mk 6 nn uu s ks L) = .mk 6 nn uu s ks (rtL b 0 L)) := Lib.hid (by unfold rtT; rw [if_neg (by omega), if_neg (by omega), if_neg (by omega), if_neg (by omega), if_neg (by omega)])
            have HF := Lib.hid (HFT.out.fin hr hs hksz)
            go_wp2_with fail
            refine ret_six (p := 4) (g := w.heap.size + 1) rfl rfl HF.out.1 rfl ⟨⟨_, rfl, by rw [HE.out]; exact HF.out.2.1⟩, HF.out.2.2⟩
          · have HE : Hid (rtT b (.mk 7 nn uu s ks L) = .mk 7 nn uu s ks (rtL b 0 L)) := Lib.hid (by unfold rtT; rw [if_neg (by omega), if_neg (by omega), if_neg (by omega), if_neg (by omega), if_neg (by omega)])
            have HF := Lib.hid (HFT.out.fin hr hs hksz)
            go_wp2_with fail
            refine ret_six (p := 4) (g := w.heap.size + 1) rfl rfl HF.out.1 rfl ⟨⟨_, rfl, by rw [HE.out]; exact HF.out.2.1⟩, HF.out.2.2⟩
          · rcases hm3' with rfl | rfl | rfl
            · have HE : Hid (rtT b (.mk 8 nn uu s ks L) = .mk 8 nn uu s ks (rtL b 0 L)) := Lib.hid (by unfold rtT; rw [if_neg (by omega), if_neg (by omega), if_neg (by omega), if_neg (by omega), if_neg (by omega)])
              have HF := Lib.hid (HFT.out.fin hr hs hksz)
              go_wp2_with fail
              refine ret_six (p := 4) (g := w.heap.size + 1) rfl rfl HF.out.1 rfl ⟨⟨_, rfl, by rw [HE.out]; exact HF.out.2.1⟩, HF.out.2.2⟩
            · by_cases hn : 0 ≤ nn
              · have hw : IntKind.u64.wrap nn = nn := by simp [IntKind.wrap, IntKind.bits, IntKind.signed]; omega
                have hge : decide (0 ≤ nn) = true := by simpa using hn
                have HE : Hid (rtT b (.mk 8 nn uu s ks L) = .mk 4 0 nn ⟨#[]⟩ [] []) := Lib.hid (by unfold rtT; rw [if_pos (by omega)]; try rfl)
                have HF := Lib.hid (tb_leaf (k := 4) (n := 0) (u := nn) (s := ⟨#[]⟩) HFT.out ⟨by omega, by omega, by omega, by omega, by omega, by omega⟩ (by decide))
                go_wp2_with fail
                refine ret_six (p := 4) (g := w.heap.size + 1) rfl rfl HF.out.1 rfl ⟨⟨_, rfl, by rw [HE.out]; exact HF.out.2.1⟩, HF.out.2.2⟩
              · have hge : decide (0 ≤ nn) = false := by simpa using hn
                have HE : Hid (rtT b (.mk 8 nn uu s ks L) = .mk 8 nn uu s ks (rtL b 0 L)) := Lib.hid (by unfold rtT; rw [if_neg (by omega), if_neg (by omega), if_neg (by omega), if_neg (by omega), if_neg (by omega)])
                have HF := Lib.hid (HFT.out.fin hr hs hksz)
                go_wp2_with fail
                refine ret_six (p := 4) (g := w.heap.size + 1) rfl rfl HF.out.1 rfl ⟨⟨_, rfl, by rw [HE.out]; exact HF.out.2.1⟩, HF.out.2.2⟩
            · have HE : Hid (rtT b (.mk 8 nn uu s ks L) = .mk 8 nn uu s ks (rtL b 0 L)) := Lib.hid (by unfold rtT; rw [if_neg (by omega), if_neg (by omega), if_neg (by omega), if_neg (by omega), if_neg (by omega)])
              have HF := Lib.hid (HFT.out.fin hr hs hksz)
              go_wp2_with fail
              refine ret_six (p := 4) (g := w.heap.size + 1) rfl rfl HF.out.1 rfl ⟨⟨_, rfl, by rw [HE.out]; exact HF.out.2.1⟩, HF.out.2.2⟩
          · have HE : Hid (rtT b (.mk 9 nn uu s ks L) = .mk 9 nn uu s ks (rtL b 0 L)) := Lib.hid (by unfold rtT; rw [if_neg (by omega), if_neg (by omega), if_neg (by omega), if_neg (by omega), if_neg (by omega)])
            have HF := Lib.hid (HFT.out.fin hr hs hksz)
            go_wp2_with fail
            refine ret_six (p := 4) (g := w.heap.size + 1) rfl rfl HF.out.1 rfl ⟨⟨_, rfl, by rw [HE.out]; exact HF.out.2.1⟩, HF.out.2.2⟩
          · have HE : Hid (rtT b (.mk 10 nn uu s ks L) = .mk 10 nn uu s ks (rtL b 0 L)) := Lib.hid (by unfold rtT; rw [if_neg (by omega), if_neg (by omega), if_neg (by omega), if_neg (by omega), if_neg (by omega)])
            have HF := Lib.hid (HFT.out.fin hr hs hksz)
            go_wp2_with fail
            refine ret_six (p := 4) (g := w.heap.size + 1) rfl rfl HF.out.1 rfl ⟨⟨_, rfl, by rw [HE.out]; exact HF.out.2.1⟩, HF.out.2.2⟩
          · have HE : Hid (rtT b (.mk 11 nn uu s ks L) = .mk 10 nn uu s ks (rtL b 0 L)) := Lib.hid (by rw [rt_hi (by omega), if_pos (by omega)])
            have HF := Lib.hid ((HFT.out.set0 HO2.out (.int .i64 10)).fin (k := 10) (n := nn) (u := uu) ⟨by omega, by omega, by omega, by omega, by omega, by omega⟩ hs hksz)
            go_wp2_with fail
            refine ret_six (p := 4) (g := w.heap.size + 1) rfl rfl HF.out.1 rfl ⟨⟨_, rfl, by rw [HE.out]; exact HF.out.2.1⟩, HF.out.2.2⟩
          · have HE : Hid (rtT b (.mk 12 nn uu s ks L) = .mk 10 nn uu s ks (rtL b 0 L)) := Lib.hid (by rw [rt_hi (by omega), if_pos (by omega)])
            have HF := Lib.hid ((HFT.out.set0 HO2.out (.int .i64 10)).fin (k := 10) (n := nn) (u := uu) ⟨by omega, by omega, by omega, by omega, by omega, by omega⟩ hs hksz)
            go_wp2_with fail
            refine ret_six (p := 4) (g := w.heap.size + 1) rfl rfl HF.out.1 rfl ⟨⟨_, rfl, by rw [HE.out]; exact HF.out.2.1⟩, HF.out.2.2⟩
          · have HE : Hid (rtT b (.mk 13 nn uu s ks L) = .mk 10 nn uu s ks (rtL b 0 L)) := Lib.hid (by rw [rt_hi (by omega), if_pos (by omega)])
            have HF := Lib.hid ((HFT.out.set0 HO2.out (.int .i64 10)).fin (k := 10) (n := nn) (u := uu) ⟨by omega, by omega, by omega, by omega, by omega, by omega⟩ hs hksz)
            go_wp2_with fail
            refine ret_six (p := 4) (g := w.heap.size + 1) rfl rfl HF.out.1 rfl ⟨⟨_, rfl, by rw [HE.out]; exact HF.out.2.1⟩, HF.out.2.2⟩
          · have HE : Hid (rtT b (.mk 14 nn uu s ks L) = .mk 10 nn uu s ks (rtL b 0 L)) := Lib.hid (by rw [rt_hi (by omega), if_pos (by omega)])
            have HF := Lib.hid ((HFT.out.set0 HO2.out (.int .i64 10)).fin (k := 10) (n := nn) (u := uu) ⟨by omega, by omega, by omega, by omega, by omega, by omega⟩ hs hksz)
            go_wp2_with fail
            refine ret_six (p := 4) (g := w.heap.size + 1) rfl rfl HF.out.1 rfl ⟨⟨_, rfl, by rw [HE.out]; exact HF.out.2.1⟩, HF.out.2.2⟩
          · have HE : Hid (rtT b (.mk 15 nn uu s ks L) = .mk 10 nn uu s ks (rtL b 0 L)) := Lib.hid (by rw [rt_hi (by omega), if_pos (by omega)])
            have HF := Lib.hid ((HFT.out.set0 HO2.out (.int .i64 10)).fin (k := 10) (n := nn) (u := uu) ⟨by omega, by omega, by omega, by omega, by omega, by omega⟩ hs hksz)
            go_wp2_with fail
            refine ret_six (p := 4) (g := w.heap.size + 1) rfl rfl HF.out.1 rfl ⟨⟨_, rfl, by rw [HE.out]; exact HF.out.2.1⟩, HF.out.2.2⟩
          · have HE : Hid (rtT b (.mk 16 nn uu s ks L) = .mk 10 nn uu s ks (rtL b 0 L)) := Lib.hid (by rw [rt_hi (by omega), if_pos (by omega)])
            have HF := Lib.hid ((HFT.out.set0 HO2.out (.int .i64 10)).fin (k := 10) (n := nn) (u := uu) ⟨by omega, by omega, by omega, by omega, by omega, by omega⟩ hs hksz)
            go_wp2_with fail
            refine ret_six (p := 4) (g := w.heap.size + 1) rfl rfl HF.out.1 rfl ⟨⟨_, rfl, by rw [HE.out]; exact HF.out.2.1⟩, HF.out.2.2⟩
          · have HE : Hid (rtT b (.mk 17 nn uu s ks L) = .mk 17 nn uu s ks (rtL b 0 L)) := Lib.hid (by unfold rtT; rw [if_neg (by omega), if_neg (by omega), if_neg (by omega), if_neg (by omega), if_neg (by omega)])
            have HF := Lib.hid (HFT.out.fin hr hs hksz)
            go_wp2_with fail
            refine ret_six (p := 4) (g := w.heap.size + 1) rfl rfl HF.out.1 rfl ⟨⟨_, rfl, by rw [HE.out]; exact HF.out.2.1⟩, HF.out.2.2⟩
    · have HC : Hid (CN w (w.heap.size + 1 + 1) kk nn uu s (.slice KA Kn Kc) (.slice A m c) (.slice XA Xn Xc) ks [] [] (.slice none 0 0) ((((((w4.setCell ⟨w.heap.size + 1 + 1, 0, none⟩ (.int .i64 kk)).setCell ⟨w.heap.size + 1 + 1, 1, none⟩ (.int .i64 nn)).setCell ⟨w.heap.size + 1 + 1, 2, none⟩ (.int .u64 uu)).setCell ⟨w.heap.size + 1 + 1, 3, none⟩ (.string s)).setCell ⟨w.heap.size + 1 + 1, 4, none⟩ (.slice XA Xn Xc)).setCell ⟨w.heap.size + 1 + 1, 5, none⟩ (.slice none 0 0))) := Lib.hid (CN.start2 HT4.out HO5.out HL1.out HO4.out (by simp))
      obtain ⟨o, ho⟩ : ∃ o, w.heap.size + 1 + 1 = o := ⟨_, rfl⟩
      rw [ho] at HC
      simp only [ho]
      clear ho HO4 HB4 HT4 HO5 p0 p1 p2 p3 p4 p5 z0 z1 z2 z3 z4 z5
      obtain ⟨W9, hW9⟩ : ∃ W9, ((((((w4.setCell ⟨o, 0, none⟩ (.int .i64 kk)).setCell ⟨o, 1, none⟩ (.int .i64 nn)).setCell ⟨o, 2, none⟩ (.int .u64 uu)).setCell ⟨o, 3, none⟩ (.string s)).setCell ⟨o, 4, none⟩ (.slice XA Xn Xc)).setCell ⟨o, 5, none⟩ (.slice none 0 0)) = W9 := ⟨_, rfl⟩
      rw [hW9]
      rw [hW9] at HC
      clear hW9
      have HTB := Lib.hid (CN.tb HC.out)
      have HO2 : Hid (w.heap.size + 2 ≤ o) := Lib.hid HC.out.ob
      clear hcells hset HT0 HT0d HT0ad HSZ0 HL0 HL1 HCT HC x0 x1 x2 x3 x4 x5
      go_wp2_with fail
      go_loopw [6] (fun vi wr => ∃ (j : Nat) (lq : Value) (ys : List Value), j ≤ m ∧ vi = .int .i64 (j : Int) ∧ Hid (TB w o (.int .i64 kk) (.int .i64 nn) (.int .u64 uu) (.string s) (.slice KA Kn Kc) (.slice A m c) (.int .i64 kk) (.int .i64 nn) (.int .u64 uu) (.string s) (.slice XA Xn Xc) lq (.slice XA Xn Xc) lq ks ((rtL b 0 L).take j) ys wr)) (fun vi _ => m - (intOf vi).toNat)
      case atStart => exact ⟨0, _, _, Nat.zero_le _, rfl, HTB⟩
      case round =>
        obtain ⟨j, lq, ys, hj, rfl, HT⟩ := hrel
        obtain ⟨LA, Lc, hlv⟩ := (Ow.of HT.out.row).shape
        obtain ⟨Ln, hLn⟩ : ∃ Ln, ((rtL b 0 L).take j).length = Ln := ⟨_, rfl⟩
        rw [hLn] at hlv
        subst hlv
        obtain ⟨b0, b1, b2, b3, b4, b5⟩ := HT.out.bt.all
        by_cases hjm : j < m
        · obtain ⟨bb, off, rfl, hbb, hN⟩ := HL.out (by omega)
          obtain ⟨t0, ht0⟩ : ∃ t, L[j]? = some t := ⟨_, List.getElem?_eq_getElem (by rw [HLL.out]; exact hjm)⟩
          have HLN : Hid (Ln = j) := Lib.hid (by rw [← hLn, List.length_take, rtL_len, HLL.out]; omega)
          have ji0 : (0 : Int) ≤ (j : Int) := by omega
          have ji1 : (j : Int) < (m : Int) := by omega
          obtain ⟨q, hq⟩ : ∃ q, b / 2 + j = q := ⟨_, rfl⟩
          obtain ⟨h2, hh2⟩ : ∃ h2, b / 2 = h2 := ⟨_, rfl⟩
          have hb2 := HBN.out
          have r1 : IntKind.i64.wrap ((b : Int).tdiv 2) = (h2 : Int) := by
            rw [Int.tdiv_eq_ediv_of_nonneg (by omega)]
            simp [IntKind.wrap, IntKind.bits, IntKind.signed]; omega
          have r1' : IntKind.i64.wrap ((b : Int) / 2) = (h2 : Int) := by
            simp [IntKind.wrap, IntKind.bits, IntKind.signed]; omega
          have r2 : IntKind.i64.wrap ((h2 : Int) + (j : Int)) = (q : Int) := by
            simp [IntKind.wrap, IntKind.bits, IntKind.signed]; omega
          have HQB : Hid (q ≤ 200000) := Lib.hid (by have := HBN.out; omega)
          have HQ : Hid (L[j]? = some t0 ∧ (rtL b 0 L).take (j + 1) = (rtL b 0 L).take j ++ [rtT q t0]) := Lib.hid ⟨ht0, by
            rw [List.take_add_one, rtL_get, ht0, Nat.zero_add, hq]; rfl⟩
          have HT7 := HT
          clear ht0 hq hh2 hb2
          obtain ⟨z0, z1, z2, z3, z4, z5, hS0, hn0⟩ := hN.six' (Below.refl _ w) hbb HQ.out.1
          obtain ⟨k0, i0, n0, s0, B1, p1, d1, B2, p2, d2, hsh⟩ := hn0.shape
          simp only [List.cons.injEq, and_true] at hsh
          obtain ⟨rfl, rfl, rfl, rfl, rfl, rfl⟩ := hsh
          have HCALL : Hid (∀ W, Hid (TB w o (.int .i64 kk) (.int .i64 nn) (.int .u64 uu) (.string s) (.slice KA Kn Kc) (.slice (some ⟨bb, off, none⟩) m c) (.int .i64 kk) (.int .i64 nn) (.int .u64 uu) (.string s) (.slice XA Xn Xc) (.slice LA Ln Lc) (.slice XA Xn Xc) (.slice LA Ln Lc) ks ((rtL b 0 L).take j) ys W) → Calls Tryd.prog 38 #[.agg #[.int .i64 k0, .int .i64 i0, .int .u64 n0, .string s0, .slice B1 p1 d1, .slice B2 p2 d2], .int .i64 (q : Int)] W fun e w' => ∃ (k' n' u' : Int) (s' : ByteArray) (A1' : Option Addr) (m1' c1' : Nat) (A2' : Option Addr) (m2' c2' : Nat),
              e = .returned (.agg #[.int .i64 k', .int .i64 n', .int .u64 u', .string s', .slice A1' m1' c1', .slice A2' m2' c2']) ∧ Hid (TK w o (.int .i64 kk) (.int .i64 nn) (.int .u64 uu) (.string s) (.slice KA Kn Kc) (.slice (some ⟨bb, off, none⟩) m c) (.int .i64 kk) (.int .i64 nn) (.int .u64 uu) (.string s) (.slice XA Xn Xc) (.slice LA Ln Lc) (.slice XA Xn Xc) (.slice LA Ln Lc) ks ((rtL b 0 L).take j) ys (rtT q t0) [.int .i64 k', .int .i64 n', .int .u64 u', .string s', .slice A1' m1' c1', .slice A2' m2' c2'] w') ∧ Hid (TC w o (.int .i64 kk) (.int .i64 nn) (.int .u64 uu) (.string s) (.slice KA Kn Kc) (.slice (some ⟨bb, off, none⟩) m c) (.int .i64 kk) (.int .i64 nn) (.int .u64 uu) (.string s) (.slice XA Xn Xc) (.slice LA Ln Lc) w')) := Lib.hid fun W H => by
            have hdl := dp_le_of HQ.out.1
            have hsl := sz_le_of HQ.out.1
            have hw2 : w.heap.size + 2 ≤ W.heap.size := by
              obtain ⟨_, _, _, _, _, _, h1⟩ := H.out.br
              have := Blk.lt h1
              omega
            refine (HI.out q t0 _ W HQB.out (by omega) (by omega) (smL_at HSM.out.2.2.2 HQ.out.1) (okL_mem.1 HOK.out.2 t0 (List.mem_of_getElem? HQ.out.1)) (hn0.bel H.out.bl)).mono ?_
            rintro e w' ⟨⟨cs', rfl, h1⟩, h2⟩
            obtain ⟨k', n', u', s', A1', m1', c1', A2', m2', c2', rfl⟩ := h1.shape6
            exact ⟨k', n', u', s', A1', m1', c1', A2', m2', c2', rfl, Lib.hid (H.out.kidat hw2 h2 h1), Lib.hid (H.out.kidat hw2 h2 h1).tb.tc⟩
          obtain ⟨a0, a1, a2, a3, a4, a5⟩ := hS0.below (HT7.out.bl.trans ((Below.refl _ _).drew.mono HT7.out.bl.size) : Below w.heap.size w wr.drew) hbb
          have HT7d : Hid (TB w o (.int .i64 kk) (.int .i64 nn) (.int .u64 uu) (.string s) (.slice KA Kn Kc) (.slice (some ⟨bb, off, none⟩) m c) (.int .i64 kk) (.int .i64 nn) (.int .u64 uu) (.string s) (.slice XA Xn Xc) (.slice LA Ln Lc) (.slice XA Xn Xc) (.slice LA Ln Lc) ks ((rtL b 0 L).take j) ys wr.drew) := Lib.hid (HT7.out.below (Below.refl _ _).drew)
          obtain ⟨_, _, _, _, g4, g5⟩ := HT7d.out.bt.all
          obtain ⟨_, _, _, _, l4, l5⟩ := HT7d.out.bo.all
          clear hS0 hn0
          go_wp2_with fail
          go_region_law (first
            | (refine step_kid (kq := .slice XA Xn Xc) (lq := .slice LA Ln Lc) (t := rtT q t0) rfl _ _ rfl rfl rfl (H8.out.below (al0 w8 _)) (Blk.new w8 _ _) (by rw [hLn]; have := HLN.out; omega) ?_; intro YA Yn Yc w9 HT9 HTC9; obtain ⟨⟨y0, y1, y2, y3, y4, y5⟩, f0, f1, f2, f3, f4, f5⟩ := Bx.both HTC9.out.bo)
            | (go_simp; go_at_call 38; (with_reducible refine (HCALL.out _ HT7d).mono ?_); rintro e w8 ⟨k', n', u', s', A1', m1', c1', A2', m2', c2', rfl, H8, HC8⟩; obtain ⟨_, _, _, _, o4, o5⟩ := HC8.out.bo.all; have o5b : (w8.alloc (.cells #[.int .i64 k', .int .i64 n', .int .u64 u', .string s', .slice A1' m1' c1', .slice A2' m2' c2'] 26)).cell? ⟨o, 5, none⟩ = some (.slice LA Ln Lc) := by (obtain ⟨_, _, _, _, _, h⟩ := (HC8.out.below (al0 w8 (.cells #[.int .i64 k', .int .i64 n', .int .u64 u', .string s', .slice A1' m1' c1', .slice A2' m2' c2'] 26))).bo.all; exact h)))
          all_goals
            have HT10 := Lib.hid (HT9.out.set5 HO2.out (.slice YA Yn Yc))
            clear HT9 HTC9 y0 y1 y2 y3 y4 y5 f0 f1 f2 f3 f4 f5
            go_wp2_with fail
            go_roundw
            case rel => exact ⟨j + 1, _, _, by omega, by simp, by rw [HQ.out.2]; exact HT10⟩
            case measure => simp [intOf]; omega
        · obtain rfl : j = m := by omega
          have hT := HT.out
          rw [List.take_of_length_le (by rw [rtL_len, HLL.out]; exact Nat.le_refl _)] at hT
          obtain ⟨⟨o0, o1, o2, o3, o4, o5⟩, f0, f1, f2, f3, f4, f5⟩ := Bx.both HT.out.bo
          obtain ⟨z0, z1, z2, z3, z4, z5, hz⟩ := HT.out.br
          obtain ⟨⟨p0, p1, p2, p3, p4, p5⟩, e0, e1, e2, e3, e4, e5⟩ := Bx.both hz
          have hne1 : ¬ o = w.heap.size + 1 := by have := HO2.out; omega
          have hne2 : ¬ w.heap.size + 1 = o := by omega
          have HFT := Lib.hid hT
          have hks17 : kk = 1 ∨ kk = 2 ∨ kk = 3 ∨ kk = 4 ∨ kk = 5 ∨ kk = 6 ∨ kk = 7 ∨ kk = 8 ∨ kk = 9 ∨ kk = 10 ∨ kk = 11 ∨ kk = 12 ∨ kk = 13 ∨ kk = 14 ∨ kk = 15 ∨ kk = 16 ∨ kk = 17 := by have h1 := HFA.out.1; have h2 := HFA.out.2.1; omega
          obtain ⟨hr1, hr2, hr3, hr4, hr5, hr6⟩ := id hr
          obtain ⟨h3m, hm3⟩ : ∃ h3m, b % 3 = h3m := ⟨_, rfl⟩
          have hm3' : h3m = 0 ∨ h3m = 1 ∨ h3m = 2 := by omega
          obtain ⟨h2m, hm2⟩ : ∃ h2m, b % 2 = h2m := ⟨_, rfl⟩
          have hm2' : h2m = 0 ∨ h2m = 1 := by omega
          have t3 : (b : Int).tmod 3 = (h3m : Int) := by rw [Int.tmod_eq_emod_of_nonneg (by omega)]; omega
          have t3' : (b : Int) % 3 = (h3m : Int) := by omega
          have t2 : (b : Int).tmod 2 = (h2m : Int) := by rw [Int.tmod_eq_emod_of_nonneg (by omega)]; omega
          have t2' : (b : Int) % 2 = (h2m : Int) := by omega
          clear hT hz HI HT
          rcases hks17 with rfl | rfl | rfl | rfl | rfl | rfl | rfl | rfl | rfl | rfl | rfl | rfl | rfl | rfl | rfl | rfl | rfl
          · have HE : Hid (rtT b (.mk 1 nn uu s ks L) = .mk 1 nn uu s ks (rtL b 0 L)) := Lib.hid (by unfold rtT; rw [if_neg (by omega), if_neg (by omega), if_neg (by omega), if_neg (by omega), if_neg (by omega)])
            have HF := Lib.hid (HFT.out.fin hr hs hksz)
            go_wp2_with fail
            refine ret_six (p := 4) (g := w.heap.size + 1) rfl rfl HF.out.1 rfl ⟨⟨_, rfl, by rw [HE.out]; exact HF.out.2.1⟩, HF.out.2.2⟩
          · have HE : Hid (rtT b (.mk 2 nn uu s ks L) = .mk 2 nn uu s ks (rtL b 0 L)) := Lib.hid (by unfold rtT; rw [if_neg (by omega), if_neg (by omega), if_neg (by omega), if_neg (by omega), if_neg (by omega)])
            have HF := Lib.hid (HFT.out.fin hr hs hksz)
            go_wp2_with fail
            refine ret_six (p := 4) (g := w.heap.size + 1) rfl rfl HF.out.1 rfl ⟨⟨_, rfl, by rw [HE.out]; exact HF.out.2.1⟩, HF.out.2.2⟩
          · rcases hm3' with rfl | rfl | rfl
            · have HE : Hid (rtT b (.mk 3 nn uu s ks L) = .mk 3 nn uu s ks (rtL b 0 L)) := Lib.hid (by unfold rtT; rw [if_neg (by omega), if_neg (by omega), if_neg (by omega), if_neg (by omega), if_neg (by omega)])
              have HF := Lib.hid (HFT.out.fin hr hs hksz)
              go_wp2_with fail
              refine ret_six (p := 4) (g := w.heap.size + 1) rfl rfl HF.out.1 rfl ⟨⟨_, rfl, by rw [HE.out]; exact HF.out.2.1⟩, HF.out.2.2⟩
            · by_cases hn : 0 ≤ nn
              · have hw : IntKind.u64.wrap nn = nn := by simp [IntKind.wrap, IntKind.bits, IntKind.signed]; omega
                have hge : decide (0 ≤ nn) = true := by simpa using hn
                have HE : Hid (rtT b (.mk 3 nn uu s ks L) = .mk 4 0 nn ⟨#[]⟩ [] []) := Lib.hid (by unfold rtT; rw [if_pos (by omega)]; try rfl)
                have HF := Lib.hid (tb_leaf (k := 4) (n := 0) (u := nn) (s := ⟨#[]⟩) HFT.out ⟨by omega, by omega, by omega, by omega, by omega, by omega⟩ (by decide))
                go_wp2_with fail
                refine ret_six (p := 4) (g := w.heap.size + 1) rfl rfl HF.out.1 rfl ⟨⟨_, rfl, by rw [HE.out]; exact HF.out.2.1⟩, HF.out.2.2⟩
              · have hge : decide (0 ≤ nn) = false := by simpa using hn
                have HE : Hid (rtT b (.mk 3 nn uu s ks L) = .mk 3 nn uu s ks (rtL b 0 L)) := Lib.hid (by unfold rtT; rw [if_neg (by omega), if_neg (by omega), if_neg (by omega), if_neg (by omega), if_neg (by omega)])
                have HF := Lib.hid (HFT.out.fin hr hs hksz)
                go_wp2_with fail
                refine ret_six (p := 4) (g := w.heap.size + 1) rfl rfl HF.out.1 rfl ⟨⟨_, rfl, by rw [HE.out]; exact HF.out.2.1⟩, HF.out.2.2⟩
            · have HE : Hid (rtT b (.mk 3 nn uu s ks L) = .mk 8 nn 0 ⟨#[]⟩ [] []) := Lib.hid (by unfold rtT; rw [if_neg (by omega), if_pos (by omega)]; try rfl)
              have HF := Lib.hid (tb_leaf (k := 8) (n := nn) (u := 0) (s := ⟨#[]⟩) HFT.out ⟨by omega, by omega, by omega, by omega, by omega, by omega⟩ (by decide))
              go_wp2_with fail
              refine ret_six (p := 4) (g := w.heap.size + 1) rfl rfl HF.out.1 rfl ⟨⟨_, rfl, by rw [HE.out]; exact HF.out.2.1⟩, HF.out.2.2⟩
          · rcases hm3' with rfl | rfl | rfl
            · have HE : Hid (rtT b (.mk 4 nn uu s ks L) = .mk 4 nn uu s ks (rtL b 0 L)) := Lib.hid (by unfold rtT; rw [if_neg (by omega), if_neg (by omega), if_neg (by omega), if_neg (by omega), if_neg (by omega)])
              have HF := Lib.hid (HFT.out.fin hr hs hksz)
              go_wp2_with fail
              refine ret_six (p := 4) (g := w.heap.size + 1) rfl rfl HF.out.1 rfl ⟨⟨_, rfl, by rw [HE.out]; exact HF.out.2.1⟩, HF.out.2.2⟩
            · have HE : Hid (rtT b (.mk 4 nn uu s ks L) = .mk 9 0 uu ⟨#[]⟩ [] []) := Lib.hid (by unfold rtT; rw [if_neg (by omega), if_neg (by omega), if_pos (by omega)]; try rfl)
              have HF := Lib.hid (tb_leaf (k := 9) (n := 0) (u := uu) (s := ⟨#[]⟩) HFT.out ⟨by omega, by omega, by omega, by omega, by omega, by omega⟩ (by decide))
              go_wp2_with fail
              refine ret_six (p := 4) (g := w.heap.size + 1) rfl rfl HF.out.1 rfl ⟨⟨_, rfl, by rw [HE.out]; exact HF.out.2.1⟩, HF.out.2.2⟩
            · have HE : Hid (rtT b (.mk 4 nn uu s ks L) = .mk 4 nn uu s ks (rtL b 0 L)) := Lib.hid (by unfold rtT; rw [if_neg (by omega), if_neg (by omega), if_neg (by omega), if_neg (by omega), if_neg (by omega)])
              have HF := Lib.hid (HFT.out.fin hr hs hksz)
              go_wp2_with fail
              refine ret_six (p := 4) (g := w.heap.size + 1) rfl rfl HF.out.1 rfl ⟨⟨_, rfl, by rw [HE.out]; exact HF.out.2.1⟩, HF.out.2.2⟩
          · rcases hm2' with rfl | rfl
            · have HE : Hid (rtT b (.mk 5 nn uu s ks L) = .mk 6 0 0 s [] []) := Lib.hid (by unfold rtT; rw [if_neg (by omega), if_neg (by omega), if_neg (by omega), if_pos (by omega)]; try rfl)
              have HF := Lib.hid (tb_leaf (k := 6) (n := 0) (u := 0) (s := s) HFT.out ⟨by omega, by omega, by omega, by omega, by omega, by omega⟩ hs)
              go_wp2_with fail
              refine ret_six (p := 4) (g := w.heap.size + 1) rfl rfl HF.out.1 rfl ⟨⟨_, rfl, by rw [HE.out]; exact HF.out.2.1⟩, HF.out.2.2⟩
            · have HE : Hid (rtT b (.mk 5 nn uu s ks L) = .mk 5 nn uu s ks (rtL b 0 L)) := Lib.hid (by unfold rtT; rw [if_neg (by omega), if_neg (by omega), if_neg (by omega), if_neg (by omega), if_neg (by omega)])
              have HF := Lib.hid (HFT.out.fin hr hs hksz)
              go_wp2_with fail
              refine ret_six (p := 4) (g := w.heap.size + 1) rfl rfl HF.out.1 rfl ⟨⟨_, rfl, by rw [HE.out]; exact HF.out.2.1⟩, HF.out.2.2⟩
          · have HE : Hid (rtT b (.mk 6 nn uu s ks L) = .mk 6 nn uu s ks (rtL b 0 L)) := Lib.hid (by unfold rtT; rw [if_neg (by omega), if_neg (by omega), if_neg (by omega), if_neg (by omega), if_neg (by omega)])
            have HF := Lib.hid (HFT.out.fin hr hs hksz)
            go_wp2_with fail
            refine ret_six (p := 4) (g := w.heap.size + 1) rfl rfl HF.out.1 rfl ⟨⟨_, rfl, by rw [HE.out]; exact HF.out.2.1⟩, HF.out.2.2⟩
          · have HE : Hid (rtT b (.mk 7 nn uu s ks L) = .mk 7 nn uu s ks (rtL b 0 L)) := Lib.hid (by unfold rtT; rw [if_neg (by omega), if_neg (by omega), if_neg (by omega), if_neg (by omega), if_neg (by omega)])
            have HF := Lib.hid (HFT.out.fin hr hs hksz)
            go_wp2_with fail
            refine ret_six (p := 4) (g := w.heap.size + 1) rfl rfl HF.out.1 rfl ⟨⟨_, rfl, by rw [HE.out]; exact HF.out.2.1⟩, HF.out.2.2⟩
          · rcases hm3' with rfl | rfl | rfl
            · have HE : Hid (rtT b (.mk 8 nn uu s ks L) = .mk 8 nn uu s ks (rtL b 0 L)) := Lib.hid (by unfold rtT; rw [if_neg (by omega), if_neg (by omega), if_neg (by omega), if_neg (by omega), if_neg (by omega)])
              have HF := Lib.hid (HFT.out.fin hr hs hksz)
              go_wp2_with fail
              refine ret_six (p := 4) (g := w.heap.size + 1) rfl rfl HF.out.1 rfl ⟨⟨_, rfl, by rw [HE.out]; exact HF.out.2.1⟩, HF.out.2.2⟩
            · by_cases hn : 0 ≤ nn
              · have hw : IntKind.u64.wrap nn = nn := by simp [IntKind.wrap, IntKind.bits, IntKind.signed]; omega
                have hge : decide (0 ≤ nn) = true := by simpa using hn
                have HE : Hid (rtT b (.mk 8 nn uu s ks L) = .mk 4 0 nn ⟨#[]⟩ [] []) := Lib.hid (by unfold rtT; rw [if_pos (by omega)]; try rfl)
                have HF := Lib.hid (tb_leaf (k := 4) (n := 0) (u := nn) (s := ⟨#[]⟩) HFT.out ⟨by omega, by omega, by omega, by omega, by omega, by omega⟩ (by decide))
                go_wp2_with fail
                refine ret_six (p := 4) (g := w.heap.size + 1) rfl rfl HF.out.1 rfl ⟨⟨_, rfl, by rw [HE.out]; exact HF.out.2.1⟩, HF.out.2.2⟩
              · have hge : decide (0 ≤ nn) = false := by simpa using hn
                have HE : Hid (rtT b (.mk 8 nn uu s ks L) = .mk 8 nn uu s ks (rtL b 0 L)) := Lib.hid (by unfold rtT; rw [if_neg (by omega), if_neg (by omega), if_neg (by omega), if_neg (by omega), if_neg (by omega)])
                have HF := Lib.hid (HFT.out.fin hr hs hksz)
                go_wp2_with fail
                refine ret_six (p := 4) (g := w.heap.size + 1) rfl rfl HF.out.1 rfl ⟨⟨_, rfl, by rw [HE.out]; exact HF.out.2.1⟩, HF.out.2.2⟩
            · have HE : Hid (rtT b (.mk 8 nn uu s ks L) = .mk 8 nn uu s ks (rtL b 0 L)) := Lib.hid (by unfold rtT; rw [if_neg (by omega), if_neg (by omega), if_neg (by omega), if_neg (by omega), if_neg (by omega)])
              have HF := Lib.hid (HFT.out.fin hr hs hksz)
              go_wp2_with fail
              refine ret_six (p := 4) (g := w.heap.size + 1) rfl rfl HF.out.1 rfl ⟨⟨_, rfl, by rw [HE.out]; exact HF.out.2.1⟩, HF.out.2.2⟩
          · have HE : Hid (rtT b (.mk 9 nn uu s ks L) = .mk 9 nn uu s ks (rtL b 0 L)) := Lib.hid (by unfold rtT; rw [if_neg (by omega), if_neg (by omega), if_neg (by omega), if_neg (by omega), if_neg (by omega)])
            have HF := Lib.hid (HFT.out.fin hr hs hksz)
            go_wp2_with fail
            refine ret_six (p := 4) (g := w.heap.size + 1) rfl rfl HF.out.1 rfl ⟨⟨_, rfl, by rw [HE.out]; exact HF.out.2.1⟩, HF.out.2.2⟩
          · have HE : Hid (rtT b (.mk 10 nn uu s ks L) = .mk 10 nn uu s ks (rtL b 0 L)) := Lib.hid (by unfold rtT; rw [if_neg (by omega), if_neg (by omega), if_neg (by omega), if_neg (by omega), if_neg (by omega)])
            have HF := Lib.hid (HFT.out.fin hr hs hksz)
            go_wp2_with fail
            refine ret_six (p := 4) (g := w.heap.size + 1) rfl rfl HF.out.1 rfl ⟨⟨_, rfl, by rw [HE.out]; exact HF.out.2.1⟩, HF.out.2.2⟩
          · have HE : Hid (rtT b (.mk 11 nn uu s ks L) = .mk 10 nn uu s ks (rtL b 0 L)) := Lib.hid (by rw [rt_hi (by omega), if_pos (by omega)])
            have HF := Lib.hid ((HFT.out.set0 HO2.out (.int .i64 10)).fin (k := 10) (n := nn) (u := uu) ⟨by omega, by omega, by omega, by omega, by omega, by omega⟩ hs hksz)
            go_wp2_with fail
            refine ret_six (p := 4) (g := w.heap.size + 1) rfl rfl HF.out.1 rfl ⟨⟨_, rfl, by rw [HE.out]; exact HF.out.2.1⟩, HF.out.2.2⟩
          · have HE : Hid (rtT b (.mk 12 nn uu s ks L) = .mk 10 nn uu s ks (rtL b 0 L)) := Lib.hid (by rw [rt_hi (by omega), if_pos (by omega)])
            have HF := Lib.hid ((HFT.out.set0 HO2.out (.int .i64 10)).fin (k := 10) (n := nn) (u := uu) ⟨by omega, by omega, by omega, by omega, by omega, by omega⟩ hs hksz)
            go_wp2_with fail
            refine ret_six (p := 4) (g := w.heap.size + 1) rfl rfl HF.out.1 rfl ⟨⟨_, rfl, by rw [HE.out]; exact HF.out.2.1⟩, HF.out.2.2⟩
          · have HE : Hid (rtT b (.mk 13 nn uu s ks L) = .mk 10 nn uu s ks (rtL b 0 L)) := Lib.hid (by rw [rt_hi (by omega), if_pos (by omega)])
            have HF := Lib.hid ((HFT.out.set0 HO2.out (.int .i64 10)).fin (k := 10) (n := nn) (u := uu) ⟨by omega, by omega, by omega, by omega, by omega, by omega⟩ hs hksz)
            go_wp2_with fail
            refine ret_six (p := 4) (g := w.heap.size + 1) rfl rfl HF.out.1 rfl ⟨⟨_, rfl, by rw [HE.out]; exact HF.out.2.1⟩, HF.out.2.2⟩
          · have HE : Hid (rtT b (.mk 14 nn uu s ks L) = .mk 10 nn uu s ks (rtL b 0 L)) := Lib.hid (by rw [rt_hi (by omega), if_pos (by omega)])
            have HF := Lib.hid ((HFT.out.set0 HO2.out (.int .i64 10)).fin (k := 10) (n := nn) (u := uu) ⟨by omega, by omega, by omega, by omega, by omega, by omega⟩ hs hksz)
            go_wp2_with fail
            refine ret_six (p := 4) (g := w.heap.size + 1) rfl rfl HF.out.1 rfl ⟨⟨_, rfl, by rw [HE.out]; exact HF.out.2.1⟩, HF.out.2.2⟩
          · have HE : Hid (rtT b (.mk 15 nn uu s ks L) = .mk 10 nn uu s ks (rtL b 0 L)) := Lib.hid (by rw [rt_hi (by omega), if_pos (by omega)])
            have HF := Lib.hid ((HFT.out.set0 HO2.out (.int .i64 10)).fin (k := 10) (n := nn) (u := uu) ⟨by omega, by omega, by omega, by omega, by omega, by omega⟩ hs hksz)
            go_wp2_with fail
            refine ret_six (p := 4) (g := w.heap.size + 1) rfl rfl HF.out.1 rfl ⟨⟨_, rfl, by rw [HE.out]; exact HF.out.2.1⟩, HF.out.2.2⟩
          · have HE : Hid (rtT b (.mk 16 nn uu s ks L) = .mk 10 nn uu s ks (rtL b 0 L)) := Lib.hid (by rw [rt_hi (by omega), if_pos (by omega)])
            have HF := Lib.hid ((HFT.out.set0 HO2.out (.int .i64 10)).fin (k := 10) (n := nn) (u := uu) ⟨by omega, by omega, by omega, by omega, by omega, by omega⟩ hs hksz)
            go_wp2_with fail
            refine ret_six (p := 4) (g := w.heap.size + 1) rfl rfl HF.out.1 rfl ⟨⟨_, rfl, by rw [HE.out]; exact HF.out.2.1⟩, HF.out.2.2⟩
          · have HE : Hid (rtT b (.mk 17 nn uu s ks L) = .mk 17 nn uu s ks (rtL b 0 L)) := Lib.hid (by unfold rtT; rw [if_neg (by omega), if_neg (by omega), if_neg (by omega), if_neg (by omega), if_neg (by omega)])
            have HF := Lib.hid (HFT.out.fin hr hs hksz)
            go_wp2_with fail
            refine ret_six (p := 4) (g := w.heap.size + 1) rfl rfl HF.out.1 rfl ⟨⟨_, rfl, by rw [HE.out]; exact HF.out.2.1⟩, HF.out.2.2⟩
end Go.Proofs.YtpcfpikflkjmjaaDoor
