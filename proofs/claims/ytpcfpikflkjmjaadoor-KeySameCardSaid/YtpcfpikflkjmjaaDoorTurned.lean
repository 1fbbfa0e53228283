/-
  What is proved here: contract of the law's own turned: the tree whose maps are rotated, in memory of the call's own; conditions: at most 60000 nodes, strings and lists of at most 1000, a rotation of at most 1000.
-/
import Derived.Test.YtpcfpikflkjmjaaDoorTK
import Derived.Test.YtpcfpikflkjmjaaDoorPm
import Derived.Deep.RegionLaw
namespace Go.Proofs.YtpcfpikflkjmjaaDoor
open Go.RowKit Go.Sort

theorem TB.start (w : World) (v0 v1 v2 v3 v4 v5 z0 z1 z2 z3 z4 z5 o0 o1 o2 o3 o4 o5 : Value) : TB w (w.heap.size + 1 + 1) v0 v1 v2 v3 v4 v5 o0 o1 o2 o3 o4 o5 (.slice none 0 0) (.slice none 0 0) [] [] []
    (((w.alloc (.cells #[v0, v1, v2, v3, v4, v5] 26)).alloc (.cells #[z0, z1, z2, z3, z4, z5] 26)).alloc (.cells #[o0, o1, o2, o3, o4, o5] 26)) := by
  have h := Two.start w v0 v1 v2 v3 v4 v5 z0 z1 z2 z3 z4 z5
  have hs : ((w.alloc (.cells #[v0, v1, v2, v3, v4, v5] 26)).alloc (.cells #[z0, z1, z2, z3, z4, z5] 26)).heap.size = w.heap.size + 1 + 1 := by simp
  have hn := Blk.new ((w.alloc (.cells #[v0, v1, v2, v3, v4, v5] 26)).alloc (.cells #[z0, z1, z2, z3, z4, z5] 26)) 26 #[o0, o1, o2, o3, o4, o5]
  rw [hs] at hn
  exact ⟨h.1.trans ((Below.refl _ _).alloc h.1.size _), by omega, h.2.2.1.alloc _, ⟨_, _, _, _, _, _, h.2.2.2.alloc _⟩, hn, World.ownsRow_nil _ _ _ _, by simp [Value.ownBlock], own_nil _ _, by simp [Value.ownBlock], by simp [Value.ownBlock], rfl⟩
/-- The children and keys of the rotated tree. -/
def turnKs (k : Int) (b : Nat) (ks : List ByteArray) (l : List T) : List ByteArray := if k = 17 ∧ ks.length = l.length then rot b ⟨#[]⟩ ks else []
def turnLs (k : Int) (b : Nat) (ks : List ByteArray) (l : List T) : List T := if k = 17 ∧ ks.length = l.length then rot b Tz (turnL b l) else turnL b l
theorem turnT_eq (b : Nat) (k n u : Int) (s : ByteArray) (ks : List ByteArray) (l : List T) : turnT b (.mk k n u s ks l) = .mk k n u s (turnKs k b ks l) (turnLs k b ks l) := by
  unfold turnT turnKs turnLs
  by_cases h : k = 17 ∧ ks.length = l.length
  · rw [if_pos h, if_pos h, if_pos h]
  · rw [if_neg h, if_neg h, if_neg h]
theorem turnL_get (b : Nat) : ∀ (l : List T) (j : Nat) (t : T), l[j]? = some t → (turnL b l)[j]? = some (turnT b t)
  | [], j, t, h => by simp at h
  | t0 :: ts, 0, t, h => by
    obtain rfl : t0 = t := by simpa using h
    unfold turnL; simp
  | t0 :: ts, j + 1, t, h => by
    unfold turnL
    rw [List.getElem?_cons_succ]
    exact turnL_get b ts j t (by simpa using h)
theorem rot_at {α : Type} {b : Nat} {d x : α} {l : List α} {j : Nat} (hj : j < l.length) (h : l[rotN b l.length j]? = some x) : (rot b d l)[j]? = some x := by
  unfold rot
  rw [List.getElem?_map, List.getElem?_range hj]
  show some (l.getD _ d) = some x
  rw [List.getD_eq_getElem?_getD, h]
  rfl
theorem turnLs_len (k : Int) (b : Nat) (ks : List ByteArray) (l : List T) : (turnLs k b ks l).length = l.length := by
  unfold turnLs
  split
  · rw [rot_len, turnL_len]
  · rw [turnL_len]

theorem turnKs_len (k : Int) (b : Nat) (ks : List ByteArray) (l : List T) : (turnKs k b ks l).length ≤ l.length := by
  unfold turnKs
  split
  · rename_i h
    rw [rot_len, h.2]
    exact Nat.le_refl _
  · exact Nat.zero_le _

set_option maxRecDepth 100000 in
set_option maxHeartbeats 4000000 in
theorem turned_any (b : Nat) (hb : b ≤ 1000) (k : Nat) : ∀ (t : T) (cs : List Value) (w : World), dp t ≤ k → sz t ≤ 60000 → sm 1000 1000 t → mpT t → Nd w t cs →
    Calls Tryd.prog 21 #[.agg cs.toArray, .int .i64 (b : Int)] w fun e w' => (∃ cs', e = .returned (.agg cs'.toArray) ∧ NdO (fun b => w.heap.size ≤ b) w' (turnT b t) cs') ∧ Below w.heap.size w w' := by
  induction k with
  | zero => intro t cs w h; exact absurd h (by have := dp_pos t; omega)
  | succ k ih =>
    rintro ⟨kk, nn, uu, s, ks, L⟩ cs w hk hsz hsm hmp ⟨hr, hs, kv, A, m, c, rfl, hks, hl, hm, hmm, hL⟩
    simp only [dp] at hk
    simp only [sz] at hsz
    have hmx : m ≤ 60000 := by have := len_le_szL L; omega
    obtain ⟨KA, Kn, Kc, rfl, hkn, hkc, hkm, hksz, hK⟩ := hks.at
    have hkl := hsm.2.1
    have HTB : Hid (TB w (w.heap.size + 1 + 1) (.int .i64 kk) (.int .i64 nn) (.int .u64 uu) (.string s) (.slice KA Kn Kc) (.slice A m c) (.int .i64 kk) (.int .i64 nn) (.int .u64 uu) (.string s) (.slice none 0 0) (.slice none 0 0) (.slice none 0 0) (.slice none 0 0) [] [] []
        (((w.alloc (.cells #[.int .i64 kk, .int .i64 nn, .int .u64 uu, .string s, .slice KA Kn Kc, .slice A m c] 26)).alloc (.cells #[.int .i64 0, .int .i64 0, .int .u64 0, .string ⟨#[]⟩, .slice none 0 0, .slice none 0 0] 26)).alloc (.cells #[.int .i64 kk, .int .i64 nn, .int .u64 uu, .string s, .slice none 0 0, .slice none 0 0] 26))) := Lib.hid (TB.start w _ _ _ _ _ _ _ _ _ _ _ _ _ _ _ _ _ _)
    have HSM := Lib.hid hsm
    have HKS := Lib.hid hks
    have HL := Lib.hid hL
    have HK := Lib.hid hK
    have HLL := Lib.hid hl
    clear hsm hks hL hK
    go_enter Tryd.func21, Tryd.ntmps21
    go_wp2_with fail
    obtain ⟨o, ho⟩ : ∃ o, w.heap.size + 1 + 1 = o := ⟨_, rfl⟩
    obtain ⟨W9, hW9⟩ : ∃ W9, (((w.alloc (.cells #[.int .i64 kk, .int .i64 nn, .int .u64 uu, .string s, .slice KA Kn Kc, .slice A m c] 26)).alloc (.cells #[.int .i64 0, .int .i64 0, .int .u64 0, .string ⟨#[]⟩, .slice none 0 0, .slice none 0 0] 26)).alloc (.cells #[.int .i64 kk, .int .i64 nn, .int .u64 uu, .string s, .slice none 0 0, .slice none 0 0] 26)) = W9 := ⟨_, rfl⟩
    have HO2 : Hid (w.heap.size + 2 ≤ o) := Lib.hid (by omega)
    rw [ho, hW9] at HTB
    simp only [ho, hW9]
    clear ho hW9
    go_loopw [6] (fun vi wr => ∃ (j : Nat) (kq lq : Value) (ys : List Value), j ≤ m ∧ vi = .int .i64 (j : Int) ∧ Hid (TB w o (.int .i64 kk) (.int .i64 nn) (.int .u64 uu) (.string s) (.slice KA Kn Kc) (.slice A m c) (.int .i64 kk) (.int .i64 nn) (.int .u64 uu) (.string s) kq lq kq lq ((turnKs kk b ks L).take j) ((turnLs kk b ks L).take j) ys wr)) (fun vi _ => m - (intOf vi).toNat)
    case atStart => exact ⟨0, _, _, _, Nat.zero_le _, rfl, HTB⟩
    case round =>
      obtain ⟨j, kq, lq, ys, hj, rfl, HT⟩ := hrel
      obtain ⟨LA, Lc, hlv⟩ := (Ow.of HT.out.row).shape
      obtain ⟨QA, Qc, hkv⟩ := (Ow.of HT.out.keys).shape
      obtain ⟨Ln, hLn⟩ : ∃ Ln, ((turnLs kk b ks L).take j).length = Ln := ⟨_, rfl⟩
      obtain ⟨Qn, hQn⟩ : ∃ Qn, ((turnKs kk b ks L).take j).length = Qn := ⟨_, rfl⟩
      rw [hLn] at hlv
      rw [hQn] at hkv
      subst hlv hkv
      obtain ⟨b0, b1, b2, b3, b4, b5⟩ := HT.out.bt.all
      by_cases hjm : j < m
      · obtain ⟨bb, off, rfl, hbb, hN⟩ := HL.out (by omega)
        have HTC : Hid (TC w o (.int .i64 kk) (.int .i64 nn) (.int .u64 uu) (.string s) (.slice KA Kn Kc) (.slice (some ⟨bb, off, none⟩) m c) (.int .i64 kk) (.int .i64 nn) (.int .u64 uu) (.string s) (.slice QA Qn Qc) (.slice LA Ln Lc) wr) := Lib.hid HT.out.tc
        have HLN : Hid (Ln = j) := Lib.hid (by rw [← hLn, List.length_take, turnLs_len, HLL.out]; omega)
        have ji0 : (0 : Int) ≤ (j : Int) := by omega
        have ji1 : (j : Int) < (m : Int) := by omega
        have hm0 : ((m : Int) == 0) = false := by simp; omega
        by_cases hmap : kk = 17
        · obtain rfl : Kn = m := by rw [← hkn, ← HLL.out]; exact (hmp.1 hmap).1
          subst hmap
          obtain ⟨q, hq⟩ : ∃ q, rotN b Kn j = q := ⟨_, rfl⟩
          have hqm : q < Kn := by rw [← hq]; exact rotN_lt (by omega)
          have r1 : IntKind.i64.wrap ((j : Int) + (b : Int)) = (j : Int) + (b : Int) := by
            simp [IntKind.wrap, IntKind.bits, IntKind.signed]; omega
          have r2 : ((j : Int) + (b : Int)) % (Kn : Int) = (q : Int) := by
            rw [← hq]; rfl
          have q0 : (0 : Int) ≤ (q : Int) := by omega
          have q1 : (q : Int) < (Kn : Int) := by omega
          obtain ⟨x, hx⟩ : ∃ x, ks[q]? = some x := ⟨_, List.getElem?_eq_getElem (by omega)⟩
          obtain ⟨t0, ht0⟩ : ∃ t, L[q]? = some t := ⟨_, List.getElem?_eq_getElem (by omega)⟩
          obtain ⟨kb, koff, rfl, hkb, hkc1⟩ := HK.out (by omega)
          have hxs : x.size ≤ maxLen := hksz x (List.mem_of_getElem? hx)
          have hall : ∀ W, Hid (TF w o (.int .i64 17) (.int .i64 nn) (.int .u64 uu) (.string s) (.slice (some ⟨kb, koff, none⟩) Kn Kc) (.slice (some ⟨bb, off, none⟩) Kn c) W) → Hid (TF w o (.int .i64 17) (.int .i64 nn) (.int .u64 uu) (.string s) (.slice (some ⟨kb, koff, none⟩) Kn Kc) (.slice (some ⟨bb, off, none⟩) Kn c) W) ∧ W.cell? ⟨w.heap.size, 4, none⟩ = some (.slice (some ⟨kb, koff, none⟩) Kn Kc) ∧ W.cell? ⟨kb, koff + q, none⟩ = some (.string x) ∧ W.frozen? ⟨o, 4, none⟩ = false := by
            intro W H
            obtain ⟨_, _, _, _, c4, _⟩ := H.out.bt.all
            exact ⟨H, c4, hkc1 W H.out.bl q x hx, H.out.frozen 4⟩
          have HTF := Lib.hid (HTC.out.tf HO2.out)
          have HTd := Lib.hid (HTF.out.below (Below.refl _ _).drew)
          have hset : ∀ (W : World) (u : Value), Hid (TF w o (.int .i64 17) (.int .i64 nn) (.int .u64 uu) (.string s) (.slice (some ⟨kb, koff, none⟩) Kn Kc) (.slice (some ⟨bb, off, none⟩) Kn c) W) → Hid (TF w o (.int .i64 17) (.int .i64 nn) (.int .u64 uu) (.string s) (.slice (some ⟨kb, koff, none⟩) Kn Kc) (.slice (some ⟨bb, off, none⟩) Kn c) (W.setCell ⟨o, 4, none⟩ u)) := fun W u H => Lib.hid (H.out.set4 u)
          obtain ⟨_, _, _, _, d4, _⟩ := HT.out.bo.all
          have d4a : wr.drew.cell? ⟨o, 4, none⟩ = some (.slice QA Qn Qc) := d4
          have d4b : (wr.alloc (.cells #[.string x] 9)).drew.cell? ⟨o, 4, none⟩ = some (.slice QA Qn Qc) := by
            obtain ⟨_, _, _, _, h, _⟩ := ((HTC.out.below (al0 wr (.cells #[.string x] 9))).below (Below.refl _ _).drew).bo.all
            exact h
          have HKQ : Hid (Qn + 1 ≤ 65536) := Lib.hid (by rw [← hQn, List.length_take]; omega)
          have HQ : Hid (L[q]? = some t0 ∧ (turnLs 17 b ks L).take (j + 1) = (turnLs 17 b ks L).take j ++ [turnT b t0] ∧ (turnKs 17 b ks L).take (j + 1) = (turnKs 17 b ks L).take j ++ [x]) := Lib.hid (by
            have hmp : (17 : Int) = 17 ∧ ks.length = L.length := ⟨rfl, by rw [hkn, HLL.out]⟩
            refine ⟨ht0, ?_, ?_⟩
            · rw [List.take_add_one]
              unfold turnLs
              rw [if_pos hmp, rot_at (x := turnT b t0) (by rw [turnL_len, HLL.out]; exact hjm) (by rw [turnL_len, HLL.out, hq]; exact turnL_get b L q t0 ht0)]
              rfl
            · rw [List.take_add_one]
              unfold turnKs
              rw [if_pos hmp, rot_at (x := x) (by rw [hkn]; exact hjm) (by rw [hkn, hq]; exact hx)]
              rfl)
          have HI := Lib.hid ih
          clear hkb hkn hkc hkm hq ih ht0 hx hkc1
          go_wp2_with fail
          go_region_law
            (first
              | (refine step_key (kq := .slice QA Qn Qc) (x := x) rfl _ _ rfl rfl rfl (by first | exact HT.out.below ((al0 wr _).drew) | exact (HT.out.below (Below.refl _ _).drew).below (al0 _ _)) (by first | exact Blk.new wr _ _ | exact Blk.new wr.drew _ _) hxs (by rw [hQn]; exact HKQ.out) ?_; intro XA Xn Xc w6 HT6 HTC6; obtain ⟨⟨y0, y1, y2, y3, y4, y5⟩, f0, f1, f2, f3, f4, f5⟩ := Bx.both HTC6.out.bo))
          all_goals
            obtain ⟨W7, hW7⟩ : ∃ W7, w6.setCell ⟨o, 4, none⟩ (.slice XA Xn Xc) = W7 := ⟨_, rfl⟩
            have HT7 := Lib.hid (HT6.out.set4 HO2.out (.slice XA Xn Xc))
            rw [hW7] at HT7 ⊢
            obtain ⟨RA, Rn, Rc, hR⟩ : ∃ RA Rn Rc, (RA, Rn, Rc) = (XA, Xn, Xc) := ⟨_, _, _, rfl⟩
            simp only [Prod.mk.injEq] at hR
            obtain ⟨rfl, rfl, rfl⟩ := hR
            clear hW7 HT6 HTC6 y0 y1 y2 y3 y4 y5 f0 f1 f2 f3 f4 f5 d4 d4a d4b
            obtain ⟨z0, z1, z2, z3, z4, z5, hS0, hn0⟩ := hN.six' (Below.refl _ w) hbb HQ.out.1
            obtain ⟨k0, i0, n0, s0, B1, p1, d1, B2, p2, d2, hsh⟩ := hn0.shape
            simp only [List.cons.injEq, and_true] at hsh
            obtain ⟨rfl, rfl, rfl, rfl, rfl, rfl⟩ := hsh
            have HCALL : Hid (∀ W, Hid (TB w o (.int .i64 17) (.int .i64 nn) (.int .u64 uu) (.string s) (.slice (some ⟨kb, koff, none⟩) Kn Kc) (.slice (some ⟨bb, off, none⟩) Kn c) (.int .i64 17) (.int .i64 nn) (.int .u64 uu) (.string s) (.slice RA Rn Rc) (.slice LA Ln Lc) (.slice RA Rn Rc) (.slice LA Ln Lc) ((turnKs 17 b ks L).take j ++ [x]) ((turnLs 17 b ks L).take j) ys W) → Calls Tryd.prog 21 #[.agg #[.int .i64 k0, .int .i64 i0, .int .u64 n0, .string s0, .slice B1 p1 d1, .slice B2 p2 d2], .int .i64 (b : Int)] W fun e w' => ∃ (k' n' u' : Int) (s' : ByteArray) (A1' : Option Addr) (m1' c1' : Nat) (A2' : Option Addr) (m2' c2' : Nat),
                e = .returned (.agg #[.int .i64 k', .int .i64 n', .int .u64 u', .string s', .slice A1' m1' c1', .slice A2' m2' c2']) ∧ Hid (TK w o (.int .i64 17) (.int .i64 nn) (.int .u64 uu) (.string s) (.slice (some ⟨kb, koff, none⟩) Kn Kc) (.slice (some ⟨bb, off, none⟩) Kn c) (.int .i64 17) (.int .i64 nn) (.int .u64 uu) (.string s) (.slice RA Rn Rc) (.slice LA Ln Lc) (.slice RA Rn Rc) (.slice LA Ln Lc) ((turnKs 17 b ks L).take j ++ [x]) ((turnLs 17 b ks L).take j) ys (turnT b t0) [.int .i64 k', .int .i64 n', .int .u64 u', .string s', .slice A1' m1' c1', .slice A2' m2' c2'] w') ∧ Hid (TC w o (.int .i64 17) (.int .i64 nn) (.int .u64 uu) (.string s) (.slice (some ⟨kb, koff, none⟩) Kn Kc) (.slice (some ⟨bb, off, none⟩) Kn c) (.int .i64 17) (.int .i64 nn) (.int .u64 uu) (.string s) (.slice RA Rn Rc) (.slice LA Ln Lc) w')) := Lib.hid fun W H => by
              have hdl := dp_le_of HQ.out.1
              have hsl := sz_le_of HQ.out.1
              have hw2 : w.heap.size + 2 ≤ W.heap.size := by
                obtain ⟨_, _, _, _, _, _, h1⟩ := H.out.br
                have := Blk.lt h1
                omega
              refine (HI.out t0 _ W (by omega) (by omega) (smL_at HSM.out.2.2.2 HQ.out.1) (mpL_at hmp.2 HQ.out.1) (hn0.bel H.out.bl)).mono ?_
              rintro e w' ⟨⟨cs', rfl, h1⟩, h2⟩
              obtain ⟨k', n', u', s', A1', m1', c1', A2', m2', c2', rfl⟩ := h1.shape6
              exact ⟨k', n', u', s', A1', m1', c1', A2', m2', c2', rfl, Lib.hid (H.out.kidat hw2 h2 h1), Lib.hid (H.out.kidat hw2 h2 h1).tb.tc⟩
            obtain ⟨a0, a1, a2, a3, a4, a5⟩ := hS0.below (HT7.out.bl.trans ((Below.refl _ _).drew.mono HT7.out.bl.size) : Below w.heap.size w W7.drew) hbb
            have HT7d : Hid (TB w o (.int .i64 17) (.int .i64 nn) (.int .u64 uu) (.string s) (.slice (some ⟨kb, koff, none⟩) Kn Kc) (.slice (some ⟨bb, off, none⟩) Kn c) (.int .i64 17) (.int .i64 nn) (.int .u64 uu) (.string s) (.slice RA Rn Rc) (.slice LA Ln Lc) (.slice RA Rn Rc) (.slice LA Ln Lc) ((turnKs 17 b ks L).take j ++ [x]) ((turnLs 17 b ks L).take j) ys W7.drew) := Lib.hid (HT7.out.below (Below.refl _ _).drew)
            obtain ⟨_, _, _, _, g4, g5⟩ := HT7d.out.bt.all
            obtain ⟨_, _, _, _, l4, l5⟩ := HT7d.out.bo.all
            clear hS0 hn0
            go_wp2_with fail
            go_region_law (first
              | (refine step_kid (kq := .slice RA Rn Rc) (lq := .slice LA Ln Lc) (t := turnT b t0) rfl _ _ rfl rfl rfl (H8.out.below (al0 w8 _)) (Blk.new w8 _ _) (by rw [List.length_take]; omega) ?_; intro YA Yn Yc w9 HT9 HTC9; obtain ⟨⟨y0, y1, y2, y3, y4, y5⟩, f0, f1, f2, f3, f4, f5⟩ := Bx.both HTC9.out.bo)
              | (go_simp; go_at_call 21; (with_reducible refine (HCALL.out _ HT7d).mono ?_); rintro e w8 ⟨k', n', u', s', A1', m1', c1', A2', m2', c2', rfl, H8, HC8⟩; obtain ⟨_, _, _, _, o4, o5⟩ := HC8.out.bo.all; have o5b : (w8.alloc (.cells #[.int .i64 k', .int .i64 n', .int .u64 u', .string s', .slice A1' m1' c1', .slice A2' m2' c2'] 26)).cell? ⟨o, 5, none⟩ = some (.slice LA Ln Lc) := by (obtain ⟨_, _, _, _, _, h⟩ := (HC8.out.below (al0 w8 (.cells #[.int .i64 k', .int .i64 n', .int .u64 u', .string s', .slice A1' m1' c1', .slice A2' m2' c2'] 26))).bo.all; exact h)))
            all_goals
              have HT10 := Lib.hid (HT9.out.set5 HO2.out (.slice YA Yn Yc))
              clear HT9 HTC9 y0 y1 y2 y3 y4 y5 f0 f1 f2 f3 f4 f5
              go_wp2_with fail
              go_roundw
              case rel => exact ⟨j + 1, _, _, _, by omega, by simp, by rw [HQ.out.2.1, HQ.out.2.2]; exact HT10⟩
              case measure => simp [intOf]; omega
        · obtain ⟨t0, ht0⟩ : ∃ t, L[j]? = some t := ⟨_, List.getElem?_eq_getElem (by rw [HLL.out]; exact hjm)⟩
          have hk17 : (kk == 17) = false := by simpa using hmap
          have HQ : Hid (L[j]? = some t0 ∧ (turnLs kk b ks L).take (j + 1) = (turnLs kk b ks L).take j ++ [turnT b t0] ∧ (turnKs kk b ks L).take (j + 1) = (turnKs kk b ks L).take j) := Lib.hid (by
            refine ⟨ht0, ?_, ?_⟩
            · rw [List.take_add_one]
              unfold turnLs
              rw [if_neg (fun h => hmap h.1), turnL_get b L j t0 ht0]
              rfl
            · unfold turnKs
              rw [if_neg (fun h => hmap h.1)]
              simp)
          obtain ⟨W7, rfl⟩ : ∃ W7, W7 = wr := ⟨_, rfl⟩
          obtain ⟨RA, Rn, Rc, hR⟩ : ∃ RA Rn Rc, (RA, Rn, Rc) = (QA, Qn, Qc) := ⟨_, _, _, rfl⟩
          simp only [Prod.mk.injEq] at hR
          obtain ⟨rfl, rfl, rfl⟩ := hR
          have HT7 := HT
          have HI := Lib.hid ih
          clear ih ht0 hmap
          obtain ⟨z0, z1, z2, z3, z4, z5, hS0, hn0⟩ := hN.six' (Below.refl _ w) hbb HQ.out.1
          obtain ⟨k0, i0, n0, s0, B1, p1, d1, B2, p2, d2, hsh⟩ := hn0.shape
          simp only [List.cons.injEq, and_true] at hsh
          obtain ⟨rfl, rfl, rfl, rfl, rfl, rfl⟩ := hsh
          have HCALL : Hid (∀ W, Hid (TB w o (.int .i64 kk) (.int .i64 nn) (.int .u64 uu) (.string s) (.slice KA Kn Kc) (.slice (some ⟨bb, off, none⟩) m c) (.int .i64 kk) (.int .i64 nn) (.int .u64 uu) (.string s) (.slice RA Rn Rc) (.slice LA Ln Lc) (.slice RA Rn Rc) (.slice LA Ln Lc) ((turnKs kk b ks L).take j) ((turnLs kk b ks L).take j) ys W) → Calls Tryd.prog 21 #[.agg #[.int .i64 k0, .int .i64 i0, .int .u64 n0, .string s0, .slice B1 p1 d1, .slice B2 p2 d2], .int .i64 (b : Int)] W fun e w' => ∃ (k' n' u' : Int) (s' : ByteArray) (A1' : Option Addr) (m1' c1' : Nat) (A2' : Option Addr) (m2' c2' : Nat),
              e = .returned (.agg #[.int .i64 k', .int .i64 n', .int .u64 u', .string s', .slice A1' m1' c1', .slice A2' m2' c2']) ∧ Hid (TK w o (.int .i64 kk) (.int .i64 nn) (.int .u64 uu) (.string s) (.slice KA Kn Kc) (.slice (some ⟨bb, off, none⟩) m c) (.int .i64 kk) (.int .i64 nn) (.int .u64 uu) (.string s) (.slice RA Rn Rc) (.slice LA Ln Lc) (.slice RA Rn Rc) (.slice LA Ln Lc) ((turnKs kk b ks L).take j) ((turnLs kk b ks L).take j) ys (turnT b t0) [.int .i64 k', .int .i64 n', .int .u64 u', .string s', .slice A1' m1' c1', .slice A2' m2' c2'] w') ∧ Hid (TC w o (.int .i64 kk) (.int .i64 nn) (.int .u64 uu) (.string s) (.slice KA Kn Kc) (.slice (some ⟨bb, off, none⟩) m c) (.int .i64 kk) (.int .i64 nn) (.int .u64 uu) (.string s) (.slice RA Rn Rc) (.slice LA Ln Lc) w')) := Lib.hid fun W H => by
            have hdl := dp_le_of HQ.out.1
            have hsl := sz_le_of HQ.out.1
            have hw2 : w.heap.size + 2 ≤ W.heap.size := by
              obtain ⟨_, _, _, _, _, _, h1⟩ := H.out.br
              have := Blk.lt h1
              omega
            refine (HI.out t0 _ W (by omega) (by omega) (smL_at HSM.out.2.2.2 HQ.out.1) (mpL_at hmp.2 HQ.out.1) (hn0.bel H.out.bl)).mono ?_
            rintro e w' ⟨⟨cs', rfl, h1⟩, h2⟩
            obtain ⟨k', n', u', s', A1', m1', c1', A2', m2', c2', rfl⟩ := h1.shape6
            exact ⟨k', n', u', s', A1', m1', c1', A2', m2', c2', rfl, Lib.hid (H.out.kidat hw2 h2 h1), Lib.hid (H.out.kidat hw2 h2 h1).tb.tc⟩
          obtain ⟨a0, a1, a2, a3, a4, a5⟩ := hS0.below (HT7.out.bl.trans ((Below.refl _ _).drew.mono HT7.out.bl.size) : Below w.heap.size w W7.drew) hbb
          have HT7d : Hid (TB w o (.int .i64 kk) (.int .i64 nn) (.int .u64 uu) (.string s) (.slice KA Kn Kc) (.slice (some ⟨bb, off, none⟩) m c) (.int .i64 kk) (.int .i64 nn) (.int .u64 uu) (.string s) (.slice RA Rn Rc) (.slice LA Ln Lc) (.slice RA Rn Rc) (.slice LA Ln Lc) ((turnKs kk b ks L).take j) ((turnLs kk b ks L).take j) ys W7.drew) := Lib.hid (HT7.out.below (Below.refl _ _).drew)
          obtain ⟨_, _, _, _, g4, g5⟩ := HT7d.out.bt.all
          obtain ⟨_, _, _, _, l4, l5⟩ := HT7d.out.bo.all
          clear hS0 hn0
          go_wp2_with fail
          go_region_law (first
            | (refine step_kid (kq := .slice RA Rn Rc) (lq := .slice LA Ln Lc) (t := turnT b t0) rfl _ _ rfl rfl rfl (H8.out.below (al0 w8 _)) (Blk.new w8 _ _) (by rw [List.length_take]; omega) ?_; intro YA Yn Yc w9 HT9 HTC9; obtain ⟨⟨y0, y1, y2, y3, y4, y5⟩, f0, f1, f2, f3, f4, f5⟩ := Bx.both HTC9.out.bo)
            | (go_simp; go_at_call 21; (with_reducible refine (HCALL.out _ HT7d).mono ?_); rintro e w8 ⟨k', n', u', s', A1', m1', c1', A2', m2', c2', rfl, H8, HC8⟩; obtain ⟨_, _, _, _, o4, o5⟩ := HC8.out.bo.all; have o5b : (w8.alloc (.cells #[.int .i64 k', .int .i64 n', .int .u64 u', .string s', .slice A1' m1' c1', .slice A2' m2' c2'] 26)).cell? ⟨o, 5, none⟩ = some (.slice LA Ln Lc) := by (obtain ⟨_, _, _, _, _, h⟩ := (HC8.out.below (al0 w8 (.cells #[.int .i64 k', .int .i64 n', .int .u64 u', .string s', .slice A1' m1' c1', .slice A2' m2' c2'] 26))).bo.all; exact h)))
          all_goals
            have HT10 := Lib.hid (HT9.out.set5 HO2.out (.slice YA Yn Yc))
            clear HT9 HTC9 y0 y1 y2 y3 y4 y5 f0 f1 f2 f3 f4 f5
            go_wp2_with fail
            go_roundw
            case rel => exact ⟨j + 1, _, _, _, by omega, by simp, by rw [HQ.out.2.1, HQ.out.2.2]; exact HT10⟩
            case measure => simp [intOf]; omega
      · obtain rfl : j = m := by omega
        have hT := HT.out
        rw [List.take_of_length_le (l := turnLs kk b ks L) (by rw [turnLs_len, HLL.out]; exact Nat.le_refl _), List.take_of_length_le (l := turnKs kk b ks L) (by rw [← HLL.out]; exact turnKs_len _ _ _ _)] at hT
        have HF := Lib.hid (hT.fin hr hs (by
          intro x hx
          unfold turnKs at hx
          split at hx
          · exact hksz x ((rot_list b _ ks).mem_iff.1 hx)
          · cases hx))
        obtain ⟨⟨o0, o1, o2, o3, o4, o5⟩, f0, f1, f2, f3, f4, f5⟩ := Bx.both HT.out.bo
        obtain ⟨z0, z1, z2, z3, z4, z5, hz⟩ := HT.out.br
        obtain ⟨⟨p0, p1, p2, p3, p4, p5⟩, e0, e1, e2, e3, e4, e5⟩ := Bx.both hz
        clear hT hz
        go_wp2_with fail
        refine ret_six (p := 4) (g := w.heap.size + 1) rfl rfl HF.out.1 rfl ⟨⟨_, rfl, ?_⟩, HF.out.2.2⟩
        rw [turnT_eq]
        exact HF.out.2.1
end Go.Proofs.YtpcfpikflkjmjaaDoor
