/-
  What is proved here: contract of key.Sorted; conditions: the table of package tree holds what is laid; at most 100000 nodes, strings and lists of at most 1000.
-/
import Derived.Test.YtnplkamkeadlgaaDoorSrtM
import Derived.Test.YtnplkamkeadlgaaDoorChkZ
import Derived.Test.YtnplkamkeadlgaaDoorMake
namespace Go.Proofs.YtnplkamkeadlgaaDoor
open Go.RowKit

theorem ret_six2 {f : Func} {R : Ending → World → Prop} {a : Act} {w : World} {p q : Tmp} {g : Nat} {v v0 v1 v2 v3 v4 v5 : Value} (hres : f.results = #[.cell p 31, .tmp q]) (hp : a.tmps.getD p undef = .pointer (some ⟨g, 0, none⟩)) (hq : a.tmps.getD q undef = v)
    (hB : Bx w g v0 v1 v2 v3 v4 v5) (hd : a.defers = []) (hR : R (.returned (.tuple #[.agg #[v0, v1, v2, v3, v4, v5], v])) w) : bodyPost Tryd.prog f R .ret a w := by
  refine bodyPost_ret ?_ hd hR
  have hp' : a.tmps[p]?.getD undef = .pointer (some ⟨g, 0, none⟩) := by simpa using hp
  have hq' : a.tmps[q]?.getD undef = v := by simpa using hq
  simp only [results, hres]
  simp [hp', hq', asAddr, loadVar_six hB]
theorem keysE_nodup : ∀ (ks done : List ByteArray), keysE done ks = 0 → ks.Nodup ∧ ∀ k ∈ ks, k ∉ done
  | [], _, _ => ⟨List.nodup_nil, fun k h => by cases h⟩
  | k :: ks, done, h => by
    unfold keysE at h
    by_cases h1 : hasZ k = true
    · rw [if_pos h1] at h; omega
    rw [if_neg h1] at h
    by_cases h2 : (done.any fun d => d.data.toList == k.data.toList) = true
    · rw [if_pos h2] at h; omega
    rw [if_neg h2] at h
    obtain ⟨i1, i2⟩ := keysE_nodup ks _ h
    have hd : k ∉ done := fun hm => h2 (List.any_eq_true.2 ⟨k, hm, by simp⟩)
    refine ⟨List.nodup_cons.2 ⟨fun hm => i2 k hm (by simp), i1⟩, fun x hx => ?_⟩
    rcases List.mem_cons.1 hx with rfl | hx
    · exact hd
    · exact fun hm => i2 x hx (by simp [hm])
mutual
theorem okT_mpT : ∀ {t : T}, okT t → mpT t
  | .mk k n u s ks l, h => by
    refine ⟨fun hk => ?_, okL_mpL h.2⟩
    have h1 := h.1
    unfold ownE at h1
    by_cases hs : suchT (.mk k n u s ks l) = false
    · rw [if_pos hs] at h1; omega
    rw [if_neg hs] at h1
    have h5 : ¬ ((T.mk k n u s ks l).k = 5 ∧ hasZ (T.mk k n u s ks l).s = true) := by
      rintro ⟨h, _⟩
      have : k = 5 := h
      omega
    rw [if_neg h5] at h1
    refine ⟨?_, (keysE_nodup ks [] h1).1⟩
    have hs' : suchT (.mk k n u s ks l) = true := by simpa using hs
    unfold suchT at hs'
    simp only [Bool.and_eq_true] at hs'
    have h6 := hs'.1.1.2
    rw [hk] at h6
    simpa using h6
theorem okL_mpL : ∀ {l : List T}, okL l → mpL l
  | [], _ => trivial
  | _ :: _, h => ⟨okT_mpT h.1, okL_mpL h.2⟩
end
theorem Fx.below {U : Nat → Prop} {n : Nat} {w w' : World} (h : Fx U w w') (hn : n ≤ w.heap.size) (hU : ∀ b, U b → n ≤ b) : Below n w w' :=
  ⟨h.os, h.tape, h.output, h.size, fun k hk => h.block k (by omega) fun hu => by have := hU k hu; omega⟩

set_option maxRecDepth 100000 in
set_option maxHeartbeats 2000000 in
theorem sorted_any (t : T) (cs : List Value) (w : World) (hT : Tab w) (hq : QQ t) (hnd : Nd w t cs) :
    Calls Tryd.prog 27 #[.agg cs.toArray] w fun e w' => Below w.heap.size w w' ∧ ((chk t ≠ 0 ∧ e = .returned (.tuple #[.agg #[.int .i64 0, .int .i64 0, .int .u64 0, .string ⟨#[]⟩, .slice none 0 0, .slice none 0 0], .int .i64 ((chk t : Nat) : Int)])) ∨
      (chk t = 0 ∧ ∃ cs' t', e = .returned (.tuple #[.agg cs'.toArray, .int .i64 0]) ∧ Srt t t' ∧ NdS (fun b => w.heap.size ≤ b) w' t' cs')) := by
  obtain ⟨k, n, u, s, A1, m1, c1, A2, m2, c2, rfl⟩ := hnd.shape
  have hT0 := Two.start w (.int .i64 k) (.int .i64 n) (.int .u64 u) (.string s) (.slice A1 m1 c1) (.slice A2 m2 c2) (.int .i64 0) (.int .i64 0) (.int .u64 0) (.string ⟨#[]⟩) (.slice none 0 0) (.slice none 0 0)
  have HT0 := Lib.hid hT0
  have HC := Lib.hid (check_any t _ _ (hT.keep hT0.1) hq.1 hq.2 (hnd.bel hT0.1))
  obtain ⟨x, hx⟩ : ∃ x, chk t = x := ⟨_, rfl⟩
  have HX := Lib.hid hx
  rw [hx] at HC ⊢
  have HN := Lib.hid hnd
  have HQ := Lib.hid hq
  clear hT0 hT hnd hq hx
  go_enter Tryd.func27, Tryd.ntmps27
  by_cases h0 : x = 0
  · subst h0
    have HMP : Hid (mpT t) := Lib.hid (okT_mpT ((chk_zero t).1 HX.out).1)
    have HCP : Hid (∀ W, Below w.heap.size w W → Calls Tryd.prog 43 #[.agg #[.int .i64 k, .int .i64 n, .int .u64 u, .string s, .slice A1 m1 c1, .slice A2 m2 c2]] W fun e w' => ∃ (k' n' u' : Int) (s' : ByteArray) (A1' : Option Addr) (m1' c1' : Nat) (A2' : Option Addr) (m2' c2' : Nat),
        e = .returned (.agg #[.int .i64 k', .int .i64 n', .int .u64 u', .string s', .slice A1' m1' c1', .slice A2' m2' c2']) ∧ Hid (NdS (fun b => W.heap.size ≤ b ∧ b < w'.heap.size) w' t [.int .i64 k', .int .i64 n', .int .u64 u', .string s', .slice A1' m1' c1', .slice A2' m2' c2'] ∧ Below W.heap.size W w')) := Lib.hid fun W hb => by
      refine (copy_sep (dp t) t _ W (Nat.le_refl _) HQ.out.1 HQ.out.2 (HN.out.bel hb)).mono ?_
      rintro e w' ⟨⟨cs', rfl, h1⟩, h2⟩
      obtain ⟨k', n', u', s', A1', m1', c1', A2', m2', c2', rfl⟩ := (NdS.ndo _ _ h1).shape6
      exact ⟨k', n', u', s', A1', m1', c1', A2', m2', c2', rfl, Lib.hid ⟨h1, h2⟩⟩
    have HSM : Hid (∀ (W : World) (U : Nat → Prop) (cs : List Value), NdS U W t cs → (∀ b, U b → b < W.heap.size) → Calls Tryd.prog 42 #[.agg cs.toArray] W fun e w' => ∃ (k' n' u' : Int) (s' : ByteArray) (A1' : Option Addr) (m1' c1' : Nat) (A2' : Option Addr) (m2' c2' : Nat),
        e = .returned (.agg #[.int .i64 k', .int .i64 n', .int .u64 u', .string s', .slice A1' m1' c1', .slice A2' m2' c2']) ∧ Hid (∃ t', Srt t t' ∧ NdS (fun b => U b ∨ (W.heap.size ≤ b ∧ b < w'.heap.size)) w' t' [.int .i64 k', .int .i64 n', .int .u64 u', .string s', .slice A1' m1' c1', .slice A2' m2' c2'] ∧ Fx U W w')) := Lib.hid fun W U cs h1 h2 => by
      refine (sortMaps_any (dp t) t cs W U (Nat.le_refl _) HQ.out.1 HQ.out.2 HMP.out h1 h2).mono ?_
      rintro e w' ⟨cs', t', rfl, h3, h4, h5⟩
      obtain ⟨k', n', u', s', A1', m1', c1', A2', m2', c2', rfl⟩ := (NdS.ndo _ _ h4).shape6
      exact ⟨k', n', u', s', A1', m1', c1', A2', m2', c2', rfl, Lib.hid ⟨t', h3, h4, h5⟩⟩
    go_wp2_with (first
      | (go_at_call 32; refine HC.out.mono ?_; rintro e w1 ⟨rfl, hb1⟩; have HT1 := Lib.hid (HT0.out.below hb1); clear hb1; obtain ⟨c0, c1', c2', c3, c4, c5⟩ := HT1.out.2.2.1.all)
      | (go_at_call 43; refine (HCP.out _ HT1.out.1).mono ?_; rintro e w2 ⟨k2, n2, u2, s2, B1, p1, d1, B2, p2, d2, rfl, H2⟩; have HT2 := Lib.hid (HT1.out.below H2.out.2))
      | (go_at_call 42; refine (HSM.out _ _ _ H2.out.1 (fun b hb => hb.2)).mono ?_; rintro e w3 ⟨k3, n3, u3, s3, E1, q1, f1, E2, q2, f2, rfl, H3⟩; have HX1 : Hid (Bx w3 (w.heap.size + 1) (.int .i64 0) (.int .i64 0) (.int .u64 0) (.string ⟨#[]⟩) (.slice none 0 0) (.slice none 0 0)) := (Lib.hid (((H3.out.choose_spec.2.2.block _ HT2.out.2.2.2.lt fun hu => by have h1 := hu.1; have h2 := HT1.out.2.1; omega)).trans HT2.out.2.2.2)); obtain ⟨⟨z0, z1, z2, z3, z4, z5⟩, y0, y1, y2, y3, y4, y5⟩ := Bx.both HX1.out))
    obtain ⟨t', g1, g2, g3⟩ := H3.out
    have hb3 : Below w.heap.size w w3 := HT2.out.1.trans (Fx.below g3 HT2.out.1.size fun b hb => Nat.le_trans HT1.out.1.size hb.1)
    refine ret_six2 (p := 2) (q := 3) (g := w.heap.size + 1) rfl rfl rfl (Bx.put6 HX1.out _ _ _ _ _ _) rfl ?_
    refine ⟨put6_below hb3 _ _ _ _ _ _ _ _ (by omega), [.int .i64 k3, .int .i64 n3, .int .u64 u3, .string s3, .slice E1 q1 f1, .slice E2 q2 f2], rfl, t', g1, ?_⟩
    refine NdS.imp (NdS.step (fun b hb _ => put6_other w3 (w.heap.size + 1) 0 b _ _ _ _ _ _ ?_) _ _ g2) fun b hb => ?_
    · have h2 := HT1.out.2.1
      have h3 := HT2.out.2.1
      rcases hb with hb | hb
      · have := hb.1; omega
      · have := hb.1; omega
    · have h2 := HT1.out.2.1
      have h3 := HT2.out.2.1
      rcases hb with hb | hb
      · have := hb.1; omega
      · have := hb.1; omega
  · have hx0 : ((x : Int) != 0) = true := by simp; omega
    go_wp2_with (go_at_call 32; refine HC.out.mono ?_; rintro e w1 ⟨rfl, hb1⟩; have HT1 := Lib.hid (HT0.out.below hb1); clear hb1; obtain ⟨⟨z0, z1, z2, z3, z4, z5⟩, y0, y1, y2, y3, y4, y5⟩ := Bx.both HT1.out.2.2.2)
    refine ret_six2 (p := 2) (q := 3) (g := w.heap.size + 1) rfl rfl rfl (Bx.put6 HT1.out.2.2.2 _ _ _ _ _ _) rfl ?_
    exact ⟨put6_below HT1.out.1 _ _ _ _ _ _ _ _ (by omega), .inl ⟨h0, rfl⟩⟩
end Go.Proofs.YtnplkamkeadlgaaDoor
