/-
  What is proved here: a contract of EqNode on two trees of at most 100000 nodes with at most 1000 keys a node; no other condition.
-/
import Derived.Test.YtnplkamkeadlgaaDoorRefA
import Derived.Deep.RegionHeld3
namespace Go.Proofs.YtnplkamkeadlgaaDoor
open Go.RowKit

mutual
/-- No node has more than n keys, no string more than m bytes. -/
def sm (n m : Nat) : T → Prop
  | .mk _ _ _ s ks l => s.size ≤ m ∧ ks.length ≤ n ∧ (∀ x ∈ ks, x.size ≤ m) ∧ smL n m l
def smL (n m : Nat) : List T → Prop
  | [] => True
  | t :: ts => sm n m t ∧ smL n m ts
end
theorem smL_mem {n m : Nat} : ∀ {l : List T}, smL n m l → ∀ t ∈ l, sm n m t
  | [], _, t, h => by simp at h
  | x :: xs, h, t, ht => by
    rcases List.mem_cons.1 ht with rfl | ht
    · exact h.1
    · exact smL_mem h.2 t ht
theorem smL_at {n m : Nat} {l : List T} (h : smL n m l) {j : Nat} {t : T} (ht : l[j]? = some t) : sm n m t := smL_mem h t (List.mem_of_getElem? ht)
theorem smL_of {n m : Nat} : ∀ {l : List T}, (∀ t ∈ l, sm n m t) → smL n m l
  | [], _ => trivial
  | x :: xs, h => ⟨h x (by simp), smL_of fun t ht => h t (by simp [ht])⟩

/-- Six cells at an address. -/
def Six (w : World) (b o : Nat) (v0 v1 v2 v3 v4 v5 : Value) : Prop := w.cell? ⟨b, o, none⟩ = some v0 ∧ w.cell? ⟨b, o + 1, none⟩ = some v1 ∧ w.cell? ⟨b, o + 2, none⟩ = some v2 ∧ w.cell? ⟨b, o + 3, none⟩ = some v3 ∧
      w.cell? ⟨b, o + 4, none⟩ = some v4 ∧ w.cell? ⟨b, o + 5, none⟩ = some v5
theorem Six.below {B : Nat} {w w' : World} {b o : Nat} {v0 v1 v2 v3 v4 v5 : Value} (h : Six w b o v0 v1 v2 v3 v4 v5) (hb : Below B w w') (hl : b < B) : Six w' b o v0 v1 v2 v3 v4 v5 := by
  obtain ⟨h0, h1, h2, h3, h4, h5⟩ := h
  exact ⟨(hb.cell (p := ⟨b, o, none⟩) hl).trans h0, (hb.cell (p := ⟨b, o + 1, none⟩) hl).trans h1, (hb.cell (p := ⟨b, o + 2, none⟩) hl).trans h2, (hb.cell (p := ⟨b, o + 3, none⟩) hl).trans h3, (hb.cell (p := ⟨b, o + 4, none⟩) hl).trans h4, (hb.cell (p := ⟨b, o + 5, none⟩) hl).trans h5⟩
theorem NdL.six' {w wr : World} {b off j : Nat} {l : List T} {t : T} (hN : NdL w b l off) (hb : Below w.heap.size w wr) (hbw : b < w.heap.size) (ht : l[j]? = some t) :
    ∃ v0 v1 v2 v3 v4 v5, Six wr b (off + j * 6) v0 v1 v2 v3 v4 v5 ∧ Nd wr t [v0, v1, v2, v3, v4, v5] := by
  obtain ⟨v0, v1, v2, v3, v4, v5, d0, d1, d2, d3, d4, d5, hn0⟩ := hN.six hb hbw ht
  exact ⟨v0, v1, v2, v3, v4, v5, ⟨d0, d1, d2, d3, d4, d5⟩, hn0⟩
theorem Nd.bel {w w' : World} {t : T} {cs : List Value} (h : Nd w t cs) (hb : Below w.heap.size w w') : Nd w' t cs := Nd.below hb t cs h
theorem neB {a b : Int} (h : ¬ a = b) : (a != b) = true := by simp [h]

theorem ret_iff {a b : Bool} (h : (a = true) ↔ (b = true)) : Ending.returned (.bool a) = .returned (.bool b) := by
  cases a <;> cases b <;> simp_all

/-- The two boxes of two nodes, in a later world. -/
def Two (w : World) (v0 v1 v2 v3 v4 v5 u0 u1 u2 u3 u4 u5 : Value) (wr : World) : Prop := Below w.heap.size w wr ∧ w.heap.size + 2 ≤ wr.heap.size ∧ Bx wr w.heap.size v0 v1 v2 v3 v4 v5 ∧ Bx wr (w.heap.size + 1) u0 u1 u2 u3 u4 u5
theorem Two.start (w : World) (v0 v1 v2 v3 v4 v5 u0 u1 u2 u3 u4 u5 : Value) : Two w v0 v1 v2 v3 v4 v5 u0 u1 u2 u3 u4 u5 ((w.alloc (.cells #[v0, v1, v2, v3, v4, v5] 31)).alloc (.cells #[u0, u1, u2, u3, u4, u5] 31)) := by
  refine ⟨((Below.refl _ w).alloc (Nat.le_refl _) _).alloc (by simp) _, by simp, (Blk.new _ _ _).alloc _, ?_⟩
  have := Blk.new (w.alloc (.cells #[v0, v1, v2, v3, v4, v5] 31)) 31 #[u0, u1, u2, u3, u4, u5]
  rwa [World.size_alloc] at this
theorem Two.below {w wr w2 : World} {v0 v1 v2 v3 v4 v5 u0 u1 u2 u3 u4 u5 : Value} (h : Two w v0 v1 v2 v3 v4 v5 u0 u1 u2 u3 u4 u5 wr) (hb : Below wr.heap.size wr w2) : Two w v0 v1 v2 v3 v4 v5 u0 u1 u2 u3 u4 u5 w2 := by
  have := hb.size
  exact ⟨h.1.trans (hb.mono (by have := h.2.1; omega)), by have := h.2.1; omega, h.2.2.1.below hb (by have := h.2.1; omega), h.2.2.2.below hb (by have := h.2.1; omega)⟩
theorem take_ne {a b : List T} {j : Nat} {x y : T} (hx : a[j]? = some x) (hy : b[j]? = some y) (h : ¬ x = y) : a ≠ b := by
  intro e; rw [e, hy] at hx; exact h (Option.some.inj hx).symm
theorem take_eq {a b : List T} {j : Nat} {x y : T} (hx : a[j]? = some x) (hy : b[j]? = some y) (h : x = y) (ht : a.take j = b.take j) : a.take (j + 1) = b.take (j + 1) := by
  rw [List.take_add_one, List.take_add_one, ht, hx, hy, h]

set_option maxRecDepth 100000 in
set_option maxHeartbeats 4000000 in
theorem eqNode_any (k : Nat) : ∀ (a b : T) (ca cb : List Value) (w : World), dp a ≤ k → sz a ≤ 100000 → sm 1000 1000 a → Nd w a ca → Nd w b cb →
    Calls Tryd.prog 28 #[.agg ca.toArray, .agg cb.toArray] w fun e w' => (∃ β, e = .returned (.bool β) ∧ (β = true ↔ a = b)) ∧ Below w.heap.size w w' := by
  induction k with
  | zero => intro t _ cs _ w h; exact absurd h (by have := dp_pos t; omega)
  | succ k ih =>
    rintro ⟨k1, n1, u1, s1, ks1, l1⟩ ⟨k2, n2, u2, s2, ks2, l2⟩ ca cb w hk hsz hsm ⟨hr, hs, kv, A, m, c, rfl, hks, hl, hm, hmm, hL⟩ ⟨hr', hs', kv', A', m', c', rfl, hks', hl', hm', hmm', hL'⟩
    simp only [dp] at hk
    simp only [sz] at hsz
    have hmx : m ≤ 100000 := by have := len_le_szL l1; omega
    have HT0 := Lib.hid (Two.start w (.int .i64 k1) (.int .i64 n1) (.int .u64 u1) (.string s1) kv (.slice A m c) (.int .i64 k2) (.int .i64 n2) (.int .u64 u2) (.string s2) kv' (.slice A' m' c'))
    have hkey := eqTexts_any ks1 ks2 kv kv' _ (hks.below HT0.out.1) (hks'.below HT0.out.1) hsm.2.1
    by_cases h0 : k1 = k2
    case neg =>
      have hne := neB h0
      go_enter Tryd.func28, Tryd.ntmps28
      go_wp2_with fail
      go_ret
      exact ⟨⟨false, rfl, by simp [h0]⟩, HT0.out.1⟩
    by_cases h1 : n1 = n2
    case neg =>
      have hne := neB h1
      subst h0
      go_enter Tryd.func28, Tryd.ntmps28
      go_wp2_with fail
      go_ret
      exact ⟨⟨false, rfl, by simp [h1]⟩, HT0.out.1⟩
    by_cases h2 : u1 = u2
    case neg =>
      have hne := neB h2
      subst h0 h1
      go_enter Tryd.func28, Tryd.ntmps28
      go_wp2_with fail
      go_ret
      exact ⟨⟨false, rfl, by simp [h2]⟩, HT0.out.1⟩
    by_cases h3 : s1 = s2
    case neg =>
      have hne := strEq_false h3
      subst h0 h1 h2
      go_enter Tryd.func28, Tryd.ntmps28
      go_wp2_with fail
      go_ret
      exact ⟨⟨false, rfl, by simp [h3]⟩, HT0.out.1⟩
    by_cases h4 : ks1 = ks2
    case neg =>
      subst h0 h1 h2 h3
      rw [decide_eq_false h4] at hkey
      go_enter Tryd.func28, Tryd.ntmps28
      go_wp2_with (go_at_call 21; refine hkey.mono ?_; clear hkey; rintro e w2 ⟨rfl, hb2⟩)
      go_ret
      exact ⟨⟨false, rfl, by simp [h4]⟩, (HT0.out.below hb2).1⟩
    subst h0 h1 h2 h3 h4
    simp only [decide_true] at hkey
    by_cases h5 : m = m'
    case neg =>
      have hne : (((m : Nat) : Int) != ((m' : Nat) : Int)) = true := neB (by omega)
      have hll : l1 ≠ l2 := fun e => h5 (by rw [← hl, ← hl', e])
      go_enter Tryd.func28, Tryd.ntmps28
      go_wp2_with (go_at_call 21; refine hkey.mono ?_; clear hkey; rintro e w2 ⟨rfl, hb2⟩; have HT1 := Lib.hid (HT0.out.below hb2); have ca5 := (HT1.out.2.2.1.all).2.2.2.2.2; have cb5 := (HT1.out.2.2.2.all).2.2.2.2.2)
      go_ret
      exact ⟨⟨false, rfl, by simp [hll]⟩, HT1.out.1⟩
    subst h5
    go_enter Tryd.func28, Tryd.ntmps28
    go_wp2_with (go_at_call 21; refine hkey.mono ?_; clear hkey; rintro e w2 ⟨rfl, hb2⟩; have HT1 := Lib.hid (HT0.out.below hb2); have ca5 := (HT1.out.2.2.1.all).2.2.2.2.2; have cb5 := (HT1.out.2.2.2.all).2.2.2.2.2)
    clear ca5 cb5
    go_loopw [5] (fun i wr => ∃ j : Nat, j ≤ m ∧ i = .int .i64 j ∧ l1.take j = l2.take j ∧ Hid (Two w (.int .i64 k1) (.int .i64 n1) (.int .u64 u1) (.string s1) kv (.slice A m c) (.int .i64 k1) (.int .i64 n1) (.int .u64 u1) (.string s1) kv' (.slice A' m c') wr)) (fun i _ => m - (intOf i).toNat)
    case atStart => exact ⟨0, Nat.zero_le _, rfl, by simp, HT1⟩
    case round =>
      obtain ⟨j, hj, rfl, heq, HT⟩ := hrel
      obtain ⟨_, _, _, _, _, ca5⟩ := HT.out.2.2.1.all
      obtain ⟨_, _, _, _, _, cb5⟩ := HT.out.2.2.2.all
      by_cases hjm : j < m
      · obtain ⟨b, off, rfl, hbw, hN⟩ := hL (by omega)
        obtain ⟨b', off', rfl, hbw', hN'⟩ := hL' (by omega)
        obtain ⟨t1, ht1⟩ : ∃ t, l1[j]? = some t := ⟨_, List.getElem?_eq_getElem (by omega)⟩
        obtain ⟨t2, ht2⟩ : ∃ t, l2[j]? = some t := ⟨_, List.getElem?_eq_getElem (by omega)⟩
        obtain ⟨v0, v1, v2, v3, v4, v5, hS, hn1⟩ := hN.six' (Below.refl _ _) hbw ht1
        obtain ⟨x0, x1, x2, x3, x4, x5, hS', hn2⟩ := hN'.six' (Below.refl _ _) hbw' ht2
        have hle := sz_le_of ht1
        have hdl := dp_le_of ht1
        have hall : ∀ W, Hid (Two w (.int .i64 k1) (.int .i64 n1) (.int .u64 u1) (.string s1) kv (.slice (some ⟨b, off, none⟩) m c) (.int .i64 k1) (.int .i64 n1) (.int .u64 u1) (.string s1) kv' (.slice (some ⟨b', off', none⟩) m c') W) → Hid (Two w (.int .i64 k1) (.int .i64 n1) (.int .u64 u1) (.string s1) kv (.slice (some ⟨b, off, none⟩) m c) (.int .i64 k1) (.int .i64 n1) (.int .u64 u1) (.string s1) kv' (.slice (some ⟨b', off', none⟩) m c') W) ∧ W.cell? ⟨w.heap.size, 5, none⟩ = some (.slice (some ⟨b, off, none⟩) m c) ∧ W.cell? ⟨w.heap.size + 1, 5, none⟩ = some (.slice (some ⟨b', off', none⟩) m c') ∧ W.cell? ⟨b, off + j * 6, none⟩ = some v0 ∧ W.cell? ⟨b, off + j * 6 + 1, none⟩ = some v1 ∧ W.cell? ⟨b, off + j * 6 + 2, none⟩ = some v2 ∧ W.cell? ⟨b, off + j * 6 + 3, none⟩ = some v3 ∧ W.cell? ⟨b, off + j * 6 + 4, none⟩ = some v4 ∧ W.cell? ⟨b, off + j * 6 + 5, none⟩ = some v5 ∧ W.cell? ⟨b', off' + j * 6, none⟩ = some x0 ∧ W.cell? ⟨b', off' + j * 6 + 1, none⟩ = some x1 ∧ W.cell? ⟨b', off' + j * 6 + 2, none⟩ = some x2 ∧ W.cell? ⟨b', off' + j * 6 + 3, none⟩ = some x3 ∧ W.cell? ⟨b', off' + j * 6 + 4, none⟩ = some x4 ∧ W.cell? ⟨b', off' + j * 6 + 5, none⟩ = some x5 := by
          intro W H
          have q := hS.below H.out.1 hbw
          have q' := hS'.below H.out.1 hbw'
          exact ⟨H, (H.out.2.2.1.all).2.2.2.2.2, (H.out.2.2.2.all).2.2.2.2.2, q.1, q.2.1, q.2.2.1, q.2.2.2.1, q.2.2.2.2.1, q.2.2.2.2.2, q'.1, q'.2.1, q'.2.2.1, q'.2.2.2.1, q'.2.2.2.2.1, q'.2.2.2.2.2⟩
        have HIH : Hid (∀ W, Hid (Two w (.int .i64 k1) (.int .i64 n1) (.int .u64 u1) (.string s1) kv (.slice (some ⟨b, off, none⟩) m c) (.int .i64 k1) (.int .i64 n1) (.int .u64 u1) (.string s1) kv' (.slice (some ⟨b', off', none⟩) m c') W) →
            Calls Tryd.prog 28 #[.agg #[v0, v1, v2, v3, v4, v5], .agg #[x0, x1, x2, x3, x4, x5]] W fun e w' => (∃ β, e = .returned (.bool β) ∧ (β = true ↔ t1 = t2)) ∧
              Hid (Two w (.int .i64 k1) (.int .i64 n1) (.int .u64 u1) (.string s1) kv (.slice (some ⟨b, off, none⟩) m c) (.int .i64 k1) (.int .i64 n1) (.int .u64 u1) (.string s1) kv' (.slice (some ⟨b', off', none⟩) m c') w')) := Lib.hid fun W H =>
          (ih t1 t2 _ _ W (by omega) (by omega) (smL_at hsm.2.2.2 ht1) (hn1.bel H.out.1) (hn2.bel H.out.1)).mono fun e w' h => ⟨h.1, Lib.hid (H.out.below h.2)⟩
        have HN := Lib.hid (fun h => take_ne ht1 ht2 h)
        have HE := Lib.hid (fun h => take_eq ht1 ht2 h heq)
        obtain ⟨_, d5, d5', f0, f1, f2, f3, f4, f5, g0, g1, g2, g3, g4, g5⟩ := hall wr HT
        have HTd := Lib.hid (HT.out.below (Below.refl _ _).drew)
        have hjb : (0 : Int) ≤ (j : Int) := by omega
        have hjb2 : (j : Int) < (m : Int) := by omega
        clear hS hS' hn1 hn2 hN hN' hbw hbw' hL hL' ih ht1 ht2 hsm hks hks' heq hle hdl ca5 cb5 hr hr' hs hs' hl hl'
        go_wp2_with fail
        go_region_held3 (fun W => Hid (Two w (.int .i64 k1) (.int .i64 n1) (.int .u64 u1) (.string s1) kv (.slice (some ⟨b, off, none⟩) m c) (.int .i64 k1) (.int .i64 n1) (.int .u64 u1) (.string s1) kv' (.slice (some ⟨b', off', none⟩) m c') W) ∧ W.cell? ⟨w.heap.size, 5, none⟩ = some (.slice (some ⟨b, off, none⟩) m c) ∧ W.cell? ⟨w.heap.size + 1, 5, none⟩ = some (.slice (some ⟨b', off', none⟩) m c') ∧ W.cell? ⟨b, off + j * 6, none⟩ = some v0 ∧ W.cell? ⟨b, off + j * 6 + 1, none⟩ = some v1 ∧ W.cell? ⟨b, off + j * 6 + 2, none⟩ = some v2 ∧ W.cell? ⟨b, off + j * 6 + 3, none⟩ = some v3 ∧ W.cell? ⟨b, off + j * 6 + 4, none⟩ = some v4 ∧ W.cell? ⟨b, off + j * 6 + 5, none⟩ = some v5 ∧ W.cell? ⟨b', off' + j * 6, none⟩ = some x0 ∧ W.cell? ⟨b', off' + j * 6 + 1, none⟩ = some x1 ∧ W.cell? ⟨b', off' + j * 6 + 2, none⟩ = some x2 ∧ W.cell? ⟨b', off' + j * 6 + 3, none⟩ = some x3 ∧ W.cell? ⟨b', off' + j * 6 + 4, none⟩ = some x4 ∧ W.cell? ⟨b', off' + j * 6 + 5, none⟩ = some x5) (exact hall _ (by assumption))
          (first | (go_at_call 28; (with_reducible refine (HIH.out _ (by assumption)).mono ?_); rintro e w3 ⟨⟨β, rfl, hβ⟩, HT3⟩; have HB := Lib.hid hβ; clear hβ))
        cases β with
        | true =>
          have hq := HE.out (HB.out.1 rfl)
          clear HN HE HB
          go_wp2_with fail
          go_roundw
          case rel => exact ⟨j + 1, by omega, by simp, hq, HT3⟩
          case measure => simp [intOf]; omega
        | false =>
          have hq : l1 ≠ l2 := HN.out (fun e => absurd (HB.out.2 e) (by simp))
          clear HN HE HB
          go_wp2_with fail
          go_ret
          exact ⟨⟨false, rfl, by simp [hq]⟩, HT3.out.1⟩
      · go_wp2_with fail
        go_ret
        obtain rfl : j = m := by omega
        rw [List.take_of_length_le (by omega), List.take_of_length_le (by omega)] at heq
        exact ⟨⟨true, rfl, by simp [heq]⟩, HT.out.1⟩
end Go.Proofs.YtnplkamkeadlgaaDoor
