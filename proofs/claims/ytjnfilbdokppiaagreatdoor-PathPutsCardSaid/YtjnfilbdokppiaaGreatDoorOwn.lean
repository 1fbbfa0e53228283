/-
  What is proved here: a contract of EqNode on two trees of at most 100000 nodes with at most 1000 keys a node; no other condition; and: a contract of tree.visit and of the iterator that tree.nodes hands back: each node with its level, in preorder, whatever the loop's body does to its own memory; no condition but those that each fact states; and: contracts of tree.Size and tree.Deep on trees of at most 100000 nodes; no other condition; and: a tree that lies in memory of the call's own: what it means, that it reads as a tree, how it is carried on; no condition but those that each fact states.
-/
import Derived.Test.YtjnfilbdokppiaaGreatDoorRefA
import Derived.Deep.RegionHeld3
import Derived.RangeFuncNested
import Derived.RangeFuncBound
import Derived.RangeFuncCalls
import Derived.RangeFuncLeaves
import Derived.Shelf.Abstract
import Derived.Shelf.RegionOpen
import Derived.OwnWalkIn
import Derived.TacticsInMore
import Derived.LoopNIn
import Derived.LoopIn
namespace Go.Proofs.YtjnfilbdokppiaaGreatDoor
open Go.RowKit

mutual
/-- No node has more than n keys, no string more than m bytes. -/
def sm (n m : Nat) : T → Prop
  | .mk _ _ _ s ks l => s.size ≤ m ∧ ks.length ≤ n ∧ (∀ x ∈ ks, x.size ≤ m) ∧ smL n m l
def smL (n m : Nat) : List T → Prop
  | [] => True
  | t :: ts => sm n m t ∧ smL n m ts
end
theorem smL_mem {n m : Nat} : ∀ {l : List T}, smL n m l → ∀ t ∈ l, sm n m t
  | [], _, t, h => by simp at h
  | x :: xs, h, t, ht => by
    rcases List.mem_cons.1 ht with rfl | ht
    · exact h.1
    · exact smL_mem h.2 t ht
theorem smL_at {n m : Nat} {l : List T} (h : smL n m l) {j : Nat} {t : T} (ht : l[j]? = some t) : sm n m t := smL_mem h t (List.mem_of_getElem? ht)
theorem smL_of {n m : Nat} : ∀ {l : List T}, (∀ t ∈ l, sm n m t) → smL n m l
  | [], _ => trivial
  | x :: xs, h => ⟨h x (by simp), smL_of fun t ht => h t (by simp [ht])⟩

/-- Six cells at an address. -/
def Six (w : World) (b o : Nat) (v0 v1 v2 v3 v4 v5 : Value) : Prop := w.cell? ⟨b, o, none⟩ = some v0 ∧ w.cell? ⟨b, o + 1, none⟩ = some v1 ∧ w.cell? ⟨b, o + 2, none⟩ = some v2 ∧ w.cell? ⟨b, o + 3, none⟩ = some v3 ∧
      w.cell? ⟨b, o + 4, none⟩ = some v4 ∧ w.cell? ⟨b, o + 5, none⟩ = some v5
theorem Six.below {B : Nat} {w w' : World} {b o : Nat} {v0 v1 v2 v3 v4 v5 : Value} (h : Six w b o v0 v1 v2 v3 v4 v5) (hb : Below B w w') (hl : b < B) : Six w' b o v0 v1 v2 v3 v4 v5 := by
  obtain ⟨h0, h1, h2, h3, h4, h5⟩ := h
  exact ⟨(hb.cell (p := ⟨b, o, none⟩) hl).trans h0, (hb.cell (p := ⟨b, o + 1, none⟩) hl).trans h1, (hb.cell (p := ⟨b, o + 2, none⟩) hl).trans h2, (hb.cell (p := ⟨b, o + 3, none⟩) hl).trans h3, (hb.cell (p := ⟨b, o + 4, none⟩) hl).trans h4, (hb.cell (p := ⟨b, o + 5, none⟩) hl).trans h5⟩
theorem NdL.six' {w wr : World} {b off j : Nat} {l : List T} {t : T} (hN : NdL w b l off) (hb : Below w.heap.size w wr) (hbw : b < w.heap.size) (ht : l[j]? = some t) :
    ∃ v0 v1 v2 v3 v4 v5, Six wr b (off + j * 6) v0 v1 v2 v3 v4 v5 ∧ Nd wr t [v0, v1, v2, v3, v4, v5] := by
  obtain ⟨v0, v1, v2, v3, v4, v5, d0, d1, d2, d3, d4, d5, hn0⟩ := hN.six hb hbw ht
  exact ⟨v0, v1, v2, v3, v4, v5, ⟨d0, d1, d2, d3, d4, d5⟩, hn0⟩
theorem Nd.bel {w w' : World} {t : T} {cs : List Value} (h : Nd w t cs) (hb : Below w.heap.size w w') : Nd w' t cs := Nd.below hb t cs h
theorem neB {a b : Int} (h : ¬ a = b) : (a != b) = true := by simp [h]

theorem ret_iff {a b : Bool} (h : (a = true) ↔ (b = true)) : Ending.returned (.bool a) = .returned (.bool b) := by
  cases a <;> cases b <;> simp_all

/-- The two boxes of two nodes, in a later world. -/
def Two (w : World) (v0 v1 v2 v3 v4 v5 u0 u1 u2 u3 u4 u5 : Value) (wr : World) : Prop := Below w.heap.size w wr ∧ w.heap.size + 2 ≤ wr.heap.size ∧ Bx wr w.heap.size v0 v1 v2 v3 v4 v5 ∧ Bx wr (w.heap.size + 1) u0 u1 u2 u3 u4 u5
theorem Two.start (w : World) (v0 v1 v2 v3 v4 v5 u0 u1 u2 u3 u4 u5 : Value) : Two w v0 v1 v2 v3 v4 v5 u0 u1 u2 u3 u4 u5 ((w.alloc (.cells #[v0, v1, v2, v3, v4, v5] 38)).alloc (.cells #[u0, u1, u2, u3, u4, u5] 38)) := by
  refine ⟨((Below.refl _ w).alloc (Nat.le_refl _) _).alloc (by simp) _, by simp, (Blk.new _ _ _).alloc _, ?_⟩
  have := Blk.new (w.alloc (.cells #[v0, v1, v2, v3, v4, v5] 38)) 38 #[u0, u1, u2, u3, u4, u5]
  rwa [World.size_alloc] at this
theorem Two.below {w wr w2 : World} {v0 v1 v2 v3 v4 v5 u0 u1 u2 u3 u4 u5 : Value} (h : Two w v0 v1 v2 v3 v4 v5 u0 u1 u2 u3 u4 u5 wr) (hb : Below wr.heap.size wr w2) : Two w v0 v1 v2 v3 v4 v5 u0 u1 u2 u3 u4 u5 w2 := by
  have := hb.size
  exact ⟨h.1.trans (hb.mono (by have := h.2.1; omega)), by have := h.2.1; omega, h.2.2.1.below hb (by have := h.2.1; omega), h.2.2.2.below hb (by have := h.2.1; omega)⟩
theorem take_ne {a b : List T} {j : Nat} {x y : T} (hx : a[j]? = some x) (hy : b[j]? = some y) (h : ¬ x = y) : a ≠ b := by
  intro e; rw [e, hy] at hx; exact h (Option.some.inj hx).symm
theorem take_eq {a b : List T} {j : Nat} {x y : T} (hx : a[j]? = some x) (hy : b[j]? = some y) (h : x = y) (ht : a.take j = b.take j) : a.take (j + 1) = b.take (j + 1) := by
  rw [List.take_add_one, List.take_add_one, ht, hx, hy, h]

set_option maxRecDepth 100000 in
set_option maxHeartbeats 4000000 in
theorem eqNode_any (k : Nat) : ∀ (a b : T) (ca cb : List Value) (w : World), dp a ≤ k → sz a ≤ 100000 → sm 1000 1000 a → Nd w a ca → Nd w b cb →
    Calls Tryz.prog 24 #[.agg ca.toArray, .agg cb.toArray] w fun e w' => (∃ β, e = .returned (.bool β) ∧ (β = true ↔ a = b)) ∧ Below w.heap.size w w' := by
  induction k with
  | zero => intro t _ cs _ w h; exact absurd h (by have := dp_pos t; omega)
  | succ k ih =>
    rintro ⟨k1, n1, u1, s1, ks1, l1⟩ ⟨k2, n2, u2, s2, ks2, l2⟩ ca cb w hk hsz hsm ⟨hr, hs, kv, A, m, c, rfl, hks, hl, hm, hmm, hL⟩ ⟨hr', hs', kv', A', m', c', rfl, hks', hl', hm', hmm', hL'⟩
    simp only [dp] at hk
    simp only [sz] at hsz
    have hmx : m ≤ 100000 := by have := len_le_szL l1; omega
    have HT0 := Lib.hid (Two.start w (.int .i64 k1) (.int .i64 n1) (.int .u64 u1) (.string s1) kv (.slice A m c) (.int .i64 k2) (.int .i64 n2) (.int .u64 u2) (.string s2) kv' (.slice A' m' c'))
    have hkey := eqTexts_any ks1 ks2 kv kv' _ (hks.below HT0.out.1) (hks'.below HT0.out.1) hsm.2.1
    by_cases h0 : k1 = k2
    case neg =>
      have hne := neB h0
      go_enter Tryz.func24, Tryz.ntmps24
      go_wp2_with fail
      go_ret
      exact ⟨⟨false, rfl, by simp [h0]⟩, HT0.out.1⟩
    by_cases h1 : n1 = n2
    case neg =>
      have hne := neB h1
      subst h0
      go_enter Tryz.func24, Tryz.ntmps24
      go_wp2_with fail
      go_ret
      exact ⟨⟨false, rfl, by simp [h1]⟩, HT0.out.1⟩
    by_cases h2 : u1 = u2
    case neg =>
      have hne := neB h2
      subst h0 h1
      go_enter Tryz.func24, Tryz.ntmps24
      go_wp2_with fail
      go_ret
      exact ⟨⟨false, rfl, by simp [h2]⟩, HT0.out.1⟩
    by_cases h3 : s1 = s2
    case neg =>
      have hne := strEq_false h3
      subst h0 h1 h2
      go_enter Tryz.func24, Tryz.ntmps24
      go_wp2_with fail
      go_ret
      exact ⟨⟨false, rfl, by simp [h3]⟩, HT0.out.1⟩
    by_cases h4 : ks1 = ks2
    case neg =>
      subst h0 h1 h2 h3
      rw [decide_eq_false h4] at hkey
      go_enter Tryz.func24, Tryz.ntmps24
      go_wp2_with (go_at_call 60; refine hkey.mono ?_; clear hkey; rintro e w2 ⟨rfl, hb2⟩)
      go_ret
      exact ⟨⟨false, rfl, by simp [h4]⟩, (HT0.out.below hb2).1⟩
    subst h0 h1 h2 h3 h4
    simp only [decide_true] at hkey
    by_cases h5 : m = m'
    case neg =>
      have hne : (((m : Nat) : Int) != ((m' : Nat) : Int)) = true := neB (by omega)
      have hll : l1 ≠ l2 := fun e => h5 (by rw [← hl, ← hl', e])
      go_enter Tryz.func24, Tryz.ntmps24
      go_wp2_with (go_at_call 60; refine hkey.mono ?_; clear hkey; rintro e w2 ⟨rfl, hb2⟩; have HT1 := Lib.hid (HT0.out.below hb2); have ca5 := (HT1.out.2.2.1.all).2.2.2.2.2; have cb5 := (HT1.out.2.2.2.all).2.2.2.2.2)
      go_ret
      exact ⟨⟨false, rfl, by simp [hll]⟩, HT1.out.1⟩
    subst h5
    go_enter Tryz.func24, Tryz.ntmps24
    go_wp2_with (go_at_call 60; refine hkey.mono ?_; clear hkey; rintro e w2 ⟨rfl, hb2⟩; have HT1 := Lib.hid (HT0.out.below hb2); have ca5 := (HT1.out.2.2.1.all).2.2.2.2.2; have cb5 := (HT1.out.2.2.2.all).2.2.2.2.2)
    clear ca5 cb5
    go_loopw [5] (fun i wr => ∃ j : Nat, j ≤ m ∧ i = .int .i64 j ∧ l1.take j = l2.take j ∧ Hid (Two w (.int .i64 k1) (.int .i64 n1) (.int .u64 u1) (.string s1) kv (.slice A m c) (.int .i64 k1) (.int .i64 n1) (.int .u64 u1) (.string s1) kv' (.slice A' m c') wr)) (fun i _ => m - (intOf i).toNat)
    case atStart => exact ⟨0, Nat.zero_le _, rfl, by simp, HT1⟩
    case round =>
      obtain ⟨j, hj, rfl, heq, HT⟩ := hrel
      obtain ⟨_, _, _, _, _, ca5⟩ := HT.out.2.2.1.all
      obtain ⟨_, _, _, _, _, cb5⟩ := HT.out.2.2.2.all
      by_cases hjm : j < m
      · obtain ⟨b, off, rfl, hbw, hN⟩ := hL (by omega)
        obtain ⟨b', off', rfl, hbw', hN'⟩ := hL' (by omega)
        obtain ⟨t1, ht1⟩ : ∃ t, l1[j]? = some t := ⟨_, List.getElem?_eq_getElem (by omega)⟩
        obtain ⟨t2, ht2⟩ : ∃ t, l2[j]? = some t := ⟨_, List.getElem?_eq_getElem (by omega)⟩
        obtain ⟨v0, v1, v2, v3, v4, v5, hS, hn1⟩ := hN.six' (Below.refl _ _) hbw ht1
        obtain ⟨x0, x1, x2, x3, x4, x5, hS', hn2⟩ := hN'.six' (Below.refl _ _) hbw' ht2
        have hle := sz_le_of ht1
        have hdl := dp_le_of ht1
        have hall : ∀ W, Hid (Two w (.int .i64 k1) (.int .i64 n1) (.int .u64 u1) (.string s1) kv (.slice (some ⟨b, off, none⟩) m c) (.int .i64 k1) (.int .i64 n1) (.int .u64 u1) (.string s1) kv' (.slice (some ⟨b', off', none⟩) m c') W) → Hid (Two w (.int .i64 k1) (.int .i64 n1) (.int .u64 u1) (.string s1) kv (.slice (some ⟨b, off, none⟩) m c) (.int .i64 k1) (.int .i64 n1) (.int .u64 u1) (.string s1) kv' (.slice (some ⟨b', off', none⟩) m c') W) ∧ W.cell? ⟨w.heap.size, 5, none⟩ = some (.slice (some ⟨b, off, none⟩) m c) ∧ W.cell? ⟨w.heap.size + 1, 5, none⟩ = some (.slice (some ⟨b', off', none⟩) m c') ∧ W.cell? ⟨b, off + j * 6, none⟩ = some v0 ∧ W.cell? ⟨b, off + j * 6 + 1, none⟩ = some v1 ∧ W.cell? ⟨b, off + j * 6 + 2, none⟩ = some v2 ∧ W.cell? ⟨b, off + j * 6 + 3, none⟩ = some v3 ∧ W.cell? ⟨b, off + j * 6 + 4, none⟩ = some v4 ∧ W.cell? ⟨b, off + j * 6 + 5, none⟩ = some v5 ∧ W.cell? ⟨b', off' + j * 6, none⟩ = some x0 ∧ W.cell? ⟨b', off' + j * 6 + 1, none⟩ = some x1 ∧ W.cell? ⟨b', off' + j * 6 + 2, none⟩ = some x2 ∧ W.cell? ⟨b', off' + j * 6 + 3, none⟩ = some x3 ∧ W.cell? ⟨b', off' + j * 6 + 4, none⟩ = some x4 ∧ W.cell? ⟨b', off' + j * 6 + 5, none⟩ = some x5 := by
          intro W H
          have q := hS.below H.out.1 hbw
          have q' := hS'.below H.out.1 hbw'
          exact ⟨H, (H.out.2.2.1.all).2.2.2.2.2, (H.out.2.2.2.all).2.2.2.2.2, q.1, q.2.1, q.2.2.1, q.2.2.2.1, q.2.2.2.2.1, q.2.2.2.2.2, q'.1, q'.2.1, q'.2.2.1, q'.2.2.2.1, q'.2.2.2.2.1, q'.2.2.2.2.2⟩
        have HIH : Hid (∀ W, Hid (Two w (.int .i64 k1) (.int .i64 n1) (.int .u64 u1) (.string s1) kv (.slice (some ⟨b, off, none⟩) m c) (.int .i64 k1) (.int .i64 n1) (.int .u64 u1) (.string s1) kv' (.slice (some ⟨b', off', none⟩) m c') W) →
            Calls Tryz.prog 24 #[.agg #[v0, v1, v2, v3, v4, v5], .agg #[x0, x1, x2, x3, x4, x5]] W fun e w' => (∃ β, e = .returned (.bool β) ∧ (β = true ↔ t1 = t2)) ∧
              Hid (Two w (.int .i64 k1) (.int .i64 n1) (.int .u64 u1) (.string s1) kv (.slice (some ⟨b, off, none⟩) m c) (.int .i64 k1) (.int .i64 n1) (.int .u64 u1) (.string s1) kv' (.slice (some ⟨b', off', none⟩) m c') w')) := Lib.hid fun W H =>
          (ih t1 t2 _ _ W (by omega) (by omega) (smL_at hsm.2.2.2 ht1) (hn1.bel H.out.1) (hn2.bel H.out.1)).mono fun e w' h => ⟨h.1, Lib.hid (H.out.below h.2)⟩
        have HN := Lib.hid (fun h => take_ne ht1 ht2 h)
        have HE := Lib.hid (fun h => take_eq ht1 ht2 h heq)
        obtain ⟨_, d5, d5', f0, f1, f2, f3, f4, f5, g0, g1, g2, g3, g4, g5⟩ := hall wr HT
        have HTd := Lib.hid (HT.out.below (Below.refl _ _).drew)
        have hjb : (0 : Int) ≤ (j : Int) := by omega
        have hjb2 : (j : Int) < (m : Int) := by omega
        clear hS hS' hn1 hn2 hN hN' hbw hbw' hL hL' ih ht1 ht2 hsm hks hks' heq hle hdl ca5 cb5 hr hr' hs hs' hl hl'
        go_wp2_with fail
        go_region_held3 (fun W => Hid (Two w (.int .i64 k1) (.int .i64 n1) (.int .u64 u1) (.string s1) kv (.slice (some ⟨b, off, none⟩) m c) (.int .i64 k1) (.int .i64 n1) (.int .u64 u1) (.string s1) kv' (.slice (some ⟨b', off', none⟩) m c') W) ∧ W.cell? ⟨w.heap.size, 5, none⟩ = some (.slice (some ⟨b, off, none⟩) m c) ∧ W.cell? ⟨w.heap.size + 1, 5, none⟩ = some (.slice (some ⟨b', off', none⟩) m c') ∧ W.cell? ⟨b, off + j * 6, none⟩ = some v0 ∧ W.cell? ⟨b, off + j * 6 + 1, none⟩ = some v1 ∧ W.cell? ⟨b, off + j * 6 + 2, none⟩ = some v2 ∧ W.cell? ⟨b, off + j * 6 + 3, none⟩ = some v3 ∧ W.cell? ⟨b, off + j * 6 + 4, none⟩ = some v4 ∧ W.cell? ⟨b, off + j * 6 + 5, none⟩ = some v5 ∧ W.cell? ⟨b', off' + j * 6, none⟩ = some x0 ∧ W.cell? ⟨b', off' + j * 6 + 1, none⟩ = some x1 ∧ W.cell? ⟨b', off' + j * 6 + 2, none⟩ = some x2 ∧ W.cell? ⟨b', off' + j * 6 + 3, none⟩ = some x3 ∧ W.cell? ⟨b', off' + j * 6 + 4, none⟩ = some x4 ∧ W.cell? ⟨b', off' + j * 6 + 5, none⟩ = some x5) (exact hall _ (by assumption))
          (first | (go_at_call 24; (with_reducible refine (HIH.out _ (by assumption)).mono ?_); rintro e w3 ⟨⟨β, rfl, hβ⟩, HT3⟩; have HB := Lib.hid hβ; clear hβ))
        cases β with
        | true =>
          have hq := HE.out (HB.out.1 rfl)
          clear HN HE HB
          go_wp2_with fail
          go_roundw
          case rel => exact ⟨j + 1, by omega, by simp, hq, HT3⟩
          case measure => simp [intOf]; omega
        | false =>
          have hq : l1 ≠ l2 := HN.out (fun e => absurd (HB.out.2 e) (by simp))
          clear HN HE HB
          go_wp2_with fail
          go_ret
          exact ⟨⟨false, rfl, by simp [hq]⟩, HT3.out.1⟩
      · go_wp2_with fail
        go_ret
        obtain rfl : j = m := by omega
        rw [List.take_of_length_le (by omega), List.take_of_length_le (by omega)] at heq
        exact ⟨⟨true, rfl, by simp [heq]⟩, HT.out.1⟩
end Go.Proofs.YtjnfilbdokppiaaGreatDoor
namespace Go.Proofs.YtjnfilbdokppiaaGreatDoor
open Go.RowKit Go.Shelf
attribute [local go_sem] Oper.semAt_some

theorem room_of_none {F : Fence} (hd : F.depth = none) (k : Nat) : F.room k := fun d h => by rw [hd] at h; cases h
theorem roundIn_anyDepth {F : Fence} (hd : F.depth = none) {m m' : Nat} {P : Program} {l : Nat} {f : FuncId} {tmps : Array Value} {assign body : Code} {w : World} {R : Ending → World → Prop}
    (h : RoundIn F m P l f tmps assign body w R) : RoundIn F m' P l f tmps assign body w R := ⟨h.1, fun c cs _ => h.2 c cs (room_of_none hd _)⟩
theorem yieldAt_anyDepth {F : Fence} (hd : F.depth = none) {m : Nat} (m' : Nat) {P : Program} {l : Nat} {args : Array Value} {W : World} {R : Ending → World → Prop} (h : YieldAt F m P l args W R) : YieldAt F m' P l args W R := by
  obtain ⟨fn, tmps, assign, body, hy, hR⟩ := h
  exact ⟨fn, tmps, assign, body, hy, roundIn_anyDepth hd hR⟩

mutual
/-- The nodes of a tree with their levels, in preorder. -/
def preT : T → Nat → List (Nat × T)
  | .mk k n u s ks l, b => (b, .mk k n u s ks l) :: preL l (b + 1)
def preL : List T → Nat → List (Nat × T)
  | [], _ => []
  | t :: ts, b => preT t b ++ preL ts b
end
mutual
theorem preT_length : ∀ (t : T) (b : Nat), (preT t b).length = sz t
  | .mk k n u s ks l, b => by simp only [preT, List.length_cons, preL_length l (b + 1), sz]; omega
theorem preL_length : ∀ (l : List T) (b : Nat), (preL l b).length = szL l
  | [], b => rfl
  | t :: ts, b => by simp only [preL, List.length_append, preT_length t b, preL_length ts b, szL]
end
theorem preL_app : ∀ (a c : List T) (b : Nat), preL (a ++ c) b = preL a b ++ preL c b
  | [], c, b => rfl
  | t :: ts, c, b => by simp only [List.cons_append, preL, preL_app ts c b, List.append_assoc]
theorem preL_take {l : List T} {j : Nat} {t : T} (h : l[j]? = some t) (b : Nat) : preL (l.take (j + 1)) b = preL (l.take j) b ++ preT t b := by
  rw [List.take_add_one, h, preL_app]
  simp [preL]
theorem preL_pre (l : List T) (j b : Nat) : preL (l.take j) b <+: preL l b := by
  have := preL_app (l.take j) (l.drop j) b
  rw [List.take_append_drop] at this
  exact ⟨_, this.symm⟩

/-- What a round is handed: a node of a tree that lies in w, with its level. -/
structure Ev (w : World) (Q : T → Prop) where
  lv : Nat
  t : T
  v0 : Value
  v1 : Value
  v2 : Value
  v3 : Value
  v4 : Value
  v5 : Value
  nd : Nd w t [v0, v1, v2, v3, v4, v5]
  low : lv < 1000000
  ok : Q t
def Ev.enc {w : World} {Q : T → Prop} (x : Ev w Q) : Array Value := #[.int .i64 (x.lv : Int), .agg #[x.v0, x.v1, x.v2, x.v3, x.v4, x.v5]]
def Ev.pl {w : World} {Q : T → Prop} (x : Ev w Q) : Nat × T := (x.lv, x.t)

/-- What a round keeps: what lay ahead of the call, and every row of cells that was laid since the loop began. -/
def Kp (n₀ n₁ : Nat) (W W' : World) : Prop := Below n₀ W W' ∧ ∀ k, n₁ ≤ k → ∀ o, W.heap[k]? = some o → o.isCells = true → W'.heap[k]? = some o
theorem Kp.refl (n₀ n₁ : Nat) (W : World) : Kp n₀ n₁ W W := ⟨Below.refl _ _, fun _ _ _ h _ => h⟩
theorem Kp.trans {n₀ n₁ : Nat} {A B C : World} (h : Kp n₀ n₁ A B) (k : Kp n₀ n₁ B C) : Kp n₀ n₁ A C := ⟨h.1.trans k.1, fun i hi o ho hc => k.2 i hi o (h.2 i hi o ho hc) hc⟩
theorem Kp.alloc {n₀ n₁ : Nat} {A B : World} (h : Kp n₀ n₁ A B) (o : Obj) (hn : n₀ ≤ B.heap.size) : Kp n₀ n₁ A (B.alloc o) :=
  h.trans ⟨(Below.refl _ _).alloc hn o, fun k _ _ hx _ => (Below.heap_alloc B o k (Array.getElem?_eq_some_iff.1 hx).1).trans hx⟩
theorem Kp.of_below {n₀ n₁ : Nat} {A B : World} (h : Below A.heap.size A B) (hn : n₀ ≤ A.heap.size) : Kp n₀ n₁ A B :=
  ⟨h.mono hn, fun k _ _ hx _ => (h.block k (Array.getElem?_eq_some_iff.1 hx).1).trans hx⟩
theorem Kp.blk {n₀ n₁ : Nat} {A B : World} (h : Kp n₀ n₁ A B) {g : Nat} {t : TypeId} {cs : Array Value} (hb : Blk A g t cs) (hg : n₁ ≤ g) : Blk B g t cs := h.2 g hg _ hb rfl
theorem kp_b {n₀ n₁ : Nat} {w : World} (hn : n₀ ≤ w.heap.size) (W : World) (l : Nat) (o o' : Obj) (hl : w.heap.size ≤ l) (h : W.heap[l]? = some o) (hc : o.isCells = false) (hw : o.isWalk = false) : Kp n₀ n₁ W (W.putObj l o') :=
  ⟨belowK_b hn W l o o' hl h hc hw, fun k _ _ hx hx' => by
    refine (World.putObj_heap_other ?_).trans hx
    intro e
    subst e
    rw [h] at hx
    cases hx
    rw [hc] at hx'
    cases hx'⟩

theorem wrap_small (x : Nat) (h : x < 2000000) : IntKind.i64.wrap (x : Int) = (x : Int) := by
  rw [IntKind.wrap_i64]
  omega

theorem Nd.shape {w : World} {t : T} {cs : List Value} (h : Nd w t cs) : ∃ (k n u : Int) (s : ByteArray) (A1 : Option Addr) (m1 c1 : Nat) (A2 : Option Addr) (m2 c2 : Nat), cs = [.int .i64 k, .int .i64 n, .int .u64 u, .string s, .slice A1 m1 c1, .slice A2 m2 c2] := by
  rcases t with ⟨k, n, u, s, ks, l⟩
  obtain ⟨_, _, kv, A, m, c, rfl, ⟨A1, m1, c1, rfl, _⟩, _⟩ := h
  exact ⟨k, n, u, s, A1, m1, c1, A, m, c, rfl⟩
theorem Nd.shape6 {w : World} {t : T} {v0 v1 v2 v3 v4 v5 : Value} (h : Nd w t [v0, v1, v2, v3, v4, v5]) : ∃ (k n u : Int) (s : ByteArray) (A1 : Option Addr) (m1 c1 : Nat) (A2 : Option Addr) (m2 c2 : Nat), v0 = .int .i64 k ∧ v1 = .int .i64 n ∧ v2 = .int .u64 u ∧ v3 = .string s ∧ v4 = .slice A1 m1 c1 ∧ v5 = .slice A2 m2 c2 := by
  obtain ⟨k, n, u, s, A1, m1, c1, A2, m2, c2, e⟩ := h.shape
  simp only [List.cons.injEq, and_true] at e
  exact ⟨k, n, u, s, A1, m1, c1, A2, m2, c2, e⟩

set_option maxRecDepth 100000 in
set_option maxHeartbeats 4000000 in
/-- tree.visit: by induction on the depth. -/
theorem visit_in (F : Fence) (hd : F.depth = none) (hf : ∀ f, F.fn f) (hro : F.round = none) (w : World) (Q : T → Prop) (hQ : ∀ t, Q t → ∀ c ∈ t.l, Q c) (l n₁ N B : Nat) (hn₁ : n₁ ≤ B) (hwn : w.heap.size ≤ n₁) (J Jx : List (Ev w Q) → World → Prop) (hJ : AbidesFrom B J)
    (hY : ∀ m pre (x : Ev w Q) W, J pre W → pre.length < N → YieldAt F m Tryz.prog l x.enc W fun e W' =>
      (e = .returned (.bool true) ∧ J (pre ++ [x]) W' ∧ Kp w.heap.size n₁ W W') ∨ (e = .returned (.bool false) ∧ Jx (pre ++ [x]) W')) (k : Nat) :
    ∀ (t : T) (v0 v1 v2 v3 v4 v5 : Value) (n b : Nat) (pre : List (Ev w Q)) (W : World), Q t → dp t ≤ k → sz t ≤ 100000 → b + dp t < 1000000 → Nd w t [v0, v1, v2, v3, v4, v5] → Below w.heap.size w W → B ≤ W.heap.size → J pre W → pre.length + sz t ≤ N →
      CallsIn F n Tryz.prog 94 #[.agg #[v0, v1, v2, v3, v4, v5], .int .i64 (b : Int), .func (.yield l) #[] #[]] W fun e W' =>
        (e = .returned (.bool true) ∧ (∃ q, q.map Ev.pl = preT t b ∧ J (pre ++ q) W') ∧ Kp w.heap.size n₁ W W') ∨ (e = .returned (.bool false) ∧ ∃ q, q.map Ev.pl <+: preT t b ∧ Jx (pre ++ q) W') := by
  have hdd : ∀ k : Nat, (F.depth.isSome = true → 1 ≤ k) := fun k h => by rw [hd] at h; cases h
  induction k with
  | zero => intro t _ _ _ _ _ _ _ _ _ _ _ h; exact absurd h (by have := dp_pos t; omega)
  | succ k ih =>
    rintro ⟨kk, nn, uu, s, ks, L⟩ v0 v1 v2 v3 v4 v5 n b pre W hq0 hk hsz hbl hnd hbw hBW hJ0 hN
    simp only [dp] at hk hbl
    simp only [sz] at hsz hN
    have hnd' := hnd
    obtain ⟨hr, hs, kv, A, m, c, hcs, hks, hl, hm, hmm, hL⟩ := hnd'
    simp only [List.cons.injEq, and_true] at hcs
    obtain ⟨rfl, rfl, rfl, rfl, rfl, rfl⟩ := hcs
    have hmx : m ≤ 100000 := by have := len_le_szL L; omega
    have hJ1 : J pre (W.alloc (.cells #[.int .i64 kk, .int .i64 nn, .int .u64 uu, .string s, v4, .slice A m c] 38)) := hJ pre _ _ none hJ0 (World.grownBy_alloc W _ none) (fun r e => by cases e)
    have hBx := Lib.hid (Blk.new W 38 #[.int .i64 kk, .int .i64 nn, .int .u64 uu, .string s, v4, .slice A m c])
    obtain ⟨fn, tmps, assign, body, hy, hR⟩ := hY (n - 1) pre ⟨b, .mk kk nn uu s ks L, _, _, _, _, _, _, hnd, by omega, hq0⟩ _ hJ1 (by omega)
    simp only [Ev.enc] at hy hR
    refine callsIn_of_wp Tryz.func94 rfl (hf _) ?_ hro
    simp only [Tryz.ntmps94, List.size_toArray, List.length_cons, List.length_nil, Nat.reduceAdd, Nat.reduceSub, Array.replicate_succ, Array.replicate_zero, List.push_toArray, List.append_toArray, List.nil_append, List.cons_append]
    gi_wp2_with fail
    refine hR.mono ?_
    clear hR hy
    rintro e W2 (⟨rfl, hJ2, hk2⟩ | ⟨rfl, hx2⟩)
    · have hK0 : Kp w.heap.size n₁ W W2 := ((Kp.refl _ _ W).alloc _ (Nat.le_trans hwn (Nat.le_trans hn₁ hBW))).trans hk2
      have hB2 : Blk W2 W.heap.size 38 #[.int .i64 kk, .int .i64 nn, .int .u64 uu, .string s, v4, .slice A m c] := hk2.blk hBx.out (by omega)
      have c5 := hB2.cell 5
      simp only [List.getElem?_toArray, List.getElem?_cons_succ, List.getElem?_cons_zero] at c5
      have HK0 := Lib.hid hK0
      have HSZ : Hid (∀ X, Kp w.heap.size n₁ W X → W.heap.size ≤ X.heap.size) := Lib.hid fun X h => h.1.size
      clear hK0 hk2 hB2
      have HJ2 : Hid (∃ q : List (Ev w Q), q.map Ev.pl = (b, T.mk kk nn uu s ks L) :: preL (L.take 0) (b + 1) ∧ J (pre ++ q) W2) := Lib.hid ⟨[⟨b, .mk kk nn uu s ks L, _, _, _, _, _, _, hnd, by omega, hq0⟩], by simp [Ev.pl, preL], hJ2⟩
      clear hJ2 hJ1
      gi_wp2_with fail
      gi_loopw [17] (fun i wr => ∃ j : Nat, j ≤ m ∧ i = .int .i64 (j : Int) ∧ Hid (∃ q : List (Ev w Q), q.map Ev.pl = (b, T.mk kk nn uu s ks L) :: preL (L.take j) (b + 1) ∧ J (pre ++ q) wr) ∧ Hid (Kp w.heap.size n₁ W wr)) (fun i _ => m - (intOf i).toNat)
      case atStart => exact ⟨0, Nat.zero_le _, rfl, HJ2, HK0⟩
      case round =>
        obtain ⟨j, hj, rfl, HJ, HK⟩ := hrel
        by_cases hjm : j < m
        · obtain ⟨bb, off, rfl, hbb, hNL⟩ := hL (by omega)
          obtain ⟨t0, ht0⟩ : ∃ t0, L[j]? = some t0 := ⟨_, List.getElem?_eq_getElem (by omega)⟩
          obtain ⟨u0, u1, u2, u3, u4, u5, hS, hn0⟩ := hNL.six' (Below.refl _ _) hbb ht0
          obtain ⟨d0, d1, d2, d3, d4, d5⟩ := hS.below (hbw.trans HK.out.1) hbb
          clear hS
          have hle := sz_le_of ht0
          have hdl := dp_le_of ht0
          obtain ⟨k0, i0, n0, s0, A1, m1, c1, A2, m2, c2, rfl, rfl, rfl, rfl, rfl, rfl⟩ := hn0.shape6
          obtain ⟨q, hq, hJq⟩ := HJ.out
          have hql : q.length = 1 + szL (L.take j) := by
            have := congrArg List.length hq
            simpa [preL_length, Nat.add_comm] using this
          have hsz0 : w.heap.size ≤ wr.heap.size := (hbw.trans HK.out.1).size
          have hszW : W.heap.size ≤ wr.heap.size := HSZ.out _ HK.out
          have hal : Kp w.heap.size n₁ W (wr.alloc (.cells #[.int .i64 k0, .int .i64 i0, .int .u64 n0, .string s0, .slice A1 m1 c1, .slice A2 m2 c2] 38)) := HK.out.alloc _ hsz0
          have ihj := Lib.hid ((ih t0 _ _ _ _ _ _ (n - 1) (b + 1) (pre ++ q) (wr.alloc (.cells #[.int .i64 k0, .int .i64 i0, .int .u64 n0, .string s0, .slice A1 m1 c1, .slice A2 m2 c2] 38)) (hQ _ hq0 t0 (List.mem_of_getElem? ht0)) (by omega) (by omega) (by omega)
            hn0 (hbw.trans hal.1) (by simp; omega) (hJ _ _ _ none hJq (World.grownBy_alloc wr _ none) (fun r e => by cases e)) (by simp only [List.length_append]; omega)).mono
            (R' := fun e W' => (e = .returned (.bool true) ∧ Hid (∃ q : List (Ev w Q), q.map Ev.pl = (b, T.mk kk nn uu s ks L) :: preL (L.take (j + 1)) (b + 1) ∧ J (pre ++ q) W') ∧ Hid (Kp w.heap.size n₁ W W')) ∨
              (e = .returned (.bool false) ∧ ∃ q : List (Ev w Q), q.map Ev.pl <+: preT (T.mk kk nn uu s ks L) b ∧ Jx (pre ++ q) W'))
            (fun e W' h => by
              rcases h with ⟨h1, ⟨q2, h2, h3⟩, h4⟩ | ⟨h1, q2, h2, h3⟩
              · exact .inl ⟨h1, Lib.hid ⟨q ++ q2, by rw [List.map_append, hq, h2, preL_take ht0]; simp, by rw [← List.append_assoc]; exact h3⟩, Lib.hid (hal.trans h4)⟩
              · refine .inr ⟨h1, q ++ q2, ?_, by rw [← List.append_assoc]; exact h3⟩
                rw [List.map_append, hq]
                have h5 := preL_pre L (j + 1) (b + 1)
                rw [preL_take ht0] at h5
                simp only [preT, List.cons_append]
                refine List.cons_prefix_cons.2 ⟨rfl, List.IsPrefix.trans ?_ h5⟩
                exact (List.prefix_append_right_inj _).2 h2))
          have hbb2 : (b : Int) + 1 = ((b + 1 : Nat) : Int) := by omega
          have hwr : IntKind.i64.wrap ((b : Int) + 1) = ((b + 1 : Nat) : Int) := by rw [hbb2]; exact wrap_small _ (by omega)
          obtain ⟨b1, hb1⟩ : ∃ b1, b + 1 = b1 := ⟨_, rfl⟩
          rw [hb1] at ihj hbb2 hwr
          clear hJq hq HJ HK hal hL ht0 hNL hn0
          gi_wp2_with ((try refine ⟨hdd _, ?_⟩); gi_at_call 94; refine ihj.out.mono ?_; clear ihj; rintro e W3 (⟨rfl, HJ3, HK3⟩ | ⟨rfl, hx3⟩))
          · go_roundw
            case rel => exact ⟨j + 1, by omega, by simp, by rw [hb1]; exact HJ3, HK3⟩
            case measure => simp [intOf]; omega
          · go_ret
            exact .inr ⟨rfl, hx3⟩
        · gi_wp2_with fail
          go_ret
          obtain rfl : j = m := by omega
          rw [List.take_of_length_le (by omega)] at HJ
          exact .inl ⟨rfl, by simpa only [preT] using HJ.out, HK.out⟩
    · gi_wp2_with fail
      go_ret
      refine .inr ⟨rfl, _, ?_, hx2⟩
      simp only [List.map_cons, List.map_nil, Ev.pl, preT]
      exact List.cons_prefix_cons.2 ⟨rfl, List.nil_prefix⟩

set_option maxRecDepth 100000 in
set_option maxHeartbeats 2000000 in
/-- What tree.nodes hands back: the iterator's own body. -/
theorem nodes1_in (F : Fence) (hd : F.depth = none) (hf : ∀ f, F.fn f) (hro : F.round = none) (n : Nat) (w : World) (Q : T → Prop) (hQ : ∀ t, Q t → ∀ c ∈ t.l, Q c) (l n₁ N B Bt : Nat) (hn₁ : n₁ ≤ B) (hwn : w.heap.size ≤ n₁) (J Jx : List (Ev w Q) → World → Prop) (hJ : AbidesFrom B J)
    (hY : ∀ m pre (x : Ev w Q) W, J pre W → pre.length < N → YieldAt F m Tryz.prog l x.enc W fun e W' =>
      (e = .returned (.bool true) ∧ J (pre ++ [x]) W' ∧ Kp w.heap.size n₁ W W') ∨ (e = .returned (.bool false) ∧ Jx (pre ++ [x]) W'))
    (t : T) (v0 v1 v2 v3 v4 v5 : Value) (W : World) (hq0 : Q t) (hsz : sz t ≤ 100000) (hnd : Nd w t [v0, v1, v2, v3, v4, v5]) (hbw : Below w.heap.size w W) (hBW : B ≤ W.heap.size) (hJ0 : J [] W) (hN : sz t ≤ N) (hbox : Bx W Bt v0 v1 v2 v3 v4 v5) :
      CallsIn F n Tryz.prog 93 #[.func (.yield l) #[] #[], .pointer (some ⟨Bt, 0, none⟩)] W fun e W' => (∃ v, e = .returned v) ∧
        ((∃ q, q.map Ev.pl = preT t 0 ∧ J q W') ∨ (∃ q, q.map Ev.pl <+: preT t 0 ∧ Jx q W')) := by
  have hdd : ∀ k : Nat, (F.depth.isSome = true → 1 ≤ k) := fun k h => by rw [hd] at h; cases h
  have hdp := dp_le_sz t
  have hp := visit_in F hd hf hro w Q hQ l n₁ N B hn₁ hwn J Jx hJ hY (dp t) t v0 v1 v2 v3 v4 v5 (n - 1) 0 [] W hq0 (Nat.le_refl _) hsz (by omega) hnd hbw hBW hJ0 (by simpa using hN)
  obtain ⟨c0, c1, c2, c3, c4, c5⟩ := hbox.all
  refine callsIn_of_wp Tryz.func93 rfl (hf _) ?_ hro
  simp only [Tryz.ntmps93, List.size_toArray, List.length_cons, List.length_nil, Nat.reduceAdd, Nat.reduceSub, Array.replicate_succ, Array.replicate_zero, List.push_toArray, List.append_toArray, List.nil_append, List.cons_append]
  gi_wp2_with ((try refine ⟨hdd _, ?_⟩); gi_at_call 94; refine hp.mono ?_; clear hp; rintro e W1 (⟨rfl, hq, _⟩ | ⟨rfl, hx⟩))
  · go_end0
    exact ⟨⟨_, rfl⟩, .inl (by simpa using hq)⟩
  · go_end0
    exact ⟨⟨_, rfl⟩, .inr (by simpa using hx)⟩

set_option maxHeartbeats 1000000 in
/-- tree.nodes: the node is boxed; the function value captures the box. -/
theorem nodes_in (F : Fence) (hf : ∀ f, F.fn f) (hro : F.round = none) (n : Nat) (v0 v1 v2 v3 v4 v5 : Value) (w : World) :
    CallsIn F n Tryz.prog 67 #[.agg #[v0, v1, v2, v3, v4, v5]] w fun e w' => e = .returned (.func (.func 93) #[] #[.pointer (some ⟨w.heap.size, 0, none⟩)]) ∧ w' = w.alloc (.cells #[v0, v1, v2, v3, v4, v5] 38) := by
  refine callsIn_of_wp Tryz.func67 rfl (hf _) ?_ hro
  simp only [Tryz.ntmps67, List.size_toArray, List.length_cons, List.length_nil, Nat.reduceAdd, Nat.reduceSub, Array.replicate_succ, Array.replicate_zero, List.push_toArray, List.append_toArray, List.nil_append, List.cons_append]
  gi_wp2_with fail
  go_ret
  exact ⟨rfl, rfl⟩

/-- What tree.nodes hands back gives the nodes with their levels, in preorder, or a first part of them. -/
theorem nodes_stops (F : Fence) (hd : F.depth = none) (hf : ∀ f, F.fn f) (hro : F.round = none) (n : Nat) (w w0 : World) (Q : T → Prop) (hQ : ∀ t, Q t → ∀ c ∈ t.l, Q c) (Bt : Nat) (t : T) (v0 v1 v2 v3 v4 v5 : Value) (hq0 : Q t) (hsz : sz t ≤ 100000) (hnd : Nd w t [v0, v1, v2, v3, v4, v5]) (hb : Below w.heap.size w w0) (hbox : Bx w0 Bt v0 v1 v2 v3 v4 v5) :
    SeqStopsK F n Tryz.prog 93 #[.pointer (some ⟨Bt, 0, none⟩)] (Ev.enc (w := w) (Q := Q)) (Kp w.heap.size w0.heap.size) (fun ys => ys.map Ev.pl = preT t 0) (fun pre => pre.map Ev.pl <+: preT t 0) (sz t) w0 := by
  intro l J Jx W hW hJ _ hY h0
  exact nodes1_in F hd hf hro n w Q hQ l w0.heap.size (sz t) W.heap.size Bt hW.size hb.size J Jx hJ (fun m pre x W1 hj hl => yieldAt_anyDepth hd m (hY pre x W1 hj hl)) t v0 v1 v2 v3 v4 v5 W hq0 hsz hnd (hb.trans (hW.mono hb.size)) (Nat.le_refl _) h0 (Nat.le_refl _) (hbox.below hW hbox.lt)
end Go.Proofs.YtjnfilbdokppiaaGreatDoor
namespace Go.Proofs.YtjnfilbdokppiaaGreatDoor
open Go.RowKit Go.Shelf
attribute [local go_sem] Oper.semAt_some

theorem wrap64_small (x : Nat) (h : x < 2000000) : wrap64 (x : Int) = (x : Int) := by
  unfold wrap64
  omega
theorem Kp.set {n₀ n₁ : Nat} {A B : World} (h : Kp n₀ n₁ A B) {g i : Nat} (hg : n₀ ≤ g) (hg1 : g < n₁) (v : Value) : Kp n₀ n₁ A (B.setCell ⟨g, i, none⟩ v) :=
  ⟨h.1.setCell (p := ⟨g, i, none⟩) hg v, fun k hk o ho hc => by
    refine Eq.trans ?_ (h.2 k hk o ho hc)
    exact Below.heap_setCell _ _ _ k (by show k ≠ g; omega)⟩

def mxl (l : List (Nat × T)) : Nat := l.foldr (fun x m => max x.1 m) 0
theorem mxl_app : ∀ (a b : List (Nat × T)), mxl (a ++ b) = max (mxl a) (mxl b)
  | [], b => by simp [mxl]
  | x :: a, b => by
    have := mxl_app a b
    simp only [mxl, List.cons_append, List.foldr_cons] at this ⊢
    omega
mutual
theorem mxl_preT : ∀ (t : T) (b : Nat), mxl (preT t b) + 1 = b + dp t
  | .mk k n u s ks l, b => by
    have h := mxl_preL l (b + 1)
    simp only [preT, dp]
    have e : mxl ((b, T.mk k n u s ks l) :: preL l (b + 1)) = max b (mxl (preL l (b + 1))) := rfl
    rcases h with ⟨h1, h2⟩ | h
    · subst h1; rw [e, h2]; simp only [dpL]; omega
    · omega
theorem mxl_preL : ∀ (l : List T) (b : Nat), (l = [] ∧ mxl (preL l b) = 0) ∨ (mxl (preL l b) + 1 = b + dpL l)
  | [], _ => .inl ⟨rfl, rfl⟩
  | t :: ts, b => by
    have h1 := mxl_preT t b
    have h2 := mxl_preL ts b
    have hp := dp_pos t
    refine .inr ?_
    simp only [preL, mxl_app, dpL]
    rcases h2 with ⟨h3, h4⟩ | h2
    · subst h3; simp only [dpL] at *; omega
    · omega
end

end Go.Proofs.YtjnfilbdokppiaaGreatDoor
namespace Go.Proofs.YtjnfilbdokppiaaGreatDoor
open Go.RowKit

/-- A slice that owns its row, in a block of which U holds. -/
def Ow (U : Nat → Prop) (w : World) (e : TypeId) (size : Nat) (v : Value) (n : Nat) (xs : List Value) : Prop := w.ownsRow 0 e size v n xs ∧ ∀ g, v.ownBlock = some g → U g
theorem Ow.step {U U' : Nat → Prop} {w w' : World} {e : TypeId} {size n : Nat} {v : Value} {xs : List Value} (h : Ow U w e size v n xs) (hk : ∀ b, U b → b < w.heap.size → w'.heap[b]? = w.heap[b]? ∧ U' b) : Ow U' w' e size v n xs := by
  obtain ⟨⟨h1, h2⟩, hU⟩ := h
  rcases h2 with ⟨rfl, hn⟩ | ⟨g, cap, cur, rfl, h3, h4, h5, h6, h7, h8⟩
  · exact ⟨⟨h1, .inl ⟨rfl, hn⟩⟩, fun g hg => by cases hg⟩
  · have hg : g < w.heap.size := (Array.getElem?_eq_some_iff.1 h4).1
    have := hk g (hU g rfl) hg
    refine ⟨⟨h1, .inr ⟨g, cap, cur, rfl, h3, this.1.trans h4, h5, h6, h7, h8⟩⟩, fun g' hg' => ?_⟩
    obtain rfl : g = g' := by simpa [Value.ownBlock] using hg'
    exact this.2
mutual
/-- Six cells read as a node, all of whose rows are the call's own, in blocks of which U holds. -/
def NdO (U : Nat → Prop) (w : World) : T → List Value → Prop
  | .mk k n u s ks l, cs => Rng k n u ∧ s.size ≤ maxLen ∧ (∀ x ∈ ks, x.size ≤ maxLen) ∧ ∃ kv lv xs, cs = [.int .i64 k, .int .i64 n, .int .u64 u, .string s, kv, lv] ∧ Ow U w 9 1 kv ks.length (ks.map Value.string) ∧
      Ow U w 38 6 lv l.length xs ∧ NdOL U w l xs
def NdOL (U : Nat → Prop) (w : World) : List T → List Value → Prop
  | [], xs => xs = []
  | t :: ts, xs => ∃ cs ys, xs = cs ++ ys ∧ NdO U w t cs ∧ NdOL U w ts ys
end
mutual
theorem NdO.step {U U' : Nat → Prop} {w w' : World} (hk : ∀ b, U b → b < w.heap.size → w'.heap[b]? = w.heap[b]? ∧ U' b) : ∀ (t : T) (cs : List Value), NdO U w t cs → NdO U' w' t cs
  | .mk k n u s ks l, cs, h => by
    obtain ⟨hr, hs, hks, kv, lv, xs, rfl, h1, h2, h3⟩ := h
    exact ⟨hr, hs, hks, kv, lv, xs, rfl, h1.step hk, h2.step hk, NdOL.step hk l xs h3⟩
theorem NdOL.step {U U' : Nat → Prop} {w w' : World} (hk : ∀ b, U b → b < w.heap.size → w'.heap[b]? = w.heap[b]? ∧ U' b) : ∀ (l : List T) (xs : List Value), NdOL U w l xs → NdOL U' w' l xs
  | [], _, h => h
  | t :: ts, xs, h => by
    obtain ⟨cs, ys, rfl, h1, h2⟩ := h
    exact ⟨cs, ys, rfl, NdO.step hk t cs h1, NdOL.step hk ts ys h2⟩
end
theorem NdO.len {U : Nat → Prop} {w : World} : ∀ {t : T} {cs : List Value}, NdO U w t cs → cs.length = 6
  | .mk _ _ _ _ _ _, _, h => by
    obtain ⟨_, _, _, _, _, _, rfl, _⟩ := h
    rfl
theorem Ow.shape {U : Nat → Prop} {w : World} {e : TypeId} {size n : Nat} {v : Value} {xs : List Value} (h : Ow U w e size v n xs) : ∃ A c, v = .slice A n c := by
  rcases h.1.2 with ⟨rfl, rfl⟩ | ⟨g, cap, _, rfl, _⟩
  · exact ⟨_, _, rfl⟩
  · exact ⟨_, _, rfl⟩
theorem NdO.one {U : Nat → Prop} {w : World} : ∀ {t : T} {cs : List Value}, NdO U w t cs → ∀ u ∈ cs, u.oneCell' = true
  | .mk _ _ _ _ _ _, _, h => by
    obtain ⟨_, _, _, _, _, _, rfl, h1, h2, _⟩ := h
    obtain ⟨_, _, rfl⟩ := h1.shape
    obtain ⟨_, _, rfl⟩ := h2.shape
    intro u hu
    simp only [List.mem_cons, List.not_mem_nil, or_false] at hu
    rcases hu with rfl | rfl | rfl | rfl | rfl | rfl <;> rfl
theorem NdOL.len {U : Nat → Prop} {w : World} : ∀ {l : List T} {xs : List Value}, NdOL U w l xs → xs.length = l.length * 6
  | [], _, h => by obtain rfl : _ = [] := h; rfl
  | t :: ts, xs, h => by
    obtain ⟨cs, ys, rfl, h1, h2⟩ := h
    rw [List.length_append, h1.len, h2.len, List.length_cons]
    omega
theorem NdOL.app {U : Nat → Prop} {w : World} {t : T} {cs : List Value} (ht : NdO U w t cs) : ∀ {l : List T} {xs : List Value}, NdOL U w l xs → NdOL U w (l ++ [t]) (xs ++ cs)
  | [], _, h => by obtain rfl : _ = [] := h; exact ⟨cs, [], by simp, ht, rfl⟩
  | t0 :: ts, xs, h => by
    obtain ⟨cs0, ys, rfl, h1, h2⟩ := h
    exact ⟨cs0, ys ++ cs, by simp, h1, NdOL.app ht h2⟩
theorem Ow.cells {U : Nat → Prop} {w : World} {e : TypeId} {size n : Nat} {v : Value} {xs : List Value} (h : Ow U w e size v n xs) : ∃ A c, v = .slice A n c ∧ n ≤ c ∧ c ≤ maxLen ∧ (0 < n → ∃ g, A = some ⟨g, 0, none⟩ ∧ g < w.heap.size ∧ U g ∧ ∀ j, j < n * size → w.cell? ⟨g, j, none⟩ = xs[j]?) := by
  obtain ⟨⟨h1, h2⟩, hU⟩ := h
  rcases h2 with ⟨rfl, rfl⟩ | ⟨g, cap, cur, rfl, h3, h4, h5, h6, h7, h8⟩
  · exact ⟨none, 0, rfl, Nat.le_refl _, by unfold maxLen; omega, fun h => absurd h (by omega)⟩
  · refine ⟨_, cap, rfl, h5, h6, fun _ => ⟨g, rfl, (Array.getElem?_eq_some_iff.1 h4).1, hU g rfl, fun j hj => ?_⟩⟩
    rw [cell_of_row w g j cur e (0, 0) h4, ← h8, List.getElem?_take, if_pos hj, Array.getElem?_toList]
mutual
theorem NdO.nd {U : Nat → Prop} {w : World} : ∀ (t : T) (cs : List Value), NdO U w t cs → Nd w t cs
  | .mk k n u s ks l, cs, h => by
    obtain ⟨hr, hs, hks, kv, lv, xs, rfl, h1, h2, h3⟩ := h
    obtain ⟨A, c, rfl, hc, hm, hA⟩ := h1.cells
    obtain ⟨B, d, rfl, hd, hmd, hB⟩ := h2.cells
    refine ⟨hr, hs, _, B, l.length, d, rfl, ⟨A, ks.length, c, rfl, rfl, hc, hm, hks, fun hn => ?_⟩, rfl, hd, hmd, fun hn => ?_⟩
    · obtain ⟨g, rfl, hg, _, hcell⟩ := hA hn
      refine ⟨g, 0, rfl, hg, fun j x hx => ?_⟩
      have hj : j < ks.length := (List.getElem?_eq_some_iff.1 hx).1
      rw [Nat.zero_add, hcell j (by omega), List.getElem?_map, hx]
      rfl
    · obtain ⟨g, rfl, hg, _, hcell⟩ := hB hn
      exact ⟨g, 0, rfl, hg, NdOL.ndl g l xs 0 h3 (fun j hj => by rw [Nat.zero_add]; exact hcell j hj)⟩
theorem NdOL.ndl {U : Nat → Prop} {w : World} (g : Nat) : ∀ (l : List T) (xs : List Value) (off : Nat), NdOL U w l xs → (∀ j, j < l.length * 6 → w.cell? ⟨g, off + j, none⟩ = xs[j]?) → NdL w g l off
  | [], _, _, _, _ => trivial
  | t :: ts, xs, off, h, hc => by
    obtain ⟨cs, ys, rfl, h1, h2⟩ := h
    have hl := h1.len
    refine ⟨⟨cs, fun i hi => ?_, NdO.nd t cs h1⟩, NdOL.ndl g ts ys (off + 6) h2 fun j hj => ?_⟩
    · rw [hc i (by simp; omega), List.getElem?_append_left (by omega)]
    · rw [show off + 6 + j = off + (6 + j) by omega, hc (6 + j) (by simp; omega), List.getElem?_append_right (by omega), hl, Nat.add_sub_cancel_left]
end
end Go.Proofs.YtjnfilbdokppiaaGreatDoor
