/-
  What is proved here: a contract of Same: it tells whether two trees are equal; conditions: at most 100000 nodes.
-/
import Derived.Test.YtnplkamkeadlgaaDoorExB
namespace Go.Proofs.YtnplkamkeadlgaaDoor
open Go.RowKit

theorem eqKeys_any (a b : List ByteArray) (v u : Value) (w : World) (ha : RdS w v a) (hb : RdS w u b) :
    Calls Tryd.prog 51 #[v, u] w fun e w' => e = .returned (.bool (decide (a = b))) ∧ Below w.heap.size w w' := by
  obtain ⟨A, n, c, rfl, hn, hnc, hc, hs, hA⟩ := ha
  obtain ⟨B, m, d, rfl, hm, hmd, hd, hs', hB⟩ := hb
  by_cases hne : n = m
  · subst hne
    by_cases h0 : n = 0
    · subst h0
      refine (Tryd.slices_Equal_string_empty A B c 0 d w (by omega)).mono ?_
      rintro e w' ⟨rfl, rfl⟩
      obtain rfl := List.eq_nil_of_length_eq_zero hn
      obtain rfl := List.eq_nil_of_length_eq_zero hm
      exact ⟨rfl, Below.refl _ _⟩
    · obtain ⟨b1, o1, rfl, hb1, hc1⟩ := hA (by omega)
      obtain ⟨b2, o2, rfl, hb2, hc2⟩ := hB (by omega)
      have hmx : n ≤ 9223372036854775807 := Nat.le_trans hnc hc
      refine (Tryd.slices_Equal_string b1 o1 n c b2 o2 n d a b w (by omega) (by omega) hmx hmx (fun j hj => ?_) (fun j hj => ?_)).mono ?_
      · exact hc1 j _ (by rw [List.getD_eq_getElem?_getD, List.getElem?_eq_getElem hj]; rfl)
      · exact hc2 j _ (by rw [List.getD_eq_getElem?_getD, List.getElem?_eq_getElem hj]; rfl)
      · rintro e w' ⟨rfl, q, rfl⟩
        refine ⟨?_, (Below.refl _ _).drewN q⟩
        rw [List.take_of_length_le (by omega), List.take_of_length_le (by omega)]
  · refine (Tryd.slices_Equal_string_lens A B n c m d w hne).mono ?_
    rintro e w' ⟨rfl, rfl⟩
    have : a ≠ b := fun h => hne (by rw [← hn, ← hm, h])
    rw [decide_eq_false this]
    exact ⟨rfl, Below.refl _ _⟩

set_option maxRecDepth 100000 in
set_option maxHeartbeats 4000000 in
theorem eqF_any (l1 l2 : List T) (A B : Option Addr) (m c m' c' : Nat) (w : World) (hm : m ≤ 100000) (h1 : l1.length = m) (h2 : l2.length = m')
    (hL : 0 < m → ∃ b off, A = some ⟨b, off, none⟩ ∧ b < w.heap.size ∧ NdL w b l1 off) (hL' : 0 < m' → ∃ b off, B = some ⟨b, off, none⟩ ∧ b < w.heap.size ∧ NdL w b l2 off)
    (ih : ∀ t1 ∈ l1, ∀ t2 (ca cb : List Value) W, Nd W t1 ca → Nd W t2 cb → Calls Tryd.prog 33 #[.agg ca.toArray, .agg cb.toArray] W fun e w' => (∃ β, e = .returned (.bool β) ∧ (β = true ↔ t1 = t2)) ∧ Below W.heap.size W w') :
    Calls Tryd.prog 52 #[.slice A m c, .slice B m' c', .func (.func 33) #[] #[]] w fun e w' => (∃ β, e = .returned (.bool β) ∧ (β = true ↔ l1 = l2)) ∧ Below w.heap.size w w' := by
  by_cases h5 : m = m'
  case neg =>
    have hne : (((m : Nat) : Int) != ((m' : Nat) : Int)) = true := neB (by omega)
    have hll : l1 ≠ l2 := fun e => h5 (by rw [← h1, ← h2, e])
    go_enter Tryd.func52, Tryd.ntmps52
    go_wp2_with fail
    go_ret
    exact ⟨⟨false, rfl, by simp [hll]⟩, Below.refl _ _⟩
  subst h5
  have HIH := Lib.hid ih
  clear ih
  go_enter Tryd.func52, Tryd.ntmps52
  go_wp2_with fail
  go_loopw [17] (fun i wr => ∃ j : Nat, j ≤ m ∧ i = .int .i64 j ∧ l1.take j = l2.take j ∧ Hid (Below w.heap.size w wr)) (fun i _ => m - (intOf i).toNat)
  case atStart => exact ⟨0, Nat.zero_le _, rfl, by simp, Lib.hid (Below.refl _ _)⟩
  case round =>
    obtain ⟨j, hj, rfl, heq, HB⟩ := hrel
    by_cases hjm : j < m
    · obtain ⟨b, off, rfl, hbw, hN⟩ := hL (by omega)
      obtain ⟨b', off', rfl, hbw', hN'⟩ := hL' (by omega)
      obtain ⟨t1, ht1⟩ : ∃ t, l1[j]? = some t := ⟨_, List.getElem?_eq_getElem (by omega)⟩
      obtain ⟨t2, ht2⟩ : ∃ t, l2[j]? = some t := ⟨_, List.getElem?_eq_getElem (by omega)⟩
      obtain ⟨v0, v1, v2, v3, v4, v5, hS, hn1⟩ := hN.six' HB.out hbw ht1
      obtain ⟨x0, x1, x2, x3, x4, x5, hS', hn2⟩ := hN'.six' HB.out hbw' ht2
      have HN := Lib.hid (fun h => take_ne ht1 ht2 h)
      have HE := Lib.hid (fun h => take_eq ht1 ht2 h heq)
      obtain ⟨a0, a1, a2, a3, a4, a5⟩ := hS
      obtain ⟨k1, i1, u1, s1, A1, m1, c1, A2, m2, c2, rfl, rfl, rfl, rfl, rfl, rfl⟩ := hn1.shape6
      obtain ⟨k3, i3, u3, s3, A3, m3, c3, A4, m4, c4, rfl, rfl, rfl, rfl, rfl, rfl⟩ := hn2.shape6
      have q' := hS'.below (al0 wr (.cells #[.int .i64 k1, .int .i64 i1, .int .u64 u1, .string s1, .slice A1 m1 c1, .slice A2 m2 c2] 31)) (by have := HB.out.size; omega)
      obtain ⟨b0, b1, b2, b3, b4, b5⟩ := q'
      have HT := Lib.hid (Two.start wr (.int .i64 k1) (.int .i64 i1) (.int .u64 u1) (.string s1) (.slice A1 m1 c1) (.slice A2 m2 c2) (.int .i64 k3) (.int .i64 i3) (.int .u64 u3) (.string s3) (.slice A3 m3 c3) (.slice A4 m4 c4))
      obtain ⟨d0, d1, d2, d3, d4, d5⟩ := Bx.all HT.out.2.2.1
      obtain ⟨e0, e1, e2, e3, e4, e5⟩ := Bx.all HT.out.2.2.2
      have HCAL := Lib.hid (HIH.out t1 (List.mem_of_getElem? ht1) t2 _ _ _ (hn1.bel HT.out.1) (hn2.bel HT.out.1))
      have hjb : (0 : Int) ≤ (j : Int) := by omega
      have hjb2 : (j : Int) < (m : Int) := by omega
      clear hS' hn1 hn2 hN hN' hbw hbw' hL hL' ht1 ht2 heq
      go_wp2_with (go_at_call 33; refine HCAL.out.mono ?_; clear HCAL; rintro e w3 ⟨⟨β, rfl, hβ⟩, hb3⟩; have HBB := Lib.hid hβ; have HB3 := Lib.hid hb3; clear hβ hb3)
      · have hq : l1 ≠ l2 := HN.out (fun e => by have := HBB.out.2 e; simp_all)
        go_ret
        exact ⟨⟨false, rfl, by simp [hq]⟩, HB.out.trans ((HT.out.1.trans (HB3.out.mono HT.out.1.size)).mono HB.out.size)⟩
      · have hq := HE.out (HBB.out.1 (by simp_all))
        refine ⟨⟨j + 1, by omega, by simp, hq, Lib.hid (HB.out.trans ((HT.out.1.trans (HB3.out.mono HT.out.1.size)).mono HB.out.size))⟩, ?_⟩
        simp [intOf]
        omega
    · go_wp2_with fail
      go_ret
      obtain rfl : j = m := by omega
      rw [List.take_of_length_le (by omega), List.take_of_length_le (by omega)] at heq
      exact ⟨⟨true, rfl, by simp [heq]⟩, HB.out⟩
set_option maxRecDepth 100000 in
set_option maxHeartbeats 4000000 in
theorem same_any (k : Nat) : ∀ (a b : T) (ca cb : List Value) (w : World), dp a ≤ k → sz a ≤ 100000 → Nd w a ca → Nd w b cb →
    Calls Tryd.prog 33 #[.agg ca.toArray, .agg cb.toArray] w fun e w' => (∃ β, e = .returned (.bool β) ∧ (β = true ↔ a = b)) ∧ Below w.heap.size w w' := by
  induction k with
  | zero => intro t _ cs _ w h; exact absurd h (by have := dp_pos t; omega)
  | succ k ih =>
    rintro ⟨k1, n1, u1, s1, ks1, l1⟩ ⟨k2, n2, u2, s2, ks2, l2⟩ ca cb w hk hsz ⟨hr, hs, kv, A, m, c, rfl, hks, hl, hm, hmm, hL⟩ ⟨hr', hs', kv', A', m', c', rfl, hks', hl', hm', hmm', hL'⟩
    simp only [dp] at hk
    simp only [sz] at hsz
    have hmx : m ≤ 100000 := by have := len_le_szL l1; omega
    have HT0 := Lib.hid (Two.start w (.int .i64 k1) (.int .i64 n1) (.int .u64 u1) (.string s1) kv (.slice A m c) (.int .i64 k2) (.int .i64 n2) (.int .u64 u2) (.string s2) kv' (.slice A' m' c'))
    obtain ⟨a0, a1, a2, a3, a4, a5⟩ := Bx.all HT0.out.2.2.1
    obtain ⟨b0, b1, b2, b3, b4, b5⟩ := Bx.all HT0.out.2.2.2
    have hkey := eqKeys_any ks1 ks2 kv kv' _ (hks.below HT0.out.1) (hks'.below HT0.out.1)
    have hal : ∀ W, Hid (Two w (.int .i64 k1) (.int .i64 n1) (.int .u64 u1) (.string s1) kv (.slice A m c) (.int .i64 k2) (.int .i64 n2) (.int .u64 u2) (.string s2) kv' (.slice A' m' c') W) → W.cell? ⟨w.heap.size, 5, none⟩ = some (.slice A m c) ∧ W.cell? ⟨w.heap.size + 1, 5, none⟩ = some (.slice A' m' c') := fun W H => ⟨(Bx.all H.out.2.2.1).2.2.2.2.2, (Bx.all H.out.2.2.2).2.2.2.2.2⟩
    have HEF : Hid (∀ W, Hid (Two w (.int .i64 k1) (.int .i64 n1) (.int .u64 u1) (.string s1) kv (.slice A m c) (.int .i64 k2) (.int .i64 n2) (.int .u64 u2) (.string s2) kv' (.slice A' m' c') W) → Calls Tryd.prog 52 #[.slice A m c, .slice A' m' c', .func (.func 33) #[] #[]] W fun e w' => (∃ β, e = .returned (.bool β) ∧ (β = true ↔ l1 = l2)) ∧ Hid (Below w.heap.size w w')) := Lib.hid fun W H => by
      refine (eqF_any l1 l2 A A' m c m' c' W hmx hl hl' (fun h => ?_) (fun h => ?_) (fun t1 ht1 t2 c1 c2 W2 g1 g2 => ?_)).mono fun e w' h => ⟨h.1, H.out.1.trans (h.2.mono H.out.1.size)⟩
      · obtain ⟨b, off, rfl, hb, hN⟩ := hL h
        exact ⟨b, off, rfl, Nat.lt_of_lt_of_le hb H.out.1.size, NdL.below H.out.1 hb _ _ hN⟩
      · obtain ⟨b, off, rfl, hb, hN⟩ := hL' h
        exact ⟨b, off, rfl, Nat.lt_of_lt_of_le hb H.out.1.size, NdL.below H.out.1 hb _ _ hN⟩
      · obtain ⟨j, hj⟩ := List.getElem?_of_mem ht1
        have := dp_le_of hj
        have := sz_le_of hj
        exact ih t1 t2 c1 c2 W2 (by omega) (by omega) g1 g2
    clear hL hL' ih
    by_cases h0 : k1 = k2
    case neg =>
      have hne : (k1 == k2) = false := by simp [h0]
      go_enter Tryd.func33, Tryd.ntmps33
      go_wp2_with fail
      go_ret
      exact ⟨⟨false, rfl, by simp [h0]⟩, HT0.out.1⟩
    by_cases h1 : n1 = n2
    case neg =>
      have hne : (n1 == n2) = false := by simp [h1]
      subst h0
      go_enter Tryd.func33, Tryd.ntmps33
      go_wp2_with fail
      go_ret
      exact ⟨⟨false, rfl, by simp [h1]⟩, HT0.out.1⟩
    by_cases h2 : u1 = u2
    case neg =>
      have hne : (u1 == u2) = false := by simp [h2]
      subst h0 h1
      go_enter Tryd.func33, Tryd.ntmps33
      go_wp2_with fail
      go_ret
      exact ⟨⟨false, rfl, by simp [h2]⟩, HT0.out.1⟩
    by_cases h3 : s1 = s2
    case neg =>
      have hne := strEq_false h3
      subst h0 h1 h2
      go_enter Tryd.func33, Tryd.ntmps33
      go_wp2_with fail
      go_ret
      exact ⟨⟨false, rfl, by simp [h3]⟩, HT0.out.1⟩
    by_cases h4 : ks1 = ks2
    case neg =>
      subst h0 h1 h2 h3
      rw [decide_eq_false h4] at hkey
      go_enter Tryd.func33, Tryd.ntmps33
      go_wp2_with (go_at_call 51; refine hkey.mono ?_; clear hkey; rintro e w2 ⟨rfl, hb2⟩)
      go_ret
      exact ⟨⟨false, rfl, by simp [h4]⟩, (HT0.out.below hb2).1⟩
    subst h0 h1 h2 h3 h4
    simp only [decide_true] at hkey
    go_enter Tryd.func33, Tryd.ntmps33
    go_wp2_with (first
      | (go_at_call 51; refine hkey.mono ?_; clear hkey; rintro e w2 ⟨rfl, hb2⟩; have HT1 := Lib.hid (HT0.out.below hb2); obtain ⟨x5, y5⟩ := hal w2 HT1)
      | (go_at_call 52; refine (HEF.out _ HT1).mono ?_; clear HEF; rintro e w3 ⟨⟨β, rfl, hβ⟩, HB3⟩; have HBT := Lib.hid hβ; clear hβ))
    go_ret
    exact ⟨⟨β, by simp, by rw [HBT.out]; simp⟩, HB3.out⟩
end Go.Proofs.YtnplkamkeadlgaaDoor
