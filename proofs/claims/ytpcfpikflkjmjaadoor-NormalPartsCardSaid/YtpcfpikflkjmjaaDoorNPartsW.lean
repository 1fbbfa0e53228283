/-
  What is proved here: the law NormalParts returns true; condition: the table of package tree holds what is laid.
-/
import Derived.Test.YtpcfpikflkjmjaaDoorLaw9
import Derived.Deep.RegionHeld3
namespace Go.Proofs.YtpcfpikflkjmjaaDoor
open Go.RowKit Go.Sort

def SOut (t : T) (x : Nat) (v : List Value) (W : World) : Prop := (x ≠ 0 ∧ chk t = x) ∨ (x = 0 ∧ chk t = 0 ∧ ∃ t', Srt t t' ∧ Nd W t' v)
theorem sorted_out (t : T) (cs : List Value) (w : World) (hT : Tab w) (hq : QQ t) (hnd : Nd w t cs) :
    Calls Tryd.prog 14 #[.agg cs.toArray] w fun e w' => ∃ (x : Nat) (ka4 na4 ua4 : Int) (sa4 : ByteArray) (EA4 : Option Addr) (qa4 fa4 : Nat) (GA4 : Option Addr) (ra4 ha4 : Nat), e = .returned (.tuple #[.agg #[.int .i64 ka4, .int .i64 na4, .int .u64 ua4, .string sa4, .slice EA4 qa4 fa4, .slice GA4 ra4 ha4], .int .i64 (x : Int)]) ∧ Hid (SOut t x [.int .i64 ka4, .int .i64 na4, .int .u64 ua4, .string sa4, .slice EA4 qa4 fa4, .slice GA4 ra4 ha4] w') ∧ Hid (Below w.heap.size w w') := by
  refine (sorted_any t cs w hT hq hnd).mono ?_
  rintro e w' ⟨hb, ⟨h0, rfl⟩ | ⟨h0, cs', t', rfl, hs, hn⟩⟩
  · exact ⟨chk t, 0, 0, 0, ⟨#[]⟩, none, 0, 0, none, 0, 0, rfl, Lib.hid (.inl ⟨h0, rfl⟩), Lib.hid hb⟩
  · obtain ⟨ka4, na4, ua4, sa4, EA4, qa4, fa4, GA4, ra4, ha4, rfl⟩ := (NdS.ndo _ _ hn).shape6
    exact ⟨0, ka4, na4, ua4, sa4, EA4, qa4, fa4, GA4, ra4, ha4, rfl, Lib.hid (.inr ⟨rfl, h0, t', hs, hn.nd⟩), Lib.hid hb⟩
theorem SOut.vs {t : T} {v : List Value} {W : World} (h : SOut t 0 v W) (hq : QQ t) : ∃ t', VS t t' ∧ Nd W t' v := by
  rcases h with ⟨h, _⟩ | ⟨_, hc, t', hs, hn⟩
  · exact absurd rfl h
  · exact ⟨t', ⟨hc, hq, hs⟩, hn⟩
theorem SOut.bad {t : T} {x : Nat} {v : List Value} {W : World} (h : SOut t x v W) (hx : x ≠ 0) : chk t ≠ 0 := by
  rcases h with ⟨_, h⟩ | ⟨h, _⟩
  · rw [h]; exact hx
  · exact absurd h hx
def PX (w : World) (b5 b7 : Nat) (X Y : T) (v0 v1 v2 v3 v4 v5 u0 u1 u2 u3 u4 u5 : Value) (W : World) : Prop := Below w.heap.size w W ∧ Bd W b5 X v0 v1 v2 v3 v4 v5 ∧ Bd W b7 Y u0 u1 u2 u3 u4 u5
theorem PX.below {w W W' : World} {b5 b7 : Nat} {X Y : T} {v0 v1 v2 v3 v4 v5 u0 u1 u2 u3 u4 u5 : Value} (h : PX w b5 b7 X Y v0 v1 v2 v3 v4 v5 u0 u1 u2 u3 u4 u5 W) (hb : Below W.heap.size W W') : PX w b5 b7 X Y v0 v1 v2 v3 v4 v5 u0 u1 u2 u3 u4 u5 W' := ⟨tr h.1 hb, h.2.1.below hb, h.2.2.below hb⟩
theorem alike_bool (a b : T) (ca cb : List Value) (w : World) (β : Bool) (hT : Tab w) (hqa : QQ a) (hqb : QQ b) (ha : Nd w a ca) (hb : Nd w b cb) (h : β = true ↔ alk a b) : Calls Tryd.prog 35 #[.agg ca.toArray, .agg cb.toArray] w fun e w' => e = .returned (.bool β) ∧ Hid (Below w.heap.size w w') := by
  refine (alike_any a b ca cb w hT hqa hqb ha hb).mono ?_
  rintro e w' ⟨⟨γ, rfl, hγ⟩, hb⟩
  have : γ = β := by
    have e : (γ = true) ↔ (β = true) := hγ.trans h.symm
    cases γ <;> cases β <;> simp at e ⊢
  rw [this]
  exact ⟨rfl, Lib.hid hb⟩
theorem same_bool (a b : T) (ca cb : List Value) (w : World) (β : Bool) (hq : QQ a) (ha : Nd w a ca) (hb : Nd w b cb) (h : β = true ↔ a = b) : Calls Tryd.prog 20 #[.agg ca.toArray, .agg cb.toArray] w fun e w' => e = .returned (.bool β) ∧ Hid (Below w.heap.size w w') := by
  refine (same_any (dp a) a b ca cb w (Nat.le_refl _) hq.1 ha hb).mono ?_
  rintro e w' ⟨⟨γ, rfl, hγ⟩, hb⟩
  have : γ = β := by
    have e : (γ = true) ↔ (β = true) := hγ.trans h.symm
    cases γ <;> cases β <;> simp at e ⊢
  rw [this]
  exact ⟨rfl, Lib.hid hb⟩
theorem at_nf {x y : T} {j : Nat} (hx : okT x) (hy : okT y) (h : nfT x = nfT y) {c d : T} (hc : atT x j = some c) (hd : atT y j = some d) : nfT c = nfT d := by
  have h1 := nf_at j hx
  have h2 := nf_at j hy
  rw [h, h2, hc, hd] at h1
  simpa using h1.symm

set_option maxRecDepth 100000 in
set_option maxHeartbeats 8000000 in
theorem normalParts_walk (ta : T) (ca : List Value) (tb : T) (cb : List Value) (w : World) (hT : Tab w) (hna : Nd w ta ca) (hnb : Nd w tb cb) : Calls Tryd.prog 10 #[.agg ca.toArray, .agg cb.toArray] w fun e w' => e = .returned (.bool true) ∧ Below w.heap.size w w' := by
  have HT := Lib.hid hT
  obtain ⟨ka0, na0, ua0, sa0, EA0, qa0, fa0, GA0, ra0, ha0, rfl⟩ := hna.shape
  obtain ⟨ka1, na1, ua1, sa1, EA1, qa1, fa1, GA1, ra1, ha1, rfl⟩ := hnb.shape
  have HA := Lib.hid hna
  have HB := Lib.hid hnb
  have HT0 := Lib.hid (Two.start w (.int .i64 ka0) (.int .i64 na0) (.int .u64 ua0) (.string sa0) (.slice EA0 qa0 fa0) (.slice GA0 ra0 ha0) (.int .i64 ka1) (.int .i64 na1) (.int .u64 ua1) (.string sa1) (.slice EA1 qa1 fa1) (.slice GA1 ra1 ha1))
  obtain ⟨t1, ht1⟩ : ∃ t1, fewT ta = t1 := ⟨_, rfl⟩
  obtain ⟨t2, ht2⟩ : ∃ t2, fewT tb = t2 := ⟨_, rfl⟩
  have HQ1 : Hid (QQ t1) := Lib.hid (by rw [← ht1]; exact fewT_qq ta)
  have HQ2 : Hid (QQ t2) := Lib.hid (by rw [← ht2]; exact fewT_qq tb)
  have HFA : Hid (∀ W, Below w.heap.size w W → Calls Tryd.prog 31 #[.agg #[.int .i64 ka0, .int .i64 na0, .int .u64 ua0, .string sa0, .slice EA0 qa0 fa0, .slice GA0 ra0 ha0]] W fun e w' => ∃ (ka2 na2 ua2 : Int) (sa2 : ByteArray) (EA2 : Option Addr) (qa2 fa2 : Nat) (GA2 : Option Addr) (ra2 ha2 : Nat), e = .returned (.agg #[.int .i64 ka2, .int .i64 na2, .int .u64 ua2, .string sa2, .slice EA2 qa2 fa2, .slice GA2 ra2 ha2]) ∧ Hid (Nd w' t1 [.int .i64 ka2, .int .i64 na2, .int .u64 ua2, .string sa2, .slice EA2 qa2 fa2, .slice GA2 ra2 ha2]) ∧ Hid (Below W.heap.size W w')) := Lib.hid fun W hb => by
    rw [← ht1]
    exact few9_nd ta _ W (HA.out.bel hb)
  have HFB : Hid (∀ W, Below w.heap.size w W → Calls Tryd.prog 31 #[.agg #[.int .i64 ka1, .int .i64 na1, .int .u64 ua1, .string sa1, .slice EA1 qa1 fa1, .slice GA1 ra1 ha1]] W fun e w' => ∃ (ka3 na3 ua3 : Int) (sa3 : ByteArray) (EA3 : Option Addr) (qa3 fa3 : Nat) (GA3 : Option Addr) (ra3 ha3 : Nat), e = .returned (.agg #[.int .i64 ka3, .int .i64 na3, .int .u64 ua3, .string sa3, .slice EA3 qa3 fa3, .slice GA3 ra3 ha3]) ∧ Hid (Nd w' t2 [.int .i64 ka3, .int .i64 na3, .int .u64 ua3, .string sa3, .slice EA3 qa3 fa3, .slice GA3 ra3 ha3]) ∧ Hid (Below W.heap.size W w')) := Lib.hid fun W hb => by
    rw [← ht2]
    exact few9_nd tb _ W (HB.out.bel hb)
  clear hT hna hnb ht1 ht2 HA HB
  go_enter Tryd.func10, Tryd.ntmps10
  go_wp2_with fail
  refine (works9_true _ (HT.out.keep HT0.out.1)).mono ?_
  rintro e w1 ⟨rfl, hb1⟩
  have HT1 := Lib.hid (HT0.out.below hb1)
  clear hb1 HT0
  obtain ⟨c0, c1, c2, c3, c4, c5⟩ := HT1.out.2.2.1.all
  go_wp2_with fail
  have hq := HT1.out.1
  with_reducible refine (HFA.out _ hq).mono ?_
  clear hq
  rintro e w2 ⟨ka2, na2, ua2, sa2, EA2, qa2, fa2, GA2, ra2, ha2, rfl, HN2, hb2⟩
  clear c0 c1 c2 c3 c4 c5
  have HT2 := Lib.hid (HT1.out.below hb2.out)
  have HS := Lib.hid (sorted_out t1 _ w2 (HT.out.keep HT2.out.1) HQ1.out HN2.out)
  clear hb2 HN2 HT1
  go_wp2_with fail
  with_reducible refine HS.out.mono ?_
  rintro e w3 ⟨x, ka5, na5, ua5, sa5, EA5, qa5, fa5, GA5, ra5, ha5, rfl, HX5, hb3⟩
  clear HS
  obtain ⟨w4, hw4⟩ : ∃ W, w3.alloc (.cells #[.int .i64 ka5, .int .i64 na5, .int .u64 ua5, .string sa5, .slice EA5 qa5 fa5, .slice GA5 ra5 ha5] 26) = W := ⟨_, rfl⟩
  obtain ⟨b5, hb5⟩ : ∃ b, w3.heap.size = b := ⟨_, rfl⟩
  have HT4 : Hid (Two w (.int .i64 ka0) (.int .i64 na0) (.int .u64 ua0) (.string sa0) (.slice EA0 qa0 fa0) (.slice GA0 ra0 ha0) (.int .i64 ka1) (.int .i64 na1) (.int .u64 ua1) (.string sa1) (.slice EA1 qa1 fa1) (.slice GA1 ra1 ha1) w4) := Lib.hid (by rw [← hw4]; exact HT2.out.below (tr hb3.out (al0 _ _)))
  have HB5 : Hid (Bx w4 b5 (.int .i64 ka5) (.int .i64 na5) (.int .u64 ua5) (.string sa5) (.slice EA5 qa5 fa5) (.slice GA5 ra5 ha5)) := Lib.hid (by rw [← hw4, ← hb5]; exact Blk.new _ _ _)
  have H34 : Hid (Below w3.heap.size w3 w4) := Lib.hid (by rw [← hw4]; exact al0 _ _)
  obtain ⟨c0, c1, c2, c3, c4, c5⟩ := HT4.out.2.2.2.all
  clear hb3 HT2
  go_wp2_with fail
  (try rw [hw4])
  (try simp only [hb5])
  clear hw4 hb5
  have hq := HT4.out.1
  with_reducible refine (HFB.out _ hq).mono ?_
  clear hq
  rintro e w5 ⟨ka3, na3, ua3, sa3, EA3, qa3, fa3, GA3, ra3, ha3, rfl, HN3, hb6⟩
  clear c0 c1 c2 c3 c4 c5
  have HT5 := Lib.hid (HT4.out.below hb6.out)
  have HB5a := Lib.hid (HB5.out.below hb6.out HB5.out.lt)
  have H35 := Lib.hid (tr H34.out hb6.out)
  have HS := Lib.hid (sorted_out t2 _ w5 (HT.out.keep HT5.out.1) HQ2.out HN3.out)
  clear hb6 HN3 HT4 HB5 H34
  go_wp2_with fail
  with_reducible refine HS.out.mono ?_
  rintro e w6 ⟨y, ka7, na7, ua7, sa7, EA7, qa7, fa7, GA7, ra7, ha7, rfl, HX7, hb7⟩
  clear HS
  obtain ⟨w8, hw8⟩ : ∃ W, w6.alloc (.cells #[.int .i64 ka7, .int .i64 na7, .int .u64 ua7, .string sa7, .slice EA7 qa7 fa7, .slice GA7 ra7 ha7] 26) = W := ⟨_, rfl⟩
  obtain ⟨b7, hb8⟩ : ∃ b, w6.heap.size = b := ⟨_, rfl⟩
  have HT8 : Hid (Two w (.int .i64 ka0) (.int .i64 na0) (.int .u64 ua0) (.string sa0) (.slice EA0 qa0 fa0) (.slice GA0 ra0 ha0) (.int .i64 ka1) (.int .i64 na1) (.int .u64 ua1) (.string sa1) (.slice EA1 qa1 fa1) (.slice GA1 ra1 ha1) w8) := Lib.hid (by rw [← hw8]; exact HT5.out.below (tr hb7.out (al0 _ _)))
  have HB7 : Hid (Bx w8 b7 (.int .i64 ka7) (.int .i64 na7) (.int .u64 ua7) (.string sa7) (.slice EA7 qa7 fa7) (.slice GA7 ra7 ha7)) := Lib.hid (by rw [← hw8, ← hb8]; exact Blk.new _ _ _)
  have H68 : Hid (Below w6.heap.size w6 w8) := Lib.hid (by rw [← hw8]; exact al0 _ _)
  have HB5b : Hid (Bx w8 b5 (.int .i64 ka5) (.int .i64 na5) (.int .u64 ua5) (.string sa5) (.slice EA5 qa5 fa5) (.slice GA5 ra5 ha5)) := Lib.hid (by rw [← hw8]; exact HB5a.out.below (tr hb7.out (al0 _ _)) HB5a.out.lt)
  have H38 : Hid (Below w3.heap.size w3 w8) := Lib.hid (by rw [← hw8]; exact tr H35.out (tr hb7.out (al0 _ _)))
  clear hb7 HT5 HB5a H35
  by_cases hxy : x = 0 ∧ y = 0
  · obtain ⟨rfl, rfl⟩ := hxy
    obtain ⟨X, hvx, hnx⟩ := HX5.out.vs HQ1.out
    obtain ⟨Y, hvy, hny⟩ := HX7.out.vs HQ2.out
    have HVX := Lib.hid hvx
    have HVY := Lib.hid hvy
    have HD5 : Hid (Bd w8 b5 X (.int .i64 ka5) (.int .i64 na5) (.int .u64 ua5) (.string sa5) (.slice EA5 qa5 fa5) (.slice GA5 ra5 ha5)) := Lib.hid ⟨HB5b.out, hnx.bel H38.out⟩
    have HD7 : Hid (Bd w8 b7 Y (.int .i64 ka7) (.int .i64 na7) (.int .u64 ua7) (.string sa7) (.slice EA7 qa7 fa7) (.slice GA7 ra7 ha7)) := Lib.hid ⟨HB7.out, hny.bel H68.out⟩
    clear hvx hnx hvy hny HX5 HX7 HB5b HB7 H68 H38
    have HSI := Lib.hid (of_is X X _ w8 (HT.out.keep HT8.out.1) HVX.out.qx HVX.out.cx HVX.out.self.s HD5.out.2)
    obtain ⟨x0, x1, x2, x3, x4, x5⟩ := Bx.all HD5.out.1
    go_wp2_with fail
    (try rw [hw8])
    (try simp only [hb8])
    clear hw8 hb8
    with_reducible refine HSI.out.mono ?_
    rintro e w9 ⟨ka8, na8, ua8, sa8, EA8, qa8, fa8, GA8, ra8, ha8, rfl, HO8, hb9⟩
    clear HSI x0 x1 x2 x3 x4 x5
    obtain ⟨w10, hw10⟩ : ∃ W, w9.alloc (.cells #[.int .i64 ka8, .int .i64 na8, .int .u64 ua8, .string sa8, .slice EA8 qa8 fa8, .slice GA8 ra8 ha8] 26) = W := ⟨_, rfl⟩
    obtain ⟨b9, hb10⟩ : ∃ b, w9.heap.size = b := ⟨_, rfl⟩
    have HB10 : Hid (Below w8.heap.size w8 w10) := Lib.hid (by rw [← hw10]; exact tr hb9.out (al0 _ _))
    have HD8 : Hid (Bd w10 b9 (nfT X) (.int .i64 ka8) (.int .i64 na8) (.int .u64 ua8) (.string sa8) (.slice EA8 qa8 fa8) (.slice GA8 ra8 ha8)) := Lib.hid (by rw [← hw10, ← hb10]; exact Bd.new HO8.out.nd)
    have HD7a := Lib.hid (HD7.out.below HB10.out)
    have HD5a := Lib.hid (HD5.out.below HB10.out)
    have HW10 := Lib.hid (tr HT8.out.1 HB10.out)
    clear HO8 hb9 HD5 HD7 HT8
    have HSI := Lib.hid (of_is Y Y _ w10 (HT.out.keep HW10.out) HVY.out.qx HVY.out.cx HVY.out.self.s HD7a.out.2)
    obtain ⟨x0, x1, x2, x3, x4, x5⟩ := Bx.all HD7a.out.1
    go_wp2_with fail
    (try rw [hw10])
    (try simp only [hb10])
    clear hw10 hb10
    with_reducible refine HSI.out.mono ?_
    rintro e w11 ⟨ka9, na9, ua9, sa9, EA9, qa9, fa9, GA9, ra9, ha9, rfl, HO9, hb11⟩
    clear HSI x0 x1 x2 x3 x4 x5
    obtain ⟨wE, hwE⟩ : ∃ W, w11.alloc (.cells #[.int .i64 ka9, .int .i64 na9, .int .u64 ua9, .string sa9, .slice EA9 qa9 fa9, .slice GA9 ra9 ha9] 26) = W := ⟨_, rfl⟩
    obtain ⟨b11, hb12⟩ : ∃ b, w11.heap.size = b := ⟨_, rfl⟩
    have HBE : Hid (Below w10.heap.size w10 wE) := Lib.hid (by rw [← hwE]; exact tr hb11.out (al0 _ _))
    have HE9 : Hid (Bd wE b11 (nfT Y) (.int .i64 ka9) (.int .i64 na9) (.int .u64 ua9) (.string sa9) (.slice EA9 qa9 fa9) (.slice GA9 ra9 ha9)) := Lib.hid (by rw [← hwE, ← hb12]; exact Bd.new HO9.out.nd)
    have HE8 := Lib.hid (HD8.out.below HBE.out)
    have HE7 := Lib.hid (HD7a.out.below HBE.out)
    have HE5 := Lib.hid (HD5a.out.below HBE.out)
    have HWE := Lib.hid (tr HW10.out HBE.out)
    clear HO9 hb11 HD8 HD7a HD5a HW10
    go_wp2_with fail
    (try rw [hwE])
    (try simp only [hb12])
    clear hwE hb12
    obtain ⟨β, hβ⟩ : ∃ β : Bool, β = true ↔ nfT X = nfT Y := ⟨@decide _ (Classical.propDecidable _), @decide_eq_true_iff _ (Classical.propDecidable _)⟩
    have HBT := Lib.hid hβ
    clear hβ
    have hall : ∀ W, Hid (Below wE.heap.size wE W) → Hid (Below wE.heap.size wE W) ∧ W.cell? ⟨b5, 0, none⟩ = some (.int .i64 ka5) ∧ W.cell? ⟨b5, 1, none⟩ = some (.int .i64 na5) ∧ W.cell? ⟨b5, 2, none⟩ = some (.int .u64 ua5) ∧ W.cell? ⟨b5, 3, none⟩ = some (.string sa5) ∧ W.cell? ⟨b5, 4, none⟩ = some (.slice EA5 qa5 fa5) ∧ W.cell? ⟨b5, 5, none⟩ = some (.slice GA5 ra5 ha5) ∧ W.cell? ⟨b7, 0, none⟩ = some (.int .i64 ka7) ∧ W.cell? ⟨b7, 1, none⟩ = some (.int .i64 na7) ∧ W.cell? ⟨b7, 2, none⟩ = some (.int .u64 ua7) ∧ W.cell? ⟨b7, 3, none⟩ = some (.string sa7) ∧ W.cell? ⟨b7, 4, none⟩ = some (.slice EA7 qa7 fa7) ∧ W.cell? ⟨b7, 5, none⟩ = some (.slice GA7 ra7 ha7) ∧ W.cell? ⟨b9, 0, none⟩ = some (.int .i64 ka8) ∧ W.cell? ⟨b9, 1, none⟩ = some (.int .i64 na8) ∧ W.cell? ⟨b9, 2, none⟩ = some (.int .u64 ua8) ∧ W.cell? ⟨b9, 3, none⟩ = some (.string sa8) ∧ W.cell? ⟨b9, 4, none⟩ = some (.slice EA8 qa8 fa8) ∧ W.cell? ⟨b9, 5, none⟩ = some (.slice GA8 ra8 ha8) ∧ W.cell? ⟨b11, 0, none⟩ = some (.int .i64 ka9) ∧ W.cell? ⟨b11, 1, none⟩ = some (.int .i64 na9) ∧ W.cell? ⟨b11, 2, none⟩ = some (.int .u64 ua9) ∧ W.cell? ⟨b11, 3, none⟩ = some (.string sa9) ∧ W.cell? ⟨b11, 4, none⟩ = some (.slice EA9 qa9 fa9) ∧ W.cell? ⟨b11, 5, none⟩ = some (.slice GA9 ra9 ha9) := fun W H => by
      have h1 := (HE5.out.below H.out).1.all
      have h2 := (HE7.out.below H.out).1.all
      have h4 := (HE8.out.below H.out).1.all
      have h5 := (HE9.out.below H.out).1.all
      refine ⟨H, h1.1, h1.2.1, h1.2.2.1, h1.2.2.2.1, h1.2.2.2.2.1, h1.2.2.2.2.2, h2.1, h2.2.1, h2.2.2.1, h2.2.2.2.1, h2.2.2.2.2.1, h2.2.2.2.2.2, h4.1, h4.2.1, h4.2.2.1, h4.2.2.2.1, h4.2.2.2.2.1, h4.2.2.2.2.2, h5⟩
    have HXX : Hid (∀ W, Hid (Below wE.heap.size wE W) → Calls Tryd.prog 35 #[.agg #[.int .i64 ka5, .int .i64 na5, .int .u64 ua5, .string sa5, .slice EA5 qa5 fa5, .slice GA5 ra5 ha5], .agg #[.int .i64 ka5, .int .i64 na5, .int .u64 ua5, .string sa5, .slice EA5 qa5 fa5, .slice GA5 ra5 ha5]] W fun e w' => e = .returned (.bool true) ∧ Hid (Below wE.heap.size wE w')) := Lib.hid fun W H => (alike_yes X X _ _ W (HT.out.keep (tr HWE.out H.out)) HVX.out.qx HVX.out.qx (HE5.out.below H.out).2 (HE5.out.below H.out).2 (VS.alk HVX.out.self HVX.out.self rfl)).mono fun e w' h => ⟨h.1, Lib.hid (tr H.out h.2.out)⟩
    have HPX : Hid (∀ W, Hid (Below wE.heap.size wE W) → Calls Tryd.prog 35 #[.agg #[.int .i64 ka8, .int .i64 na8, .int .u64 ua8, .string sa8, .slice EA8 qa8 fa8, .slice GA8 ra8 ha8], .agg #[.int .i64 ka5, .int .i64 na5, .int .u64 ua5, .string sa5, .slice EA5 qa5 fa5, .slice GA5 ra5 ha5]] W fun e w' => e = .returned (.bool true) ∧ Hid (Below wE.heap.size wE w')) := Lib.hid fun W H => (alike_yes (nfT X) X _ _ W (HT.out.keep (tr HWE.out H.out)) HVX.out.nf.q0 HVX.out.qx (HE8.out.below H.out).2 (HE5.out.below H.out).2 (VS.alk HVX.out.nf HVX.out.self (nf_idem X))).mono fun e w' h => ⟨h.1, Lib.hid (tr H.out h.2.out)⟩
    have HXY : Hid (∀ W, Hid (Below wE.heap.size wE W) → Calls Tryd.prog 35 #[.agg #[.int .i64 ka5, .int .i64 na5, .int .u64 ua5, .string sa5, .slice EA5 qa5 fa5, .slice GA5 ra5 ha5], .agg #[.int .i64 ka7, .int .i64 na7, .int .u64 ua7, .string sa7, .slice EA7 qa7 fa7, .slice GA7 ra7 ha7]] W fun e w' => e = .returned (.bool β) ∧ Hid (Below wE.heap.size wE w')) := Lib.hid fun W H => (alike_bool X Y _ _ W β (HT.out.keep (tr HWE.out H.out)) HVX.out.qx HVY.out.qx (HE5.out.below H.out).2 (HE7.out.below H.out).2 (HBT.out.trans (VS.alk_iff HVX.out.self HVY.out.self).symm)).mono fun e w' h => ⟨h.1, Lib.hid (tr H.out h.2.out)⟩
    have HYX : Hid (∀ W, Hid (Below wE.heap.size wE W) → Calls Tryd.prog 35 #[.agg #[.int .i64 ka7, .int .i64 na7, .int .u64 ua7, .string sa7, .slice EA7 qa7 fa7, .slice GA7 ra7 ha7], .agg #[.int .i64 ka5, .int .i64 na5, .int .u64 ua5, .string sa5, .slice EA5 qa5 fa5, .slice GA5 ra5 ha5]] W fun e w' => e = .returned (.bool β) ∧ Hid (Below wE.heap.size wE w')) := Lib.hid fun W H => (alike_bool Y X _ _ W β (HT.out.keep (tr HWE.out H.out)) HVY.out.qx HVX.out.qx (HE7.out.below H.out).2 (HE5.out.below H.out).2 (HBT.out.trans (eq_comm.trans (VS.alk_iff HVY.out.self HVX.out.self).symm))).mono fun e w' h => ⟨h.1, Lib.hid (tr H.out h.2.out)⟩
    have HSM : Hid (∀ W, Hid (Below wE.heap.size wE W) → Calls Tryd.prog 20 #[.agg #[.int .i64 ka8, .int .i64 na8, .int .u64 ua8, .string sa8, .slice EA8 qa8 fa8, .slice GA8 ra8 ha8], .agg #[.int .i64 ka9, .int .i64 na9, .int .u64 ua9, .string sa9, .slice EA9 qa9 fa9, .slice GA9 ra9 ha9]] W fun e w' => e = .returned (.bool β) ∧ Hid (Below wE.heap.size wE w')) := Lib.hid fun W H => (same_bool (nfT X) (nfT Y) _ _ W β HVX.out.nf.q0 (HE8.out.below H.out).2 (HE9.out.below H.out).2 HBT.out).mono fun e w' h => ⟨h.1, Lib.hid (tr H.out h.2.out)⟩
    have HEd : Hid (Below wE.heap.size wE wE.drew) := Lib.hid (Below.refl _ wE).drew
    have hbb : (β != β) = false := by cases β <;> rfl
    go_region_held3 (fun W => Hid (Below wE.heap.size wE W) ∧ W.cell? ⟨b5, 0, none⟩ = some (.int .i64 ka5) ∧ W.cell? ⟨b5, 1, none⟩ = some (.int .i64 na5) ∧ W.cell? ⟨b5, 2, none⟩ = some (.int .u64 ua5) ∧ W.cell? ⟨b5, 3, none⟩ = some (.string sa5) ∧ W.cell? ⟨b5, 4, none⟩ = some (.slice EA5 qa5 fa5) ∧ W.cell? ⟨b5, 5, none⟩ = some (.slice GA5 ra5 ha5) ∧ W.cell? ⟨b7, 0, none⟩ = some (.int .i64 ka7) ∧ W.cell? ⟨b7, 1, none⟩ = some (.int .i64 na7) ∧ W.cell? ⟨b7, 2, none⟩ = some (.int .u64 ua7) ∧ W.cell? ⟨b7, 3, none⟩ = some (.string sa7) ∧ W.cell? ⟨b7, 4, none⟩ = some (.slice EA7 qa7 fa7) ∧ W.cell? ⟨b7, 5, none⟩ = some (.slice GA7 ra7 ha7) ∧ W.cell? ⟨b9, 0, none⟩ = some (.int .i64 ka8) ∧ W.cell? ⟨b9, 1, none⟩ = some (.int .i64 na8) ∧ W.cell? ⟨b9, 2, none⟩ = some (.int .u64 ua8) ∧ W.cell? ⟨b9, 3, none⟩ = some (.string sa8) ∧ W.cell? ⟨b9, 4, none⟩ = some (.slice EA8 qa8 fa8) ∧ W.cell? ⟨b9, 5, none⟩ = some (.slice GA8 ra8 ha8) ∧ W.cell? ⟨b11, 0, none⟩ = some (.int .i64 ka9) ∧ W.cell? ⟨b11, 1, none⟩ = some (.int .i64 na9) ∧ W.cell? ⟨b11, 2, none⟩ = some (.int .u64 ua9) ∧ W.cell? ⟨b11, 3, none⟩ = some (.string sa9) ∧ W.cell? ⟨b11, 4, none⟩ = some (.slice EA9 qa9 fa9) ∧ W.cell? ⟨b11, 5, none⟩ = some (.slice GA9 ra9 ha9)) (first | (with_reducible exact hall _ (by assumption)) | (with_reducible exact hall _ HEd))
      (first
        | (go_at_call 35; (with_reducible refine (HXX.out _ HEd).mono ?_); rintro e w21 ⟨rfl, HW21⟩)
        | (go_at_call 35; (with_reducible refine (HPX.out _ (by assumption)).mono ?_); rintro e w22 ⟨rfl, HW22⟩)
        | (go_at_call 35; (with_reducible refine (HXY.out _ (by assumption)).mono ?_); rintro e w23 ⟨rfl, HW23⟩)
        | (go_at_call 35; (with_reducible refine (HYX.out _ (by assumption)).mono ?_); rintro e w24 ⟨rfl, HW24⟩)
        | (go_at_call 20; (with_reducible refine (HSM.out _ (by assumption)).mono ?_); rintro e w25 ⟨rfl, HW25⟩))
    have HL : Hid (PX w b5 b7 X Y (.int .i64 ka5) (.int .i64 na5) (.int .u64 ua5) (.string sa5) (.slice EA5 qa5 fa5) (.slice GA5 ra5 ha5) (.int .i64 ka7) (.int .i64 na7) (.int .u64 ua7) (.string sa7) (.slice EA7 qa7 fa7) (.slice GA7 ra7 ha7) w25) := Lib.hid ⟨tr HWE.out HW25.out, HE5.out.below HW25.out, HE7.out.below HW25.out⟩
    obtain ⟨N, hN⟩ : ∃ N, sz X = N := ⟨_, rfl⟩
    have HXL : Hid (∀ W, Hid (PX w b5 b7 X Y (.int .i64 ka5) (.int .i64 na5) (.int .u64 ua5) (.string sa5) (.slice EA5 qa5 fa5) (.slice GA5 ra5 ha5) (.int .i64 ka7) (.int .i64 na7) (.int .u64 ua7) (.string sa7) (.slice EA7 qa7 fa7) (.slice GA7 ra7 ha7) W) → Calls Tryd.prog 35 #[.agg #[.int .i64 ka5, .int .i64 na5, .int .u64 ua5, .string sa5, .slice EA5 qa5 fa5, .slice GA5 ra5 ha5], .agg #[.int .i64 ka7, .int .i64 na7, .int .u64 ua7, .string sa7, .slice EA7 qa7 fa7, .slice GA7 ra7 ha7]] W fun e w' => e = .returned (.bool β) ∧ Hid (PX w b5 b7 X Y (.int .i64 ka5) (.int .i64 na5) (.int .u64 ua5) (.string sa5) (.slice EA5 qa5 fa5) (.slice GA5 ra5 ha5) (.int .i64 ka7) (.int .i64 na7) (.int .u64 ua7) (.string sa7) (.slice EA7 qa7 fa7) (.slice GA7 ra7 ha7) w')) := Lib.hid fun W H => (alike_bool X Y _ _ W β (HT.out.keep H.out.1) HVX.out.qx HVY.out.qx H.out.2.1.2 H.out.2.2.2 (HBT.out.trans (VS.alk_iff HVX.out.self HVY.out.self).symm)).mono fun e w' h => ⟨h.1, Lib.hid (H.out.below h.2.out)⟩
    have HSZ : Hid (∀ W, Hid (PX w b5 b7 X Y (.int .i64 ka5) (.int .i64 na5) (.int .u64 ua5) (.string sa5) (.slice EA5 qa5 fa5) (.slice GA5 ra5 ha5) (.int .i64 ka7) (.int .i64 na7) (.int .u64 ua7) (.string sa7) (.slice EA7 qa7 fa7) (.slice GA7 ra7 ha7) W) → Calls Tryd.prog 23 #[.agg #[.int .i64 ka5, .int .i64 na5, .int .u64 ua5, .string sa5, .slice EA5 qa5 fa5, .slice GA5 ra5 ha5]] W fun e w' => e = .returned (.int .i64 (N : Int)) ∧ Hid (PX w b5 b7 X Y (.int .i64 ka5) (.int .i64 na5) (.int .u64 ua5) (.string sa5) (.slice EA5 qa5 fa5) (.slice GA5 ra5 ha5) (.int .i64 ka7) (.int .i64 na7) (.int .u64 ua7) (.string sa7) (.slice EA7 qa7 fa7) (.slice GA7 ra7 ha7) w')) := Lib.hid fun W H => by
      refine (size_any X _ W HVX.out.qx.1 H.out.2.1.2).mono ?_
      rintro e w' ⟨rfl, hb⟩
      rw [hN]
      exact ⟨rfl, Lib.hid (H.out.below hb)⟩
    have HNB : Hid (N ≤ 100000) := Lib.hid (by rw [← hN]; exact HVX.out.qx.1)
    clear hall HXX HPX HXY HYX HSM HEd HE5 HE7 HE8 HE9 HW21 HW22 HW23 HW24 HW25 hbb
    obtain ⟨x0, x1, x2, x3, x4, x5⟩ := Bx.all HL.out.2.1.1
    obtain ⟨y0, y1, y2, y3, y4, y5⟩ := Bx.all HL.out.2.2.1
    cases β with
    | false =>
      go_wp2_with fail
      refine wp_loop_rounds 1 ?_
      rw [rounds_succ]
      go_wp2_with (first | (go_at_call 35; (with_reducible refine (HXL.out _ HL).mono ?_); rintro e w31 ⟨rfl, HL2⟩))
      go_ret
      exact ⟨rfl, HL2.out.1⟩
    | true =>
      have HNF : Hid (nfT X = nfT Y) := Lib.hid (HBT.out.1 rfl)
      have HATX : Hid (∀ (W : World) (j : Nat), j < N → Hid (PX w b5 b7 X Y (.int .i64 ka5) (.int .i64 na5) (.int .u64 ua5) (.string sa5) (.slice EA5 qa5 fa5) (.slice GA5 ra5 ha5) (.int .i64 ka7) (.int .i64 na7) (.int .u64 ua7) (.string sa7) (.slice EA7 qa7 fa7) (.slice GA7 ra7 ha7) W) → Calls Tryd.prog 37 #[.agg #[.int .i64 ka5, .int .i64 na5, .int .u64 ua5, .string sa5, .slice EA5 qa5 fa5, .slice GA5 ra5 ha5], .int .i64 (j : Int)] W fun e w' => ∃ (c : T) (ka2 na2 ua2 : Int) (sa2 : ByteArray) (EA2 : Option Addr) (qa2 fa2 : Nat) (GA2 : Option Addr) (ra2 ha2 : Nat), e = .returned (.tuple #[.agg #[.int .i64 ka2, .int .i64 na2, .int .u64 ua2, .string sa2, .slice EA2 qa2 fa2, .slice GA2 ra2 ha2], .bool true]) ∧ Hid (atT X j = some c ∧ Nd w' c [.int .i64 ka2, .int .i64 na2, .int .u64 ua2, .string sa2, .slice EA2 qa2 fa2, .slice GA2 ra2 ha2]) ∧ Hid (PX w b5 b7 X Y (.int .i64 ka5) (.int .i64 na5) (.int .u64 ua5) (.string sa5) (.slice EA5 qa5 fa5) (.slice GA5 ra5 ha5) (.int .i64 ka7) (.int .i64 na7) (.int .u64 ua7) (.string sa7) (.slice EA7 qa7 fa7) (.slice GA7 ra7 ha7) w')) := Lib.hid fun W j hj H => by
        obtain ⟨c, hc⟩ := atT_some X j (by omega)
        have hI : atI X (j : Int) = some c := by unfold atI; rw [if_neg (by omega), Int.toNat_natCast]; exact hc
        refine (at_any X _ (j : Int) W HVX.out.qx.1 HVX.out.qx.2 H.out.2.1.2).mono ?_
        rw [hI]
        rintro e w' ⟨⟨cs', rfl, h1⟩, hb⟩
        obtain ⟨ka2, na2, ua2, sa2, EA2, qa2, fa2, GA2, ra2, ha2, rfl⟩ := h1.shape6
        exact ⟨c, ka2, na2, ua2, sa2, EA2, qa2, fa2, GA2, ra2, ha2, rfl, Lib.hid ⟨hc, NdO.nd _ _ h1⟩, Lib.hid (H.out.below hb)⟩
      have HATY : Hid (∀ (W : World) (j : Nat), j < N → Hid (PX w b5 b7 X Y (.int .i64 ka5) (.int .i64 na5) (.int .u64 ua5) (.string sa5) (.slice EA5 qa5 fa5) (.slice GA5 ra5 ha5) (.int .i64 ka7) (.int .i64 na7) (.int .u64 ua7) (.string sa7) (.slice EA7 qa7 fa7) (.slice GA7 ra7 ha7) W) → Calls Tryd.prog 37 #[.agg #[.int .i64 ka7, .int .i64 na7, .int .u64 ua7, .string sa7, .slice EA7 qa7 fa7, .slice GA7 ra7 ha7], .int .i64 (j : Int)] W fun e w' => ∃ (c : T) (ka3 na3 ua3 : Int) (sa3 : ByteArray) (EA3 : Option Addr) (qa3 fa3 : Nat) (GA3 : Option Addr) (ra3 ha3 : Nat), e = .returned (.tuple #[.agg #[.int .i64 ka3, .int .i64 na3, .int .u64 ua3, .string sa3, .slice EA3 qa3 fa3, .slice GA3 ra3 ha3], .bool true]) ∧ Hid (atT Y j = some c ∧ Nd w' c [.int .i64 ka3, .int .i64 na3, .int .u64 ua3, .string sa3, .slice EA3 qa3 fa3, .slice GA3 ra3 ha3] ∧ Below W.heap.size W w') ∧ Hid (PX w b5 b7 X Y (.int .i64 ka5) (.int .i64 na5) (.int .u64 ua5) (.string sa5) (.slice EA5 qa5 fa5) (.slice GA5 ra5 ha5) (.int .i64 ka7) (.int .i64 na7) (.int .u64 ua7) (.string sa7) (.slice EA7 qa7 fa7) (.slice GA7 ra7 ha7) w')) := Lib.hid fun W j hj H => by
        have hsz : sz Y = N := by rw [← hN, ← nf_sz HVY.out.okx, ← nf_sz HVX.out.okx, HNF.out]
        obtain ⟨c, hc⟩ := atT_some Y j (by omega)
        have hI : atI Y (j : Int) = some c := by unfold atI; rw [if_neg (by omega), Int.toNat_natCast]; exact hc
        refine (at_any Y _ (j : Int) W HVY.out.qx.1 HVY.out.qx.2 H.out.2.2.2).mono ?_
        rw [hI]
        rintro e w' ⟨⟨cs', rfl, h1⟩, hb⟩
        obtain ⟨ka3, na3, ua3, sa3, EA3, qa3, fa3, GA3, ra3, ha3, rfl⟩ := h1.shape6
        exact ⟨c, ka3, na3, ua3, sa3, EA3, qa3, fa3, GA3, ra3, ha3, rfl, Lib.hid ⟨hc, NdO.nd _ _ h1, hb⟩, Lib.hid (H.out.below hb)⟩
      clear x0 x1 x2 x3 x4 x5 y0 y1 y2 y3 y4 y5
      go_wp2_with fail
      go_loopw [13] (fun vi wr => ∃ j : Nat, vi = .int .i64 (j : Int) ∧ j ≤ 130 ∧ Hid (PX w b5 b7 X Y (.int .i64 ka5) (.int .i64 na5) (.int .u64 ua5) (.string sa5) (.slice EA5 qa5 fa5) (.slice GA5 ra5 ha5) (.int .i64 ka7) (.int .i64 na7) (.int .u64 ua7) (.string sa7) (.slice EA7 qa7 fa7) (.slice GA7 ra7 ha7) wr)) (fun vi _ => 130 - (intOf vi).toNat)
      case atStart => exact ⟨0, rfl, by omega, HL⟩
      case round =>
        obtain ⟨j, rfl, hj, HP⟩ := hrel
        clear HL
        obtain ⟨x0, x1, x2, x3, x4, x5⟩ := Bx.all HP.out.2.1.1
        obtain ⟨y0, y1, y2, y3, y4, y5⟩ := Bx.all HP.out.2.2.1
        go_wp2_with fail
        with_reducible refine (HXL.out _ HP).mono ?_
        clear x0 x1 x2 x3 x4 x5 y0 y1 y2 y3 y4 y5
        rintro e w31 ⟨rfl, HP1⟩
        obtain ⟨x0, x1, x2, x3, x4, x5⟩ := Bx.all HP1.out.2.1.1
        go_wp2_with fail
        with_reducible refine (HSZ.out _ HP1).mono ?_
        clear x0 x1 x2 x3 x4 x5
        rintro e w32 ⟨rfl, HP2⟩
        obtain ⟨x0, x1, x2, x3, x4, x5⟩ := Bx.all HP2.out.2.1.1
        by_cases hjj : j < N ∧ j < 130
        · obtain ⟨hjN, hj1⟩ := hjj
          go_wp2_with fail
          with_reducible refine (HATX.out _ j hjN HP2).mono ?_
          clear x0 x1 x2 x3 x4 x5
          rintro e w33 ⟨c, ka2, na2, ua2, sa2, EA2, qa2, fa2, GA2, ra2, ha2, rfl, HC, HP3⟩
          obtain ⟨wC, hwC⟩ : ∃ W, w33.alloc (.cells #[.int .i64 ka2, .int .i64 na2, .int .u64 ua2, .string sa2, .slice EA2 qa2 fa2, .slice GA2 ra2 ha2] 26) = W := ⟨_, rfl⟩
          obtain ⟨bc, hbc⟩ : ∃ b, w33.heap.size = b := ⟨_, rfl⟩
          have HPC : Hid (PX w b5 b7 X Y (.int .i64 ka5) (.int .i64 na5) (.int .u64 ua5) (.string sa5) (.slice EA5 qa5 fa5) (.slice GA5 ra5 ha5) (.int .i64 ka7) (.int .i64 na7) (.int .u64 ua7) (.string sa7) (.slice EA7 qa7 fa7) (.slice GA7 ra7 ha7) wC) := Lib.hid (by rw [← hwC]; exact HP3.out.below (al0 _ _))
          have HDC : Hid (Bd wC bc c (.int .i64 ka2) (.int .i64 na2) (.int .u64 ua2) (.string sa2) (.slice EA2 qa2 fa2) (.slice GA2 ra2 ha2)) := Lib.hid (by rw [← hwC, ← hbc]; exact Bd.new HC.out.2)
          obtain ⟨y0, y1, y2, y3, y4, y5⟩ := Bx.all HPC.out.2.2.1
          go_wp2_with fail
          (try rw [hwC])
          (try simp only [hbc])
          clear hwC hbc HP3
          with_reducible refine (HATY.out _ j hjN HPC).mono ?_
          clear y0 y1 y2 y3 y4 y5
          rintro e w34 ⟨d, ka3, na3, ua3, sa3, EA3, qa3, fa3, GA3, ra3, ha3, rfl, HD, HP4⟩
          obtain ⟨wD, hwD⟩ : ∃ W, w34.alloc (.cells #[.int .i64 ka3, .int .i64 na3, .int .u64 ua3, .string sa3, .slice EA3 qa3 fa3, .slice GA3 ra3 ha3] 26) = W := ⟨_, rfl⟩
          obtain ⟨bd, hbd⟩ : ∃ b, w34.heap.size = b := ⟨_, rfl⟩
          have HPD : Hid (PX w b5 b7 X Y (.int .i64 ka5) (.int .i64 na5) (.int .u64 ua5) (.string sa5) (.slice EA5 qa5 fa5) (.slice GA5 ra5 ha5) (.int .i64 ka7) (.int .i64 na7) (.int .u64 ua7) (.string sa7) (.slice EA7 qa7 fa7) (.slice GA7 ra7 ha7) wD) := Lib.hid (by rw [← hwD]; exact HP4.out.below (al0 _ _))
          have HDD : Hid (Bd wD bd d (.int .i64 ka3) (.int .i64 na3) (.int .u64 ua3) (.string sa3) (.slice EA3 qa3 fa3) (.slice GA3 ra3 ha3)) := Lib.hid (by rw [← hwD, ← hbd]; exact Bd.new HD.out.2.1)
          have HDC2 : Hid (Bd wD bc c (.int .i64 ka2) (.int .i64 na2) (.int .u64 ua2) (.string sa2) (.slice EA2 qa2 fa2) (.slice GA2 ra2 ha2)) := Lib.hid (by rw [← hwD]; exact HDC.out.below (tr HD.out.2.2 (al0 _ _)))
          obtain ⟨y0, y1, y2, y3, y4, y5⟩ := Bx.all HDD.out.1
          obtain ⟨x0, x1, x2, x3, x4, x5⟩ := Bx.all HDC2.out.1
          have HVC := Lib.hid (HVX.out.self.sub HVX.out.inc HC.out.1)
          have HVD := Lib.hid (HVY.out.self.sub HVY.out.inc HD.out.1)
          have HAL := Lib.hid (alike_yes c d _ _ wD (HT.out.keep HPD.out.1) HVC.out.q0 HVD.out.q0 HDC2.out.2 HDD.out.2 (VS.alk HVC.out HVD.out (at_nf HVX.out.okx HVY.out.okx HNF.out HC.out.1 HD.out.1)))
          go_wp2_with fail
          (try rw [hwD])
          (try simp only [hbd])
          clear hwD hbd HP4 x0 x1 x2 x3 x4 x5 y0 y1 y2 y3 y4 y5
          with_reducible refine HAL.out.mono ?_
          rintro e w35 ⟨rfl, hb35⟩
          have HP5 := Lib.hid (HPD.out.below hb35.out)
          clear HAL HVC HVD HC HD HDC HDC2 HDD HPC HPD hb35
          go_wp2_with fail
          go_roundw
          case rel => exact ⟨j + 1, by simp, by omega, HP5⟩
          case measure => simp [intOf]; omega
        · have hst : ¬ (j < N ∧ j < 130) := hjj
          by_cases hjN : j < N
          · have hj1 : ¬ j < 130 := fun h => hjj ⟨hjN, h⟩
            clear hjj hst
            go_wp2_with fail
            go_ret
            exact ⟨rfl, HP2.out.1⟩
          · clear hjj hst
            go_wp2_with fail
            go_ret
            exact ⟨rfl, HP2.out.1⟩
  · have hno : ¬ alk t1 t2 := fun h => by
      by_cases hx : x = 0
      · exact HX7.out.bad (fun hy => hxy ⟨hx, hy⟩) h.2.1
      · exact HX5.out.bad hx h.1
    have hor : ((x : Int) != 0) = true ∨ (((x : Int) != 0) = false ∧ ((y : Int) != 0) = true) := by
      by_cases hx : x = 0
      · have hy : y ≠ 0 := fun hy => hxy ⟨hx, hy⟩
        exact .inr ⟨by simp [hx], by simp; omega⟩
      · exact .inl (by simp; omega)
    have HNO := Lib.hid hno
    clear hno hxy HX5 HX7 HB5b HB7 H68 H38
    obtain ⟨wE, hwE⟩ : ∃ W, W = w8 := ⟨_, rfl⟩
    subst hwE
    have hall : ∀ W, Hid (Below wE.heap.size wE W) → Hid (Below wE.heap.size wE W) ∧ W.cell? ⟨w.heap.size, 0, none⟩ = some (.int .i64 ka0) ∧ W.cell? ⟨w.heap.size, 1, none⟩ = some (.int .i64 na0) ∧ W.cell? ⟨w.heap.size, 2, none⟩ = some (.int .u64 ua0) ∧ W.cell? ⟨w.heap.size, 3, none⟩ = some (.string sa0) ∧ W.cell? ⟨w.heap.size, 4, none⟩ = some (.slice EA0 qa0 fa0) ∧ W.cell? ⟨w.heap.size, 5, none⟩ = some (.slice GA0 ra0 ha0) ∧ W.cell? ⟨w.heap.size + 1, 0, none⟩ = some (.int .i64 ka1) ∧ W.cell? ⟨w.heap.size + 1, 1, none⟩ = some (.int .i64 na1) ∧ W.cell? ⟨w.heap.size + 1, 2, none⟩ = some (.int .u64 ua1) ∧ W.cell? ⟨w.heap.size + 1, 3, none⟩ = some (.string sa1) ∧ W.cell? ⟨w.heap.size + 1, 4, none⟩ = some (.slice EA1 qa1 fa1) ∧ W.cell? ⟨w.heap.size + 1, 5, none⟩ = some (.slice GA1 ra1 ha1) := fun W H => by
      have h1 := Bx.all (HT8.out.2.2.1.below H.out HT8.out.2.2.1.lt)
      have h2 := Bx.all (HT8.out.2.2.2.below H.out HT8.out.2.2.2.lt)
      exact ⟨H, h1.1, h1.2.1, h1.2.2.1, h1.2.2.2.1, h1.2.2.2.2.1, h1.2.2.2.2.2, h2⟩
    have HFA2 : Hid (∀ W, Hid (Below wE.heap.size wE W) → Calls Tryd.prog 31 #[.agg #[.int .i64 ka0, .int .i64 na0, .int .u64 ua0, .string sa0, .slice EA0 qa0 fa0, .slice GA0 ra0 ha0]] W fun e w' => ∃ (ka2 na2 ua2 : Int) (sa2 : ByteArray) (EA2 : Option Addr) (qa2 fa2 : Nat) (GA2 : Option Addr) (ra2 ha2 : Nat), e = .returned (.agg #[.int .i64 ka2, .int .i64 na2, .int .u64 ua2, .string sa2, .slice EA2 qa2 fa2, .slice GA2 ra2 ha2]) ∧ Hid (Nd w' t1 [.int .i64 ka2, .int .i64 na2, .int .u64 ua2, .string sa2, .slice EA2 qa2 fa2, .slice GA2 ra2 ha2]) ∧ Hid (Below wE.heap.size wE w')) := Lib.hid fun W H => (HFA.out W (tr HT8.out.1 H.out)).mono fun e w' h => by
      obtain ⟨ka2, na2, ua2, sa2, EA2, qa2, fa2, GA2, ra2, ha2, he, h1, h2⟩ := h
      exact ⟨ka2, na2, ua2, sa2, EA2, qa2, fa2, GA2, ra2, ha2, he, h1, Lib.hid (tr H.out h2.out)⟩
    have HFB2 : Hid (∀ (W : World) (ka2 na2 ua2 : Int) (sa2 : ByteArray) (EA2 : Option Addr) (qa2 fa2 : Nat) (GA2 : Option Addr) (ra2 ha2 : Nat), Hid (Below wE.heap.size wE W) → Hid (Nd W t1 [.int .i64 ka2, .int .i64 na2, .int .u64 ua2, .string sa2, .slice EA2 qa2 fa2, .slice GA2 ra2 ha2]) → Calls Tryd.prog 31 #[.agg #[.int .i64 ka1, .int .i64 na1, .int .u64 ua1, .string sa1, .slice EA1 qa1 fa1, .slice GA1 ra1 ha1]] W fun e w' => ∃ (ka3 na3 ua3 : Int) (sa3 : ByteArray) (EA3 : Option Addr) (qa3 fa3 : Nat) (GA3 : Option Addr) (ra3 ha3 : Nat), e = .returned (.agg #[.int .i64 ka3, .int .i64 na3, .int .u64 ua3, .string sa3, .slice EA3 qa3 fa3, .slice GA3 ra3 ha3]) ∧ Hid (Nd w' t2 [.int .i64 ka3, .int .i64 na3, .int .u64 ua3, .string sa3, .slice EA3 qa3 fa3, .slice GA3 ra3 ha3] ∧ Nd w' t1 [.int .i64 ka2, .int .i64 na2, .int .u64 ua2, .string sa2, .slice EA2 qa2 fa2, .slice GA2 ra2 ha2]) ∧ Hid (Below wE.heap.size wE w')) := Lib.hid fun W ka2 na2 ua2 sa2 EA2 qa2 fa2 GA2 ra2 ha2 H H2 => (HFB.out W (tr HT8.out.1 H.out)).mono fun e w' h => by
      obtain ⟨ka3, na3, ua3, sa3, EA3, qa3, fa3, GA3, ra3, ha3, he, h1, h2⟩ := h
      exact ⟨ka3, na3, ua3, sa3, EA3, qa3, fa3, GA3, ra3, ha3, he, Lib.hid ⟨h1.out, H2.out.bel h2.out⟩, Lib.hid (tr H.out h2.out)⟩
    have HAN : Hid (∀ (W : World) (ka2 na2 ua2 : Int) (sa2 : ByteArray) (EA2 : Option Addr) (qa2 fa2 : Nat) (GA2 : Option Addr) (ra2 ha2 : Nat) (ka3 na3 ua3 : Int) (sa3 : ByteArray) (EA3 : Option Addr) (qa3 fa3 : Nat) (GA3 : Option Addr) (ra3 ha3 : Nat), Hid (Below wE.heap.size wE W) → Hid (Nd W t2 [.int .i64 ka3, .int .i64 na3, .int .u64 ua3, .string sa3, .slice EA3 qa3 fa3, .slice GA3 ra3 ha3] ∧ Nd W t1 [.int .i64 ka2, .int .i64 na2, .int .u64 ua2, .string sa2, .slice EA2 qa2 fa2, .slice GA2 ra2 ha2]) → Calls Tryd.prog 35 #[.agg #[.int .i64 ka2, .int .i64 na2, .int .u64 ua2, .string sa2, .slice EA2 qa2 fa2, .slice GA2 ra2 ha2], .agg #[.int .i64 ka3, .int .i64 na3, .int .u64 ua3, .string sa3, .slice EA3 qa3 fa3, .slice GA3 ra3 ha3]] W fun e w' => e = .returned (.bool false) ∧ Hid (Below wE.heap.size wE w')) := Lib.hid fun W ka2 na2 ua2 sa2 EA2 qa2 fa2 GA2 ra2 ha2 ka3 na3 ua3 sa3 EA3 qa3 fa3 GA3 ra3 ha3 H H2 =>
      (alike_no t1 t2 _ _ W (HT.out.keep (tr HT8.out.1 H.out)) HQ1.out HQ2.out H2.out.2 H2.out.1 HNO.out).mono fun e w' h => ⟨h.1, Lib.hid (tr H.out h.2.out)⟩
    have HEd : Hid (Below wE.heap.size wE wE.drew) := Lib.hid (Below.refl _ wE).drew
    rcases hor with hx | ⟨hx, hy⟩
    all_goals
      go_wp2_with fail
      (try rw [hw8])
      go_region_held3 (fun W => Hid (Below wE.heap.size wE W) ∧ W.cell? ⟨w.heap.size, 0, none⟩ = some (.int .i64 ka0) ∧ W.cell? ⟨w.heap.size, 1, none⟩ = some (.int .i64 na0) ∧ W.cell? ⟨w.heap.size, 2, none⟩ = some (.int .u64 ua0) ∧ W.cell? ⟨w.heap.size, 3, none⟩ = some (.string sa0) ∧ W.cell? ⟨w.heap.size, 4, none⟩ = some (.slice EA0 qa0 fa0) ∧ W.cell? ⟨w.heap.size, 5, none⟩ = some (.slice GA0 ra0 ha0) ∧ W.cell? ⟨w.heap.size + 1, 0, none⟩ = some (.int .i64 ka1) ∧ W.cell? ⟨w.heap.size + 1, 1, none⟩ = some (.int .i64 na1) ∧ W.cell? ⟨w.heap.size + 1, 2, none⟩ = some (.int .u64 ua1) ∧ W.cell? ⟨w.heap.size + 1, 3, none⟩ = some (.string sa1) ∧ W.cell? ⟨w.heap.size + 1, 4, none⟩ = some (.slice EA1 qa1 fa1) ∧ W.cell? ⟨w.heap.size + 1, 5, none⟩ = some (.slice GA1 ra1 ha1)) (first | (with_reducible exact hall _ (by assumption)) | (with_reducible exact hall _ HEd))
        (first
          | (go_at_call 31; (with_reducible refine (HFA2.out _ HEd).mono ?_); rintro e w21 ⟨ka2, na2, ua2, sa2, EA2, qa2, fa2, GA2, ra2, ha2, rfl, HN2, HW21⟩)
          | (go_at_call 31; (with_reducible refine (HFB2.out _ _ _ _ _ _ _ _ _ _ _ HW21 HN2).mono ?_); rintro e w22 ⟨ka3, na3, ua3, sa3, EA3, qa3, fa3, GA3, ra3, ha3, rfl, HN3, HW22⟩)
          | (go_at_call 35; (with_reducible refine (HAN.out _ _ _ _ _ _ _ _ _ _ _ _ _ _ _ _ _ _ _ _ _ HW22 HN3).mono ?_); rintro e w23 ⟨rfl, HW23⟩))
      go_wp2_with fail
      go_ret
      exact ⟨rfl, tr HT8.out.1 HW23.out⟩
end Go.Proofs.YtpcfpikflkjmjaaDoor
