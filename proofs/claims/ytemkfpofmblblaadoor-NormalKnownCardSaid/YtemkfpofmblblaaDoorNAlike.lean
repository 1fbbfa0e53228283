/-
  What is proved here: contract of normal.Alike: whether two trees are valid and their sorted trees have the same normal form; conditions: the table of package tree holds what is laid; at most 100000 nodes, strings and lists of at most 1000.
-/
import Derived.Test.YtemkfpofmblblaaDoorNOf
import Derived.Test.YtemkfpofmblblaaDoorSame
namespace Go.Proofs.YtemkfpofmblblaaDoor
open Go.RowKit Go.Sort

/-- Both trees are valid, and their sorted trees have the same normal form. -/
def alk (a b : T) : Prop := chk a = 0 ∧ chk b = 0 ∧ ∃ a' b', Srt a a' ∧ Srt b b' ∧ nfT a' = nfT b'
theorem alk_iff {a b a' b' : T} (ha : chk a = 0) (hb : chk b = 0) (h1 : Srt a a') (h2 : Srt b b') : nfT a' = nfT b' ↔ alk a b := by
  constructor
  · exact fun h => ⟨ha, hb, a', b', h1, h2, h⟩
  · rintro ⟨_, _, x, y, h3, h4, h⟩
    rw [Srt.unique h1 h3, Srt.unique h2 h4]
    exact h
theorem nf_qqs {t t' : T} (hq : QQ t) (hc : chk t = 0) (hs : Srt t t') : QQ (nfT t') := by
  have ho := ((chk_zero t).1 hc).1
  have hp := Srt.pm (okT_mpT ho) hs
  exact nf_qq (hp.ok ho) (hp.qq hq)

set_option maxRecDepth 100000 in
set_option maxHeartbeats 4000000 in
theorem alike_any (a b : T) (ca cb : List Value) (w : World) (hT : Tab w) (hqa : QQ a) (hqb : QQ b) (ha : Nd w a ca) (hb : Nd w b cb) :
    Calls Tryd.prog 7 #[.agg ca.toArray, .agg cb.toArray] w fun e w' => (∃ β, e = .returned (.bool β) ∧ (β = true ↔ alk a b)) ∧ Below w.heap.size w w' := by
  obtain ⟨ka0, na0, ua0, sa0, EA0, qa0, fa0, GA0, ra0, ha0, rfl⟩ := ha.shape
  obtain ⟨ka1, na1, ua1, sa1, EA1, qa1, fa1, GA1, ra1, ha1, rfl⟩ := hb.shape
  have HT := Lib.hid hT
  have HA := Lib.hid ha
  have HB := Lib.hid hb
  have HQA := Lib.hid hqa
  have HQB := Lib.hid hqb
  have HT0 := Lib.hid (Two.start w (.int .i64 ka0) (.int .i64 na0) (.int .u64 ua0) (.string sa0) (.slice EA0 qa0 fa0) (.slice GA0 ra0 ha0) (.int .i64 ka1) (.int .i64 na1) (.int .u64 ua1) (.string sa1) (.slice EA1 qa1 fa1) (.slice GA1 ra1 ha1))
  obtain ⟨c0, c1, c2, c3, c4, c5⟩ := HT0.out.2.2.1.all
  have HOA := Lib.hid (of_any a _ _ (HT.out.keep HT0.out.1) hqa (ha.bel HT0.out.1))
  clear hT ha hb hqa hqb
  go_enter Tryd.func7, Tryd.ntmps7
  go_wp2_with fail
  refine HOA.out.mono ?_
  rintro e w2 ⟨hb2, hor⟩
  have hD : ∃ (x : Nat) (ka2 na2 ua2 : Int) (sa2 : ByteArray) (EA2 : Option Addr) (qa2 fa2 : Nat) (GA2 : Option Addr) (ra2 ha2 : Nat), e = .returned (.tuple #[.agg #[.int .i64 ka2, .int .i64 na2, .int .u64 ua2, .string sa2, .slice EA2 qa2 fa2, .slice GA2 ra2 ha2], .int .i64 (x : Int)]) ∧ ((x ≠ 0 ∧ chk a = x) ∨ (x = 0 ∧ chk a = 0 ∧ ∃ t', Srt a t' ∧ Nd w2 (nfT t') [.int .i64 ka2, .int .i64 na2, .int .u64 ua2, .string sa2, .slice EA2 qa2 fa2, .slice GA2 ra2 ha2])) := by
    rcases hor with ⟨h0, rfl⟩ | ⟨h0, cs', t', rfl, hs, hn⟩
    · exact ⟨chk a, 0, 0, 0, ⟨#[]⟩, none, 0, 0, none, 0, 0, rfl, .inl ⟨h0, rfl⟩⟩
    · obtain ⟨ka2, na2, ua2, sa2, EA2, qa2, fa2, GA2, ra2, ha2, rfl⟩ := hn.shape6
      exact ⟨0, ka2, na2, ua2, sa2, EA2, qa2, fa2, GA2, ra2, ha2, rfl, .inr ⟨rfl, h0, t', hs, NdO.nd _ _ hn⟩⟩
  obtain ⟨x, ka2, na2, ua2, sa2, EA2, qa2, fa2, GA2, ra2, ha2, rfl, hx⟩ := hD
  have HX := Lib.hid hx
  have HB2 := Lib.hid hb2
  clear hor hx hb2 c0 c1 c2 c3 c4 c5 HOA
  obtain ⟨wB, hwB⟩ : ∃ wB, w2.alloc (.cells #[.int .i64 ka2, .int .i64 na2, .int .u64 ua2, .string sa2, .slice EA2 qa2 fa2, .slice GA2 ra2 ha2] 27) = wB := ⟨_, rfl⟩
  obtain ⟨bx, hbx⟩ : ∃ bx, w2.heap.size = bx := ⟨_, rfl⟩
  have H2B : Hid (Below w2.heap.size w2 wB) := Lib.hid (by rw [← hwB]; exact al0 _ _)
  have HBX : Hid (Bx wB bx (.int .i64 ka2) (.int .i64 na2) (.int .u64 ua2) (.string sa2) (.slice EA2 qa2 fa2) (.slice GA2 ra2 ha2)) := Lib.hid (by rw [← hwB, ← hbx]; exact Blk.new _ _ _)
  have HWB : Hid (Below w.heap.size w wB) := Lib.hid (tr HT0.out.1 (tr HB2.out H2B.out))
  have HOB := Lib.hid (of_any b _ _ (HT.out.keep HWB.out) HQB.out (HB.out.bel HWB.out))
  obtain ⟨c0, c1, c2, c3, c4, c5⟩ := Bx.all (HT0.out.2.2.2.below (tr HB2.out H2B.out) HT0.out.2.2.2.lt)
  go_wp2_with fail
  (try rw [hwB])
  (try simp only [hbx])
  refine HOB.out.mono ?_
  clear hwB hbx c0 c1 c2 c3 c4 c5
  rintro e w3 ⟨hb3, hor⟩
  have hD : ∃ (y : Nat) (ka3 na3 ua3 : Int) (sa3 : ByteArray) (EA3 : Option Addr) (qa3 fa3 : Nat) (GA3 : Option Addr) (ra3 ha3 : Nat), e = .returned (.tuple #[.agg #[.int .i64 ka3, .int .i64 na3, .int .u64 ua3, .string sa3, .slice EA3 qa3 fa3, .slice GA3 ra3 ha3], .int .i64 (y : Int)]) ∧ ((y ≠ 0 ∧ chk b = y) ∨ (y = 0 ∧ chk b = 0 ∧ ∃ t', Srt b t' ∧ Nd w3 (nfT t') [.int .i64 ka3, .int .i64 na3, .int .u64 ua3, .string sa3, .slice EA3 qa3 fa3, .slice GA3 ra3 ha3])) := by
    rcases hor with ⟨h0, rfl⟩ | ⟨h0, cs', t', rfl, hs, hn⟩
    · exact ⟨chk b, 0, 0, 0, ⟨#[]⟩, none, 0, 0, none, 0, 0, rfl, .inl ⟨h0, rfl⟩⟩
    · obtain ⟨ka3, na3, ua3, sa3, EA3, qa3, fa3, GA3, ra3, ha3, rfl⟩ := hn.shape6
      exact ⟨0, ka3, na3, ua3, sa3, EA3, qa3, fa3, GA3, ra3, ha3, rfl, .inr ⟨rfl, h0, t', hs, NdO.nd _ _ hn⟩⟩
  obtain ⟨y, ka3, na3, ua3, sa3, EA3, qa3, fa3, GA3, ra3, ha3, rfl, hy⟩ := hD
  have HY := Lib.hid hy
  have HB3 := Lib.hid (tr hb3 (al0 w3 (.cells #[.int .i64 ka3, .int .i64 na3, .int .u64 ua3, .string sa3, .slice EA3 qa3 fa3, .slice GA3 ra3 ha3] 27)))
  have HWE := Lib.hid (tr HWB.out HB3.out)
  have HB3' := Lib.hid hb3
  clear hor hy hb3 HOB
  by_cases hx0 : x = 0
  · by_cases hy0 : y = 0
    · subst hx0 hy0
      obtain ⟨h1, t1, hs1, hn1⟩ : chk a = 0 ∧ ∃ t', Srt a t' ∧ Nd w2 (nfT t') [.int .i64 ka2, .int .i64 na2, .int .u64 ua2, .string sa2, .slice EA2 qa2 fa2, .slice GA2 ra2 ha2] := by
        rcases HX.out with ⟨h, _⟩ | ⟨_, h⟩
        · exact absurd rfl h
        · exact h
      obtain ⟨h2, t2, hs2, hn2⟩ : chk b = 0 ∧ ∃ t', Srt b t' ∧ Nd w3 (nfT t') [.int .i64 ka3, .int .i64 na3, .int .u64 ua3, .string sa3, .slice EA3 qa3 fa3, .slice GA3 ra3 ha3] := by
        rcases HY.out with ⟨h, _⟩ | ⟨_, h⟩
        · exact absurd rfl h
        · exact h
      have HI := Lib.hid (alk_iff h1 h2 hs1 hs2)
      have HSM := Lib.hid (same_any (dp (nfT t1)) (nfT t1) (nfT t2) _ _ (w3.alloc (.cells #[.int .i64 ka3, .int .i64 na3, .int .u64 ua3, .string sa3, .slice EA3 qa3 fa3, .slice GA3 ra3 ha3] 27)) (Nat.le_refl _) (nf_qqs HQA.out h1 hs1).1 ((hn1.bel H2B.out).bel HB3.out) (hn2.bel (al0 _ _)))
      obtain ⟨x0, x1, x2, x3, x4, x5⟩ := Bx.all (HBX.out.below HB3.out HBX.out.lt)
      clear h1 h2 hs1 hs2 hn1 hn2
      go_wp2_with (go_at_call 15; refine HSM.out.mono ?_; rintro e w4 ⟨⟨β, rfl, hβ⟩, hb4⟩; have HBT := Lib.hid hβ; have HB4 := Lib.hid hb4; clear hβ hb4)
      go_ret
      exact ⟨⟨β, rfl, HBT.out.trans HI.out⟩, tr HWE.out HB4.out⟩
    · have hd : ((y : Int) == 0) = false := by simp; omega
      subst hx0
      have hn : ¬ alk a b := fun h => by
        rcases HY.out with ⟨h1, h2⟩ | ⟨h1, _⟩
        · exact h1 (h2.symm.trans h.2.1)
        · exact hy0 h1
      have HN := Lib.hid hn
      clear hn hy0
      go_wp2_with fail
      go_ret
      exact ⟨⟨false, rfl, by simp [HN.out]⟩, HWE.out⟩
  · have hd : ((x : Int) == 0) = false := by simp; omega
    have hn : ¬ alk a b := fun h => by
      rcases HX.out with ⟨h1, h2⟩ | ⟨h1, _⟩
      · exact h1 (h2.symm.trans h.1)
      · exact hx0 h1
    have HN := Lib.hid hn
    clear hn hx0
    go_wp2_with fail
    go_ret
    exact ⟨⟨false, rfl, by simp [HN.out]⟩, HWE.out⟩
end Go.Proofs.YtemkfpofmblblaaDoor
