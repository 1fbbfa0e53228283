/-
  What is proved here: contract of the reference's Alike; conditions: trees of at most 60000 nodes, strings and lists of at most 1000.
-/
import Derived.Test.YtpcfpikflkjmjaaDoorNAlike
import Derived.Test.YtpcfpikflkjmjaaDoorRofs
namespace Go.Proofs.YtpcfpikflkjmjaaDoor
open Go.RowKit Go.Sort

mutual
theorem srt_ex : ∀ {t : T}, okT t → ∃ t', Srt t t'
  | .mk k n u s ks l, ho => by
    obtain ⟨l', h⟩ := srtL_ex ho.2
    by_cases hk : k = 17
    · obtain ⟨q, hq⟩ := sq_exists (l := ks) ((keysE_zero ks []).1 (ownE_zero.1 ho.1).2.2).1 ks.length (Nat.le_refl _)
      exact ⟨_, l', h, .inr ⟨hk, q, hq, rfl⟩⟩
    · exact ⟨_, l', h, .inl ⟨hk, rfl⟩⟩
theorem srtL_ex : ∀ {l : List T}, okL l → ∃ l', SrtL l l'
  | [], _ => ⟨[], rfl⟩
  | t :: ts, ho => by
    obtain ⟨t', h1⟩ := srt_ex ho.1
    obtain ⟨ts', h2⟩ := srtL_ex ho.2
    exact ⟨t' :: ts', t', ts', rfl, h1, h2⟩
end
theorem refOf_any (t : T) (cs : List Value) (w : World) (hsz : sz t ≤ 60000) (hsm : sm 1000 1000 t) (hnd : Nd w t cs) :
    Calls Tryd.prog 33 #[.agg cs.toArray] w fun e w' => Below w.heap.size w w' ∧ ((chk t ≠ 0 ∧ e = .returned (.tuple #[.agg #[.int .i64 0, .int .i64 0, .int .u64 0, .string ⟨#[]⟩, .slice none 0 0, .slice none 0 0], .int .i64 ((chk t : Nat) : Int)])) ∨
      (chk t = 0 ∧ ∃ cs' t', e = .returned (.tuple #[.agg cs'.toArray, .int .i64 0]) ∧ Srt t t' ∧ Nd w' (nfT t') cs')) := by
  by_cases hc : chk t = 0
  · obtain ⟨t', hs⟩ := srt_ex ((chk_zero t).1 hc).1
    refine (refOf_ok t t' cs w hsz hsm hc hs hnd).mono ?_
    rintro e w' ⟨ka9, na9, ua9, sa9, EA9, qa9, fa9, GA9, ra9, ha9, rfl, h1, h2⟩
    exact ⟨h2.out, .inr ⟨hc, [.int .i64 ka9, .int .i64 na9, .int .u64 ua9, .string sa9, .slice EA9 qa9 fa9, .slice GA9 ra9 ha9], t', rfl, hs, h1.out⟩⟩
  · refine (refOf_err t (chk t) cs w (by omega) rfl hc hnd).mono ?_
    rintro e w' ⟨rfl, h2⟩
    exact ⟨h2.out, .inl ⟨hc, rfl⟩⟩

set_option maxRecDepth 100000 in
set_option maxHeartbeats 4000000 in
theorem refAlike_any (a b : T) (ca cb : List Value) (w : World) (hqa : QQ a ∧ sz a ≤ 60000) (hqb : QQ b ∧ sz b ≤ 60000) (ha : Nd w a ca) (hb : Nd w b cb) :
    Calls Tryd.prog 36 #[.agg ca.toArray, .agg cb.toArray] w fun e w' => (∃ β, e = .returned (.bool β) ∧ (β = true ↔ alk a b)) ∧ Below w.heap.size w w' := by
  obtain ⟨ka0, na0, ua0, sa0, EA0, qa0, fa0, GA0, ra0, ha0, rfl⟩ := ha.shape
  obtain ⟨ka1, na1, ua1, sa1, EA1, qa1, fa1, GA1, ra1, ha1, rfl⟩ := hb.shape
  have HA := Lib.hid ha
  have HB := Lib.hid hb
  have HQA := Lib.hid hqa
  have HQB := Lib.hid hqb
  have HT0 := Lib.hid (Two.start w (.int .i64 ka0) (.int .i64 na0) (.int .u64 ua0) (.string sa0) (.slice EA0 qa0 fa0) (.slice GA0 ra0 ha0) (.int .i64 ka1) (.int .i64 na1) (.int .u64 ua1) (.string sa1) (.slice EA1 qa1 fa1) (.slice GA1 ra1 ha1))
  obtain ⟨c0, c1, c2, c3, c4, c5⟩ := HT0.out.2.2.1.all
  have HOA := Lib.hid (refOf_any a _ _ hqa.2 hqa.1.2 (ha.bel HT0.out.1))
  clear ha hb hqa hqb
  go_enter Tryd.func36, Tryd.ntmps36
  go_wp2_with fail
  refine HOA.out.mono ?_
  rintro e w2 ⟨hb2, hor⟩
  have hD : ∃ (x : Nat) (ka2 na2 ua2 : Int) (sa2 : ByteArray) (EA2 : Option Addr) (qa2 fa2 : Nat) (GA2 : Option Addr) (ra2 ha2 : Nat), e = .returned (.tuple #[.agg #[.int .i64 ka2, .int .i64 na2, .int .u64 ua2, .string sa2, .slice EA2 qa2 fa2, .slice GA2 ra2 ha2], .int .i64 (x : Int)]) ∧ ((x ≠ 0 ∧ chk a = x) ∨ (x = 0 ∧ chk a = 0 ∧ ∃ t', Srt a t' ∧ Nd w2 (nfT t') [.int .i64 ka2, .int .i64 na2, .int .u64 ua2, .string sa2, .slice EA2 qa2 fa2, .slice GA2 ra2 ha2])) := by
    rcases hor with ⟨h0, rfl⟩ | ⟨h0, cs', t', rfl, hs, hn⟩
    · exact ⟨chk a, 0, 0, 0, ⟨#[]⟩, none, 0, 0, none, 0, 0, rfl, .inl ⟨h0, rfl⟩⟩
    · obtain ⟨ka2, na2, ua2, sa2, EA2, qa2, fa2, GA2, ra2, ha2, rfl⟩ := hn.shape
      exact ⟨0, ka2, na2, ua2, sa2, EA2, qa2, fa2, GA2, ra2, ha2, rfl, .inr ⟨rfl, h0, t', hs, hn⟩⟩
  obtain ⟨x, ka2, na2, ua2, sa2, EA2, qa2, fa2, GA2, ra2, ha2, rfl, hx⟩ := hD
  have HX := Lib.hid hx
  have HB2 := Lib.hid hb2
  clear hor hx hb2 c0 c1 c2 c3 c4 c5 HOA
  obtain ⟨wB, hwB⟩ : ∃ wB, w2.alloc (.cells #[.int .i64 ka2, .int .i64 na2, .int .u64 ua2, .string sa2, .slice EA2 qa2 fa2, .slice GA2 ra2 ha2] 26) = wB := ⟨_, rfl⟩
  obtain ⟨bx, hbx⟩ : ∃ bx, w2.heap.size = bx := ⟨_, rfl⟩
  have H2B : Hid (Below w2.heap.size w2 wB) := Lib.hid (by rw [← hwB]; exact al0 _ _)
  have HBX : Hid (Bx wB bx (.int .i64 ka2) (.int .i64 na2) (.int .u64 ua2) (.string sa2) (.slice EA2 qa2 fa2) (.slice GA2 ra2 ha2)) := Lib.hid (by rw [← hwB, ← hbx]; exact Blk.new _ _ _)
  have HWB : Hid (Below w.heap.size w wB) := Lib.hid (tr HT0.out.1 (tr HB2.out H2B.out))
  have HOB := Lib.hid (refOf_any b _ _ HQB.out.2 HQB.out.1.2 (HB.out.bel HWB.out))
  obtain ⟨c0, c1, c2, c3, c4, c5⟩ := Bx.all (HT0.out.2.2.2.below (tr HB2.out H2B.out) HT0.out.2.2.2.lt)
  go_wp2_with fail
  (try rw [hwB])
  (try simp only [hbx])
  refine HOB.out.mono ?_
  clear hwB hbx c0 c1 c2 c3 c4 c5
  rintro e w3 ⟨hb3, hor⟩
  have hD : ∃ (y : Nat) (ka3 na3 ua3 : Int) (sa3 : ByteArray) (EA3 : Option Addr) (qa3 fa3 : Nat) (GA3 : Option Addr) (ra3 ha3 : Nat), e = .returned (.tuple #[.agg #[.int .i64 ka3, .int .i64 na3, .int .u64 ua3, .string sa3, .slice EA3 qa3 fa3, .slice GA3 ra3 ha3], .int .i64 (y : Int)]) ∧ ((y ≠ 0 ∧ chk b = y) ∨ (y = 0 ∧ chk b = 0 ∧ ∃ t', Srt b t' ∧ Nd w3 (nfT t') [.int .i64 ka3, .int .i64 na3, .int .u64 ua3, .string sa3, .slice EA3 qa3 fa3, .slice GA3 ra3 ha3])) := by
    rcases hor with ⟨h0, rfl⟩ | ⟨h0, cs', t', rfl, hs, hn⟩
    · exact ⟨chk b, 0, 0, 0, ⟨#[]⟩, none, 0, 0, none, 0, 0, rfl, .inl ⟨h0, rfl⟩⟩
    · obtain ⟨ka3, na3, ua3, sa3, EA3, qa3, fa3, GA3, ra3, ha3, rfl⟩ := hn.shape
      exact ⟨0, ka3, na3, ua3, sa3, EA3, qa3, fa3, GA3, ra3, ha3, rfl, .inr ⟨rfl, h0, t', hs, hn⟩⟩
  obtain ⟨y, ka3, na3, ua3, sa3, EA3, qa3, fa3, GA3, ra3, ha3, rfl, hy⟩ := hD
  have HY := Lib.hid hy
  have HB3 := Lib.hid (tr hb3 (al0 w3 (.cells #[.int .i64 ka3, .int .i64 na3, .int .u64 ua3, .string sa3, .slice EA3 qa3 fa3, .slice GA3 ra3 ha3] 26)))
  have HWE := Lib.hid (tr HWB.out HB3.out)
  have HB3' := Lib.hid hb3
  clear hor hy hb3 HOB
  by_cases hx0 : x = 0
  · by_cases hy0 : y = 0
    · subst hx0 hy0
      obtain ⟨h1, t1, hs1, hn1⟩ : chk a = 0 ∧ ∃ t', Srt a t' ∧ Nd w2 (nfT t') [.int .i64 ka2, .int .i64 na2, .int .u64 ua2, .string sa2, .slice EA2 qa2 fa2, .slice GA2 ra2 ha2] := by
        rcases HX.out with ⟨h, _⟩ | ⟨_, h⟩
        · exact absurd rfl h
        · exact h
      obtain ⟨h2, t2, hs2, hn2⟩ : chk b = 0 ∧ ∃ t', Srt b t' ∧ Nd w3 (nfT t') [.int .i64 ka3, .int .i64 na3, .int .u64 ua3, .string sa3, .slice EA3 qa3 fa3, .slice GA3 ra3 ha3] := by
        rcases HY.out with ⟨h, _⟩ | ⟨_, h⟩
        · exact absurd rfl h
        · exact h
      have HI := Lib.hid (alk_iff h1 h2 hs1 hs2)
      have HSM := Lib.hid (eqNode_any (dp (nfT t1)) (nfT t1) (nfT t2) _ _ (w3.alloc (.cells #[.int .i64 ka3, .int .i64 na3, .int .u64 ua3, .string sa3, .slice EA3 qa3 fa3, .slice GA3 ra3 ha3] 26)) (Nat.le_refl _) (nf_qqs HQA.out.1 h1 hs1).1 (nf_qqs HQA.out.1 h1 hs1).2 ((hn1.bel H2B.out).bel HB3.out) (hn2.bel (al0 _ _)))
      obtain ⟨x0, x1, x2, x3, x4, x5⟩ := Bx.all (HBX.out.below HB3.out HBX.out.lt)
      clear h1 h2 hs1 hs2 hn1 hn2
      go_wp2_with (go_at_call 16; refine HSM.out.mono ?_; rintro e w4 ⟨⟨β, rfl, hβ⟩, hb4⟩; have HBT := Lib.hid hβ; have HB4 := Lib.hid hb4; clear hβ hb4)
      go_ret
      exact ⟨⟨β, rfl, HBT.out.trans HI.out⟩, tr HWE.out HB4.out⟩
    · have hd : ((y : Int) == 0) = false := by simp; omega
      subst hx0
      have hn : ¬ alk a b := fun h => by
        rcases HY.out with ⟨h1, h2⟩ | ⟨h1, _⟩
        · exact h1 (h2.symm.trans h.2.1)
        · exact hy0 h1
      have HN := Lib.hid hn
      clear hn hy0
      go_wp2_with fail
      go_ret
      exact ⟨⟨false, rfl, by simp [HN.out]⟩, HWE.out⟩
  · have hd : ((x : Int) == 0) = false := by simp; omega
    have hn : ¬ alk a b := fun h => by
      rcases HX.out with ⟨h1, h2⟩ | ⟨h1, _⟩
      · exact h1 (h2.symm.trans h.1)
      · exact hx0 h1
    have HN := Lib.hid hn
    clear hn hx0
    go_wp2_with fail
    go_ret
    exact ⟨⟨false, rfl, by simp [HN.out]⟩, HWE.out⟩
end Go.Proofs.YtpcfpikflkjmjaaDoor
