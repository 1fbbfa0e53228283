/-
  What is proved here: the chapter's examples come out right: the law's own works returns true; condition: the table of package tree holds what is laid; and: contract of the law's own few; what holds of a valid tree, its sorted tree and its normal form together; no condition but those that each fact states.
-/
import Derived.Test.YtemkfpofmblblaaDoorNAlike
import Derived.Test.YtemkfpofmblblaaDoorExB
import Derived.Test.YtemkfpofmblblaaDoorCutR
import Derived.Deep.RegionHeld3
import Derived.Test.YtemkfpofmblblaaDoorLaw
namespace Go.Proofs.YtemkfpofmblblaaDoor
open Go.RowKit Go.Sort

theorem num9_any (n : Int) (w : World) : Calls Tryd.prog 5 #[.int .i64 n] w fun e w' => e = .returned (.agg #[.int .i64 3, .int .i64 n, .int .u64 0, .string ⟨#[]⟩, .slice none 0 0, .slice none 0 0]) ∧ Hid (Below w.heap.size w w') := by
  go_enter Tryd.func5, Tryd.ntmps5
  go_wp2
  exact ret_six (p := 2) (g := w.heap.size) rfl rfl (Blk.new _ _ _) rfl ⟨rfl, Lib.hid ((Below.refl _ w).alloc (Nat.le_refl _) _)⟩
theorem uns9_any (n : Int) (w : World) : Calls Tryd.prog 4 #[.int .u64 n] w fun e w' => e = .returned (.agg #[.int .i64 4, .int .i64 0, .int .u64 n, .string ⟨#[]⟩, .slice none 0 0, .slice none 0 0]) ∧ Hid (Below w.heap.size w w') := by
  go_enter Tryd.func4, Tryd.ntmps4
  go_wp2
  exact ret_six (p := 2) (g := w.heap.size) rfl rfl (Blk.new _ _ _) rfl ⟨rfl, Lib.hid ((Below.refl _ w).alloc (Nat.le_refl _) _)⟩
theorem text9_any (s : ByteArray) (w : World) : Calls Tryd.prog 19 #[.string s] w fun e w' => e = .returned (.agg #[.int .i64 6, .int .i64 0, .int .u64 0, .string s, .slice none 0 0, .slice none 0 0]) ∧ Hid (Below w.heap.size w w') := by
  go_enter Tryd.func19, Tryd.ntmps19
  go_wp2
  exact ret_six (p := 2) (g := w.heap.size) rfl rfl (Blk.new _ _ _) rfl ⟨rfl, Lib.hid ((Below.refl _ w).alloc (Nat.le_refl _) _)⟩
theorem list9_any (k : Int) (A : Option Addr) (m c : Nat) (w : World) : Calls Tryd.prog 9 #[.int .i64 k, .slice A m c] w fun e w' => e = .returned (.agg #[.int .i64 k, .int .i64 0, .int .u64 0, .string ⟨#[]⟩, .slice none 0 0, .slice A m c]) ∧ Hid (Below w.heap.size w w') := by
  go_enter Tryd.func9, Tryd.ntmps9
  go_wp2
  exact ret_six (p := 4) (g := w.heap.size) rfl rfl (Blk.new _ _ _) rfl ⟨rfl, Lib.hid ((Below.refl _ w).alloc (Nat.le_refl _) _)⟩

theorem alike_yes (a b : T) (ca cb : List Value) (w : World) (hT : Tab w) (hqa : QQ a) (hqb : QQ b) (ha : Nd w a ca) (hb : Nd w b cb) (h : alk a b) : Calls Tryd.prog 7 #[.agg ca.toArray, .agg cb.toArray] w fun e w' => e = .returned (.bool true) ∧ Hid (Below w.heap.size w w') := by
  refine (alike_any a b ca cb w hT hqa hqb ha hb).mono ?_
  rintro e w' ⟨⟨β, rfl, hβ⟩, hb⟩
  rw [hβ.2 h]
  exact ⟨rfl, Lib.hid hb⟩
theorem alike_no (a b : T) (ca cb : List Value) (w : World) (hT : Tab w) (hqa : QQ a) (hqb : QQ b) (ha : Nd w a ca) (hb : Nd w b cb) (h : ¬ alk a b) : Calls Tryd.prog 7 #[.agg ca.toArray, .agg cb.toArray] w fun e w' => e = .returned (.bool false) ∧ Hid (Below w.heap.size w w') := by
  refine (alike_any a b ca cb w hT hqa hqb ha hb).mono ?_
  rintro e w' ⟨⟨β, rfl, hβ⟩, hb⟩
  have : β = false := by
    cases β
    · rfl
    · exact absurd (hβ.1 rfl) h
  rw [this]
  exact ⟨rfl, Lib.hid hb⟩
theorem of_okO (t : T) (cs : List Value) (w : World) (hT : Tab w) (hq : QQ t) (hc : chk t = 0) (hnd : Nd w t cs) :
    Calls Tryd.prog 14 #[.agg cs.toArray] w fun e w' => ∃ (t' : T) (kaz naz uaz : Int) (saz : ByteArray) (EAz : Option Addr) (qaz faz : Nat) (GAz : Option Addr) (raz haz : Nat), e = .returned (.tuple #[.agg #[.int .i64 kaz, .int .i64 naz, .int .u64 uaz, .string saz, .slice EAz qaz faz, .slice GAz raz haz], .int .i64 0]) ∧ Hid (Srt t t') ∧ Hid (NdO (fun b => w.heap.size ≤ b) w' (nfT t') [.int .i64 kaz, .int .i64 naz, .int .u64 uaz, .string saz, .slice EAz qaz faz, .slice GAz raz haz]) ∧ Hid (Below w.heap.size w w') := by
  refine (of_any t cs w hT hq hnd).mono ?_
  rintro e w' ⟨hb, ⟨h, _⟩ | ⟨_, cs', t2, rfl, h2, h3⟩⟩
  · exact absurd hc h
  · obtain ⟨kaz, naz, uaz, saz, EAz, qaz, faz, GAz, raz, haz, rfl⟩ := h3.shape6
    exact ⟨t2, kaz, naz, uaz, saz, EAz, qaz, faz, GAz, raz, haz, rfl, Lib.hid h2, Lib.hid h3, Lib.hid hb⟩
theorem of_is (t t' : T) (cs : List Value) (w : World) (hT : Tab w) (hq : QQ t) (hc : chk t = 0) (hs : Srt t t') (hnd : Nd w t cs) :
    Calls Tryd.prog 14 #[.agg cs.toArray] w fun e w' => ∃ (kaz naz uaz : Int) (saz : ByteArray) (EAz : Option Addr) (qaz faz : Nat) (GAz : Option Addr) (raz haz : Nat), e = .returned (.tuple #[.agg #[.int .i64 kaz, .int .i64 naz, .int .u64 uaz, .string saz, .slice EAz qaz faz, .slice GAz raz haz], .int .i64 0]) ∧ Hid (NdO (fun b => w.heap.size ≤ b) w' (nfT t') [.int .i64 kaz, .int .i64 naz, .int .u64 uaz, .string saz, .slice EAz qaz faz, .slice GAz raz haz]) ∧ Hid (Below w.heap.size w w') := by
  refine (of_okO t cs w hT hq hc hnd).mono ?_
  rintro e w' ⟨t2, kaz, naz, uaz, saz, EAz, qaz, faz, GAz, raz, haz, rfl, h1, h2, h3⟩
  obtain rfl := Srt.unique hs h1.out
  exact ⟨kaz, naz, uaz, saz, EAz, qaz, faz, GAz, raz, haz, rfl, h2, h3⟩
theorem of_errL (t : T) (n : Nat) (cs : List Value) (w : World) (hT : Tab w) (hq : QQ t) (hc : chk t = n) (h0 : n ≠ 0) (hnd : Nd w t cs) :
    Calls Tryd.prog 14 #[.agg cs.toArray] w fun e w' => e = .returned (.tuple #[.agg #[.int .i64 0, .int .i64 0, .int .u64 0, .string ⟨#[]⟩, .slice none 0 0, .slice none 0 0], .int .i64 (n : Int)]) ∧ Hid (Below w.heap.size w w') := by
  refine (of_any t cs w hT hq hnd).mono ?_
  rintro e w' ⟨hb, ⟨_, h⟩ | ⟨h, _⟩⟩
  · exact ⟨by rw [h, hc], Lib.hid hb⟩
  · exact absurd (hc.symm.trans h) h0
theorem eqs_true (t : T) (ca cb : List Value) (w : World) (hq : QQ t) (ha : Nd w t ca) (hb : Nd w t cb) : Calls Tryd.prog 13 #[.agg ca.toArray, .agg cb.toArray] w fun e w' => e = .returned (.bool true) ∧ Hid (Below w.heap.size w w') := by
  refine (eqNode_any (dp t) t t ca cb w (Nat.le_refl _) hq.1 hq.2 ha hb).mono ?_
  rintro e w' ⟨⟨β, rfl, hβ⟩, hb⟩
  rw [hβ.2 rfl]
  exact ⟨rfl, Lib.hid hb⟩
set_option maxRecDepth 100000 in
set_option maxHeartbeats 1000000 in
theorem is_yes (t t' : T) (cs ds : List Value) (w : World) (hT : Tab w) (hq : QQ t) (hc : chk t = 0) (hs : Srt t t') (hnd : Nd w t cs) (hw : Nd w (nfT t') ds) :
    Calls Tryd.prog 18 #[.agg cs.toArray, .agg ds.toArray] w fun e w' => e = .returned (.bool true) ∧ Hid (Below w.heap.size w w') := by
  obtain ⟨ka0, na0, ua0, sa0, EA0, qa0, fa0, GA0, ra0, ha0, rfl⟩ := hnd.shape
  obtain ⟨ka1, na1, ua1, sa1, EA1, qa1, fa1, GA1, ra1, ha1, rfl⟩ := hw.shape
  have HT0 := Lib.hid (Two.start w (.int .i64 ka0) (.int .i64 na0) (.int .u64 ua0) (.string sa0) (.slice EA0 qa0 fa0) (.slice GA0 ra0 ha0) (.int .i64 ka1) (.int .i64 na1) (.int .u64 ua1) (.string sa1) (.slice EA1 qa1 fa1) (.slice GA1 ra1 ha1))
  obtain ⟨c0, c1, c2, c3, c4, c5⟩ := HT0.out.2.2.1.all
  have HOA := Lib.hid (of_is t t' _ _ (hT.keep HT0.out.1) hq hc hs (hnd.bel HT0.out.1))
  have HW := Lib.hid (hw.bel HT0.out.1)
  have HQN := Lib.hid (nf_qqs hq hc hs)
  obtain ⟨x, hx⟩ : ∃ x, nfT t' = x := ⟨_, rfl⟩
  rw [hx] at HOA HW HQN
  clear hT hnd hw hq hc hs hx
  go_enter Tryd.func18, Tryd.ntmps18
  go_wp2_with fail
  with_reducible refine HOA.out.mono ?_
  rintro e w2 ⟨ka2, na2, ua2, sa2, EA2, qa2, fa2, GA2, ra2, ha2, rfl, HN2, HB2⟩
  have HBB := Lib.hid (tr HB2.out (al0 w2 (.cells #[.int .i64 ka2, .int .i64 na2, .int .u64 ua2, .string sa2, .slice EA2 qa2 fa2, .slice GA2 ra2 ha2] 27)))
  have HX2 := Lib.hid (HN2.out.nd.bel (al0 w2 (.cells #[.int .i64 ka2, .int .i64 na2, .int .u64 ua2, .string sa2, .slice EA2 qa2 fa2, .slice GA2 ra2 ha2] 27)))
  have HXW := Lib.hid (HW.out.bel HBB.out)
  obtain ⟨y0, y1, y2, y3, y4, y5⟩ := Bx.all (HT0.out.2.2.2.below HBB.out HT0.out.2.2.2.lt)
  have HE := Lib.hid (eqs_true x _ _ _ HQN.out HX2.out HXW.out)
  clear c0 c1 c2 c3 c4 c5 HOA
  go_wp2_with fail
  refine HE.out.mono ?_
  rintro e w4 ⟨rfl, HB4⟩
  go_wp2_with fail
  go_ret
  exact ⟨rfl, Lib.hid (tr HT0.out.1 (tr HBB.out HB4.out))⟩

/-! The examples. -/
def unT (u : Int) : T := .mk 4 0 u eS [] []
def txT (s : ByteArray) : T := .mk 6 0 0 s [] []
theorem srt_leaf {k n u : Int} {s : ByteArray} (h : k ≠ 17) : Srt (.mk k n u s [] []) (.mk k n u s [] []) := ⟨[], rfl, .inl ⟨h, rfl⟩⟩
theorem srt_two {k n u : Int} {s : ByteArray} {a b : T} (h : k ≠ 17) (ha : Srt a a) (hb : Srt b b) : Srt (.mk k n u s [] [a, b]) (.mk k n u s [] [a, b]) := ⟨[a, b], ⟨a, [b], rfl, ha, b, [], rfl, hb, rfl⟩, .inl ⟨h, rfl⟩⟩
theorem srt_one {k n u : Int} {s : ByteArray} {a : T} (h : k ≠ 17) (ha : Srt a a) : Srt (.mk k n u s [] [a]) (.mk k n u s [] [a]) := ⟨[a], ⟨a, [], rfl, ha, rfl⟩, .inl ⟨h, rfl⟩⟩
def exF : T := .mk 15 0 0 eS [] [numT 1, numT 2]
def exM : T := .mk 17 0 0 eS [⟨#[98]⟩, ⟨#[97]⟩] [unT 1, keyT ⟨#[120]⟩]
def exN : T := .mk 17 0 0 eS [⟨#[97]⟩, ⟨#[98]⟩] [keyT ⟨#[120]⟩, unT 1]
def exV : T := .mk 10 0 0 eS [] [unT 1]
def exI : T := .mk 11 0 0 eS [] [numT 1]
theorem qq_leaf (k n u : Int) (s : ByteArray) (h : s.size ≤ 1000) : QQ (.mk k n u s [] []) := ⟨by simp [sz, szL], h, by simp, by simp, trivial⟩
theorem qq_exF : QQ exF := ⟨by decide, by decide, by decide, by simp, ⟨by decide, by decide, by simp, trivial⟩, ⟨by decide, by decide, by simp, trivial⟩, trivial⟩
theorem qq_exM : QQ exM := ⟨by decide, by decide, by decide, by intro x hx; simp at hx; rcases hx with rfl | rfl <;> decide, ⟨by decide, by decide, by simp, trivial⟩, ⟨by decide, by decide, by simp, trivial⟩, trivial⟩
theorem qq_exV : QQ exV := ⟨by decide, by decide, by decide, by simp, ⟨by decide, by decide, by simp, trivial⟩, trivial⟩
theorem qq_exI : QQ exI := ⟨by decide, by decide, by decide, by simp, ⟨by decide, by decide, by simp, trivial⟩, trivial⟩
theorem chk_u5 : chk (unT 5) = 0 := by decide +kernel
theorem chk_uM : chk (unT 9223372036854775808) = 0 := by decide +kernel
theorem chk_ka : chk (keyT ⟨#[97]⟩) = 0 := by decide +kernel
theorem chk_exF : chk exF = 0 := by decide +kernel
theorem chk_exM : chk exM = 0 := by decide +kernel
theorem chk_exV : chk exV = 0 := by decide +kernel
theorem chk_exI : chk exI = 0 := by decide +kernel
theorem chk_n1 : chk (numT 1) = 0 := by decide +kernel
theorem chk_t1 : chk (txT ⟨#[49]⟩) = 0 := by decide +kernel
theorem chk_T0 : chk T0 = 60 := by decide +kernel
theorem lt_eq9 (a b : ByteArray) : lt a b = Op.bytesLess a.data.toList b.data.toList := by unfold lt; rw [ByteArray.toList_eq, ByteArray.toList_eq]
theorem sq_ba : SQ [⟨#[98]⟩, ⟨#[97]⟩] [1, 0] 2 := ⟨by decide, by simp only [lt_eq9]; decide +kernel⟩
theorem srt_exM : Srt exM exN := ⟨[unT 1, keyT ⟨#[120]⟩], ⟨unT 1, [keyT ⟨#[120]⟩], rfl, srt_leaf (by decide), keyT ⟨#[120]⟩, [], rfl, srt_leaf (by decide), rfl⟩, .inr ⟨rfl, [1, 0], sq_ba, rfl⟩⟩
theorem nf_u5 : nfT (unT 5) = numT 5 := by unfold unT; rw [nf_uint (.inl rfl), if_pos (by decide)]; rfl
theorem nf_u1 : nfT (unT 1) = numT 1 := by unfold unT; rw [nf_uint (.inl rfl), if_pos (by decide)]; rfl
theorem nf_uM : nfT (unT 9223372036854775808) = unT 9223372036854775808 := by unfold unT; rw [nf_uint (.inl rfl), if_neg (by decide)]
theorem nf_n (n : Int) : nfT (numT n) = numT n := by unfold numT; rw [nf_else (by omega) (by omega) (by omega) (by omega)]; rfl
theorem nf_k (s : ByteArray) : nfT (keyT s) = txT s := by unfold keyT; rw [nf_key]; rfl
theorem nf_t (s : ByteArray) : nfT (txT s) = txT s := by unfold txT; rw [nf_else (by omega) (by omega) (by omega) (by omega)]; rfl
theorem nf_exF : nfT exF = .mk 10 0 0 eS [] [numT 1, numT 2] := by
  unfold exF; rw [nf_vec (by omega)]
  show T.mk 10 0 0 eS [] [nfT (numT 1), nfT (numT 2)] = _
  rw [nf_n, nf_n]
theorem nf_exN : nfT exN = .mk 17 0 0 eS [⟨#[97]⟩, ⟨#[98]⟩] [txT ⟨#[120]⟩, numT 1] := by
  unfold exN; rw [nf_else (by omega) (by omega) (by omega) (by omega)]
  show T.mk 17 0 0 eS [⟨#[97]⟩, ⟨#[98]⟩] [nfT (keyT ⟨#[120]⟩), nfT (unT 1)] = _
  rw [nf_k, nf_u1]
theorem nf_exV : nfT exV = .mk 10 0 0 eS [] [numT 1] := by
  unfold exV; rw [nf_else (by omega) (by omega) (by omega) (by omega)]
  show T.mk 10 0 0 eS [] [nfT (unT 1)] = _
  rw [nf_u1]
theorem nf_exI : nfT exI = .mk 10 0 0 eS [] [numT 1] := by
  unfold exI; rw [nf_vec (by omega)]
  show T.mk 10 0 0 eS [] [nfT (numT 1)] = _
  rw [nf_n]
theorem alk_VI : alk exV exI := ⟨chk_exV, chk_exI, exV, exI, srt_one (by decide) (srt_leaf (by decide)), srt_one (by decide) (srt_leaf (by decide)), by rw [nf_exV, nf_exI]⟩
theorem alk_nt : ¬ alk (numT 1) (txT ⟨#[49]⟩) := by
  rw [← alk_iff chk_n1 chk_t1 (srt_leaf (by decide)) (srt_leaf (by decide))]
  show ¬ nfT (numT 1) = nfT (txT ⟨#[49]⟩)
  rw [nf_n, nf_t]
  intro h
  have := congrArg T.k h
  exact absurd this (by decide)
theorem alk_00 : ¬ alk T0 T0 := fun h => by have := chk_T0.symm.trans h.1; omega
theorem nd_unT (w : World) (u : Int) (h0 : 0 ≤ u) (h : u ≤ 18446744073709551615) : Nd w (unT u) [.int .i64 4, .int .i64 0, .int .u64 u, .string ⟨#[]⟩, .slice none 0 0, .slice none 0 0] := nd_leaf w 4 0 u _ ⟨by omega, by omega, by omega, by omega, h0, h⟩ (by decide)
theorem nd_txT (w : World) (s : ByteArray) (h : s.size ≤ maxLen) : Nd w (txT s) [.int .i64 6, .int .i64 0, .int .u64 0, .string s, .slice none 0 0, .slice none 0 0] := nd_leaf w 6 0 0 s ⟨by omega, by omega, by omega, by omega, by omega, by omega⟩ h
theorem nd_two {w : World} {k : Int} {g : Nat} {a b : T} {a0 a1 a2 a3 a4 a5 b0 b1 b2 b3 b4 b5 : Value} (hk : 0 ≤ k ∧ k ≤ 20) (hB : Blk w g 27 #[a0, a1, a2, a3, a4, a5, b0, b1, b2, b3, b4, b5]) (h1 : Nd w a [a0, a1, a2, a3, a4, a5]) (h2 : Nd w b [b0, b1, b2, b3, b4, b5]) :
    Nd w (.mk k 0 0 eS [] [a, b]) [.int .i64 k, .int .i64 0, .int .u64 0, .string ⟨#[]⟩, .slice none 0 0, .slice (some ⟨g, 0, none⟩) 2 2] :=
  nd_row ⟨by omega, by omega, by omega, by omega, by omega, by omega⟩ (by decide) (rds_nil w) rfl (Nat.le_refl _) (by decide) hB.lt (two_row hB h1 h2)
theorem nd_one {w : World} {k : Int} {g : Nat} {a : T} {a0 a1 a2 a3 a4 a5 : Value} (hk : 0 ≤ k ∧ k ≤ 20) (hB : Blk w g 27 #[a0, a1, a2, a3, a4, a5]) (h1 : Nd w a [a0, a1, a2, a3, a4, a5]) :
    Nd w (.mk k 0 0 eS [] [a]) [.int .i64 k, .int .i64 0, .int .u64 0, .string ⟨#[]⟩, .slice none 0 0, .slice (some ⟨g, 0, none⟩) 1 1] :=
  nd_row ⟨by omega, by omega, by omega, by omega, by omega, by omega⟩ (by decide) (rds_nil w) rfl (Nat.le_refl _) (by decide) hB.lt (one_row hB h1)
theorem nd_map2 {w : World} {g1 g2 : Nat} {x y : ByteArray} {a b : T} {a0 a1 a2 a3 a4 a5 b0 b1 b2 b3 b4 b5 : Value} (hS : Blk w g1 9 #[.string x, .string y]) (hx : x.size ≤ maxLen) (hy : y.size ≤ maxLen) (hB : Blk w g2 27 #[a0, a1, a2, a3, a4, a5, b0, b1, b2, b3, b4, b5]) (h1 : Nd w a [a0, a1, a2, a3, a4, a5]) (h2 : Nd w b [b0, b1, b2, b3, b4, b5]) :
    Nd w (.mk 17 0 0 eS [x, y] [a, b]) [.int .i64 17, .int .i64 0, .int .u64 0, .string ⟨#[]⟩, .slice (some ⟨g1, 0, none⟩) 2 2, .slice (some ⟨g2, 0, none⟩) 2 2] :=
  nd_row ⟨by omega, by omega, by omega, by omega, by omega, by omega⟩ (by decide) (rds_two hS hx hy) rfl (Nat.le_refl _) (by decide) hB.lt (two_row hB h1 h2)
theorem blk_n2 (w : World) (o : Obj) (t : TypeId) (cs : Array Value) : Blk ((w.alloc o).alloc (.cells cs t)) (w.heap.size + 1) t cs := by
  have := Blk.new (w.alloc o) t cs
  rwa [World.size_alloc] at this
theorem blk_o2 (w : World) (o : Obj) (t : TypeId) (cs : Array Value) : Blk ((w.alloc (.cells cs t)).alloc o) w.heap.size t cs := (Blk.new w t cs).alloc o
theorem born_dr {w w' : World} {cs : Array Value} {t : TypeId} (hb : Below ((w.alloc (.cells cs t)).drew).heap.size ((w.alloc (.cells cs t)).drew) w') : Blk w' w.heap.size t cs := (hb.block _ (by simp)).trans (heap_alloc_new w _)
set_option maxRecDepth 100000 in
set_option maxHeartbeats 4000000 in
theorem works9_true (w : World) (hT : Tab w) : Calls Tryd.prog 10 #[] w fun e w' => e = .returned (.bool true) ∧ Below w.heap.size w w' := by
  have HT := Lib.hid hT
  clear hT
  go_enter Tryd.func10, Tryd.ntmps10
  go_wp2_with fail
  with_reducible refine (uns9_any 5 _).mono ?_
  rintro e w1 ⟨rfl, B1⟩
  go_wp2_with fail
  with_reducible refine (num9_any 5 _).mono ?_
  rintro e w2 ⟨rfl, b2⟩
  have B2 := Lib.hid (tr B1.out b2.out)
  clear B1 b2
  have H1 := Lib.hid (is_yes (unT 5) (unT 5) _ _ w2 (HT.out.keep B2.out) (qq_leaf 4 0 5 eS (by decide)) chk_u5 (srt_leaf (by decide)) (nd_unT w2 5 (by decide) (by decide)) (by rw [nf_u5]; exact nd_num w2 5 (by decide) (by decide)))
  go_wp2_with fail
  with_reducible refine H1.out.mono ?_
  rintro e w3 ⟨rfl, b3⟩
  have B3 := Lib.hid (tr B2.out b3.out)
  clear B2 b3 H1
  go_wp2_with fail
  with_reducible refine (uns9_any 9223372036854775808 _).mono ?_
  rintro e w4 ⟨rfl, b4⟩
  have B4 := Lib.hid (tr B3.out b4.out)
  go_wp2_with fail
  with_reducible refine (uns9_any 9223372036854775808 _).mono ?_
  rintro e w5 ⟨rfl, b5⟩
  have B5 := Lib.hid (tr B4.out b5.out)
  clear B3 B4 b4 b5
  have H1 := Lib.hid (is_yes (unT 9223372036854775808) (unT 9223372036854775808) _ _ w5 (HT.out.keep B5.out) (qq_leaf 4 0 _ eS (by decide)) chk_uM (srt_leaf (by decide)) (nd_unT w5 _ (by decide) (by decide)) (by rw [nf_uM]; exact nd_unT w5 _ (by decide) (by decide)))
  go_wp2_with fail
  with_reducible refine H1.out.mono ?_
  rintro e w6 ⟨rfl, b6⟩
  have B6 := Lib.hid (tr B5.out b6.out)
  clear B5 b6 H1
  go_wp2_with fail
  with_reducible refine (text9_any ⟨#[97]⟩ _).mono ?_
  rintro e w7 ⟨rfl, b7⟩
  have B7 := Lib.hid (tr B6.out b7.out)
  clear B6 b7
  have H1 := Lib.hid (is_yes (keyT ⟨#[97]⟩) (keyT ⟨#[97]⟩) _ _ w7 (HT.out.keep B7.out) (qq_leaf 5 0 0 _ (by decide)) chk_ka (srt_leaf (by decide)) (nd_key w7 ⟨#[97]⟩ (by decide)) (by rw [nf_k]; exact nd_txT w7 _ (by decide)))
  go_wp2_with fail
  with_reducible refine H1.out.mono ?_
  rintro e w8 ⟨rfl, b8⟩
  have B8 := Lib.hid (tr B7.out b8.out)
  clear B7 b8 H1
  go_wp2_with fail
  with_reducible refine (num9_any 1 _).mono ?_
  rintro e w9 ⟨rfl, b9⟩
  have B9 := Lib.hid (tr B8.out b9.out)
  go_wp2_with fail
  with_reducible refine (num9_any 2 _).mono ?_
  rintro e w10 ⟨rfl, b10⟩
  have B10 := Lib.hid (tr B9.out b10.out)
  clear B8 B9 b9 b10
  go_wp2_with fail
  with_reducible refine (list9_any 15 _ _ _ _).mono ?_
  rintro e w11 ⟨rfl, b11⟩
  have B11 := Lib.hid (tr B10.out (al b11.out))
  have R11 := Lib.hid (born b11.out)
  clear B10 b11
  go_wp2_with fail
  with_reducible refine (num9_any 1 _).mono ?_
  rintro e w12 ⟨rfl, b12⟩
  have B12 := Lib.hid (tr B11.out b12.out)
  have R12 := Lib.hid (Blk.below R11.out b12.out R11.out.lt)
  clear B11 b12 R11
  go_wp2_with fail
  with_reducible refine (num9_any 2 _).mono ?_
  rintro e w13 ⟨rfl, b13⟩
  have B13 := Lib.hid (tr B12.out b13.out)
  have R13 := Lib.hid (Blk.below R12.out b13.out R12.out.lt)
  clear B12 b13 R12
  go_wp2_with fail
  with_reducible refine (list9_any 10 _ _ _ _).mono ?_
  rintro e w14 ⟨rfl, b14⟩
  have B14 := Lib.hid (tr B13.out (al b14.out))
  have R14 := Lib.hid (Blk.below R13.out (al b14.out) R13.out.lt)
  have S14 := Lib.hid (born b14.out)
  clear B13 b14 R13
  have H1 := Lib.hid (is_yes exF exF _ _ w14 (HT.out.keep B14.out) qq_exF chk_exF (srt_two (by decide) (srt_leaf (by decide)) (srt_leaf (by decide))) (nd_two (by decide) R14.out (nd_num w14 1 (by decide) (by decide)) (nd_num w14 2 (by decide) (by decide))) (by rw [nf_exF]; exact nd_two (by decide) S14.out (nd_num w14 1 (by decide) (by decide)) (nd_num w14 2 (by decide) (by decide))))
  go_wp2_with fail
  with_reducible refine H1.out.mono ?_
  rintro e w15 ⟨rfl, b15⟩
  have B15 := Lib.hid (tr B14.out b15.out)
  clear B14 b15 H1 R14 S14
  go_wp2_with fail
  with_reducible refine (uns9_any 1 _).mono ?_
  rintro e w16 ⟨rfl, b16⟩
  have B16 := Lib.hid (tr B15.out (al b16.out))
  have R16 := Lib.hid (born b16.out)
  clear B15 b16
  go_wp2_with fail
  obtain ⟨W17, hW17⟩ : ∃ W, ((w16.alloc (.cells #[.int .i64 4, .int .i64 0, .int .u64 1, .string ⟨#[]⟩, .slice none 0 0, .slice none 0 0, .int .i64 5, .int .i64 0, .int .u64 0, .string ⟨#[120]⟩, .slice none 0 0, .slice none 0 0] 27)).alloc (.cells #[.int .i64 17, .int .i64 0, .int .u64 0, .string ⟨#[]⟩, .slice (some ⟨w15.heap.size, 0, none⟩) 2 2, .slice (some ⟨w16.heap.size, 0, none⟩) 2 2] 27)) = W := ⟨_, rfl⟩
  obtain ⟨g1, hg1⟩ : ∃ g, w15.heap.size = g := ⟨_, rfl⟩
  obtain ⟨g2, hg2⟩ : ∃ g, w16.heap.size = g := ⟨_, rfl⟩
  obtain ⟨bx, hbx⟩ : ∃ g, g2 + 1 = g := ⟨_, rfl⟩
  have HM17 : Hid (Below w.heap.size w W17 ∧ Bx W17 bx (.int .i64 17) (.int .i64 0) (.int .u64 0) (.string ⟨#[]⟩) (.slice (some ⟨g1, 0, none⟩) 2 2) (.slice (some ⟨g2, 0, none⟩) 2 2) ∧ Nd W17 exM [.int .i64 17, .int .i64 0, .int .u64 0, .string ⟨#[]⟩, .slice (some ⟨g1, 0, none⟩) 2 2, .slice (some ⟨g2, 0, none⟩) 2 2]) := Lib.hid (by
    have hrow : Blk W17 g2 27 #[.int .i64 4, .int .i64 0, .int .u64 1, .string ⟨#[]⟩, .slice none 0 0, .slice none 0 0, .int .i64 5, .int .i64 0, .int .u64 0, .string ⟨#[120]⟩, .slice none 0 0, .slice none 0 0] := by rw [← hW17, ← hg2]; exact (Blk.new _ _ _).alloc _
    have hstr : Blk W17 g1 9 #[.string ⟨#[98]⟩, .string ⟨#[97]⟩] := by rw [← hW17, ← hg1]; exact (R16.out.alloc _).alloc _
    refine ⟨by rw [← hW17]; exact tr B16.out (tr (al0 _ _) (al0 _ _)), ?_, nd_map2 hstr (by decide) (by decide) hrow (nd_unT _ 1 (by decide) (by decide)) (nd_key _ _ (by decide))⟩
    rw [← hW17, ← hbx, ← hg1, ← hg2]
    exact blk_n2 _ _ _ _)
  have H1 := Lib.hid (of_errL T0 60 [.int .i64 0, .int .i64 0, .int .u64 0, .string ⟨#[]⟩, .slice none 0 0, .slice none 0 0] W17 (HT.out.keep HM17.out.1) (qq_leaf 0 0 0 eS (by decide)) chk_T0 (by decide) (nd_leaf W17 0 0 0 eS ⟨by omega, by omega, by omega, by omega, by omega, by omega⟩ (by decide)))
  simp only [hg1, hg2] at hW17 ⊢
  simp only [hbx]
  (try rw [hW17])
  clear hg1 hg2 hbx hW17 B16 R16
  with_reducible refine H1.out.mono ?_
  rintro e w18 ⟨rfl, b18⟩
  go_wp2_with fail
  obtain ⟨wB, hwB⟩ : ∃ W, w18.alloc (.cells #[.int .i64 0, .int .i64 0, .int .u64 0, .string ⟨#[]⟩, .slice none 0 0, .slice none 0 0] 27) = W := ⟨_, rfl⟩
  have HM : Hid (Below w.heap.size w wB ∧ Bx wB bx (.int .i64 17) (.int .i64 0) (.int .u64 0) (.string ⟨#[]⟩) (.slice (some ⟨g1, 0, none⟩) 2 2) (.slice (some ⟨g2, 0, none⟩) 2 2) ∧ Nd wB exM [.int .i64 17, .int .i64 0, .int .u64 0, .string ⟨#[]⟩, .slice (some ⟨g1, 0, none⟩) 2 2, .slice (some ⟨g2, 0, none⟩) 2 2]) := Lib.hid (by
    have hb : Below W17.heap.size W17 wB := by rw [← hwB]; exact tr b18.out (al0 _ _)
    exact ⟨tr HM17.out.1 hb, HM17.out.2.1.below hb HM17.out.2.1.lt, HM17.out.2.2.bel hb⟩)
  (try rw [hwB])
  clear hwB HM17 b18 H1
  have hall : ∀ W, Hid (Below wB.heap.size wB W) → Hid (Below wB.heap.size wB W) ∧ W.cell? ⟨bx, 0, none⟩ = some (.int .i64 17) ∧ W.cell? ⟨bx, 1, none⟩ = some (.int .i64 0) ∧ W.cell? ⟨bx, 2, none⟩ = some (.int .u64 0) ∧ W.cell? ⟨bx, 3, none⟩ = some (.string ⟨#[]⟩) ∧ W.cell? ⟨bx, 4, none⟩ = some (.slice (some ⟨g1, 0, none⟩) 2 2) ∧ W.cell? ⟨bx, 5, none⟩ = some (.slice (some ⟨g2, 0, none⟩) 2 2) := fun W H => ⟨H, Bx.all (HM.out.2.1.below H.out HM.out.2.1.lt)⟩
  have hc5 : ∀ (W : World) (ob : Obj), Hid (Below wB.heap.size wB W) → Hid (Below wB.heap.size wB (W.alloc ob)) ∧ (W.alloc ob).cell? ⟨bx, 0, none⟩ = some (.int .i64 17) ∧ (W.alloc ob).cell? ⟨bx, 1, none⟩ = some (.int .i64 0) ∧ (W.alloc ob).cell? ⟨bx, 2, none⟩ = some (.int .u64 0) ∧ (W.alloc ob).cell? ⟨bx, 3, none⟩ = some (.string ⟨#[]⟩) ∧ (W.alloc ob).cell? ⟨bx, 4, none⟩ = some (.slice (some ⟨g1, 0, none⟩) 2 2) ∧ (W.alloc ob).cell? ⟨bx, 5, none⟩ = some (.slice (some ⟨g2, 0, none⟩) 2 2) := fun W ob H => hall _ (Lib.hid (tr H.out (al0 W ob)))
  have hc6 : ∀ (W : World) (ob ob2 : Obj), Hid (Below wB.heap.size wB W) → Hid (Below wB.heap.size wB ((W.alloc ob).alloc ob2)) ∧ ((W.alloc ob).alloc ob2).cell? ⟨bx, 0, none⟩ = some (.int .i64 17) ∧ ((W.alloc ob).alloc ob2).cell? ⟨bx, 1, none⟩ = some (.int .i64 0) ∧ ((W.alloc ob).alloc ob2).cell? ⟨bx, 2, none⟩ = some (.int .u64 0) ∧ ((W.alloc ob).alloc ob2).cell? ⟨bx, 3, none⟩ = some (.string ⟨#[]⟩) ∧ ((W.alloc ob).alloc ob2).cell? ⟨bx, 4, none⟩ = some (.slice (some ⟨g1, 0, none⟩) 2 2) ∧ ((W.alloc ob).alloc ob2).cell? ⟨bx, 5, none⟩ = some (.slice (some ⟨g2, 0, none⟩) 2 2) := fun W ob ob2 H => hall _ (Lib.hid (tr (tr H.out (al0 W ob)) (al0 _ ob2)))
  have HBd : Hid (Below wB.heap.size wB wB.drew) := Lib.hid (Below.refl _ wB).drew
  have HBad : Hid (Below wB.heap.size wB (wB.alloc (.cells #[.string ⟨#[97]⟩, .string ⟨#[98]⟩] 9)).drew) := Lib.hid (al0 wB _).drew
  have HTX : Hid (∀ W, Calls Tryd.prog 19 #[.string ⟨#[120]⟩] W fun e w' => e = .returned (.agg #[.int .i64 6, .int .i64 0, .int .u64 0, .string ⟨#[120]⟩, .slice none 0 0, .slice none 0 0]) ∧ Hid (Below W.heap.size W w')) := Lib.hid fun W => text9_any _ W
  have HT1 : Hid (∀ W, Calls Tryd.prog 19 #[.string ⟨#[49]⟩] W fun e w' => e = .returned (.agg #[.int .i64 6, .int .i64 0, .int .u64 0, .string ⟨#[49]⟩, .slice none 0 0, .slice none 0 0]) ∧ Hid (Below W.heap.size W w')) := Lib.hid fun W => text9_any _ W
  have HN1 : Hid (∀ W, Calls Tryd.prog 5 #[.int .i64 1] W fun e w' => e = .returned (.agg #[.int .i64 3, .int .i64 1, .int .u64 0, .string ⟨#[]⟩, .slice none 0 0, .slice none 0 0]) ∧ Hid (Below W.heap.size W w')) := Lib.hid fun W => num9_any _ W
  have HN2 := HN1
  have HN3 := HN1
  have HU : Hid (∀ W, Calls Tryd.prog 4 #[.int .u64 1] W fun e w' => e = .returned (.agg #[.int .i64 4, .int .i64 0, .int .u64 1, .string ⟨#[]⟩, .slice none 0 0, .slice none 0 0]) ∧ Hid (Below W.heap.size W w')) := Lib.hid fun W => uns9_any _ W
  have HL10 : Hid (∀ (W : World) (g : Nat), Calls Tryd.prog 9 #[.int .i64 10, .slice (some ⟨g, 0, none⟩) 1 1] W fun e w' => e = .returned (.agg #[.int .i64 10, .int .i64 0, .int .u64 0, .string ⟨#[]⟩, .slice none 0 0, .slice (some ⟨g, 0, none⟩) 1 1]) ∧ Hid (Below W.heap.size W w')) := Lib.hid fun W g => list9_any 10 _ _ _ W
  have HL11 : Hid (∀ (W : World) (g : Nat), Calls Tryd.prog 9 #[.int .i64 11, .slice (some ⟨g, 0, none⟩) 1 1] W fun e w' => e = .returned (.agg #[.int .i64 11, .int .i64 0, .int .u64 0, .string ⟨#[]⟩, .slice none 0 0, .slice (some ⟨g, 0, none⟩) 1 1]) ∧ Hid (Below W.heap.size W w')) := Lib.hid fun W g => list9_any 11 _ _ _ W
  have HIS : Hid (∀ (W : World) (h1 h2 : Nat), Hid (Below wB.heap.size wB W) → Hid (Blk W h1 9 #[.string ⟨#[97]⟩, .string ⟨#[98]⟩]) → Hid (Blk W h2 27 #[.int .i64 6, .int .i64 0, .int .u64 0, .string ⟨#[120]⟩, .slice none 0 0, .slice none 0 0, .int .i64 3, .int .i64 1, .int .u64 0, .string ⟨#[]⟩, .slice none 0 0, .slice none 0 0]) → Calls Tryd.prog 18 #[.agg #[.int .i64 17, .int .i64 0, .int .u64 0, .string ⟨#[]⟩, .slice (some ⟨g1, 0, none⟩) 2 2, .slice (some ⟨g2, 0, none⟩) 2 2], .agg #[.int .i64 17, .int .i64 0, .int .u64 0, .string ⟨#[]⟩, .slice (some ⟨h1, 0, none⟩) 2 2, .slice (some ⟨h2, 0, none⟩) 2 2]] W fun e w' => e = .returned (.bool true) ∧ Hid (Below wB.heap.size wB w')) := Lib.hid fun W h1 h2 H H1 H2 =>
    (is_yes exM exN _ _ W (HT.out.keep (tr HM.out.1 H.out)) qq_exM chk_exM srt_exM (HM.out.2.2.bel H.out) (by rw [nf_exN]; exact nd_map2 H1.out (by decide) (by decide) H2.out (nd_txT W _ (by decide)) (nd_num W 1 (by decide) (by decide)))).mono fun e w' h => ⟨h.1, Lib.hid (tr H.out h.2.out)⟩
  have HAL : Hid (∀ (W : World) (h1 h2 : Nat), Hid (Below wB.heap.size wB W) → Hid (Blk W h1 27 #[.int .i64 4, .int .i64 0, .int .u64 1, .string ⟨#[]⟩, .slice none 0 0, .slice none 0 0]) → Hid (Blk W h2 27 #[.int .i64 3, .int .i64 1, .int .u64 0, .string ⟨#[]⟩, .slice none 0 0, .slice none 0 0]) → Calls Tryd.prog 7 #[.agg #[.int .i64 10, .int .i64 0, .int .u64 0, .string ⟨#[]⟩, .slice none 0 0, .slice (some ⟨h1, 0, none⟩) 1 1], .agg #[.int .i64 11, .int .i64 0, .int .u64 0, .string ⟨#[]⟩, .slice none 0 0, .slice (some ⟨h2, 0, none⟩) 1 1]] W fun e w' => e = .returned (.bool true) ∧ Hid (Below wB.heap.size wB w')) := Lib.hid fun W h1 h2 H H1 H2 =>
    (alike_yes exV exI _ _ W (HT.out.keep (tr HM.out.1 H.out)) qq_exV qq_exI (nd_one (by decide) H1.out (nd_unT W 1 (by decide) (by decide))) (nd_one (by decide) H2.out (nd_num W 1 (by decide) (by decide))) alk_VI).mono fun e w' h => ⟨h.1, Lib.hid (tr H.out h.2.out)⟩
  have HNT : Hid (∀ W, Hid (Below wB.heap.size wB W) → Calls Tryd.prog 7 #[.agg #[.int .i64 3, .int .i64 1, .int .u64 0, .string ⟨#[]⟩, .slice none 0 0, .slice none 0 0], .agg #[.int .i64 6, .int .i64 0, .int .u64 0, .string ⟨#[49]⟩, .slice none 0 0, .slice none 0 0]] W fun e w' => e = .returned (.bool false) ∧ Hid (Below wB.heap.size wB w')) := Lib.hid fun W H =>
    (alike_no (numT 1) (txT ⟨#[49]⟩) _ _ W (HT.out.keep (tr HM.out.1 H.out)) (qq_leaf 3 1 0 eS (by decide)) (qq_leaf 6 0 0 _ (by decide)) (nd_num W 1 (by decide) (by decide)) (nd_txT W _ (by decide)) alk_nt).mono fun e w' h => ⟨h.1, Lib.hid (tr H.out h.2.out)⟩
  have H00 : Hid (∀ W, Hid (Below wB.heap.size wB W) → Calls Tryd.prog 7 #[.agg #[.int .i64 0, .int .i64 0, .int .u64 0, .string ⟨#[]⟩, .slice none 0 0, .slice none 0 0], .agg #[.int .i64 0, .int .i64 0, .int .u64 0, .string ⟨#[]⟩, .slice none 0 0, .slice none 0 0]] W fun e w' => e = .returned (.bool false) ∧ Hid (Below wB.heap.size wB w')) := Lib.hid fun W H =>
    (alike_no T0 T0 _ _ W (HT.out.keep (tr HM.out.1 H.out)) (qq_leaf 0 0 0 eS (by decide)) (qq_leaf 0 0 0 eS (by decide)) (nd_leaf W 0 0 0 eS ⟨by omega, by omega, by omega, by omega, by omega, by omega⟩ (by decide)) (nd_leaf W 0 0 0 eS ⟨by omega, by omega, by omega, by omega, by omega, by omega⟩ (by decide)) alk_00).mono fun e w' h => ⟨h.1, Lib.hid (tr H.out h.2.out)⟩
  go_region_held3 (fun W => Hid (Below wB.heap.size wB W) ∧ W.cell? ⟨bx, 0, none⟩ = some (.int .i64 17) ∧ W.cell? ⟨bx, 1, none⟩ = some (.int .i64 0) ∧ W.cell? ⟨bx, 2, none⟩ = some (.int .u64 0) ∧ W.cell? ⟨bx, 3, none⟩ = some (.string ⟨#[]⟩) ∧ W.cell? ⟨bx, 4, none⟩ = some (.slice (some ⟨g1, 0, none⟩) 2 2) ∧ W.cell? ⟨bx, 5, none⟩ = some (.slice (some ⟨g2, 0, none⟩) 2 2)) (first | (with_reducible exact hall _ (by assumption)) | (with_reducible exact hall _ HBd) | (with_reducible exact hall _ HBad) | (with_reducible exact hc5 _ _ (by assumption)) | (with_reducible exact hc6 _ _ _ (by assumption)))
    (first
      | (go_at_call 19; (with_reducible refine (HTX.out _).mono ?_); rintro e w21 ⟨rfl, b21⟩; have HB21 : Hid (Below wB.heap.size wB w21) := (by first | (with_reducible exact Lib.hid (tr HBd.out b21.out)) | (with_reducible exact Lib.hid (tr HBad.out b21.out))); (try (with_reducible have S21 := Lib.hid (born_dr b21.out))))
      | (go_at_call 5; (with_reducible refine (HN1.out _).mono ?_); clear HN1; rintro e w22 ⟨rfl, b22⟩; have HB22 : Hid (Below wB.heap.size wB w22) := (by first | (with_reducible exact Lib.hid (tr HB21.out b22.out)) | (with_reducible exact Lib.hid (tr HB21.out (al b22.out))) | (with_reducible exact Lib.hid (tr HB21.out (al (al b22.out))))); (first | (have S22 := Lib.hid (Blk.below S21.out b22.out S21.out.lt)) | (with_reducible have S22 := Lib.hid (born b22.out)) | skip))
      | (go_at_call 18; (with_reducible refine (HIS.out _ _ _ (by first | (with_reducible exact Lib.hid (tr HB22.out (al0 _ _))) | (with_reducible exact Lib.hid (tr (tr HB22.out (al0 _ _)) (al0 _ _)))) (by first | (with_reducible exact Lib.hid (S22.out.alloc _)) | (with_reducible exact Lib.hid (blk_o2 _ _ _ _)) | (with_reducible exact Lib.hid (blk_n2 _ _ _ _))) (by first | (with_reducible exact Lib.hid (Blk.new _ _ _)) | (with_reducible exact Lib.hid (blk_n2 _ _ _ _)) | (with_reducible exact Lib.hid (blk_o2 _ _ _ _)))).mono ?_); rintro e w23 ⟨rfl, HB23⟩)
      | (go_at_call 4; (with_reducible refine (HU.out _).mono ?_); rintro e w24 ⟨rfl, b24⟩; have HB24 : Hid (Below wB.heap.size wB w24) := (by first | (with_reducible exact Lib.hid (tr HB23.out b24.out)) | (with_reducible exact Lib.hid (tr HB23.out (al b24.out))) | (with_reducible exact Lib.hid (tr HB23.out (al (al b24.out))))))
      | (go_at_call 9; (with_reducible refine (HL10.out _ _).mono ?_); rintro e w25 ⟨rfl, b25⟩; have HB25 : Hid (Below wB.heap.size wB w25) := (by first | (with_reducible exact Lib.hid (tr HB24.out b25.out)) | (with_reducible exact Lib.hid (tr HB24.out (al b25.out))) | (with_reducible exact Lib.hid (tr HB24.out (al (al b25.out))))); have R25 := Lib.hid (born b25.out))
      | (go_at_call 5; (with_reducible refine (HN2.out _).mono ?_); clear HN2; rintro e w26 ⟨rfl, b26⟩; have HB26 : Hid (Below wB.heap.size wB w26) := (by first | (with_reducible exact Lib.hid (tr HB25.out b26.out)) | (with_reducible exact Lib.hid (tr HB25.out (al b26.out))) | (with_reducible exact Lib.hid (tr HB25.out (al (al b26.out))))); have R26 := Lib.hid (Blk.below R25.out b26.out R25.out.lt))
      | (go_at_call 9; (with_reducible refine (HL11.out _ _).mono ?_); rintro e w27 ⟨rfl, b27⟩; have HB27 : Hid (Below wB.heap.size wB w27) := (by first | (with_reducible exact Lib.hid (tr HB26.out b27.out)) | (with_reducible exact Lib.hid (tr HB26.out (al b27.out))) | (with_reducible exact Lib.hid (tr HB26.out (al (al b27.out))))); have R27 := Lib.hid (Blk.below R26.out (al b27.out) R26.out.lt); have Q27 := Lib.hid (born b27.out))
      | (go_at_call 7; (with_reducible refine (HAL.out _ _ _ HB27 R27 Q27).mono ?_); rintro e w28 ⟨rfl, HB28⟩)
      | (go_at_call 5; (with_reducible refine (HN3.out _).mono ?_); clear HN3; rintro e w29 ⟨rfl, b29⟩; have HB29 : Hid (Below wB.heap.size wB w29) := (by first | (with_reducible exact Lib.hid (tr HB28.out b29.out)) | (with_reducible exact Lib.hid (tr HB28.out (al b29.out))) | (with_reducible exact Lib.hid (tr HB28.out (al (al b29.out))))))
      | (go_at_call 19; (with_reducible refine (HT1.out _).mono ?_); rintro e w30 ⟨rfl, b30⟩; have HB30 : Hid (Below wB.heap.size wB w30) := (by first | (with_reducible exact Lib.hid (tr HB29.out b30.out)) | (with_reducible exact Lib.hid (tr HB29.out (al b30.out))) | (with_reducible exact Lib.hid (tr HB29.out (al (al b30.out))))))
      | (go_at_call 7; (with_reducible refine (HNT.out _ HB30).mono ?_); rintro e w31 ⟨rfl, HB31⟩)
      | (go_at_call 7; (with_reducible refine (H00.out _ HB31).mono ?_); rintro e w32 ⟨rfl, HB32⟩))
  all_goals
    go_wp2_with fail
    go_ret
    exact ⟨rfl, tr HM.out.1 HB32.out⟩
end Go.Proofs.YtemkfpofmblblaaDoor
namespace Go.Proofs.YtemkfpofmblblaaDoor
open Go.RowKit Go.Sort

theorem few9_any (t : T) (cs : List Value) (w : World) (hnd : Nd w t cs) : Calls Tryd.prog 11 #[.agg cs.toArray] w fun e w' =>
    (∃ cs', e = .returned (.agg cs'.toArray) ∧ NdO (fun b => w.heap.size ≤ b) w' (fewT t) cs') ∧ Below w.heap.size w w' := by
  obtain ⟨k, n, u, s, A1, m1, c1, A2, m2, c2, rfl⟩ := hnd.shape
  have hT0 := Lib.hid (Two.start w (.int .i64 k) (.int .i64 n) (.int .u64 u) (.string s) (.slice A1 m1 c1) (.slice A2 m2 c2) (.int .i64 0) (.int .i64 0) (.int .u64 0) (.string ⟨#[]⟩) (.slice none 0 0) (.slice none 0 0))
  have hcut := Lib.hid (cut0_any t _ _ (hnd.bel hT0.out.1))
  go_enter Tryd.func11, Tryd.ntmps11
  go_wp2_with (go_at_call 20; refine hcut.out.mono ?_; rintro e w5 ⟨⟨cs', rfl, hn5⟩, hb5⟩; have HN := Lib.hid hn5; have HB := Lib.hid hb5; clear hn5 hb5; obtain ⟨k8, i8, u8, s8, C1', m1', d1', C2', m2', d2', rfl⟩ := HN.out.shape6; have HT := Lib.hid (hT0.out.below HB.out); obtain ⟨⟨z0, z1, z2, z3, z4, z5⟩, y0, y1, y2, y3, y4, y5⟩ := Bx.both HT.out.2.2.2)
  have hsz := hT0.out.2.1
  refine ret_six (p := 2) (g := w.heap.size + 1) rfl rfl (Bx.put6 HT.out.2.2.2 _ _ _ _ _ _) rfl ?_
  refine ⟨⟨_, rfl, NdO.step (fun b hb hlt => ⟨put6_other w5 (w.heap.size + 1) 0 b _ _ _ _ _ _ ?_, ?_⟩) _ _ HN.out⟩, put6_below HT.out.1 (w.heap.size + 1) 0 _ _ _ _ _ _ (by omega)⟩
  all_goals omega
theorem few9_nd (t : T) (cs : List Value) (w : World) (hnd : Nd w t cs) : Calls Tryd.prog 11 #[.agg cs.toArray] w fun e w' =>
    ∃ (k n u : Int) (s : ByteArray) (A1 : Option Addr) (m1 c1 : Nat) (A2 : Option Addr) (m2 c2 : Nat), e = .returned (.agg #[.int .i64 k, .int .i64 n, .int .u64 u, .string s, .slice A1 m1 c1, .slice A2 m2 c2]) ∧
      Hid (Nd w' (fewT t) [.int .i64 k, .int .i64 n, .int .u64 u, .string s, .slice A1 m1 c1, .slice A2 m2 c2]) ∧ Hid (Below w.heap.size w w') := by
  refine (few9_any t cs w hnd).mono ?_
  rintro e w' ⟨⟨cs', rfl, h1⟩, hb⟩
  obtain ⟨k, n, u, s, A1, m1, c1, A2, m2, c2, rfl⟩ := h1.shape6
  exact ⟨k, n, u, s, A1, m1, c1, A2, m2, c2, rfl, Lib.hid (NdO.nd _ _ h1), Lib.hid hb⟩
theorem t0_qq : QQ T0 := qq_leaf 0 0 0 eS (by decide)
theorem nd_t0 (w : World) : Nd w T0 [.int .i64 0, .int .i64 0, .int .u64 0, .string ⟨#[]⟩, .slice none 0 0, .slice none 0 0] := NdO.nd _ _ (ndo_zero (fun _ => True) w)
/-- A valid tree t, its sorted tree x. -/
structure VS (t x : T) : Prop where
  c0 : chk t = 0
  q0 : QQ t
  s : Srt t x
theorem VS.ok {t x : T} (h : VS t x) : okT t := ((chk_zero t).1 h.c0).1
theorem VS.pm {t x : T} (h : VS t x) : Pm t x := Srt.pm (okT_mpT h.ok) h.s
theorem VS.okx {t x : T} (h : VS t x) : okT x := h.pm.ok h.ok
theorem VS.cx {t x : T} (h : VS t x) : chk x = 0 := h.pm.chk h.c0
theorem VS.qx {t x : T} (h : VS t x) : QQ x := h.pm.qq h.q0
theorem VS.inc {t x : T} (h : VS t x) : incT x := Srt.inc h.ok h.s
/-- .. and of the sorted tree, itself. -/
theorem VS.self {t x : T} (h : VS t x) : VS x x := ⟨h.cx, h.qx, Srt.idem (okT_mpT h.ok) h.s⟩
/-- .. and of its normal form. -/
theorem VS.nf {t x : T} (h : VS t x) : VS (nfT x) (nfT x) := ⟨nf_chk h.cx, nf_qq h.okx h.qx, nf_srt h.okx h.inc⟩
theorem VS.alk {a x b y : T} (h : VS a x) (k : VS b y) (e : nfT x = nfT y) : Go.Proofs.YtemkfpofmblblaaDoor.alk a b := ⟨h.c0, k.c0, x, y, h.s, k.s, e⟩
theorem VS.alk_iff {a x b y : T} (h : VS a x) (k : VS b y) : Go.Proofs.YtemkfpofmblblaaDoor.alk a b ↔ nfT x = nfT y := (Go.Proofs.YtemkfpofmblblaaDoor.alk_iff h.c0 k.c0 h.s k.s).symm
theorem VS.sub {x c : T} {i : Nat} (h : VS x x) (hi : incT x) (ha : atT x i = some c) : VS c c := ⟨chk_sub h.c0 ha, at_QQ h.q0 ha, srt_self (okT_mpT (okT_at h.ok ha)) (incT_at hi ha)⟩
end Go.Proofs.YtemkfpofmblblaaDoor
