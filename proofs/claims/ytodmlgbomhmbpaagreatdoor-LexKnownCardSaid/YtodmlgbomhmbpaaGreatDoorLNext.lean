/-
  What is proved here: the contract of lex.readSpelling; conditions: the tables that package lex and its library read hold what is laid, a kind from 1 to 9, a string of at most 2^40 bytes; and: contracts of lex.read, lex.next and lex.Next; conditions: the tables that package lex and its library read hold what is laid, a string of at most 65536 bytes (or one that ends in white space where the token is sought).
-/
import Derived.Test.YtodmlgbomhmbpaaGreatDoorLRead2
namespace Go.Proofs.YtodmlgbomhmbpaaGreatDoor
open Go.RowKit Ut Lx

theorem at_list {s : ByteArray} {l : List UInt8} {k : Nat} {c : UInt8} (hl : s.data.toList = l) (hc : l[k]? = some c) (hk : k < s.size) : s[k]'hk = c := by
  subst hl
  rw [List.getElem?_eq_some_iff] at hc
  obtain ⟨_, h⟩ := hc
  exact h
theorem some_at (l : List UInt8) {k : Nat} (h : k < l.length) : ∃ c, l[k]? = some c := ⟨_, List.getElem?_eq_getElem h⟩
set_option maxHeartbeats 2000000 in
set_option maxRecDepth 100000 in
theorem readSpelling_any (s : ByteArray) (l : List UInt8) (K : Nat) (w : World) (hl : s.data.toList = l) (hs : s.size ≤ 1099511627776) (hL : LB w.heap.size w) (h1 : 1 ≤ K) (h9 : K ≤ 9) :
    Calls Tryz.prog 45 #[.string s, .int .i64 K] w (RDE w (wrd K l)) := by
  have HB0 := tok0 w
  have hL0 := hL.below HB0.out
  have hsp := hL0.sp K (by omega)
  have HSZ := Lib.hid (show s.size = l.length by rw [Lib.size_eq, hl])
  obtain ⟨wd, hwd⟩ : ∃ wd, wordL K = wd := ⟨_, rfl⟩
  obtain ⟨y, hy⟩ : ∃ y, str wd = y := ⟨_, rfl⟩
  have HY := Lib.hid (show y.data.toList = wd by rw [← hy]; exact str_data _)
  have HYZ := Lib.hid (show y.size = wd.length by rw [Lib.size_eq, HY.out])
  have hwl := wordL_len h1 h9
  rw [hwd] at hwl hsp
  rw [hy] at hsp
  have hcl := com_le l wd
  obtain ⟨C, hC⟩ : ∃ C, com l wd = C := ⟨_, rfl⟩
  rw [hC] at hcl
  have hC1 : C ≤ s.size := by rw [HSZ.out]; exact hcl.1
  have hC2 : C ≤ y.size := by rw [HYZ.out]; exact hcl.2
  have hy5 : y.size ≤ 5 := by rw [HYZ.out]; exact hwl.2
  have HC := Lib.hid hC
  have HL := Lib.hid hl
  have HD := Lib.hid (show wrd K l = if C = y.size then ok0 K y.size else bad C 100 by unfold wrd; rw [hwd, hC, HYZ.out])
  clear hcl hwl hC hl hL hL0 hwd hy
  have k0 : (0 : Int) ≤ (K : Int) := by omega
  have k1 : (K : Int) < 10 := by omega
  go_enter Tryz.func45, Tryz.ntmps45
  go_wp2
  go_loopw [8, 14] (fun i v wr => ∃ k n : Nat, k ≤ C ∧ v = .int .i64 k ∧ wr = (w.alloc (.cells #[.int .i64 0, .int .i64 0, .int .i64 0, .int .i64 0, .int .u64 0, .string ⟨#[]⟩] 36)).drewN n) (fun i v _ => y.size + 1 - (RowKit.intOf v).toNat)
  case atStart => exact ⟨0, 0, Nat.zero_le _, rfl, rfl⟩
  case round =>
    obtain ⟨k, n, hk, rfl, rfl⟩ := hrel
    have i3 : (0 : Int) ≤ (k : Int) := by omega
    by_cases hlt : k < y.size
    · have d1 : decide ((k : Int) < (y.size : Int)) = true := decide_eq_true (by omega)
      have d2 : decide (k < y.size) = true := decide_eq_true hlt
      have i4 : (k : Int) < (y.size : Int) := by omega
      by_cases hks : k = s.size
      · have e1 : ((k : Int) == (s.size : Int)) = true := by simp; omega
        have HR := Lib.hid (show wrd K l = bad k 100 by rw [HD.out, if_neg (by omega), show C = k by omega])
        clear hks
        go_wp2
        go_quiet (fail)
        go_wp2
        exact bodyPost_ret (v := rdV (bad k 100)) (by simp [results, Tryz.results45, go_sem, rdV, bad, tkV, str]) rfl ⟨by rw [HR.out], six (below_drewN HB0.out _) (Nat.le_refl _) _ _ _ _ _ _⟩
      · have hks2 : k < s.size := by omega
        have e1 : ((k : Int) == (s.size : Int)) = false := by simp; omega
        have i5 : (k : Int) < (s.size : Int) := by omega
        obtain ⟨c, hc⟩ := some_at l (k := k) (by rw [← HSZ.out]; exact hks2)
        obtain ⟨d, hd⟩ := some_at wd (k := k) (by rw [← HYZ.out]; exact hlt)
        have hx : s[k] = c := at_list HL.out hc hks2
        have hx2 : y[k] = d := at_list HY.out hd hlt
        by_cases hcd : c = d
        · have q1 : ((c.toNat : Int) != (d.toNat : Int)) = false := by rw [hcd]; simp
          have HG := Lib.hid (show k + 1 ≤ C by
            rw [← HC.out]
            exact com_step (by rw [HC.out]; exact hk) (by rw [← HSZ.out]; exact hks2) (by rw [← HYZ.out]; exact hlt) (by rw [hc, hd, hcd]))
          clear hc hd hcd hks
          go_wp2
          go_quiet (fail)
          go_wp2
          go_roundw
          case rel => exact ⟨k + 1, _, HG.out, by go_num, by first | rfl | rw [World.drewN_drewN]⟩
          case measure => simp [RowKit.intOf]; omega
        · have hne : c.toNat ≠ d.toNat := fun h => hcd (UInt8.toNat_inj.1 h)
          have q1 : ((c.toNat : Int) != (d.toNat : Int)) = true := by simp; omega
          have HR := Lib.hid (show wrd K l = bad k 100 by
            have hCk : C = k := by
              rcases Nat.lt_or_ge k C with h | h
              · have := (com_go (l := l) (w := wd) (i := k) (by rw [HC.out]; exact h)).1
                rw [hc, hd] at this
                exact absurd (Option.some.inj this) hcd
              · omega
            rw [HD.out, if_neg (by omega), hCk])
          clear hc hd hcd hks hne
          go_wp2
          go_quiet (fail)
          go_wp2
          exact bodyPost_ret (v := rdV (bad k 100)) (by simp [results, Tryz.results45, go_sem, rdV, bad, tkV, str]) rfl ⟨by rw [HR.out], six (below_drewN HB0.out _) (Nat.le_refl _) _ _ _ _ _ _⟩
    · have d1 : decide ((k : Int) < (y.size : Int)) = false := decide_eq_false (by omega)
      have d2 : decide (k < y.size) = false := decide_eq_false hlt
      have HR := Lib.hid (show wrd K l = ok0 K y.size by rw [HD.out, if_pos (by omega)])
      clear hlt
      go_wp2
      exact bodyPost_ret (v := rdV (ok0 K y.size)) (by simp [results, Tryz.results45, go_sem, rdV, ok0, tkV, str]) rfl ⟨by rw [HR.out], six (below_drewN HB0.out _) (Nat.le_refl _) _ _ _ _ _ _⟩
end Go.Proofs.YtodmlgbomhmbpaaGreatDoor
namespace Go.Proofs.YtodmlgbomhmbpaaGreatDoor
open Go.RowKit Ut Lx Go.Maps

theorem zeroE (w : World) : (zeroValue 3).run Tryz.prog w = .ok (.int .i64 0) w := by kernel_rfl
theorem wpList_look {ops : Array Oper} {rest : List Oper} {o : Oper} {a : Act} {Q : Exit → Act → World → Prop} {w : World} {b : Nat}
    (hg : o.guard = none) (m x : Operand) (hop : o.op = Op.lookup 47 m x true) (hm : a.eval m = .map (some b)) (h : KM w b kdL) (c : UInt8) (hx : a.eval x = .int .u8 (c.toNat : Int)) (K : Nat) (hk : kd c.toNat = K) (is : Bool) (his : decide (K ≠ 0) = is)
    (hK : wpList Tryz.prog ops Q rest (a.put o.dst (.tuple #[.int .i64 (K : Int), .bool is])) w) : wpList Tryz.prog ops Q (o :: rest) a w := by
  obtain ⟨n, D, hn, ho, hd, hl⟩ := h
  have hc : (Lit.int .u8 (c.toNat : Int)).wf = true := by
    have := UInt8.toNat_lt c
    simp [Lit.wf, IntKind.min, IntKind.max, IntKind.signed, IntKind.bits]
    omega
  refine wpList_lookup_own_ok_int w hg m x _ hop 5 3 .i64 keyedU Tryz.underlying47 Tryz.underlying3 (zeroE w) b n D hm ho _ _ hx (keyOf_int_mk Tryz.underlying5 hc) ?_
  intro v hat _
  obtain ⟨l1, l2⟩ := hl c.toNat
  obtain ⟨k1, k2⟩ := kdL_kd c
  rw [k2] at l2
  rw [k1] at l1
  have e := l2.symm.trans hat
  injection e with e
  injection e with _ e
  rw [l1, ← e, hk, his]
  exact hK

/-- What a reader of a token's bytes hands back, its parts named. -/
def PV (k n : Nat) (N : Int) (U : Nat) (y : ByteArray) (e : Nat) : Value := .tuple #[.agg #[.int .i64 k, .int .i64 0, .int .i64 0, .int .i64 N, .int .u64 U, .string y], .int .i64 n, .int .i64 e]
set_option maxHeartbeats 4000000 in
set_option maxRecDepth 100000 in
theorem lexRead_any (s : ByteArray) (c : UInt8) (r : List UInt8) (b : Nat) (w : World) (hl : s.data.toList = c :: r) (hs : s.size ≤ 65536) (hL : LB w.heap.size w) (hM : KM w b kdL) :
    Calls Tryz.prog 30 #[.map (some b), .string s] w (RDE w (rd (c :: r))) := by
  have HB0 := tok0 w
  have hb : b < w.heap.size := hM.lt
  have hL0' := hL.below HB0.out
  have HM0 := Lib.hid (hM.below HB0.out hb)
  obtain ⟨w0, hw0⟩ : ∃ w0, w.alloc (.cells #[.int .i64 0, .int .i64 0, .int .i64 0, .int .i64 0, .int .u64 0, .string ⟨#[]⟩] 36) = w0 := ⟨_, rfl⟩
  have hL0 : LB w0.heap.size w0 := by
    rw [hw0] at hL0'
    have hT := hL0'.tb
    exact ⟨⟨Nat.le_trans hT.1 hT.2.1, Nat.le_refl _, hT.2.2⟩, hL0'.es, hL0'.er, hL0'.sp, hL0'.pow⟩
  have hpos : 0 < s.size := by rw [Lib.size_eq, hl]; simp
  have hx : s[0] = c := at_list hl (by rfl) hpos
  obtain ⟨K, hK⟩ : ∃ K, kd c.toNat = K := ⟨_, rfl⟩
  obtain ⟨d, hd⟩ : ∃ d, rd (c :: r) = d := ⟨_, rfl⟩
  rw [hd]
  rw [rd_cons, hK] at hd
  have HK := Lib.hid hK
  by_cases h0 : K = 0
  · subst h0
    have HD := Lib.hid (show bad 0 100 = d from hd)
    clear hd hL hL0 hL0' hl hK hM hb hw0
    go_enter Tryz.func30, Tryz.ntmps30
    go_wp2_with (at_lookup; refine wpList_look rfl _ _ rfl rfl HM0.out c rfl 0 HK.out false (by decide) ?_)
    exact bodyPost_ret (v := rdV (bad 0 100)) (by simp [results, Tryz.results30, go_sem, rdV, bad, tkV, str]) rfl ⟨by rw [HD.out], by with_reducible first | exact HB0.out | exact six HB0.out (Nat.le_refl _) _ _ _ _ _ _⟩
  · have his : decide (K ≠ 0) = true := by simpa using h0
    have HIS := Lib.hid his
    rw [if_neg h0] at hd
    obtain ⟨k, n, N, U, x, e⟩ := d
    obtain ⟨y, hy⟩ : ∃ y, str x = y := ⟨_, rfl⟩
    have HV := Lib.hid (show rdV ⟨k, n, N, U, x, e⟩ = PV k n N U y e by unfold rdV PV tkV; rw [hy]; rfl)
    rw [← hl] at hd
    by_cases h10 : K = 10
    · subst h10
      rw [if_pos rfl] at hd
      have HC := Lib.hid (show Calls Tryz.prog 43 #[.string s] (w.alloc (.cells #[.int .i64 0, .int .i64 0, .int .i64 0, .int .i64 0, .int .u64 0, .string ⟨#[]⟩] 36)) fun e1 w' => e1 = .returned (.tuple #[.agg #[.int .i64 k, .int .i64 0, .int .i64 0, .int .i64 N, .int .u64 U, .string y], .int .i64 n, .int .i64 e]) ∧ Below (w.alloc (.cells #[.int .i64 0, .int .i64 0, .int .i64 0, .int .i64 0, .int .u64 0, .string ⟨#[]⟩] 36)).heap.size (w.alloc (.cells #[.int .i64 0, .int .i64 0, .int .i64 0, .int .i64 0, .int .u64 0, .string ⟨#[]⟩] 36)) w' by
        rw [hw0]
        refine (readNumber_any s w0 (by omega) hL0).mono ?_
        rintro e1 w' ⟨rfl, hb1⟩
        rw [hd]
        exact ⟨by rw [HV.out]; rfl, hb1⟩)
      clear hd hL hL0 hL0' hl hK hM hb hw0 hy h0 his
      go_enter Tryz.func30, Tryz.ntmps30
      go_wp2_with (first
        | (at_lookup; refine wpList_look rfl _ _ rfl rfl HM0.out c rfl 10 HK.out true HIS.out ?_)
        | (go_at_call 43; (with_reducible refine HC.out.mono ?_); rintro e1 w1 ⟨rfl, hb1⟩; have HB1 := Lib.hid (HB0.out.trans (hb1.mono HB0.out.size)); obtain ⟨hc1, hf1⟩ := bcell hb1; clear hb1))
      exact bodyPost_ret (v := PV k n N U y e) (by simp [results, Tryz.results30, go_sem, PV, hc1]) rfl ⟨by rw [HV.out], six HB1.out (Nat.le_refl _) _ _ _ _ _ _⟩
    · rw [if_neg h10] at hd
      by_cases h12 : K = 12
      · subst h12
        rw [if_pos rfl] at hd
        have HC := Lib.hid (show Calls Tryz.prog 44 #[.string s] (w.alloc (.cells #[.int .i64 0, .int .i64 0, .int .i64 0, .int .i64 0, .int .u64 0, .string ⟨#[]⟩] 36)) fun e1 w' => e1 = .returned (.tuple #[.agg #[.int .i64 k, .int .i64 0, .int .i64 0, .int .i64 N, .int .u64 U, .string y], .int .i64 n, .int .i64 e]) ∧ Below (w.alloc (.cells #[.int .i64 0, .int .i64 0, .int .i64 0, .int .i64 0, .int .u64 0, .string ⟨#[]⟩] 36)).heap.size (w.alloc (.cells #[.int .i64 0, .int .i64 0, .int .i64 0, .int .i64 0, .int .u64 0, .string ⟨#[]⟩] 36)) w' by
          rw [hw0]
          refine (readText_any s w0 hs hL0).mono ?_
          rintro e1 w' ⟨rfl, hb1⟩
          rw [hd]
          exact ⟨by rw [HV.out]; rfl, hb1⟩)
        clear hd hL hL0 hL0' hl hK hM hb hw0 hy h0 his
        go_enter Tryz.func30, Tryz.ntmps30
        go_wp2_with (first
          | (at_lookup; refine wpList_look rfl _ _ rfl rfl HM0.out c rfl 12 HK.out true HIS.out ?_)
          | (go_at_call 44; (with_reducible refine HC.out.mono ?_); rintro e1 w1 ⟨rfl, hb1⟩; have HB1 := Lib.hid (HB0.out.trans (hb1.mono HB0.out.size)); obtain ⟨hc1, hf1⟩ := bcell hb1; clear hb1))
        exact bodyPost_ret (v := PV k n N U y e) (by simp [results, Tryz.results30, go_sem, PV, hc1]) rfl ⟨by rw [HV.out], six HB1.out (Nat.le_refl _) _ _ _ _ _ _⟩
      · rw [if_neg h12] at hd
        have hw := kd_word (c := c.toNat) (by rw [hK]; exact h0) (by rw [hK]; exact h10) (by rw [hK]; exact h12)
        rw [hK] at hw
        have q10 : ((K : Int) == 10) = false := by simp; omega
        have q12 : ((K : Int) == 12) = false := by simp; omega
        have HC := Lib.hid (show Calls Tryz.prog 45 #[.string s, .int .i64 K] (w.alloc (.cells #[.int .i64 0, .int .i64 0, .int .i64 0, .int .i64 0, .int .u64 0, .string ⟨#[]⟩] 36)) fun e1 w' => e1 = .returned (.tuple #[.agg #[.int .i64 k, .int .i64 0, .int .i64 0, .int .i64 N, .int .u64 U, .string y], .int .i64 n, .int .i64 e]) ∧ Below (w.alloc (.cells #[.int .i64 0, .int .i64 0, .int .i64 0, .int .i64 0, .int .u64 0, .string ⟨#[]⟩] 36)).heap.size (w.alloc (.cells #[.int .i64 0, .int .i64 0, .int .i64 0, .int .i64 0, .int .u64 0, .string ⟨#[]⟩] 36)) w' by
          rw [hw0]
          refine (readSpelling_any s _ K w0 rfl (by omega) hL0 hw.1 hw.2).mono ?_
          rintro e1 w' ⟨rfl, hb1⟩
          rw [hd]
          exact ⟨by rw [HV.out]; rfl, hb1⟩)
        clear h10 h12 hw
        clear hd hL hL0 hL0' hl hK hM hb hw0 hy h0 his
        go_enter Tryz.func30, Tryz.ntmps30
        go_wp2_with (first
          | (at_lookup; refine wpList_look rfl _ _ rfl rfl HM0.out c rfl K HK.out true HIS.out ?_)
          | (go_at_call 45; (with_reducible refine HC.out.mono ?_); rintro e1 w1 ⟨rfl, hb1⟩; have HB1 := Lib.hid (HB0.out.trans (hb1.mono HB0.out.size)); obtain ⟨hc1, hf1⟩ := bcell hb1; clear hb1))
        exact bodyPost_ret (v := PV k n N U y e) (by simp [results, Tryz.results30, go_sem, PV, hc1]) rfl ⟨by rw [HV.out], six HB1.out (Nat.le_refl _) _ _ _ _ _ _⟩

/-! next and Next. -/
def tV (t : TK) : Value := .tuple #[tkV t.k t.f t.t t.N t.U t.x, .int .i64 t.e]
def TKE (w : World) (t : TK) (e : Ending) (w' : World) : Prop := e = .returned (tV t) ∧ Below w.heap.size w w'
theorem sixA {B g : Nat} {w w1 : World} (h : Below B w w1) (hg : B ≤ g) (hB : B ≤ w.heap.size) (a b c d e f : Value) (o : Obj) :
    Below B w (((((((w1.setCell ⟨g, 0, none⟩ a).setCell ⟨g, 1, none⟩ b).setCell ⟨g, 2, none⟩ c).setCell ⟨g, 3, none⟩ d).setCell ⟨g, 4, none⟩ e).setCell ⟨g, 5, none⟩ f).alloc o) :=
  (six h hg a b c d e f).alloc (Nat.le_trans hB (six h hg a b c d e f).size) o
theorem LB.here {B : Nat} {w : World} (h : LB B w) : LB w.heap.size w := ⟨⟨Nat.le_trans h.tb.1 h.tb.2.1, Nat.le_refl _, h.tb.2.2⟩, h.es, h.er, h.sp, h.pow⟩
set_option maxHeartbeats 4000000 in
set_option maxRecDepth 100000 in
theorem next_any (s : ByteArray) (l : List UInt8) (b k : Nat) (w : World) (hl : s.data.toList = l) (hk : k ≤ s.size) (hs : s.size ≤ 1099511627776) (hq : s.size ≤ 65536 ∨ s.size ≤ k + cnt wsL (l.drop k)) (hL : LB w.heap.size w) (hM : KM w b kdL) :
    Calls Tryz.prog 17 #[.map (some b), .string s, .int .i64 k] w (TKE w (tok l k)) := by
  have HB0 := tok0 w
  have hb : b < w.heap.size := hM.lt
  have hL0 := (hL.below HB0.out).here
  have hM0 := hM.below HB0.out hb
  have hsz : s.size = l.length := by rw [Lib.size_eq, hl]
  obtain ⟨t, ht⟩ : ∃ t, tok l k = t := ⟨_, rfl⟩
  rw [ht]
  unfold tok at ht
  have C := count_any (s.extract k s.size) ⟨#[32, 9, 10, 13]⟩ (w.alloc (.cells #[.int .i64 0, .int .i64 0, .int .i64 0, .int .i64 0, .int .u64 0, .string ⟨#[]⟩] 36)) (by rw [ByteArray.size_extract]; omega)
  rw [lx_drop, hl] at C
  have hle := cnt_le wsL (l.drop k)
  rw [List.length_drop, ← hsz] at hle
  obtain ⟨n, hn⟩ : ∃ n, cnt wsL (l.drop k) = n := ⟨_, rfl⟩
  have C2 : Calls Tryz.prog 29 #[.string (s.extract k s.size), .string ⟨#[32, 9, 10, 13]⟩] (w.alloc (.cells #[.int .i64 0, .int .i64 0, .int .i64 0, .int .i64 0, .int .u64 0, .string ⟨#[]⟩] 36)) fun e w' => e = .returned (.int .i64 (n : Nat)) ∧ (w.alloc (.cells #[.int .i64 0, .int .i64 0, .int .i64 0, .int .i64 0, .int .u64 0, .string ⟨#[]⟩] 36)) = w' := by rw [← hn]; exact C
  rw [hn] at ht hle hq
  have HC := Lib.hid C2
  clear C C2
  obtain ⟨f, hf⟩ : ∃ f, k + n = f := ⟨_, rfl⟩
  rw [hf] at ht hq
  have hfi : (k : Int) + (n : Int) = (f : Int) := by omega
  have hfs : f ≤ s.size := by omega
  have i1 : (0 : Int) ≤ (k : Int) := by omega
  have i2 : (k : Int) ≤ (s.size : Int) := by omega
  by_cases hfe : s.size ≤ f
  · rw [if_pos (by rw [← hsz]; exact hfe)] at ht
    have HT := Lib.hid ht
    have q : ((f : Int) == (s.size : Int)) = true := by simp; omega
    clear ht hfe hq hL hM hL0 hM0 hsz hl hn hf hb
    go_enter Tryz.func17, Tryz.ntmps17
    go_wp2_with (go_at_call 29; (with_reducible refine HC.out.mono ?_); rintro e w1 ⟨rfl, hw⟩; subst hw)
    exact bodyPost_ret (v := tV ⟨0, f, f, 0, 0, [], 0⟩) (by simp [results, Tryz.results17, go_sem, tV, tkV, str]) rfl ⟨by rw [HT.out], by with_reducible first | exact (Below.refl _ _).alloc (Nat.le_refl _) _ | exact six HB0.out (Nat.le_refl _) _ _ _ _ _ _⟩
  · rw [if_neg (by rw [← hsz]; exact hfe)] at ht
    have hflt : f < s.size := by omega
    have q : ((f : Int) == (s.size : Int)) = false := by simp; omega
    have i3 : (0 : Int) ≤ (f : Int) := by omega
    have i4 : (f : Int) ≤ (s.size : Int) := by omega
    obtain ⟨z, hz⟩ : ∃ z, s.extract f s.size = z := ⟨_, rfl⟩
    have hzd : z.data.toList = l.drop f := by rw [← hz, lx_drop, hl]
    have hzs : z.size ≤ 65536 := by rw [← hz, ByteArray.size_extract]; omega
    obtain ⟨c, r, hcr⟩ : ∃ c r, l.drop f = c :: r := by
      cases h : l.drop f with
      | nil => have := congrArg List.length h; rw [List.length_drop, ← hsz, List.length_nil] at this; omega
      | cons c r => exact ⟨c, r, rfl⟩
    rw [hcr] at ht hzd
    have R := lexRead_any z c r b _ hzd hzs hL0 hM0
    obtain ⟨⟨dk, dn, dN, dU, dx, de⟩, hd⟩ : ∃ d, rd (c :: r) = d := ⟨_, rfl⟩
    have hdf := rd_facts (c :: r)
    rw [hd] at ht R hdf
    obtain ⟨y, hy⟩ : ∃ y, str dx = y := ⟨_, rfl⟩
    have HR := Lib.hid (show Calls Tryz.prog 30 #[.map (some b), .string z] (w.alloc (.cells #[.int .i64 0, .int .i64 0, .int .i64 0, .int .i64 0, .int .u64 0, .string ⟨#[]⟩] 36)) fun e1 w' => e1 = .returned (.tuple #[.agg #[.int .i64 dk, .int .i64 0, .int .i64 0, .int .i64 dN, .int .u64 dU, .string y], .int .i64 dn, .int .i64 de]) ∧ Below (w.alloc (.cells #[.int .i64 0, .int .i64 0, .int .i64 0, .int .i64 0, .int .u64 0, .string ⟨#[]⟩] 36)).heap.size (w.alloc (.cells #[.int .i64 0, .int .i64 0, .int .i64 0, .int .i64 0, .int .u64 0, .string ⟨#[]⟩] 36)) w' by
      refine R.mono ?_
      rintro e1 w' ⟨rfl, hb1⟩
      exact ⟨by rw [← hy]; rfl, hb1⟩)
    have hlen : (c :: r).length = s.size - f := by rw [← hcr, List.length_drop, hsz]
    have hdn : f + dn ≤ s.size := by
      rcases hdf with h | h
      · have h1 : dn ≤ (c :: r).length := h.2.2.1; rw [hlen] at h1; omega
      · have h1 : dn ≤ (c :: r).length := h.2.2; rw [hlen] at h1; omega
    obtain ⟨g, hg⟩ : ∃ g, f + dn = g := ⟨_, rfl⟩
    have hgi : (f : Int) + (dn : Int) = (g : Int) := by omega
    have hgs : g ≤ s.size := by omega
    have HZ := Lib.hid hz
    by_cases he : de = 0
    · subst he
      have HT := Lib.hid (show (⟨dk, f, g, dN, dU, dx, 0⟩ : TK) = t by rw [← ht, ← hg]; rfl)
      have HV := Lib.hid (show tV ⟨dk, f, g, dN, dU, dx, 0⟩ = .tuple #[.agg #[.int .i64 dk, .int .i64 f, .int .i64 g, .int .i64 dN, .int .u64 dU, .string y], .int .i64 0] by unfold tV tkV; rw [hy]; rfl)
      clear ht hfe hq hL hM hL0 hM0 hsz hl hn hf hb hz hzd hzs hcr R hd hdf hy hlen hdn hg
      go_enter Tryz.func17, Tryz.ntmps17
      go_wp2_with (first
        | (go_at_call 29; (with_reducible refine HC.out.mono ?_); rintro e w1 ⟨rfl, hw⟩; subst hw)
        | (go_at_call 30; rw [HZ.out]; (with_reducible refine HR.out.mono ?_); rintro e1 w1 ⟨rfl, hb1⟩; have HB1 := Lib.hid (HB0.out.trans (hb1.mono HB0.out.size)); obtain ⟨hc1, hf1⟩ := bcell hb1; have hz1 : w.heap.size < w1.heap.size := (by have := hb1.size; simp at this; omega); clear hb1))
      exact bodyPost_ret (v := .tuple #[.agg #[.int .i64 dk, .int .i64 f, .int .i64 g, .int .i64 dN, .int .u64 dU, .string y], .int .i64 0]) (by simp [results, Tryz.results17, go_sem, hc1, hz1]) rfl ⟨by rw [← HT.out, HV.out], by with_reducible exact sixA HB1.out (Nat.le_refl _) (Nat.le_refl _) _ _ _ _ _ _ _⟩
    · have HT := Lib.hid (show (⟨0, g, g, 0, 0, [], de⟩ : TK) = t by rw [← ht, ← hg]; unfold tokR; rw [if_neg he])
      have q2 : ((de : Int) != 0) = true := by simp; omega
      clear ht hfe hq hL hM hL0 hM0 hsz hl hn hf hb hz hzd hzs hcr R hd hdf hy hlen hdn hg he
      go_enter Tryz.func17, Tryz.ntmps17
      go_wp2_with (first
        | (go_at_call 29; (with_reducible refine HC.out.mono ?_); rintro e w1 ⟨rfl, hw⟩; subst hw)
        | (go_at_call 30; rw [HZ.out]; (with_reducible refine HR.out.mono ?_); rintro e1 w1 ⟨rfl, hb1⟩; have HB1 := Lib.hid (HB0.out.trans (hb1.mono HB0.out.size)); obtain ⟨hc1, hf1⟩ := bcell hb1; have hz1 : w.heap.size < w1.heap.size := (by have := hb1.size; simp at this; omega); clear hb1))
      exact bodyPost_ret (v := tV ⟨0, g, g, 0, 0, [], de⟩) (by simp [results, Tryz.results17, go_sem, tV, tkV, str, hc1, hz1]) rfl ⟨by rw [HT.out], by with_reducible exact sixA HB1.out (Nat.le_refl _) (Nat.le_refl _) _ _ _ _ _ _ _⟩
def ErrT (w : World) (e : Ending) (w' : World) : Prop := e = .returned (tV ⟨0, 0, 0, 0, 0, [], 6⟩) ∧ Below w.heap.size w w'
set_option maxHeartbeats 2000000 in
set_option maxRecDepth 100000 in
theorem Next_any (s : ByteArray) (l : List UInt8) (k : Nat) (w : World) (hl : s.data.toList = l) (hk : k ≤ s.size) (hs : s.size ≤ 1099511627776) (hq : s.size ≤ 65536 ∨ s.size ≤ k + cnt wsL (l.drop k)) (hL : LB w.heap.size w) :
    Calls Tryz.prog 11 #[.string s, .int .i64 k] w (TKE w (tok l k)) := by
  have HB0 := tok0 w
  have hL0 := (hL.below HB0.out).here
  obtain ⟨g, hg⟩ : ∃ g, (w.alloc (.cells #[.int .i64 0, .int .i64 0, .int .i64 0, .int .i64 0, .int .u64 0, .string ⟨#[]⟩] 36)).heap.size = g := ⟨_, rfl⟩
  have C := kinds_any (w.alloc (.cells #[.int .i64 0, .int .i64 0, .int .i64 0, .int .i64 0, .int .u64 0, .string ⟨#[]⟩] 36))
  rw [hg] at C
  have hwg : w.heap.size < g := by rw [← hg]; simp
  have hLB := hL.below HB0.out
  have HK := Lib.hid (show Calls Tryz.prog 16 #[] (w.alloc (.cells #[.int .i64 0, .int .i64 0, .int .i64 0, .int .i64 0, .int .u64 0, .string ⟨#[]⟩] 36)) fun e w' => e = .returned (.map (some g)) ∧ (Below w.heap.size w w' ∧ LB w'.heap.size w' ∧ KM w' g kdL) ∧ Below (w.alloc (.cells #[.int .i64 0, .int .i64 0, .int .i64 0, .int .i64 0, .int .u64 0, .string ⟨#[]⟩] 36)).heap.size (w.alloc (.cells #[.int .i64 0, .int .i64 0, .int .i64 0, .int .i64 0, .int .u64 0, .string ⟨#[]⟩] 36)) w' by
    refine C.mono ?_
    rintro e w' ⟨rfl, hb, hm⟩
    exact ⟨rfl, ⟨HB0.out.trans (hb.mono (by omega)), (hL0.below (hb.mono (Nat.le_of_eq hg))).here, hm⟩, by rw [hg]; exact hb⟩)
  obtain ⟨t, ht⟩ : ∃ t, tok l k = t := ⟨_, rfl⟩
  rw [ht]
  obtain ⟨tk, tf, tt, tN, tU, tx, te⟩ := t
  obtain ⟨y, hy⟩ : ∃ y, str tx = y := ⟨_, rfl⟩
  have HV := Lib.hid (show tV ⟨tk, tf, tt, tN, tU, tx, te⟩ = .tuple #[.agg #[.int .i64 tk, .int .i64 tf, .int .i64 tt, .int .i64 tN, .int .u64 tU, .string y], .int .i64 te] by unfold tV tkV; rw [hy])
  have HN := Lib.hid (fun (W : World) (h : LB W.heap.size W ∧ KM W g kdL) => (show Calls Tryz.prog 17 #[.map (some g), .string s, .int .i64 k] W fun e w' => e = .returned (.tuple #[.agg #[.int .i64 tk, .int .i64 tf, .int .i64 tt, .int .i64 tN, .int .u64 tU, .string y], .int .i64 te]) ∧ Below W.heap.size W w' by
    refine (next_any s l g k W hl hk hs hq h.1 h.2).mono ?_
    rintro e w' ⟨rfl, hb⟩
    exact ⟨by rw [ht, HV.out], hb⟩))
  have i1 : (0 : Int) ≤ (k : Int) := by omega
  have i2 : (k : Int) ≤ (s.size : Int) := by omega
  have d1 : decide ((k : Int) < 0) = false := decide_eq_false (by omega)
  have d2 : decide ((s.size : Int) < (k : Int)) = false := decide_eq_false (by omega)
  have d3 : decide (s.size < k) = false := decide_eq_false (by omega)
  clear C hL hL0 hLB ht hy hg hq hs hl
  go_enter Tryz.func11, Tryz.ntmps11
  go_wp2_with (first
    | (go_at_call 16; (with_reducible refine HK.out.mono ?_); rintro e1 w1 ⟨rfl, h1, hb1⟩; have H1 := Lib.hid h1; obtain ⟨hc1, hf1⟩ := bcell hb1; have hz1 : w.heap.size < w1.heap.size := (by have := hb1.size; simp at this; omega); clear h1 hb1)
    | (go_at_call 17; (with_reducible refine (HN.out _ H1.out.2).mono ?_); rintro e2 w2 ⟨rfl, hb2⟩; have HB2 := Lib.hid (H1.out.1.trans (hb2.mono H1.out.1.size)); obtain ⟨hc2, hf2⟩ := bcell hb2; clear hb2))
  exact bodyPost_ret (v := .tuple #[.agg #[.int .i64 tk, .int .i64 tf, .int .i64 tt, .int .i64 tN, .int .u64 tU, .string y], .int .i64 te]) (by simp [results, Tryz.results11, go_sem, hc1, hc2, hz1]) rfl ⟨by rw [HV.out], by with_reducible exact six HB2.out (Nat.le_refl _) _ _ _ _ _ _⟩
set_option maxHeartbeats 2000000 in
set_option maxRecDepth 100000 in
theorem Next_out (s : ByteArray) (k : Int) (w : World) (hk : k < 0 ∨ (s.size : Int) < k) :
    Calls Tryz.prog 11 #[.string s, .int .i64 k] w (ErrT w) := by
  have HB0 := tok0 w
  by_cases h0 : k < 0
  · have d1 : decide (k < 0) = true := decide_eq_true h0
    clear h0 hk
    go_enter Tryz.func11, Tryz.ntmps11
    go_wp2
    exact bodyPost_ret (v := tV ⟨0, 0, 0, 0, 0, [], 6⟩) (by simp [results, Tryz.results11, go_sem, tV, tkV, str]) rfl ⟨rfl, by with_reducible first | exact HB0.out | exact six HB0.out (Nat.le_refl _) _ _ _ _ _ _⟩
  · have d1 : decide (k < 0) = false := decide_eq_false h0
    have d2 : decide ((s.size : Int) < k) = true := decide_eq_true (by omega)
    clear h0 hk
    go_enter Tryz.func11, Tryz.ntmps11
    go_wp2
    exact bodyPost_ret (v := tV ⟨0, 0, 0, 0, 0, [], 6⟩) (by simp [results, Tryz.results11, go_sem, tV, tkV, str]) rfl ⟨rfl, by with_reducible first | exact HB0.out | exact six HB0.out (Nat.le_refl _) _ _ _ _ _ _⟩
end Go.Proofs.YtodmlgbomhmbpaaGreatDoor
