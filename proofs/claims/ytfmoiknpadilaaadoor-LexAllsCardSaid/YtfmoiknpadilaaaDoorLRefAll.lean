/-
  What is proved here: the contract of the reference's All; condition: a string of at most 60000 bytes (or one of white space alone, of at most 1048576).
-/
import Derived.Test.YtfmoiknpadilaaaDoorLRefNx
import Derived.Test.YtfmoiknpadilaaaDoorLAllW
namespace Go.Proofs.YtfmoiknpadilaaaDoor
open Go.RowKit Ut Lx

abbrev OwnR (w : World) (B : Nat) (v : Value) (ts : List TK) : Prop := w.ownsRow B 29 6 v ts.length (tcs ts)
theorem Tryd.infoR : (Tryd.prog.info? 29).map (fun i => (i.zero, i.size, i.bytes)) = some (some (.agg #[.int .i64 0, .int .i64 0, .int .i64 0, .int .i64 0, .int .u64 0, .string ⟨#[]⟩]), 6, 56) := by kernel_rfl
theorem run_appR2 {w : World} {B c : Nat} {v : Value} {xs ys : List TK} {ad : Addr} (ty : TypeId) (hown : OwnR w B v xs) (hr : ∀ j u, (tcs ys)[j]? = some u → w.cell? (ad.add j) = some u)
    (hb : xs.length + ys.length ≤ 1000000) (hB : B ≤ w.heap.size) :
    ∃ v' w', (Builtin.append_ #[38, 38] ty #[v, .slice (some ad) ys.length c]).run Tryd.prog w = .ok v' w' ∧ OwnR w' B v' (xs ++ ys) ∧ Gr w w' v v' := by
  obtain ⟨i, hi, hz0, hz1, hz2⟩ := info_parts Tryd.infoR
  obtain ⟨v', w', hrun, h2, h3, _, h5⟩ := run_append_own_at (P := Tryd.prog) w B 38 ty 29 i _ 6 56 Tryd.underlying38 hi hz0 hz1 hz2 rfl (by decide) v xs.length (tcs xs) hown ad ys.length c (tcs ys)
    (by rw [tcs_len]) hr (tcs_one ys) (by simp only [maxLen]; omega) (by omega) hB
  rw [tcs_app] at h2
  refine ⟨v', w', hrun, ?_, h3, ?_⟩
  · unfold OwnR; rw [List.length_append]; exact h2
  · rcases h5 with h5 | h5
    · exact Or.inl h5
    · exact Or.inr ⟨_, h5, Nat.le_refl _⟩
theorem wpList_appR2 {ops : Array Oper} {rest : List Oper} {o : Oper} {a : Act} {Q : Exit → Act → World → Prop} {w : World} {B m c : Nat} {v : Value} {xs ys : List TK} {ad : Addr}
    (hgd : o.guard = none) (s x : Operand) (ho : o.op = .call { callee := .builtin .append, args := #[s, x], argTypes := #[38, 38] })
    (hs : a.eval s = v) (hx : a.eval x = .slice (some ad) m c) (hm : m = ys.length) (hown : OwnR w B v xs) (hr : ∀ j u, (tcs ys)[j]? = some u → w.cell? (ad.add j) = some u) (hb : xs.length + ys.length ≤ 1000000) (hB : B ≤ w.heap.size)
    (h : ∀ v' w', OwnR w' B v' (xs ++ ys) → Gr w w' v v' → wpList Tryd.prog ops Q rest (a.put o.dst v') w') : wpList Tryd.prog ops Q (o :: rest) a w := by
  subst hm
  refine wpList_plain hgd fun K hK => ?_
  obtain ⟨v', w', hrun, h2, h3⟩ := run_appR2 o.type hown hr hb hB
  unfold Oper.wp execOp
  simp only [ho, resolve, invoke, builtin, Sem.run_bind, Sem.run_pure, Result.andThen_ok, List.map_toArray, List.map_cons, List.map_nil, hs, hx]
  rw [hrun]
  exact hK _ _ (h v' w' h2 h3)
theorem ownR_below {w w' : World} {B B' : Nat} {v : Value} {ts : List TK} (h : OwnR w B v ts) (hb : Below B' w w') (hB : w.heap.size ≤ B') : OwnR w' B v ts := by
  refine ⟨h.1, ?_⟩
  rcases h.2 with h0 | ⟨g, cap, cur, hv, hg, hh, r⟩
  · exact Or.inl h0
  · have hl := (h.lt g (by rw [hv]; rfl)).2
    exact Or.inr ⟨g, cap, cur, hv, hg, (hb.block g (by omega)).trans hh, r⟩
theorem own_ltR {w : World} {B : Nat} {v : Value} {ts : List TK} (h : OwnR w B v ts) {w1 w' : World} {o : Obj} {v' : Value} (hg : Gr (w1.alloc o) w' v v') {k : Nat} (hk : k < (w1.alloc o).heap.size) (hne : w.heap.size ≤ k) (i : Nat) :
    w'.cell? ⟨k, i, none⟩ = (w1.alloc o).cell? ⟨k, i, none⟩ :=
  World.cell?_of_block (hg.1.block k hk (fun e => by have := (h.lt k e.symm).2; omega))
def AER (w : World) (r : List TK × Nat × Nat) (e : Ending) (w' : World) : Prop := ∃ v, e = .returned (.tuple #[v, .int .i64 r.2.1, .int .i64 r.2.2]) ∧ Below w.heap.size w w' ∧ OwnR w' w.heap.size v r.1
structure RH (w : World) (s : ByteArray) (l : List UInt8) (v : Value) (k : Nat) (ts : List TK) (wr : World) : Prop where
  ks : k ≤ s.size
  own : OwnR wr w.heap.size v ts
  len : ts.length ≤ k
  bel : Below w.heap.size w wr
  all : ∃ n, alls l = pre ts (toks l (n + 1) k) ∧ l.length < n + 1 + k
  lim : s.size ≤ 60000 ∨ s.size ≤ k + cnt wsL (l.drop k)
theorem app_srcR {w1 : World} (tk tf tt : Nat) (tN : Int) (tU : Nat) (tx : List UInt8) (y : ByteArray) (hy : str tx = y) :
    ∀ j u, (tcs [⟨tk, tf, tt, tN, tU, tx, 0⟩])[j]? = some u → ((w1.alloc (.cells #[.int .i64 tk, .int .i64 tf, .int .i64 tt, .int .i64 tN, .int .u64 tU, .string y] 29)).alloc (.cells #[.int .i64 tk, .int .i64 tf, .int .i64 tt, .int .i64 tN, .int .u64 tU, .string y] 29)).cell? ((⟨w1.heap.size + 1, 0, none⟩ : Addr).add j) = some u := by
  intro j u h
  have h1 : ((⟨w1.heap.size + 1, 0, none⟩ : Addr).add j) = ⟨w1.heap.size + 1, j, none⟩ := by
    unfold Addr.add
    by_cases h : j = 0 <;> simp [h]
  have hb := (Blk.new (w1.alloc (.cells #[.int .i64 tk, .int .i64 tf, .int .i64 tt, .int .i64 tN, .int .u64 tU, .string y] 29)) 29 #[.int .i64 tk, .int .i64 tf, .int .i64 tt, .int .i64 tN, .int .u64 tU, .string y]).cell j
  rw [show (w1.alloc (.cells #[.int .i64 tk, .int .i64 tf, .int .i64 tt, .int .i64 tN, .int .u64 tU, .string y] 29)).heap.size = w1.heap.size + 1 by simp] at hb
  rw [h1, hb, ← hy]
  simpa [tcs, tc] using h
theorem RH.next {w wr w1 w' : World} {s : ByteArray} {l : List UInt8} {v v' : Value} {k tt : Nat} {ts : List TK} {t : TK} {a b : Obj} (h : RH w s l v k ts wr) (hb : Below wr.heap.size wr w1)
    (hown : OwnR w' w.heap.size v' (ts ++ [t])) (hg : Gr ((w1.alloc a).alloc b) w' v v') (hx : ∃ n, alls l = pre (ts ++ [t]) (toks l (n + 1) tt) ∧ l.length < n + 1 + tt) (hkt : k < tt) (hts : tt ≤ s.size) (hq : s.size ≤ 60000) : RH w s l v' tt (ts ++ [t]) w' := by
  have hb2 : Below wr.heap.size wr ((w1.alloc a).alloc b) := (hb.alloc hb.size _).alloc (Nat.le_trans hb.size (by simp)) _
  have hb3 := h.bel.trans (hb2.mono h.bel.size)
  refine ⟨hts, hown, by rw [List.length_append]; have := h.len; simp; omega, ?_, hx, Or.inl hq⟩
  exact hg.below hb3 hb3.size (fun q hq => (h.own.lt q hq).1)
set_option maxHeartbeats 4000000 in
set_option maxRecDepth 100000 in
theorem refAll_any (s : ByteArray) (l : List UInt8) (w : World) (hl : s.data.toList = l) (hs : s.size ≤ 1048576) (hq : s.size ≤ 60000 ∨ s.size ≤ cnt wsL l) :
    Calls Tryd.prog 15 #[.string s] w (AER w (alls l)) := by
  have hsz : s.size = l.length := by rw [Lib.size_eq, hl]
  have H1 : Hid (RH w s l (.slice none 0 0) 0 [] w) := Lib.hid ⟨Nat.zero_le _, World.ownsRow_nil _ _ _ _, Nat.le_refl _, Below.refl _ _, ⟨l.length, by rw [pre_nil]; rfl, by omega⟩, by rw [Nat.zero_add]; exact hq⟩
  have HSZ := Lib.hid hsz
  have HL := Lib.hid hl
  have d1 : decide ((1048576 : Int) < (s.size : Int)) = false := decide_eq_false (by omega)
  have d2 : decide (1048576 < s.size) = false := decide_eq_false (by omega)
  have HS := Lib.hid hs
  clear hsz hq hl hs
  go_enter Tryd.func15, Tryd.ntmps15
  go_wp2
  go_loopw [5, 6] (fun v i wr => ∃ (k : Nat) (ts : List TK), i = .int .i64 k ∧ Hid (RH w s l v k ts wr)) (fun _ i _ => s.size + 1 - (RowKit.intOf i).toNat)
  case atStart => exact ⟨0, [], rfl, H1⟩
  case round =>
    clear H1 d1 d2
    obtain ⟨k, ts, rfl, H⟩ := hrel
    have hks := H.out.ks
    obtain ⟨t, ht⟩ : ∃ t, tok l k = t := ⟨_, rfl⟩
    have hf := tok_facts l (k := k) (by rw [← HSZ.out]; exact hks)
    rw [ht] at hf
    obtain ⟨tk, tf, tt, tN, tU, tx, te⟩ := t
    obtain ⟨y, hy⟩ : ∃ y, str tx = y := ⟨_, rfl⟩
    have HT := Lib.hid ht
    have HY := Lib.hid hy
    have HN := Lib.hid (show Calls Tryd.prog 11 #[.string s, .int .i64 k] wr fun e w' => e = .returned (.tuple #[.agg #[.int .i64 tk, .int .i64 tf, .int .i64 tt, .int .i64 tN, .int .u64 tU, .string y], .int .i64 te]) ∧ Below wr.heap.size wr w' by
      refine (refNextT_any s l k wr HL.out hks (by have := HS.out; omega) H.out.lim).mono ?_
      rintro e w' ⟨rfl, hb⟩
      rw [ht]
      exact ⟨by rw [← hy]; rfl, hb⟩)
    clear ht hy
    by_cases he : te = 0
    · subst he
      rcases hf with ⟨_, hk0, hft, hff⟩ | ⟨_, hk1, hk2, hf1, hf2, hf3⟩ | ⟨he, _⟩
      · have hk0' : tk = 0 := hk0
        subst hk0'
        clear hft hff
        have HR := Lib.hid (show alls l = (ts, 0, 0) by
          obtain ⟨n, hn, _⟩ := H.out.all
          rw [hn, toks_end (by rw [HT.out]) (by rw [HT.out])])
        go_wp2_with (go_at_call 11; (with_reducible refine HN.out.mono ?_); rintro e1 w1 ⟨rfl, hb1⟩; have HB1 := Lib.hid hb1; clear hb1)
        go_ret3
        rw [HR.out]
        have hb2 := (H.out.bel.trans (HB1.out.mono H.out.bel.size)).alloc (Nat.le_trans H.out.bel.size HB1.out.size) (.cells #[.int .i64 0, .int .i64 tf, .int .i64 tt, .int .i64 tN, .int .u64 tU, .string y] 29)
        exact ⟨_, rfl, hb2, ownR_below H.out.own (HB1.out.alloc HB1.out.size _) (Nat.le_refl _)⟩
      · have hk0 : ((tk : Int) == 0) = false := by
          have : 1 ≤ tk := hk1
          simp; omega
        have HX := Lib.hid (show ∃ n, alls l = pre (ts ++ [⟨tk, tf, tt, tN, tU, tx, 0⟩]) (toks l (n + 1) tt) ∧ l.length < n + 1 + tt from by
          obtain ⟨n, hn, hl⟩ := H.out.all
          have hf1' : k ≤ tf := hf1
          have hf2' : tf < tt := hf2
          have hf3' : tt ≤ l.length := hf3
          cases n with
          | zero => omega
          | succ n => exact ⟨n, by rw [hn, toks_step (by rw [HT.out]) (by rw [HT.out]; show tk ≠ 0; have : 1 ≤ tk := hk1; omega), HT.out], by omega⟩)
        have HF := Lib.hid (show k < tt ∧ tt ≤ s.size from ⟨Nat.lt_of_le_of_lt hf1 hf2, by rw [HSZ.out]; exact hf3⟩)
        have HQ := Lib.hid (show s.size ≤ 60000 from by
          rcases H.out.lim with h | h
          · exact h
          · have ht := HT.out
            unfold tok at ht
            rw [if_pos (by rw [← HSZ.out]; exact h)] at ht
            injection ht with ht
            have : 1 ≤ tk := hk1
            omega)
        clear hf1 hf2 hf3 hk1 hk2
        go_wp2_with (first
          | (go_at_call 11; (with_reducible refine HN.out.mono ?_); rintro e1 w1 ⟨rfl, hb1⟩; have HB1 := Lib.hid hb1; clear hb1; have HOW := Lib.hid (ownR_below H.out.own ((HB1.out.alloc HB1.out.size (.cells #[.int .i64 tk, .int .i64 tf, .int .i64 tt, .int .i64 tN, .int .u64 tU, .string y] 29)).alloc (Nat.le_trans HB1.out.size (by simp)) (.cells #[.int .i64 tk, .int .i64 tf, .int .i64 tt, .int .i64 tN, .int .u64 tU, .string y] 29)) (Nat.le_refl _)); have HSR := Lib.hid (app_srcR (w1 := w1) tk tf tt tN tU tx y HY.out); have HLN := Lib.hid (show ts.length + [(⟨tk, tf, tt, tN, tU, tx, 0⟩ : TK)].length ≤ 1000000 by have := H.out.len; have := H.out.ks; have := HQ.out; simp; omega); have HBB := Lib.hid (show w.heap.size ≤ ((w1.alloc (.cells #[.int .i64 tk, .int .i64 tf, .int .i64 tt, .int .i64 tN, .int .u64 tU, .string y] 29)).alloc (.cells #[.int .i64 tk, .int .i64 tf, .int .i64 tt, .int .i64 tN, .int .u64 tU, .string y] 29)).heap.size by have := H.out.bel.size; have := HB1.out.size; simp; omega))
          | (at_builtin; (with_reducible refine wpList_appR2 rfl _ _ rfl rfl rfl rfl HOW.out HSR.out HLN.out HBB.out ?_); intro v' w' hown hgr; have hcell := (own_ltR H.out.own hgr (k := w1.heap.size) (by simp; omega) HB1.out.size 2).trans (by simp : _ = some (Value.int .i64 (tt : Int))); have HOWN := Lib.hid hown; have HGR := Lib.hid hgr; clear hown hgr))
        exact ⟨⟨tt, _, rfl, H.out.next HB1.out HOWN.out HGR.out HX.out HF.out.1 HF.out.2 HQ.out⟩, by have := HF.out; simp [RowKit.intOf]; omega⟩
      · exact absurd rfl he
    · have hne : ((te : Int) != 0) = true := by simp; omega
      have HR := Lib.hid (show alls l = ([], tf, te) by
        obtain ⟨n, hn, _⟩ := H.out.all
        rw [hn, toks_err (by rw [HT.out]; exact he)]
        rw [HT.out])
      clear hf he
      go_wp2_with (go_at_call 11; (with_reducible refine HN.out.mono ?_); rintro e1 w1 ⟨rfl, hb1⟩; have HB1 := Lib.hid hb1; clear hb1)
      go_quiet (fail)
      go_wp2
      go_ret3
      rw [HR.out]
      have hb2 := (H.out.bel.trans (HB1.out.mono H.out.bel.size)).alloc (Nat.le_trans H.out.bel.size HB1.out.size) (.cells #[.int .i64 tk, .int .i64 tf, .int .i64 tt, .int .i64 tN, .int .u64 tU, .string y] 29)
      exact ⟨_, rfl, below_drewN hb2 _, World.ownsRow_nil _ _ _ _⟩
end Go.Proofs.YtfmoiknpadilaaaDoor
