/-
  What is proved here: the walk of accordionlaw10.LexNexts; condition: the tables that package lex and its library read hold what is laid; and: the contract of the reference's All; condition: a string of at most 60000 bytes (or one of white space alone, of at most 1048576); and: the walk of accordionlaw10.LexAlls; condition: the tables that package lex and its library read hold what is laid; and: the walk of accordionlaw10.LexPlace; condition: the tables that package lex and its library read hold what is laid.
-/
import Derived.Test.YtodmlgbomhmbpaaGreatDoorLWorksW
import Derived.Test.YtodmlgbomhmbpaaGreatDoorLRefNx
import Derived.Test.YtodmlgbomhmbpaaGreatDoorLAllW
import Derived.StillTailTactics
import Derived.Test.YtodmlgbomhmbpaaGreatDoorLPl
import Derived.Deep.RegionLaw
import Derived.Deep.RegionHeld3
namespace Go.Proofs.YtodmlgbomhmbpaaGreatDoor
open Go.RowKit Ut Lx Go.Maps

/-- Both Nexts answer one and the same. -/
def TV (k f t : Nat) (N : Int) (U : Nat) (y : ByteArray) (e : Nat) : Value := .tuple #[.agg #[.int .i64 k, .int .i64 f, .int .i64 t, .int .i64 N, .int .u64 U, .string y], .int .i64 e]
theorem both (s : ByteArray) (at_ : Int) (hs : s.size ≤ 60000) : ∃ (k f t : Nat) (N : Int) (U : Nat) (y : ByteArray) (e : Nat),
    (∀ w0 W, SL w0 W → Calls Tryz.prog 11 #[.string s, .int .i64 at_] W fun x w' => x = .returned (TV k f t N U y e) ∧ SL w0 w' ∧ Below W.heap.size W w') ∧
    (∀ w0 W, SL w0 W → Calls Tryz.prog 12 #[.string s, .int .i64 at_] W fun x w' => x = .returned (TV k f t N U y e) ∧ SL w0 w' ∧ Below W.heap.size W w') := by
  by_cases h : 0 ≤ at_ ∧ at_ ≤ s.size
  · obtain ⟨k, rfl⟩ : ∃ k : Nat, at_ = (k : Int) := ⟨at_.toNat, by omega⟩
    have hk : k ≤ s.size := by omega
    refine ⟨(tok s.data.toList k).k, (tok s.data.toList k).f, (tok s.data.toList k).t, (tok s.data.toList k).N, (tok s.data.toList k).U, str (tok s.data.toList k).x, (tok s.data.toList k).e, fun w0 W hS => ?_, fun w0 W hS => ?_⟩
    · refine (Next_any s _ k W rfl hk (by omega) (Or.inl (by omega)) hS.lb).mono ?_
      rintro x w' ⟨rfl, hb⟩
      exact ⟨rfl, hS.step hb, hb⟩
    · refine (refNextT_any s _ k W rfl hk (by omega) (Or.inl (by omega))).mono ?_
      rintro x w' ⟨rfl, hb⟩
      exact ⟨rfl, hS.step hb, hb⟩
  · have h' : at_ < 0 ∨ (s.size : Int) < at_ := by omega
    refine ⟨0, 0, 0, 0, 0, ⟨#[]⟩, 6, fun w0 W hS => ?_, fun w0 W hS => ?_⟩
    · refine (Next_out s at_ W h').mono ?_
      rintro x w' ⟨rfl, hb⟩
      exact ⟨rfl, hS.step hb, hb⟩
    · refine (refNextT_out s at_ W h').mono ?_
      rintro x w' ⟨rfl, hb⟩
      exact ⟨rfl, hS.step hb, hb⟩
theorem same_S {w0 w : World} (k f t : Nat) (N : Int) (U : Nat) (y : ByteArray) (hS : SL w0 w) :
    Calls Tryz.prog 13 #[.agg #[.int .i64 k, .int .i64 f, .int .i64 t, .int .i64 N, .int .u64 U, .string y], .agg #[.int .i64 k, .int .i64 f, .int .i64 t, .int .i64 N, .int .u64 U, .string y]] w fun e w' => e = .returned (.bool true) ∧ SL w0 w' ∧ Below w.heap.size w w' := by
  refine (same_yes k f t N U y w).mono ?_
  rintro e w' ⟨rfl, hb⟩
  exact ⟨rfl, hS.step hb, hb⟩
set_option maxHeartbeats 2000000 in
set_option maxRecDepth 100000 in
theorem lexNexts_S (a : ByteArray) (at_ : Int) (w0 w : World) (hS : SL w0 w) (ha : a.size ≤ 9223372036854775807) :
    Calls Tryz.prog 4 #[.string a, .int .i64 at_] w (SE2 w0 (.bool true)) := by
  obtain ⟨s, hs⟩ : ∃ s, str (a.data.toList.take 600) = s := ⟨_, rfl⟩
  have hsz : s.size ≤ 60000 := by rw [← hs, str_size, List.length_take]; omega
  have C := short_any a 600 w ha
  rw [hs] at C
  have HC := Lib.hid (show Calls Tryz.prog 10 #[.string a, .int .i64 600] w fun e w' => e = .returned (.string s) ∧ w = w' from C)
  obtain ⟨k, f, t, N, U, y, e, B1, B2⟩ := both s at_ hsz
  have H1 := Lib.hid (fun W (h : SL w0 W) => (show Calls Tryz.prog 11 #[.string s, .int .i64 at_] W fun x w' => x = .returned (.tuple #[.agg #[.int .i64 k, .int .i64 f, .int .i64 t, .int .i64 N, .int .u64 U, .string y], .int .i64 e]) ∧ SL w0 w' ∧ Below W.heap.size W w' from B1 w0 W h))
  have H2 := Lib.hid (fun W (h : SL w0 W) => (show Calls Tryz.prog 12 #[.string s, .int .i64 at_] W fun x w' => x = .returned (.tuple #[.agg #[.int .i64 k, .int .i64 f, .int .i64 t, .int .i64 N, .int .u64 U, .string y], .int .i64 e]) ∧ SL w0 w' ∧ Below W.heap.size W w' from B2 w0 W h))
  have H3 := Lib.hid (fun W (h : SL w0 W) => same_S k f t N U y h)
  have HW := Lib.hid (fun W (h : SL w0 W) => works_S h)
  have HS := Lib.hid hS
  clear C B1 B2 hs hS
  go_enter Tryz.func4, Tryz.ntmps4
  go_wp2_with (first
    | (go_at_call 10; (with_reducible refine HC.out.mono ?_); rintro x w1 ⟨rfl, rfl⟩)
    | (go_at_call 11; (with_reducible refine (H1.out _ HS.out).mono ?_); rintro x w1 ⟨rfl, h1, hb1⟩; have HS1 := Lib.hid (h1.step ((Below.refl _ _).alloc (Nat.le_refl _) (.cells #[.int .i64 k, .int .i64 f, .int .i64 t, .int .i64 N, .int .u64 U, .string y] 36))); clear h1 hb1)
    | (go_at_call 12; (with_reducible refine (H2.out _ HS1.out).mono ?_); rintro x w2 ⟨rfl, h2, hb2⟩; have HS2 := Lib.hid (h2.step ((Below.refl _ _).alloc (Nat.le_refl _) (.cells #[.int .i64 k, .int .i64 f, .int .i64 t, .int .i64 N, .int .u64 U, .string y] 39))); obtain ⟨hc2, hf2⟩ := bcell hb2; have hz2 : w1.heap.size < w2.heap.size := (by have := hb2.size; simp at this; omega); clear h2 hb2)
    | (go_at_call 13; (with_reducible refine (H3.out _ HS2.out).mono ?_); rintro x w3 ⟨rfl, h3, hb3⟩; have HS3 := Lib.hid h3; clear h3 hb3)
    | (go_at_call 9; (with_reducible refine (HW.out _ HS3.out).mono ?_); rintro x w4 ⟨rfl, h4⟩; have HS4 := Lib.hid h4; clear h4))
  go_ret
  exact ⟨ret_bool (by simp), HS4.out⟩
theorem lexNexts_walk (a : ByteArray) (at_ : Int) (w : World) (hL : LB w.heap.size w) (ha : a.size ≤ 9223372036854775807) :
    Calls Tryz.prog 4 #[.string a, .int .i64 at_] w fun e w' => e = .returned (.bool true) ∧ Below w.heap.size w w' := by
  refine (lexNexts_S a at_ w w (SL.start hL) ha).mono ?_
  rintro e w' ⟨rfl, h⟩
  exact ⟨rfl, h.2⟩
end Go.Proofs.YtodmlgbomhmbpaaGreatDoor
namespace Go.Proofs.YtodmlgbomhmbpaaGreatDoor
open Go.RowKit Ut Lx

abbrev OwnR (w : World) (B : Nat) (v : Value) (ts : List TK) : Prop := w.ownsRow B 39 6 v ts.length (tcs ts)
theorem Tryz.infoR : (Tryz.prog.info? 39).map (fun i => (i.zero, i.size, i.bytes)) = some (some (.agg #[.int .i64 0, .int .i64 0, .int .i64 0, .int .i64 0, .int .u64 0, .string ⟨#[]⟩]), 6, 56) := by kernel_rfl
theorem run_appR2 {w : World} {B c : Nat} {v : Value} {xs ys : List TK} {ad : Addr} (ty : TypeId) (hown : OwnR w B v xs) (hr : ∀ j u, (tcs ys)[j]? = some u → w.cell? (ad.add j) = some u)
    (hb : xs.length + ys.length ≤ 1000000) (hB : B ≤ w.heap.size) :
    ∃ v' w', (Builtin.append_ #[43, 43] ty #[v, .slice (some ad) ys.length c]).run Tryz.prog w = .ok v' w' ∧ OwnR w' B v' (xs ++ ys) ∧ Gr w w' v v' := by
  obtain ⟨i, hi, hz0, hz1, hz2⟩ := info_parts Tryz.infoR
  obtain ⟨v', w', hrun, h2, h3, _, h5⟩ := run_append_own_at (P := Tryz.prog) w B 43 ty 39 i _ 6 56 Tryz.underlying43 hi hz0 hz1 hz2 rfl (by decide) v xs.length (tcs xs) hown ad ys.length c (tcs ys)
    (by rw [tcs_len]) hr (tcs_one ys) (by simp only [maxLen]; omega) (by omega) hB
  rw [tcs_app] at h2
  refine ⟨v', w', hrun, ?_, h3, ?_⟩
  · unfold OwnR; rw [List.length_append]; exact h2
  · rcases h5 with h5 | h5
    · exact Or.inl h5
    · exact Or.inr ⟨_, h5, Nat.le_refl _⟩
theorem wpList_appR2 {ops : Array Oper} {rest : List Oper} {o : Oper} {a : Act} {Q : Exit → Act → World → Prop} {w : World} {B m c : Nat} {v : Value} {xs ys : List TK} {ad : Addr}
    (hgd : o.guard = none) (s x : Operand) (ho : o.op = .call { callee := .builtin .append, args := #[s, x], argTypes := #[43, 43] })
    (hs : a.eval s = v) (hx : a.eval x = .slice (some ad) m c) (hm : m = ys.length) (hown : OwnR w B v xs) (hr : ∀ j u, (tcs ys)[j]? = some u → w.cell? (ad.add j) = some u) (hb : xs.length + ys.length ≤ 1000000) (hB : B ≤ w.heap.size)
    (h : ∀ v' w', OwnR w' B v' (xs ++ ys) → Gr w w' v v' → wpList Tryz.prog ops Q rest (a.put o.dst v') w') : wpList Tryz.prog ops Q (o :: rest) a w := by
  subst hm
  refine wpList_plain hgd fun K hK => ?_
  obtain ⟨v', w', hrun, h2, h3⟩ := run_appR2 o.type hown hr hb hB
  unfold Oper.wp execOp
  simp only [ho, resolve, invoke, builtin, Sem.run_bind, Sem.run_pure, Result.andThen_ok, List.map_toArray, List.map_cons, List.map_nil, hs, hx]
  rw [hrun]
  exact hK _ _ (h v' w' h2 h3)
theorem ownR_below {w w' : World} {B B' : Nat} {v : Value} {ts : List TK} (h : OwnR w B v ts) (hb : Below B' w w') (hB : w.heap.size ≤ B') : OwnR w' B v ts := by
  refine ⟨h.1, ?_⟩
  rcases h.2 with h0 | ⟨g, cap, cur, hv, hg, hh, r⟩
  · exact Or.inl h0
  · have hl := (h.lt g (by rw [hv]; rfl)).2
    exact Or.inr ⟨g, cap, cur, hv, hg, (hb.block g (by omega)).trans hh, r⟩
theorem own_ltR {w : World} {B : Nat} {v : Value} {ts : List TK} (h : OwnR w B v ts) {w1 w' : World} {o : Obj} {v' : Value} (hg : Gr (w1.alloc o) w' v v') {k : Nat} (hk : k < (w1.alloc o).heap.size) (hne : w.heap.size ≤ k) (i : Nat) :
    w'.cell? ⟨k, i, none⟩ = (w1.alloc o).cell? ⟨k, i, none⟩ :=
  World.cell?_of_block (hg.1.block k hk (fun e => by have := (h.lt k e.symm).2; omega))
def AER (w : World) (r : List TK × Nat × Nat) (e : Ending) (w' : World) : Prop := ∃ v, e = .returned (.tuple #[v, .int .i64 r.2.1, .int .i64 r.2.2]) ∧ Below w.heap.size w w' ∧ OwnR w' w.heap.size v r.1
structure RH (w : World) (s : ByteArray) (l : List UInt8) (v : Value) (k : Nat) (ts : List TK) (wr : World) : Prop where
  ks : k ≤ s.size
  own : OwnR wr w.heap.size v ts
  len : ts.length ≤ k
  bel : Below w.heap.size w wr
  all : ∃ n, alls l = pre ts (toks l (n + 1) k) ∧ l.length < n + 1 + k
  lim : s.size ≤ 60000 ∨ s.size ≤ k + cnt wsL (l.drop k)
theorem app_srcR {w1 : World} (tk tf tt : Nat) (tN : Int) (tU : Nat) (tx : List UInt8) (y : ByteArray) (hy : str tx = y) :
    ∀ j u, (tcs [⟨tk, tf, tt, tN, tU, tx, 0⟩])[j]? = some u → ((w1.alloc (.cells #[.int .i64 tk, .int .i64 tf, .int .i64 tt, .int .i64 tN, .int .u64 tU, .string y] 39)).alloc (.cells #[.int .i64 tk, .int .i64 tf, .int .i64 tt, .int .i64 tN, .int .u64 tU, .string y] 39)).cell? ((⟨w1.heap.size + 1, 0, none⟩ : Addr).add j) = some u := by
  intro j u h
  have h1 : ((⟨w1.heap.size + 1, 0, none⟩ : Addr).add j) = ⟨w1.heap.size + 1, j, none⟩ := by
    unfold Addr.add
    by_cases h : j = 0 <;> simp [h]
  have hb := (Blk.new (w1.alloc (.cells #[.int .i64 tk, .int .i64 tf, .int .i64 tt, .int .i64 tN, .int .u64 tU, .string y] 39)) 39 #[.int .i64 tk, .int .i64 tf, .int .i64 tt, .int .i64 tN, .int .u64 tU, .string y]).cell j
  rw [show (w1.alloc (.cells #[.int .i64 tk, .int .i64 tf, .int .i64 tt, .int .i64 tN, .int .u64 tU, .string y] 39)).heap.size = w1.heap.size + 1 by simp] at hb
  rw [h1, hb, ← hy]
  simpa [tcs, tc] using h
theorem RH.next {w wr w1 w' : World} {s : ByteArray} {l : List UInt8} {v v' : Value} {k tt : Nat} {ts : List TK} {t : TK} {a b : Obj} (h : RH w s l v k ts wr) (hb : Below wr.heap.size wr w1)
    (hown : OwnR w' w.heap.size v' (ts ++ [t])) (hg : Gr ((w1.alloc a).alloc b) w' v v') (hx : ∃ n, alls l = pre (ts ++ [t]) (toks l (n + 1) tt) ∧ l.length < n + 1 + tt) (hkt : k < tt) (hts : tt ≤ s.size) (hq : s.size ≤ 60000) : RH w s l v' tt (ts ++ [t]) w' := by
  have hb2 : Below wr.heap.size wr ((w1.alloc a).alloc b) := (hb.alloc hb.size _).alloc (Nat.le_trans hb.size (by simp)) _
  have hb3 := h.bel.trans (hb2.mono h.bel.size)
  refine ⟨hts, hown, by rw [List.length_append]; have := h.len; simp; omega, ?_, hx, Or.inl hq⟩
  exact hg.below hb3 hb3.size (fun q hq => (h.own.lt q hq).1)
set_option maxHeartbeats 4000000 in
set_option maxRecDepth 100000 in
theorem refAll_any (s : ByteArray) (l : List UInt8) (w : World) (hl : s.data.toList = l) (hs : s.size ≤ 1048576) (hq : s.size ≤ 60000 ∨ s.size ≤ cnt wsL l) :
    Calls Tryz.prog 14 #[.string s] w (AER w (alls l)) := by
  have hsz : s.size = l.length := by rw [Lib.size_eq, hl]
  have H1 : Hid (RH w s l (.slice none 0 0) 0 [] w) := Lib.hid ⟨Nat.zero_le _, World.ownsRow_nil _ _ _ _, Nat.le_refl _, Below.refl _ _, ⟨l.length, by rw [pre_nil]; rfl, by omega⟩, by rw [Nat.zero_add]; exact hq⟩
  have HSZ := Lib.hid hsz
  have HL := Lib.hid hl
  have d1 : decide ((1048576 : Int) < (s.size : Int)) = false := decide_eq_false (by omega)
  have d2 : decide (1048576 < s.size) = false := decide_eq_false (by omega)
  have HS := Lib.hid hs
  clear hsz hq hl hs
  go_enter Tryz.func14, Tryz.ntmps14
  go_wp2
  go_loopw [5, 6] (fun v i wr => ∃ (k : Nat) (ts : List TK), i = .int .i64 k ∧ Hid (RH w s l v k ts wr)) (fun _ i _ => s.size + 1 - (RowKit.intOf i).toNat)
  case atStart => exact ⟨0, [], rfl, H1⟩
  case round =>
    clear H1 d1 d2
    obtain ⟨k, ts, rfl, H⟩ := hrel
    have hks := H.out.ks
    obtain ⟨t, ht⟩ : ∃ t, tok l k = t := ⟨_, rfl⟩
    have hf := tok_facts l (k := k) (by rw [← HSZ.out]; exact hks)
    rw [ht] at hf
    obtain ⟨tk, tf, tt, tN, tU, tx, te⟩ := t
    obtain ⟨y, hy⟩ : ∃ y, str tx = y := ⟨_, rfl⟩
    have HT := Lib.hid ht
    have HY := Lib.hid hy
    have HN := Lib.hid (show Calls Tryz.prog 12 #[.string s, .int .i64 k] wr fun e w' => e = .returned (.tuple #[.agg #[.int .i64 tk, .int .i64 tf, .int .i64 tt, .int .i64 tN, .int .u64 tU, .string y], .int .i64 te]) ∧ Below wr.heap.size wr w' by
      refine (refNextT_any s l k wr HL.out hks (by have := HS.out; omega) H.out.lim).mono ?_
      rintro e w' ⟨rfl, hb⟩
      rw [ht]
      exact ⟨by rw [← hy]; rfl, hb⟩)
    clear ht hy
    by_cases he : te = 0
    · subst he
      rcases hf with ⟨_, hk0, hft, hff⟩ | ⟨_, hk1, hk2, hf1, hf2, hf3⟩ | ⟨he, _⟩
      · have hk0' : tk = 0 := hk0
        subst hk0'
        clear hft hff
        have HR := Lib.hid (show alls l = (ts, 0, 0) by
          obtain ⟨n, hn, _⟩ := H.out.all
          rw [hn, toks_end (by rw [HT.out]) (by rw [HT.out])])
        go_wp2_with (go_at_call 12; (with_reducible refine HN.out.mono ?_); rintro e1 w1 ⟨rfl, hb1⟩; have HB1 := Lib.hid hb1; clear hb1)
        go_ret3
        rw [HR.out]
        have hb2 := (H.out.bel.trans (HB1.out.mono H.out.bel.size)).alloc (Nat.le_trans H.out.bel.size HB1.out.size) (.cells #[.int .i64 0, .int .i64 tf, .int .i64 tt, .int .i64 tN, .int .u64 tU, .string y] 39)
        exact ⟨_, rfl, hb2, ownR_below H.out.own (HB1.out.alloc HB1.out.size _) (Nat.le_refl _)⟩
      · have hk0 : ((tk : Int) == 0) = false := by
          have : 1 ≤ tk := hk1
          simp; omega
        have HX := Lib.hid (show ∃ n, alls l = pre (ts ++ [⟨tk, tf, tt, tN, tU, tx, 0⟩]) (toks l (n + 1) tt) ∧ l.length < n + 1 + tt from by
          obtain ⟨n, hn, hl⟩ := H.out.all
          have hf1' : k ≤ tf := hf1
          have hf2' : tf < tt := hf2
          have hf3' : tt ≤ l.length := hf3
          cases n with
          | zero => omega
          | succ n => exact ⟨n, by rw [hn, toks_step (by rw [HT.out]) (by rw [HT.out]; show tk ≠ 0; have : 1 ≤ tk := hk1; omega), HT.out], by omega⟩)
        have HF := Lib.hid (show k < tt ∧ tt ≤ s.size from ⟨Nat.lt_of_le_of_lt hf1 hf2, by rw [HSZ.out]; exact hf3⟩)
        have HQ := Lib.hid (show s.size ≤ 60000 from by
          rcases H.out.lim with h | h
          · exact h
          · have ht := HT.out
            unfold tok at ht
            rw [if_pos (by rw [← HSZ.out]; exact h)] at ht
            injection ht with ht
            have : 1 ≤ tk := hk1
            omega)
        clear hf1 hf2 hf3 hk1 hk2
        go_wp2_with (first
          | (go_at_call 12; (with_reducible refine HN.out.mono ?_); rintro e1 w1 ⟨rfl, hb1⟩; have HB1 := Lib.hid hb1; clear hb1; have HOW := Lib.hid (ownR_below H.out.own ((HB1.out.alloc HB1.out.size (.cells #[.int .i64 tk, .int .i64 tf, .int .i64 tt, .int .i64 tN, .int .u64 tU, .string y] 39)).alloc (Nat.le_trans HB1.out.size (by simp)) (.cells #[.int .i64 tk, .int .i64 tf, .int .i64 tt, .int .i64 tN, .int .u64 tU, .string y] 39)) (Nat.le_refl _)); have HSR := Lib.hid (app_srcR (w1 := w1) tk tf tt tN tU tx y HY.out); have HLN := Lib.hid (show ts.length + [(⟨tk, tf, tt, tN, tU, tx, 0⟩ : TK)].length ≤ 1000000 by have := H.out.len; have := H.out.ks; have := HQ.out; simp; omega); have HBB := Lib.hid (show w.heap.size ≤ ((w1.alloc (.cells #[.int .i64 tk, .int .i64 tf, .int .i64 tt, .int .i64 tN, .int .u64 tU, .string y] 39)).alloc (.cells #[.int .i64 tk, .int .i64 tf, .int .i64 tt, .int .i64 tN, .int .u64 tU, .string y] 39)).heap.size by have := H.out.bel.size; have := HB1.out.size; simp; omega))
          | (at_builtin; (with_reducible refine wpList_appR2 rfl _ _ rfl rfl rfl rfl HOW.out HSR.out HLN.out HBB.out ?_); intro v' w' hown hgr; have hcell := (own_ltR H.out.own hgr (k := w1.heap.size) (by simp; omega) HB1.out.size 2).trans (by simp : _ = some (Value.int .i64 (tt : Int))); have HOWN := Lib.hid hown; have HGR := Lib.hid hgr; clear hown hgr))
        exact ⟨⟨tt, _, rfl, H.out.next HB1.out HOWN.out HGR.out HX.out HF.out.1 HF.out.2 HQ.out⟩, by have := HF.out; simp [RowKit.intOf]; omega⟩
      · exact absurd rfl he
    · have hne : ((te : Int) != 0) = true := by simp; omega
      have HR := Lib.hid (show alls l = ([], tf, te) by
        obtain ⟨n, hn, _⟩ := H.out.all
        rw [hn, toks_err (by rw [HT.out]; exact he)]
        rw [HT.out])
      clear hf he
      go_wp2_with (go_at_call 12; (with_reducible refine HN.out.mono ?_); rintro e1 w1 ⟨rfl, hb1⟩; have HB1 := Lib.hid hb1; clear hb1)
      go_quiet (fail)
      go_wp2
      go_ret3
      rw [HR.out]
      have hb2 := (H.out.bel.trans (HB1.out.mono H.out.bel.size)).alloc (Nat.le_trans H.out.bel.size HB1.out.size) (.cells #[.int .i64 tk, .int .i64 tf, .int .i64 tt, .int .i64 tN, .int .u64 tU, .string y] 39)
      exact ⟨_, rfl, below_drewN hb2 _, World.ownsRow_nil _ _ _ _⟩
end Go.Proofs.YtodmlgbomhmbpaaGreatDoor
namespace Go.Proofs.YtodmlgbomhmbpaaGreatDoor
open Go.RowKit Ut Lx Go.Maps

theorem OwnR.rd {w : World} {B : Nat} {v : Value} {ts : List TK} (h : OwnR w B v ts) : RdT w v ts := by
  rcases h.2 with ⟨rfl, h0⟩ | ⟨g, cap, cur, rfl, hg, hh, r⟩
  · refine ⟨none, 0, by rw [h0], fun hp => by omega⟩
  · refine ⟨_, cap, rfl, fun hp => ⟨g, rfl, (h.lt g rfl).2, fun j u hu => ?_⟩⟩
    have := h.cells (g := g) rfl j u hu
    rwa [add_zero_at] at this
theorem refAll_S {w0 w : World} (s : ByteArray) (hs : s.size ≤ 60000) (hS : SL w0 w) :
    Calls Tryz.prog 14 #[.string s] w fun e w' => ∃ v, e = .returned (.tuple #[v, .int .i64 ((alls s.data.toList).2.1 : Nat), .int .i64 ((alls s.data.toList).2.2 : Nat)]) ∧ SL w0 w' ∧ RdT w' v (alls s.data.toList).1 ∧ Below w.heap.size w w' := by
  refine (refAll_any s _ w rfl (by omega) (Or.inl (by omega))).mono ?_
  rintro e w' ⟨v, rfl, hb, ho⟩
  exact ⟨v, rfl, hS.step hb, ho.rd, hb⟩
/-- The cells of the token at place k. -/
theorem tcs_at {ts : List TK} {k : Nat} {t : TK} (h : ts[k]? = some t) (j : Nat) (hj : j < 6) : (tcs ts)[k * 6 + j]? = (tc t)[j]? := by
  induction ts generalizing k with
  | nil => cases h
  | cons x xs ih =>
    cases k with
    | zero =>
      injection h with h
      subst h
      show (tc x ++ tcs xs)[0 * 6 + j]? = _
      rw [show 0 * 6 + j = j by omega, List.getElem?_append_left (by simp [tc]; omega)]
    | succ k =>
      show (tc x ++ tcs xs)[(k + 1) * 6 + j]? = _
      rw [show (k + 1) * 6 + j = 6 + (k * 6 + j) by omega, List.getElem?_append_right (by simp [tc])]
      rw [show 6 + (k * 6 + j) - (tc x).length = k * 6 + j by simp [tc]]
      exact ih (by simpa using h)
theorem tok_cells {w : World} {g : Nat} {ts : List TK} {k : Nat} {t : TK} {y : ByteArray} (hc : ∀ j u, (tcs ts)[j]? = some u → w.cell? ⟨g, j, none⟩ = some u) (h : ts[k]? = some t) (hy : str t.x = y) :
    w.cell? ⟨g, k * 6, none⟩ = some (.int .i64 t.k) ∧ w.cell? ⟨g, k * 6 + 1, none⟩ = some (.int .i64 t.f) ∧ w.cell? ⟨g, k * 6 + 2, none⟩ = some (.int .i64 t.t) ∧
    w.cell? ⟨g, k * 6 + 3, none⟩ = some (.int .i64 t.N) ∧ w.cell? ⟨g, k * 6 + 4, none⟩ = some (.int .u64 t.U) ∧ w.cell? ⟨g, k * 6 + 5, none⟩ = some (.string y) := by
  subst hy
  exact ⟨hc _ _ (tcs_at h 0 (by omega)), hc _ _ (tcs_at h 1 (by omega)), hc _ _ (tcs_at h 2 (by omega)), hc _ _ (tcs_at h 3 (by omega)), hc _ _ (tcs_at h 4 (by omega)), hc _ _ (tcs_at h 5 (by omega))⟩
theorem toks_len (l : List UInt8) : ∀ (n k : Nat), (toks l n k).1.length ≤ n
  | 0, k => by simp [toks]
  | n + 1, k => by
    have ih := toks_len l n (tok l k).t
    rw [toks_succ]
    split
    · simp
    · split
      · simp
      · unfold pre
        split
        · simp
        · simp; omega
theorem alls_len {s : ByteArray} {ts : List TK} {p x : Nat} (h : alls s.data.toList = (ts, p, x)) (hs : s.size ≤ 60000) : ts.length ≤ 60001 := by
  have h1 := toks_len s.data.toList (s.data.toList.length + 1) 0
  rw [show toks s.data.toList (s.data.toList.length + 1) 0 = alls s.data.toList from rfl, h, ← Lib.size_eq] at h1
  have h2 : ts.length ≤ s.size + 1 := h1
  omega
structure AW (w0 : World) (v1 v2 : Value) (ts : List TK) (w : World) : Prop where
  sl : SL w0 w
  r1 : RdT w v1 ts
  r2 : RdT w v2 ts
theorem AW.step {w0 w w' : World} {v1 v2 : Value} {ts : List TK} (h : AW w0 v1 v2 ts w) (hb : Below w.heap.size w w') : AW w0 v1 v2 ts w' :=
  ⟨h.sl.step hb, h.r1.below hb (Nat.le_refl _), h.r2.below hb (Nat.le_refl _)⟩
set_option maxHeartbeats 2000000 in
set_option maxRecDepth 100000 in
theorem lexAlls_S (a : ByteArray) (w0 w : World) (hS : SL w0 w) (ha : a.size ≤ 9223372036854775807) :
    Calls Tryz.prog 5 #[.string a] w (SE2 w0 (.bool true)) := by
  obtain ⟨s, hs⟩ : ∃ s, str (a.data.toList.take 600) = s := ⟨_, rfl⟩
  have hsz : s.size ≤ 60000 := by rw [← hs, str_size, List.length_take]; omega
  have C := short_any a 600 w ha
  rw [hs] at C
  have HC := Lib.hid (show Calls Tryz.prog 10 #[.string a, .int .i64 600] w fun e w' => e = .returned (.string s) ∧ w = w' from C)
  obtain ⟨ts, p, x, hr⟩ : ∃ ts p x, alls s.data.toList = (ts, p, x) := ⟨_, _, _, rfl⟩
  have HA := Lib.hid (show Calls Tryz.prog 7 #[.string s] w fun e w' => ∃ v, e = .returned (.tuple #[v, .int .i64 (p : Nat), .int .i64 (x : Nat)]) ∧ SL w0 w' ∧ RdT w' v ts by
    refine (all_S s hsz hS).mono ?_
    rintro e w' ⟨v, rfl, h1, h2, _⟩
    rw [hr] at h2 ⊢
    exact ⟨v, rfl, h1, h2⟩)
  have HB := Lib.hid (fun W (h : SL w0 W) => (show Calls Tryz.prog 14 #[.string s] W fun e w' => ∃ v, e = .returned (.tuple #[v, .int .i64 (p : Nat), .int .i64 (x : Nat)]) ∧ SL w0 w' ∧ RdT w' v ts ∧ Below W.heap.size W w' by
    refine (refAll_S s hsz h).mono ?_
    rintro e w' ⟨v, rfl, h1, h2, h3⟩
    rw [hr] at h2 ⊢
    exact ⟨v, rfl, h1, h2, h3⟩))
  have HW := Lib.hid (fun W (h : SL w0 W) => works_S h)
  have htl := alls_len hr hsz
  clear C hs hS hr
  go_enter Tryz.func5, Tryz.ntmps5
  go_wp2_with (first
    | (go_at_call 10; (with_reducible refine HC.out.mono ?_); rintro x1 w1 ⟨rfl, rfl⟩)
    | (go_at_call 7; (with_reducible refine HA.out.mono ?_); rintro x1 w1 ⟨v1, rfl, h1, hr1⟩; obtain ⟨A1, c1, rfl, hq1⟩ := hr1; have HS1 := Lib.hid h1; have HR1 := Lib.hid (show RdT w1 (.slice A1 ts.length c1) ts from ⟨A1, c1, rfl, hq1⟩); clear h1 hq1)
    | (go_at_call 14; (with_reducible refine (HB.out _ HS1.out).mono ?_); rintro x1 w2 ⟨v2, rfl, h2, hr2, hb2⟩; obtain ⟨A2, c2, rfl, hq2⟩ := hr2; have HAW := Lib.hid (show AW w0 (.slice A1 ts.length c1) (.slice A2 ts.length c2) ts w2 from ⟨h2, HR1.out.below hb2 (Nat.le_refl _), ⟨A2, c2, rfl, hq2⟩⟩); clear h2 hq2 hb2))
  go_loopw [9] (fun v wr => ∃ k : Nat, k ≤ ts.length ∧ v = .int .i64 k ∧ Hid (AW w0 (.slice A1 ts.length c1) (.slice A2 ts.length c2) ts wr)) (fun v _ => ts.length + 1 - (RowKit.intOf v).toNat)
  case atStart => exact ⟨0, Nat.zero_le _, rfl, HAW⟩
  case round =>
    clear HAW HS1 HR1
    obtain ⟨k, hk, rfl, H⟩ := hrel
    by_cases hlt : k < ts.length
    · have d1 : decide ((k : Int) < (ts.length : Int)) = true := decide_eq_true (by omega)
      have d2 : decide (k < ts.length) = true := decide_eq_true hlt
      have i1 : (0 : Int) ≤ (k : Int) := by omega
      have i2 : (k : Int) < (ts.length : Int) := by omega
      obtain ⟨t, ht⟩ : ∃ t, ts[k]? = some t := ⟨_, List.getElem?_eq_getElem hlt⟩
      obtain ⟨y, hy⟩ : ∃ y, str t.x = y := ⟨_, rfl⟩
      obtain ⟨A, c, hA, hq⟩ := H.out.r1
      injection hA with e1 _ e2
      subst e1; subst e2
      obtain ⟨g1, rfl, hg1, hc1⟩ := hq (by omega)
      obtain ⟨a0, a1, a2, a3, a4, a5⟩ := tok_cells hc1 ht hy
      obtain ⟨B, c', hB, hq'⟩ := H.out.r2
      injection hB with e3 _ e4
      subst e3; subst e4
      obtain ⟨g2, rfl, hg2, hc2⟩ := hq' (by omega)
      obtain ⟨b0, b1, b2, b3, b4, b5⟩ := tok_cells hc2 ht hy
      have HSM := Lib.hid (fun W => same_yes t.k t.f t.t t.N t.U y W)
      clear hq hq' hc1 hc2 ht hy
      go_wp2_with fail
      go_still_tail 8, (by kernel_rfl)
      change wpList _ _ _ _ _ wr.drew
      go_wp2_with (go_at_call 13; (with_reducible refine (HSM.out _).mono ?_); rintro x1 w3 ⟨rfl, hb3⟩; have HB3 := Lib.hid hb3; clear hb3)
      go_roundw
      case rel => exact ⟨k + 1, by omega, by go_num, H.out.step (((Below.refl wr.heap.size wr).drew).trans HB3.out)⟩
      case measure => simp [RowKit.intOf]; omega
    · have d1 : decide ((k : Int) < (ts.length : Int)) = false := decide_eq_false (by omega)
      have d2 : decide (k < ts.length) = false := decide_eq_false hlt
      go_wp2_with (go_at_call 9; (with_reducible refine (HW.out _ H.out.sl).mono ?_); rintro x1 w4 ⟨rfl, h4⟩; have HS4 := Lib.hid h4; clear h4)
      go_ret
      exact ⟨ret_bool (by simp), HS4.out⟩
theorem lexAlls_walk (a : ByteArray) (w : World) (hL : LB w.heap.size w) (ha : a.size ≤ 9223372036854775807) :
    Calls Tryz.prog 5 #[.string a] w fun e w' => e = .returned (.bool true) ∧ Below w.heap.size w w' := by
  refine (lexAlls_S a w w (SL.start hL) ha).mono ?_
  rintro e w' ⟨rfl, h⟩
  exact ⟨rfl, h.2⟩
end Go.Proofs.YtodmlgbomhmbpaaGreatDoor
namespace Go.Proofs.YtodmlgbomhmbpaaGreatDoor
open Go.RowKit Ut Lx Go.Maps

theorem next0_S {w0 w : World} (s : ByteArray) (hs : s.size ≤ 60000) (k f t : Nat) (N : Int) (U : Nat) (x : List UInt8) (e : Nat) (h : tok s.data.toList 0 = ⟨k, f, t, N, U, x, e⟩) (hS : SL w0 w) :
    Calls Tryz.prog 11 #[.string s, .int .i64 0] w fun r w' => r = .returned (.tuple #[.agg #[.int .i64 k, .int .i64 f, .int .i64 t, .int .i64 N, .int .u64 U, .string (str x)], .int .i64 e]) ∧ SL w0 w' ∧ Below w.heap.size w w' := by
  refine (show Calls Tryz.prog 11 #[.string s, .int .i64 0] w (TKE w (tok s.data.toList 0)) from Next_any s _ 0 w rfl (Nat.zero_le _) (by omega) (Or.inl (by omega)) hS.lb).mono ?_
  rintro r w' ⟨rfl, hb⟩
  rw [h]
  exact ⟨rfl, hS.step hb, hb⟩
theorem shortS {w0 w : World} (s : ByteArray) (m : Nat) (hs : s.size ≤ 9223372036854775807) (hS : SL w0 w) :
    Calls Tryz.prog 10 #[.string s, .int .i64 (m : Int)] w fun e w' => e = .returned (.string (str (s.data.toList.take m))) ∧ SL w0 w' := by
  refine (short_any s m w hs).mono ?_
  rintro e w' ⟨rfl, rfl⟩
  exact ⟨rfl, hS⟩
theorem str_app3 (a b : List UInt8) : str a ++ str b = str (a ++ b) := by
  unfold str
  apply ByteArray.ext
  simp
set_option maxHeartbeats 4000000 in
set_option maxRecDepth 1000000 in
theorem place_yes (a b : ByteArray) (w0 w : World) (hS : SL w0 w) (ha : a.size ≤ 9223372036854775807) (s : ByteArray) (hs : str (a.data.toList.take 300) = s) (hsz : s.size ≤ 300) (k f t : Nat) (N : Int) (U : Nat) (x : List UInt8) (e : Nat)
    (h : tok s.data.toList 0 = ⟨k, f, t, N, U, x, e⟩) (he : e = 0 ∨ e = 101) :
    Calls Tryz.prog 6 #[.string a, .string b] w (SE2 w0 (.bool true)) := by
  have C := shortS a 300 ha hS
  rw [hs] at C
  have HC := Lib.hid (show Calls Tryz.prog 10 #[.string a, .int .i64 300] w fun e w' => e = .returned (.string s) ∧ SL w0 w' from C)
  obtain ⟨y, hy⟩ : ∃ y, str x = y := ⟨_, rfl⟩
  have H1 := Lib.hid (fun W (hW : SL w0 W) => next0_S s (by omega) k f t N U x e h hW)
  rw [hy] at H1
  have HW := Lib.hid (fun W (h : SL w0 W) => works_S h)
  clear C hs hS h hy
  rcases he with rfl | rfl
  all_goals
    go_enter Tryz.func6, Tryz.ntmps6
    go_wp2_with (first
      | (go_at_call 10; (with_reducible refine HC.out.mono ?_); rintro x1 w1 ⟨rfl, h1⟩; have HS1 := Lib.hid h1; clear h1)
      | (go_at_call 11; (with_reducible refine (H1.out _ HS1.out).mono ?_); rintro x1 w2 ⟨rfl, h2, hb2⟩; have HS2 := Lib.hid (h2.step ((Below.refl _ _).alloc (Nat.le_refl _) (.cells #[.int .i64 k, .int .i64 f, .int .i64 t, .int .i64 N, .int .u64 U, .string y] 36))); clear h2 hb2)
      | (go_at_call 9; (with_reducible refine (HW.out _ HS2.out).mono ?_); rintro x1 w4 ⟨rfl, h4⟩; have HS4 := Lib.hid h4; clear h4))
    go_ret
    exact ⟨ret_bool (by simp), HS4.out⟩
set_option maxHeartbeats 4000000 in
set_option maxRecDepth 1000000 in
theorem place_no (a b : ByteArray) (w0 w : World) (hS : SL w0 w) (ha : a.size ≤ 9223372036854775807) (hb : b.size ≤ 9223372036854775807) (s : ByteArray) (hs : str (a.data.toList.take 300) = s) (hsz : s.size ≤ 300) (p e : Nat) (h0 : e ≠ 0) (h1 : e ≠ 101)
    (h : tok s.data.toList 0 = ⟨0, p, p, 0, 0, [], e⟩) :
    Calls Tryz.prog 6 #[.string a, .string b] w (SE2 w0 (.bool true)) := by
  have hP := tok_place s.data.toList (by rw [h]; exact h0) (by rw [h]; exact h1)
  rw [h] at hP
  obtain ⟨p1, _, p3, p4⟩ := hP
  have hpl : p ≤ s.size := by rw [Lib.size_eq]; exact p1
  have C := shortS a 300 ha hS
  rw [hs] at C
  have HC := Lib.hid (show Calls Tryz.prog 10 #[.string a, .int .i64 300] w fun e w' => e = .returned (.string s) ∧ SL w0 w' from C)
  have H1 := Lib.hid (fun W (hW : SL w0 W) => (show Calls Tryz.prog 11 #[.string s, .int .i64 0] W fun r w' => r = .returned (.tuple #[.agg #[.int .i64 0, .int .i64 p, .int .i64 p, .int .i64 0, .int .u64 0, .string ⟨#[]⟩], .int .i64 e]) ∧ SL w0 w' ∧ Below W.heap.size W w' from next0_S s (by omega) 0 p p 0 0 [] e h hW))
  obtain ⟨⟨k2, f2, t2, N2, U2, x2, e2⟩, h2⟩ : ∃ t, tok (s.data.toList.take p) 0 = t := ⟨_, rfl⟩
  have p3' : e2 = 0 ∨ f2 = p := by
    have hq : (tok (s.data.toList.take p) 0).e = 0 ∨ (tok (s.data.toList.take p) 0).f = p := p3
    rw [h2] at hq
    exact hq
  obtain ⟨y2, hy2⟩ : ∃ y, str x2 = y := ⟨_, rfl⟩
  obtain ⟨z, hz⟩ : ∃ z, s.extract 0 p = z := ⟨_, rfl⟩
  have hzd : z.data.toList = s.data.toList.take p := by rw [← hz]; exact lx_take s p
  have hzs : z.size ≤ 60000 := by rw [← hz, ByteArray.size_extract]; omega
  have H2 := Lib.hid (fun W (hW : SL w0 W) => next0_S z hzs k2 f2 t2 N2 U2 x2 e2 (by rw [hzd]; exact h2) hW)
  rw [hy2] at H2
  have HZ := Lib.hid hz
  have HW := Lib.hid (fun W (h : SL w0 W) => works_S h)
  have q0 : ((e : Int) == 0) = false := by simp; omega
  have q1 : ((e : Int) == 101) = false := by simp; omega
  have g1 : decide ((p : Int) < 0) = false := decide_eq_false (by omega)
  have g2 : decide ((s.size : Int) < (p : Int)) = false := decide_eq_false (by omega)
  have g3 : decide (s.size < p) = false := decide_eq_false (by omega)
  have i1 : (0 : Int) ≤ (p : Int) := by omega
  have i2 : (p : Int) ≤ (s.size : Int) := by omega
  have HP4 := Lib.hid p4
  have HB := Lib.hid hb
  have HSS := Lib.hid (show s.data.toList.length = s.size from (Lib.size_eq s).symm)
  clear p1 p3 p4 C hs hS h h0 h1 h2 hy2 hz hzd hzs hb
  rcases Nat.eq_zero_or_pos e2 with he2 | he2
  · skip
    first
      | (have r0 : ((e2 : Int) != 0) = false := by (rw [he2]; rfl))
      | (have r0 : ((e2 : Int) != 0) = true := by (simp; omega))
    first
      | (have r1 : ((f2 : Int) != (p : Int)) = false := by
          (have := p3'
           simp
           omega))
      | skip
    clear p3' he2
    by_cases hpe : p = s.size
    · have b1 : ((p : Int) == (s.size : Int)) = true := by rw [beq_iff_eq]; omega
      clear hpe HP4
      go_enter Tryz.func6, Tryz.ntmps6
      go_wp2_with (first
        | (go_at_call 10; (with_reducible refine HC.out.mono ?_); rintro x1 w1 ⟨rfl, h1⟩; have HS1 := Lib.hid h1; clear h1)
        | (go_at_call 11; (with_reducible refine (H1.out _ HS1.out).mono ?_); rintro x1 w2 ⟨rfl, h2, hb2⟩; have HS2 := Lib.hid (h2.step ((Below.refl _ _).alloc (Nat.le_refl _) (.cells #[.int .i64 0, .int .i64 p, .int .i64 p, .int .i64 0, .int .u64 0, .string ⟨#[]⟩] 36))); clear h2 hb2)
        | (go_at_call 11; rw [HZ.out]; (with_reducible refine (H2.out _ HS2.out).mono ?_); rintro x1 w3 ⟨rfl, h3, hb3⟩; have HSD := Lib.hid ((h3.step ((Below.refl _ _).alloc (Nat.le_refl _) (.cells #[.int .i64 k2, .int .i64 f2, .int .i64 t2, .int .i64 N2, .int .u64 U2, .string y2] 36))).step (Below.refl _ _).drew); clear h3 hb3))
      refine wp_region_held_drew (S := fun _ => True) (by kernel_rfl) trivial (fun _ => ?_)
      refine wpAnyH_take (i := 0) (oi := { dst := some 49, op := Op.move (Operand.tmp 7), type := 3, pos := "outright.go:159", after := #[], guard := none }) (v := ?v0a) rfl (by kernel_rfl) (by kernel_rfl) (by kernel_rfl) (fun _ _ _ h => h) (Or.inl ⟨by rfl, ?hy0a⟩) trivial ?r0a
      case hy0a =>
        intro wz _
        go_simp <;> with_reducible rfl
      simp only [Act.put, List.setIfInBounds_toArray, List.set_cons_succ, List.set_cons_zero]
      refine wpAnyH_take (i := 1) (oi := { dst := some 50, op := Op.move (Operand.tmp 0), type := 9, pos := "outright.go:159", after := #[], guard := none }) (v := ?v1a) rfl (by kernel_rfl) (by kernel_rfl) (by kernel_rfl) (fun _ _ _ h => h) (Or.inl ⟨by rfl, ?hy1a⟩) trivial ?r1a
      case hy1a =>
        intro wz _
        go_simp <;> with_reducible rfl
      simp only [Act.put, List.setIfInBounds_toArray, List.set_cons_succ, List.set_cons_zero]
      refine wpAnyH_take (i := 2) (oi := { dst := some 51, op := Op.call { callee := Callee.builtin Builtin.len, args := #[Operand.tmp 50], argTypes := #[9] }, type := 3, pos := "outright.go:159", after := #[{ on := 1, ground := Ground.data }], guard := none }) (v := ?v2a) rfl (by kernel_rfl) (by kernel_rfl) (by kernel_rfl) (fun _ _ _ h => h) (Or.inl ⟨by rfl, ?hy2a⟩) trivial ?r2a
      case hy2a =>
        intro wz _
        go_simp <;> with_reducible rfl
      simp only [Act.put, List.setIfInBounds_toArray, List.set_cons_succ, List.set_cons_zero]
      refine wpAnyH_take (i := 3) (oi := { dst := some 52, op := Op.binOp BinOp.eql 3 (Operand.tmp 49) (Operand.tmp 51) 3, type := 4, pos := "outright.go:159", after := #[{ on := 0, ground := Ground.data }, { on := 2, ground := Ground.data }], guard := none }) (v := ?v3a) rfl (by kernel_rfl) (by kernel_rfl) (by kernel_rfl) (fun _ _ _ h => h) (Or.inl ⟨by rfl, ?hy3a⟩) trivial ?r3a
      case hy3a =>
        intro wz _
        go_simp <;> with_reducible rfl
      simp only [Act.put, List.setIfInBounds_toArray, List.set_cons_succ, List.set_cons_zero]
      refine wpAnyH_take (i := 4) (oi := { dst := some 53, op := Op.move (Operand.tmp 52), type := 4, pos := "outright.go:159", after := #[{ on := 3, ground := Ground.data }], guard := none }) (v := ?v4a) rfl (by kernel_rfl) (by kernel_rfl) (by kernel_rfl) (fun _ _ _ h => h) (Or.inl ⟨by rfl, ?hy4a⟩) trivial ?r4a
      case hy4a =>
        intro wz _
        go_simp <;> with_reducible rfl
      simp only [Act.put, List.setIfInBounds_toArray, List.set_cons_succ, List.set_cons_zero]
      refine wpAnyH_take (i := 5) (oi := { dst := some 54, op := Op.move (Operand.tmp 0), type := 9, pos := "outright.go:159", after := #[{ on := 4, ground := Ground.guard }], guard := some (4, false) }) (v := undef) rfl (by kernel_rfl) (by kernel_rfl) (by kernel_rfl) (fun _ _ _ h => h) (Or.inr ⟨by rfl, rfl⟩) trivial ?_
      simp only [Act.put, List.setIfInBounds_toArray, List.set_cons_succ, List.set_cons_zero]
      refine wpAnyH_take (i := 6) (oi := { dst := some 55, op := Op.move (Operand.tmp 7), type := 3, pos := "outright.go:159", after := #[{ on := 4, ground := Ground.guard }], guard := some (4, false) }) (v := undef) rfl (by kernel_rfl) (by kernel_rfl) (by kernel_rfl) (fun _ _ _ h => h) (Or.inr ⟨by rfl, rfl⟩) trivial ?_
      simp only [Act.put, List.setIfInBounds_toArray, List.set_cons_succ, List.set_cons_zero]
      refine wpAnyH_take (i := 7) (oi := { dst := some 56, op := Op.binOp BinOp.add 3 (Operand.tmp 55) (Operand.const (Value.int IntKind.i64 1)) 3, type := 3, pos := "outright.go:159", after := #[{ on := 6, ground := Ground.data }, { on := 4, ground := Ground.guard }], guard := some (4, false) }) (v := undef) rfl (by kernel_rfl) (by kernel_rfl) (by kernel_rfl) (fun _ _ _ h => h) (Or.inr ⟨by rfl, rfl⟩) trivial ?_
      simp only [Act.put, List.setIfInBounds_toArray, List.set_cons_succ, List.set_cons_zero]
      refine wpAnyH_take (i := 8) (oi := { dst := some 57, op := Op.slice 9 (Operand.tmp 54) none (some (Operand.tmp 56)) none, type := 9, pos := "outright.go:159", after := #[{ on := 5, ground := Ground.data }, { on := 7, ground := Ground.data }, { on := 4, ground := Ground.guard }], guard := some (4, false) }) (v := undef) rfl (by kernel_rfl) (by kernel_rfl) (by kernel_rfl) (fun _ _ _ h => h) (Or.inr ⟨by rfl, rfl⟩) trivial ?_
      simp only [Act.put, List.setIfInBounds_toArray, List.set_cons_succ, List.set_cons_zero]
      refine wpAnyH_take (i := 9) (oi := { dst := some 58, op := Op.move (Operand.tmp 1), type := 9, pos := "outright.go:159", after := #[{ on := 4, ground := Ground.guard }], guard := some (4, false) }) (v := undef) rfl (by kernel_rfl) (by kernel_rfl) (by kernel_rfl) (fun _ _ _ h => h) (Or.inr ⟨by rfl, rfl⟩) trivial ?_
      simp only [Act.put, List.setIfInBounds_toArray, List.set_cons_succ, List.set_cons_zero]
      refine wpAnyH_take (i := 10) (oi := { dst := some 59, op := Op.call { callee := Callee.value (Operand.func 10), args := #[Operand.tmp 58, Operand.const (Value.int IntKind.i64 60)], argTypes := #[9, 3] }, type := 9, pos := "outright.go:159", after := #[{ on := 9, ground := Ground.data }, { on := 4, ground := Ground.chain }, { on := 4, ground := Ground.guard }], guard := some (4, false) }) (v := undef) rfl (by kernel_rfl) (by kernel_rfl) (by kernel_rfl) (fun _ _ _ h => h) (Or.inr ⟨by rfl, rfl⟩) trivial ?_
      simp only [Act.put, List.setIfInBounds_toArray, List.set_cons_succ, List.set_cons_zero]
      refine wpAnyH_take (i := 11) (oi := { dst := some 60, op := Op.binOp BinOp.add 9 (Operand.tmp 57) (Operand.tmp 59) 9, type := 9, pos := "outright.go:159", after := #[{ on := 8, ground := Ground.data }, { on := 10, ground := Ground.data }, { on := 4, ground := Ground.guard }], guard := some (4, false) }) (v := undef) rfl (by kernel_rfl) (by kernel_rfl) (by kernel_rfl) (fun _ _ _ h => h) (Or.inr ⟨by rfl, rfl⟩) trivial ?_
      simp only [Act.put, List.setIfInBounds_toArray, List.set_cons_succ, List.set_cons_zero]
      refine wpAnyH_take (i := 12) (oi := { dst := some 61, op := Op.move (Operand.tmp 7), type := 3, pos := "outright.go:159", after := #[{ on := 4, ground := Ground.guard }], guard := some (4, false) }) (v := undef) rfl (by kernel_rfl) (by kernel_rfl) (by kernel_rfl) (fun _ _ _ h => h) (Or.inr ⟨by rfl, rfl⟩) trivial ?_
      simp only [Act.put, List.setIfInBounds_toArray, List.set_cons_succ, List.set_cons_zero]
      refine wpAnyH_take (i := 13) (oi := { dst := some 62, op := Op.move (Operand.tmp 6), type := 29, pos := "outright.go:159", after := #[{ on := 4, ground := Ground.guard }], guard := some (4, false) }) (v := undef) rfl (by kernel_rfl) (by kernel_rfl) (by kernel_rfl) (fun _ _ _ h => h) (Or.inr ⟨by rfl, rfl⟩) trivial ?_
      simp only [Act.put, List.setIfInBounds_toArray, List.set_cons_succ, List.set_cons_zero]
      refine wpAnyH_take (i := 14) (oi := { dst := some 63, op := Op.call { callee := Callee.value (Operand.func 15), args := #[Operand.tmp 60, Operand.const (Value.int IntKind.i64 0), Operand.tmp 61, Operand.tmp 62], argTypes := #[9, 3, 3, 29] }, type := 4, pos := "outright.go:159", after := #[{ on := 11, ground := Ground.data }, { on := 12, ground := Ground.data }, { on := 13, ground := Ground.data }, { on := 10, ground := Ground.chain }, { on := 4, ground := Ground.guard }], guard := some (4, false) }) (v := undef) rfl (by kernel_rfl) (by kernel_rfl) (by kernel_rfl) (fun _ _ _ h => h) (Or.inr ⟨by rfl, rfl⟩) trivial ?_
      simp only [Act.put, List.setIfInBounds_toArray, List.set_cons_succ, List.set_cons_zero]
      refine wpAnyH_take (i := 15) (oi := { dst := some 64, op := Op.pick (Operand.tmp 53) (Operand.const (Value.bool true)) (Operand.tmp 63), type := 4, pos := "outright.go:159", after := #[{ on := 4, ground := Ground.data }, { on := 14, ground := Ground.data }], guard := none }) (v := ?v15a) rfl (by kernel_rfl) (by kernel_rfl) (by kernel_rfl) (fun _ _ _ h => h) (Or.inl ⟨by rfl, ?hy15a⟩) trivial ?r15a
      case hy15a =>
        intro wz _
        go_simp <;> with_reducible rfl
      simp only [Act.put, List.setIfInBounds_toArray, List.set_cons_succ, List.set_cons_zero]
      refine wpAnyH_take (i := 16) (oi := { dst := some 65, op := Op.move (Operand.tmp 64), type := 4, pos := "outright.go:159", after := #[{ on := 15, ground := Ground.data }, { on := 14, ground := Ground.chain }], guard := none }) (v := ?v16a) rfl (by kernel_rfl) (by kernel_rfl) (by kernel_rfl) (fun _ _ _ h => h) (Or.inl ⟨by rfl, ?hy16a⟩) trivial ?r16a
      case hy16a =>
        intro wz _
        go_simp <;> with_reducible rfl
      simp only [Act.put, List.setIfInBounds_toArray, List.set_cons_succ, List.set_cons_zero]
      refine wpAnyH_ready (rs := [17]) (by kernel_rfl) (by simp) ?_
      refine AllReadyH.cons (o := { dst := some 66, op := Op.call { callee := Callee.value (Operand.func 9), args := #[], argTypes := #[] }, type := 4, pos := "outright.go:159", after := #[{ on := 16, ground := Ground.chain }, { on := 16, ground := Ground.guard }], guard := some (16, true) }) rfl (fun K hK => ?_) (AllReadyH.nil)
      have hK := Lib.hid hK
      go_simp
      go_at_call 9
      refine (HW.out _ HSD.out).mono ?_
      rintro e w4 ⟨rfl, hS4⟩
      refine hK.out _ _ trivial (fun _ => ?_)
      try simp only [Act.put, List.setIfInBounds_toArray, List.set_cons_succ, List.set_cons_zero]
      refine wpAnyH_take (i := 18) (oi := { dst := some 67, op := Op.pick (Operand.tmp 65) (Operand.tmp 66) (Operand.const (Value.bool false)), type := 4, pos := "outright.go:159", after := #[{ on := 16, ground := Ground.data }, { on := 17, ground := Ground.data }], guard := none }) (v := ?v18a) rfl (by kernel_rfl) (by kernel_rfl) (by kernel_rfl) (fun _ _ _ h => h) (Or.inl ⟨by rfl, ?hy18a⟩) trivial ?r18a
      case hy18a =>
        intro wz _
        go_simp <;> with_reducible rfl
      simp only [Act.put, List.setIfInBounds_toArray, List.set_cons_succ, List.set_cons_zero]
      refine wpAnyH_take (i := 19) (oi := { dst := some 4, op := Op.assign (Operand.tmp 67), type := 4, pos := "outright.go:159", after := #[{ on := 18, ground := Ground.data }, { on := 17, ground := Ground.chain }, { on := 0, ground := Ground.phase }, { on := 1, ground := Ground.phase }, { on := 2, ground := Ground.phase }, { on := 3, ground := Ground.phase }, { on := 4, ground := Ground.phase }, { on := 5, ground := Ground.phase }, { on := 6, ground := Ground.phase }, { on := 7, ground := Ground.phase }, { on := 8, ground := Ground.phase }, { on := 9, ground := Ground.phase }, { on := 10, ground := Ground.phase }, { on := 11, ground := Ground.phase }, { on := 12, ground := Ground.phase }, { on := 13, ground := Ground.phase }, { on := 14, ground := Ground.phase }, { on := 15, ground := Ground.phase }, { on := 16, ground := Ground.phase }, { on := 17, ground := Ground.phase }, { on := 18, ground := Ground.phase }], guard := none }) (v := ?v19a) rfl (by kernel_rfl) (by kernel_rfl) (by kernel_rfl) (fun _ _ _ h => h) (Or.inl ⟨by rfl, ?hy19a⟩) trivial ?r19a
      case hy19a =>
        intro wz _
        go_simp <;> with_reducible rfl
      simp only [Act.put, List.setIfInBounds_toArray, List.set_cons_succ, List.set_cons_zero]
      refine wpAnyH_done (by kernel_rfl) ?_ _
      go_wp2_with fail
      go_ret
      exact ⟨rfl, hS4⟩
    · have b1 : ((p : Int) == (s.size : Int)) = false := by rw [Bool.eq_false_iff, ne_eq, beq_iff_eq]; omega
      obtain ⟨bb, hbb⟩ : ∃ bb, b.data.toList.take 60 = bb := ⟨_, rfl⟩
      have hbl : bb.length ≤ 60 := by rw [← hbb, List.length_take]; omega
      have HSH := Lib.hid (fun (W : World) (h : SL w0 W) => (show Calls Tryz.prog 10 #[.string b, .int .i64 60] W fun e w' => e = .returned (.string (str bb)) ∧ SL w0 w' by rw [← hbb]; exact shortS b 60 HB.out h))
      have hlt : p < s.data.toList.length := by rw [HSS.out]; omega
      obtain ⟨z2, hz2⟩ : ∃ z2, str (cutT s.data.toList p bb) = z2 := ⟨_, rfl⟩
      have hz2s : z2.size ≤ 60000 := by rw [← hz2, str_size]; unfold cutT; rw [List.length_append, List.length_take]; omega
      have HFL := Lib.hid (fun (W : World) (h : SL w0 W) => (show Calls Tryz.prog 15 #[.string z2, .int .i64 0, .int .i64 p, .int .i64 e] W (SE2 w0 (.bool true)) from
        fails_S z2 0 p e (by rw [← hz2, str_data, HP4.out hlt bb]; simp [tB]) (Nat.zero_le _) hz2s h))
      have HE2 := Lib.hid (show s.extract 0 (p + 1) ++ str bb = z2 by rw [← hz2, extract_str, str_app3]; rfl)
      have x1 : IntKind.i64.wrap ((p : Int) + 1) = (p : Int) + 1 := IntWalk.i64_in _ (by omega)
      have x2 : (0 : Int) ≤ (p : Int) + 1 := by omega
      have x3 : (p : Int) + 1 ≤ (s.size : Int) := by omega
      have x4 : p + 1 ≤ s.size := by omega
      have x5 : ((9223372036854775807 : Nat) < p + 1 + (str bb).size) = False := eq_false (by rw [str_size]; omega)
      have x6 : ((p : Int) + 1).toNat = p + 1 := by omega
      clear hpe hbb hbl hlt hz2 hz2s HP4
      go_enter Tryz.func6, Tryz.ntmps6
      go_wp2_with (first
        | (go_at_call 10; (with_reducible refine HC.out.mono ?_); rintro x1 w1 ⟨rfl, h1⟩; have HS1 := Lib.hid h1; clear h1)
        | (go_at_call 11; (with_reducible refine (H1.out _ HS1.out).mono ?_); rintro x1 w2 ⟨rfl, h2, hb2⟩; have HS2 := Lib.hid (h2.step ((Below.refl _ _).alloc (Nat.le_refl _) (.cells #[.int .i64 0, .int .i64 p, .int .i64 p, .int .i64 0, .int .u64 0, .string ⟨#[]⟩] 36))); clear h2 hb2)
        | (go_at_call 11; rw [HZ.out]; (with_reducible refine (H2.out _ HS2.out).mono ?_); rintro x1 w3 ⟨rfl, h3, hb3⟩; have hSD := (h3.step ((Below.refl _ _).alloc (Nat.le_refl _) (.cells #[.int .i64 k2, .int .i64 f2, .int .i64 t2, .int .i64 N2, .int .u64 U2, .string y2] 36))).step (Below.refl _ _).drew; clear h3 hb3))
      go_region_held3 (fun _ => True) (go_keep)
        (first
          | (go_at_call 10; (with_reducible refine (HSH.out _ (by assumption)).mono ?_); rintro e w4 ⟨rfl, hS4⟩)
          | (go_at_call 15; rw [HE2.out]; (with_reducible refine (HFL.out _ (by assumption)).mono ?_); rintro e w5 ⟨rfl, hS5⟩)
          | (go_at_call 9; (with_reducible refine (HW.out _ (by assumption)).mono ?_); rintro e w6 ⟨rfl, hS6⟩))
      go_wp2_with fail
      go_ret
      exact ⟨rfl, by assumption⟩
  · skip
    first
      | (have r0 : ((e2 : Int) != 0) = false := by (rw [he2]; rfl))
      | (have r0 : ((e2 : Int) != 0) = true := by (simp; omega))
    first
      | (have r1 : ((f2 : Int) != (p : Int)) = false := by
          (have := p3'
           simp
           omega))
      | skip
    clear p3' he2
    by_cases hpe : p = s.size
    · have b1 : ((p : Int) == (s.size : Int)) = true := by rw [beq_iff_eq]; omega
      clear hpe HP4
      go_enter Tryz.func6, Tryz.ntmps6
      go_wp2_with (first
        | (go_at_call 10; (with_reducible refine HC.out.mono ?_); rintro x1 w1 ⟨rfl, h1⟩; have HS1 := Lib.hid h1; clear h1)
        | (go_at_call 11; (with_reducible refine (H1.out _ HS1.out).mono ?_); rintro x1 w2 ⟨rfl, h2, hb2⟩; have HS2 := Lib.hid (h2.step ((Below.refl _ _).alloc (Nat.le_refl _) (.cells #[.int .i64 0, .int .i64 p, .int .i64 p, .int .i64 0, .int .u64 0, .string ⟨#[]⟩] 36))); clear h2 hb2)
        | (go_at_call 11; rw [HZ.out]; (with_reducible refine (H2.out _ HS2.out).mono ?_); rintro x1 w3 ⟨rfl, h3, hb3⟩; have HSD := Lib.hid ((h3.step ((Below.refl _ _).alloc (Nat.le_refl _) (.cells #[.int .i64 k2, .int .i64 f2, .int .i64 t2, .int .i64 N2, .int .u64 U2, .string y2] 36))).step (Below.refl _ _).drew); clear h3 hb3))
      refine wp_region_held_drew (S := fun _ => True) (by kernel_rfl) trivial (fun _ => ?_)
      refine wpAnyH_take (i := 0) (oi := { dst := some 49, op := Op.move (Operand.tmp 7), type := 3, pos := "outright.go:159", after := #[], guard := none }) (v := ?v0b) rfl (by kernel_rfl) (by kernel_rfl) (by kernel_rfl) (fun _ _ _ h => h) (Or.inl ⟨by rfl, ?hy0b⟩) trivial ?r0b
      case hy0b =>
        intro wz _
        go_simp <;> with_reducible rfl
      simp only [Act.put, List.setIfInBounds_toArray, List.set_cons_succ, List.set_cons_zero]
      refine wpAnyH_take (i := 1) (oi := { dst := some 50, op := Op.move (Operand.tmp 0), type := 9, pos := "outright.go:159", after := #[], guard := none }) (v := ?v1b) rfl (by kernel_rfl) (by kernel_rfl) (by kernel_rfl) (fun _ _ _ h => h) (Or.inl ⟨by rfl, ?hy1b⟩) trivial ?r1b
      case hy1b =>
        intro wz _
        go_simp <;> with_reducible rfl
      simp only [Act.put, List.setIfInBounds_toArray, List.set_cons_succ, List.set_cons_zero]
      refine wpAnyH_take (i := 2) (oi := { dst := some 51, op := Op.call { callee := Callee.builtin Builtin.len, args := #[Operand.tmp 50], argTypes := #[9] }, type := 3, pos := "outright.go:159", after := #[{ on := 1, ground := Ground.data }], guard := none }) (v := ?v2b) rfl (by kernel_rfl) (by kernel_rfl) (by kernel_rfl) (fun _ _ _ h => h) (Or.inl ⟨by rfl, ?hy2b⟩) trivial ?r2b
      case hy2b =>
        intro wz _
        go_simp <;> with_reducible rfl
      simp only [Act.put, List.setIfInBounds_toArray, List.set_cons_succ, List.set_cons_zero]
      refine wpAnyH_take (i := 3) (oi := { dst := some 52, op := Op.binOp BinOp.eql 3 (Operand.tmp 49) (Operand.tmp 51) 3, type := 4, pos := "outright.go:159", after := #[{ on := 0, ground := Ground.data }, { on := 2, ground := Ground.data }], guard := none }) (v := ?v3b) rfl (by kernel_rfl) (by kernel_rfl) (by kernel_rfl) (fun _ _ _ h => h) (Or.inl ⟨by rfl, ?hy3b⟩) trivial ?r3b
      case hy3b =>
        intro wz _
        go_simp <;> with_reducible rfl
      simp only [Act.put, List.setIfInBounds_toArray, List.set_cons_succ, List.set_cons_zero]
      refine wpAnyH_take (i := 4) (oi := { dst := some 53, op := Op.move (Operand.tmp 52), type := 4, pos := "outright.go:159", after := #[{ on := 3, ground := Ground.data }], guard := none }) (v := ?v4b) rfl (by kernel_rfl) (by kernel_rfl) (by kernel_rfl) (fun _ _ _ h => h) (Or.inl ⟨by rfl, ?hy4b⟩) trivial ?r4b
      case hy4b =>
        intro wz _
        go_simp <;> with_reducible rfl
      simp only [Act.put, List.setIfInBounds_toArray, List.set_cons_succ, List.set_cons_zero]
      refine wpAnyH_take (i := 5) (oi := { dst := some 54, op := Op.move (Operand.tmp 0), type := 9, pos := "outright.go:159", after := #[{ on := 4, ground := Ground.guard }], guard := some (4, false) }) (v := undef) rfl (by kernel_rfl) (by kernel_rfl) (by kernel_rfl) (fun _ _ _ h => h) (Or.inr ⟨by rfl, rfl⟩) trivial ?_
      simp only [Act.put, List.setIfInBounds_toArray, List.set_cons_succ, List.set_cons_zero]
      refine wpAnyH_take (i := 6) (oi := { dst := some 55, op := Op.move (Operand.tmp 7), type := 3, pos := "outright.go:159", after := #[{ on := 4, ground := Ground.guard }], guard := some (4, false) }) (v := undef) rfl (by kernel_rfl) (by kernel_rfl) (by kernel_rfl) (fun _ _ _ h => h) (Or.inr ⟨by rfl, rfl⟩) trivial ?_
      simp only [Act.put, List.setIfInBounds_toArray, List.set_cons_succ, List.set_cons_zero]
      refine wpAnyH_take (i := 7) (oi := { dst := some 56, op := Op.binOp BinOp.add 3 (Operand.tmp 55) (Operand.const (Value.int IntKind.i64 1)) 3, type := 3, pos := "outright.go:159", after := #[{ on := 6, ground := Ground.data }, { on := 4, ground := Ground.guard }], guard := some (4, false) }) (v := undef) rfl (by kernel_rfl) (by kernel_rfl) (by kernel_rfl) (fun _ _ _ h => h) (Or.inr ⟨by rfl, rfl⟩) trivial ?_
      simp only [Act.put, List.setIfInBounds_toArray, List.set_cons_succ, List.set_cons_zero]
      refine wpAnyH_take (i := 8) (oi := { dst := some 57, op := Op.slice 9 (Operand.tmp 54) none (some (Operand.tmp 56)) none, type := 9, pos := "outright.go:159", after := #[{ on := 5, ground := Ground.data }, { on := 7, ground := Ground.data }, { on := 4, ground := Ground.guard }], guard := some (4, false) }) (v := undef) rfl (by kernel_rfl) (by kernel_rfl) (by kernel_rfl) (fun _ _ _ h => h) (Or.inr ⟨by rfl, rfl⟩) trivial ?_
      simp only [Act.put, List.setIfInBounds_toArray, List.set_cons_succ, List.set_cons_zero]
      refine wpAnyH_take (i := 9) (oi := { dst := some 58, op := Op.move (Operand.tmp 1), type := 9, pos := "outright.go:159", after := #[{ on := 4, ground := Ground.guard }], guard := some (4, false) }) (v := undef) rfl (by kernel_rfl) (by kernel_rfl) (by kernel_rfl) (fun _ _ _ h => h) (Or.inr ⟨by rfl, rfl⟩) trivial ?_
      simp only [Act.put, List.setIfInBounds_toArray, List.set_cons_succ, List.set_cons_zero]
      refine wpAnyH_take (i := 10) (oi := { dst := some 59, op := Op.call { callee := Callee.value (Operand.func 10), args := #[Operand.tmp 58, Operand.const (Value.int IntKind.i64 60)], argTypes := #[9, 3] }, type := 9, pos := "outright.go:159", after := #[{ on := 9, ground := Ground.data }, { on := 4, ground := Ground.chain }, { on := 4, ground := Ground.guard }], guard := some (4, false) }) (v := undef) rfl (by kernel_rfl) (by kernel_rfl) (by kernel_rfl) (fun _ _ _ h => h) (Or.inr ⟨by rfl, rfl⟩) trivial ?_
      simp only [Act.put, List.setIfInBounds_toArray, List.set_cons_succ, List.set_cons_zero]
      refine wpAnyH_take (i := 11) (oi := { dst := some 60, op := Op.binOp BinOp.add 9 (Operand.tmp 57) (Operand.tmp 59) 9, type := 9, pos := "outright.go:159", after := #[{ on := 8, ground := Ground.data }, { on := 10, ground := Ground.data }, { on := 4, ground := Ground.guard }], guard := some (4, false) }) (v := undef) rfl (by kernel_rfl) (by kernel_rfl) (by kernel_rfl) (fun _ _ _ h => h) (Or.inr ⟨by rfl, rfl⟩) trivial ?_
      simp only [Act.put, List.setIfInBounds_toArray, List.set_cons_succ, List.set_cons_zero]
      refine wpAnyH_take (i := 12) (oi := { dst := some 61, op := Op.move (Operand.tmp 7), type := 3, pos := "outright.go:159", after := #[{ on := 4, ground := Ground.guard }], guard := some (4, false) }) (v := undef) rfl (by kernel_rfl) (by kernel_rfl) (by kernel_rfl) (fun _ _ _ h => h) (Or.inr ⟨by rfl, rfl⟩) trivial ?_
      simp only [Act.put, List.setIfInBounds_toArray, List.set_cons_succ, List.set_cons_zero]
      refine wpAnyH_take (i := 13) (oi := { dst := some 62, op := Op.move (Operand.tmp 6), type := 29, pos := "outright.go:159", after := #[{ on := 4, ground := Ground.guard }], guard := some (4, false) }) (v := undef) rfl (by kernel_rfl) (by kernel_rfl) (by kernel_rfl) (fun _ _ _ h => h) (Or.inr ⟨by rfl, rfl⟩) trivial ?_
      simp only [Act.put, List.setIfInBounds_toArray, List.set_cons_succ, List.set_cons_zero]
      refine wpAnyH_take (i := 14) (oi := { dst := some 63, op := Op.call { callee := Callee.value (Operand.func 15), args := #[Operand.tmp 60, Operand.const (Value.int IntKind.i64 0), Operand.tmp 61, Operand.tmp 62], argTypes := #[9, 3, 3, 29] }, type := 4, pos := "outright.go:159", after := #[{ on := 11, ground := Ground.data }, { on := 12, ground := Ground.data }, { on := 13, ground := Ground.data }, { on := 10, ground := Ground.chain }, { on := 4, ground := Ground.guard }], guard := some (4, false) }) (v := undef) rfl (by kernel_rfl) (by kernel_rfl) (by kernel_rfl) (fun _ _ _ h => h) (Or.inr ⟨by rfl, rfl⟩) trivial ?_
      simp only [Act.put, List.setIfInBounds_toArray, List.set_cons_succ, List.set_cons_zero]
      refine wpAnyH_take (i := 15) (oi := { dst := some 64, op := Op.pick (Operand.tmp 53) (Operand.const (Value.bool true)) (Operand.tmp 63), type := 4, pos := "outright.go:159", after := #[{ on := 4, ground := Ground.data }, { on := 14, ground := Ground.data }], guard := none }) (v := ?v15b) rfl (by kernel_rfl) (by kernel_rfl) (by kernel_rfl) (fun _ _ _ h => h) (Or.inl ⟨by rfl, ?hy15b⟩) trivial ?r15b
      case hy15b =>
        intro wz _
        go_simp <;> with_reducible rfl
      simp only [Act.put, List.setIfInBounds_toArray, List.set_cons_succ, List.set_cons_zero]
      refine wpAnyH_take (i := 16) (oi := { dst := some 65, op := Op.move (Operand.tmp 64), type := 4, pos := "outright.go:159", after := #[{ on := 15, ground := Ground.data }, { on := 14, ground := Ground.chain }], guard := none }) (v := ?v16b) rfl (by kernel_rfl) (by kernel_rfl) (by kernel_rfl) (fun _ _ _ h => h) (Or.inl ⟨by rfl, ?hy16b⟩) trivial ?r16b
      case hy16b =>
        intro wz _
        go_simp <;> with_reducible rfl
      simp only [Act.put, List.setIfInBounds_toArray, List.set_cons_succ, List.set_cons_zero]
      refine wpAnyH_ready (rs := [17]) (by kernel_rfl) (by simp) ?_
      refine AllReadyH.cons (o := { dst := some 66, op := Op.call { callee := Callee.value (Operand.func 9), args := #[], argTypes := #[] }, type := 4, pos := "outright.go:159", after := #[{ on := 16, ground := Ground.chain }, { on := 16, ground := Ground.guard }], guard := some (16, true) }) rfl (fun K hK => ?_) (AllReadyH.nil)
      have hK := Lib.hid hK
      go_simp
      go_at_call 9
      refine (HW.out _ HSD.out).mono ?_
      rintro e w4 ⟨rfl, hS4⟩
      refine hK.out _ _ trivial (fun _ => ?_)
      try simp only [Act.put, List.setIfInBounds_toArray, List.set_cons_succ, List.set_cons_zero]
      refine wpAnyH_take (i := 18) (oi := { dst := some 67, op := Op.pick (Operand.tmp 65) (Operand.tmp 66) (Operand.const (Value.bool false)), type := 4, pos := "outright.go:159", after := #[{ on := 16, ground := Ground.data }, { on := 17, ground := Ground.data }], guard := none }) (v := ?v18b) rfl (by kernel_rfl) (by kernel_rfl) (by kernel_rfl) (fun _ _ _ h => h) (Or.inl ⟨by rfl, ?hy18b⟩) trivial ?r18b
      case hy18b =>
        intro wz _
        go_simp <;> with_reducible rfl
      simp only [Act.put, List.setIfInBounds_toArray, List.set_cons_succ, List.set_cons_zero]
      refine wpAnyH_take (i := 19) (oi := { dst := some 4, op := Op.assign (Operand.tmp 67), type := 4, pos := "outright.go:159", after := #[{ on := 18, ground := Ground.data }, { on := 17, ground := Ground.chain }, { on := 0, ground := Ground.phase }, { on := 1, ground := Ground.phase }, { on := 2, ground := Ground.phase }, { on := 3, ground := Ground.phase }, { on := 4, ground := Ground.phase }, { on := 5, ground := Ground.phase }, { on := 6, ground := Ground.phase }, { on := 7, ground := Ground.phase }, { on := 8, ground := Ground.phase }, { on := 9, ground := Ground.phase }, { on := 10, ground := Ground.phase }, { on := 11, ground := Ground.phase }, { on := 12, ground := Ground.phase }, { on := 13, ground := Ground.phase }, { on := 14, ground := Ground.phase }, { on := 15, ground := Ground.phase }, { on := 16, ground := Ground.phase }, { on := 17, ground := Ground.phase }, { on := 18, ground := Ground.phase }], guard := none }) (v := ?v19b) rfl (by kernel_rfl) (by kernel_rfl) (by kernel_rfl) (fun _ _ _ h => h) (Or.inl ⟨by rfl, ?hy19b⟩) trivial ?r19b
      case hy19b =>
        intro wz _
        go_simp <;> with_reducible rfl
      simp only [Act.put, List.setIfInBounds_toArray, List.set_cons_succ, List.set_cons_zero]
      refine wpAnyH_done (by kernel_rfl) ?_ _
      go_wp2_with fail
      go_ret
      exact ⟨rfl, hS4⟩
    · have b1 : ((p : Int) == (s.size : Int)) = false := by rw [Bool.eq_false_iff, ne_eq, beq_iff_eq]; omega
      obtain ⟨bb, hbb⟩ : ∃ bb, b.data.toList.take 60 = bb := ⟨_, rfl⟩
      have hbl : bb.length ≤ 60 := by rw [← hbb, List.length_take]; omega
      have HSH := Lib.hid (fun (W : World) (h : SL w0 W) => (show Calls Tryz.prog 10 #[.string b, .int .i64 60] W fun e w' => e = .returned (.string (str bb)) ∧ SL w0 w' by rw [← hbb]; exact shortS b 60 HB.out h))
      have hlt : p < s.data.toList.length := by rw [HSS.out]; omega
      obtain ⟨z2, hz2⟩ : ∃ z2, str (cutT s.data.toList p bb) = z2 := ⟨_, rfl⟩
      have hz2s : z2.size ≤ 60000 := by rw [← hz2, str_size]; unfold cutT; rw [List.length_append, List.length_take]; omega
      have HFL := Lib.hid (fun (W : World) (h : SL w0 W) => (show Calls Tryz.prog 15 #[.string z2, .int .i64 0, .int .i64 p, .int .i64 e] W (SE2 w0 (.bool true)) from
        fails_S z2 0 p e (by rw [← hz2, str_data, HP4.out hlt bb]; simp [tB]) (Nat.zero_le _) hz2s h))
      have HE2 := Lib.hid (show s.extract 0 (p + 1) ++ str bb = z2 by rw [← hz2, extract_str, str_app3]; rfl)
      have x1 : IntKind.i64.wrap ((p : Int) + 1) = (p : Int) + 1 := IntWalk.i64_in _ (by omega)
      have x2 : (0 : Int) ≤ (p : Int) + 1 := by omega
      have x3 : (p : Int) + 1 ≤ (s.size : Int) := by omega
      have x4 : p + 1 ≤ s.size := by omega
      have x5 : ((9223372036854775807 : Nat) < p + 1 + (str bb).size) = False := eq_false (by rw [str_size]; omega)
      have x6 : ((p : Int) + 1).toNat = p + 1 := by omega
      clear hpe hbb hbl hlt hz2 hz2s HP4
      go_enter Tryz.func6, Tryz.ntmps6
      go_wp2_with (first
        | (go_at_call 10; (with_reducible refine HC.out.mono ?_); rintro x1 w1 ⟨rfl, h1⟩; have HS1 := Lib.hid h1; clear h1)
        | (go_at_call 11; (with_reducible refine (H1.out _ HS1.out).mono ?_); rintro x1 w2 ⟨rfl, h2, hb2⟩; have HS2 := Lib.hid (h2.step ((Below.refl _ _).alloc (Nat.le_refl _) (.cells #[.int .i64 0, .int .i64 p, .int .i64 p, .int .i64 0, .int .u64 0, .string ⟨#[]⟩] 36))); clear h2 hb2)
        | (go_at_call 11; rw [HZ.out]; (with_reducible refine (H2.out _ HS2.out).mono ?_); rintro x1 w3 ⟨rfl, h3, hb3⟩; have hSD := (h3.step ((Below.refl _ _).alloc (Nat.le_refl _) (.cells #[.int .i64 k2, .int .i64 f2, .int .i64 t2, .int .i64 N2, .int .u64 U2, .string y2] 36))).step (Below.refl _ _).drew; clear h3 hb3))
      go_region_held3 (fun _ => True) (go_keep)
        (first
          | (go_at_call 10; (with_reducible refine (HSH.out _ (by assumption)).mono ?_); rintro e w4 ⟨rfl, hS4⟩)
          | (go_at_call 15; rw [HE2.out]; (with_reducible refine (HFL.out _ (by assumption)).mono ?_); rintro e w5 ⟨rfl, hS5⟩)
          | (go_at_call 9; (with_reducible refine (HW.out _ (by assumption)).mono ?_); rintro e w6 ⟨rfl, hS6⟩))
      go_wp2_with fail
      go_ret
      exact ⟨rfl, by assumption⟩
theorem lexPlace_walk (a b : ByteArray) (w : World) (hL : LB w.heap.size w) (ha : a.size ≤ 9223372036854775807) (hb : b.size ≤ 9223372036854775807) :
    Calls Tryz.prog 6 #[.string a, .string b] w fun e w' => e = .returned (.bool true) ∧ Below w.heap.size w w' := by
  have hsz : (str (a.data.toList.take 300)).size ≤ 300 := by rw [str_size, List.length_take]; omega
  have key : Calls Tryz.prog 6 #[.string a, .string b] w (SE2 w (.bool true)) := by
    obtain ⟨⟨k, f, t, N, U, x, e⟩, h⟩ : ∃ t, tok (str (a.data.toList.take 300)).data.toList 0 = t := ⟨_, rfl⟩
    by_cases he : e = 0 ∨ e = 101
    · exact place_yes a b w w (SL.start hL) ha _ rfl hsz k f t N U x e h he
    · have hP := (tok_place _ (by rw [h]; exact fun h => he (Or.inl h)) (by rw [h]; exact fun h => he (Or.inr h))).2.1
      rw [h] at hP
      injection hP with q1 q2 q3 q4 q5 q6 q7
      subst q1; subst q3; subst q4; subst q5; subst q6
      exact place_no a b w w (SL.start hL) ha hb _ rfl hsz _ e (fun h => he (Or.inl h)) (fun h => he (Or.inr h)) h
  refine key.mono ?_
  rintro e w' ⟨rfl, h⟩
  exact ⟨rfl, h.2⟩
end Go.Proofs.YtodmlgbomhmbpaaGreatDoor
