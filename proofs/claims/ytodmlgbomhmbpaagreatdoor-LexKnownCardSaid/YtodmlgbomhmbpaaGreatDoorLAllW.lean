/-
  What is proved here: the contract of lex.All; conditions: the tables that package lex and its library read hold what is laid, a string of at most 65536 bytes (or one of white space alone); and: the contract of lex.All; conditions: the tables that package lex and its library read hold what is laid, a string of at most 65536 bytes (or one of white space alone, of at most 1048576).
-/
import Derived.Test.YtodmlgbomhmbpaaGreatDoorLNext
namespace Go.Proofs.YtodmlgbomhmbpaaGreatDoor
open Go.RowKit Ut Lx Go.Maps

namespace Lx
/-- The tokens from an offset on: the tokens, the offset of the error, the error. -/
def toks (l : List UInt8) : Nat → Nat → List TK × Nat × Nat
  | 0, _ => ([], 0, 0)
  | n + 1, k => if (tok l k).e ≠ 0 then ([], (tok l k).f, (tok l k).e) else if (tok l k).k = 0 then ([], 0, 0) else
      if (toks l n (tok l k).t).2.2 ≠ 0 then ([], (toks l n (tok l k).t).2.1, (toks l n (tok l k).t).2.2) else (tok l k :: (toks l n (tok l k).t).1, 0, 0)
def alls (l : List UInt8) : List TK × Nat × Nat := toks l (l.length + 1) 0
def pre (ts : List TK) (r : List TK × Nat × Nat) : List TK × Nat × Nat := if r.2.2 ≠ 0 then ([], r.2.1, r.2.2) else (ts ++ r.1, 0, 0)
theorem toks_succ (l : List UInt8) (n k : Nat) : toks l (n + 1) k = if (tok l k).e ≠ 0 then ([], (tok l k).f, (tok l k).e) else if (tok l k).k = 0 then ([], 0, 0) else pre [tok l k] (toks l n (tok l k).t) := rfl
theorem pre_pre (ts us : List TK) (r : List TK × Nat × Nat) : pre ts (pre us r) = pre (ts ++ us) r := by
  unfold pre
  by_cases h : r.2.2 = 0
  · simp [h]
  · simp [h]
theorem toks_err0 {l : List UInt8} {n k : Nat} (he : (tok l k).e ≠ 0) : toks l (n + 1) k = ([], (tok l k).f, (tok l k).e) := by rw [toks_succ, if_pos he]
theorem toks_end0 {l : List UInt8} {n k : Nat} (he : (tok l k).e = 0) (hk : (tok l k).k = 0) : toks l (n + 1) k = ([], 0, 0) := by rw [toks_succ, if_neg (fun h => h he), if_pos hk]
theorem toks_more {l : List UInt8} {n k : Nat} (he : (tok l k).e = 0) (hk : (tok l k).k ≠ 0) : toks l (n + 1) k = pre [tok l k] (toks l n (tok l k).t) := by rw [toks_succ, if_neg (fun h => h he), if_neg hk]
theorem pre_nil (l : List UInt8) (n k : Nat) : pre [] (toks l n k) = toks l n k := by
  cases n with
  | zero => rfl
  | succ n =>
    by_cases he : (tok l k).e = 0
    · by_cases hk : (tok l k).k = 0
      · rw [toks_end0 he hk]; rfl
      · rw [toks_more he hk, pre_pre]; rfl
    · rw [toks_err0 he]; unfold pre; simp [he]
theorem toks_step {l : List UInt8} {n k : Nat} (he : (tok l k).e = 0) (hk : (tok l k).k ≠ 0) (ts : List TK) : pre ts (toks l (n + 1) k) = pre (ts ++ [tok l k]) (toks l n (tok l k).t) := by
  rw [toks_more he hk, pre_pre]
theorem toks_end {l : List UInt8} {n k : Nat} (he : (tok l k).e = 0) (hk : (tok l k).k = 0) (ts : List TK) : pre ts (toks l (n + 1) k) = (ts, 0, 0) := by
  rw [toks_end0 he hk]; unfold pre; simp
theorem toks_err {l : List UInt8} {n k : Nat} (he : (tok l k).e ≠ 0) (ts : List TK) : pre ts (toks l (n + 1) k) = ([], (tok l k).f, (tok l k).e) := by
  rw [toks_err0 he]; unfold pre; simp [he]
theorem tok_facts (l : List UInt8) {k : Nat} (hk : k ≤ l.length) :
    ((tok l k).e = 0 ∧ (tok l k).k = 0 ∧ (tok l k).t = l.length ∧ (tok l k).f = l.length) ∨
    ((tok l k).e = 0 ∧ 1 ≤ (tok l k).k ∧ (tok l k).k ≤ 12 ∧ k ≤ (tok l k).f ∧ (tok l k).f < (tok l k).t ∧ (tok l k).t ≤ l.length) ∨
    ((tok l k).e ≠ 0 ∧ (tok l k).f ≤ l.length ∧ k ≤ (tok l k).f ∧ tok l k = ⟨0, (tok l k).f, (tok l k).f, 0, 0, [], (tok l k).e⟩) := by
  have hc := cnt_le wsL (l.drop k)
  rw [List.length_drop] at hc
  unfold tok
  split
  · left; exact ⟨rfl, rfl, by show k + _ = _; omega, by show k + _ = _; omega⟩
  · rename_i hlt
    right
    have hf := rd_facts (l.drop (k + cnt wsL (l.drop k)))
    rw [RF, List.length_drop] at hf
    rcases hf with ⟨h1, h2, h3, h4, h5⟩ | ⟨h1, h2, h3⟩
    · left
      unfold tokR
      rw [if_pos h1]
      exact ⟨rfl, h4, h5, by show k ≤ k + _; omega, by show k + _ < k + _ + _; omega, by show k + _ + _ ≤ _; omega⟩
    · right
      unfold tokR
      rw [if_neg h1]
      exact ⟨h1, by show k + _ + _ ≤ _; omega, by show k ≤ k + _ + _; omega, rfl⟩
end Lx

/-! Rows of tokens. -/
def tc (t : TK) : List Value := [.int .i64 t.k, .int .i64 t.f, .int .i64 t.t, .int .i64 t.N, .int .u64 t.U, .string (str t.x)]
def tcs (ts : List TK) : List Value := ts.flatMap tc
theorem tcs_len (ts : List TK) : (tcs ts).length = ts.length * 6 := by
  induction ts with
  | nil => rfl
  | cons t ts ih => simp [tcs, tc] at ih ⊢; omega
theorem tcs_app (xs ys : List TK) : tcs xs ++ tcs ys = tcs (xs ++ ys) := by simp [tcs]
theorem tcs_one (ts : List TK) : ∀ u ∈ tcs ts, u.oneCell' = true := by
  intro u hu
  simp only [tcs, List.mem_flatMap] at hu
  obtain ⟨t, _, hu⟩ := hu
  simp [tc] at hu
  rcases hu with rfl | rfl | rfl | rfl | rfl | rfl <;> rfl
abbrev OwnT (w : World) (B : Nat) (v : Value) (ts : List TK) : Prop := w.ownsRow B 36 6 v ts.length (tcs ts)
theorem Tryz.infoT : (Tryz.prog.info? 36).map (fun i => (i.zero, i.size, i.bytes)) = some (some (.agg #[.int .i64 0, .int .i64 0, .int .i64 0, .int .i64 0, .int .u64 0, .string ⟨#[]⟩]), 6, 56) := by kernel_rfl
theorem run_appT {w : World} {B c : Nat} {v : Value} {xs ys : List TK} {ad : Addr} (ty : TypeId) (hown : OwnT w B v xs) (hr : ∀ j u, (tcs ys)[j]? = some u → w.cell? (ad.add j) = some u)
    (hb : xs.length + ys.length ≤ 1000000) (hB : B ≤ w.heap.size) :
    ∃ v' w', (Builtin.append_ #[28, 28] ty #[v, .slice (some ad) ys.length c]).run Tryz.prog w = .ok v' w' ∧ OwnT w' B v' (xs ++ ys) ∧ Gr w w' v v' := by
  obtain ⟨i, hi, hz0, hz1, hz2⟩ := info_parts Tryz.infoT
  obtain ⟨v', w', hrun, h2, h3, _, h5⟩ := run_append_own_at (P := Tryz.prog) w B 28 ty 36 i _ 6 56 Tryz.underlying28 hi hz0 hz1 hz2 rfl (by decide) v xs.length (tcs xs) hown ad ys.length c (tcs ys)
    (by rw [tcs_len]) hr (tcs_one ys) (by simp only [maxLen]; omega) (by omega) hB
  rw [tcs_app] at h2
  refine ⟨v', w', hrun, ?_, h3, ?_⟩
  · unfold OwnT; rw [List.length_append]; exact h2
  · rcases h5 with h5 | h5
    · exact Or.inl h5
    · exact Or.inr ⟨_, h5, Nat.le_refl _⟩
theorem wpList_appT {ops : Array Oper} {rest : List Oper} {o : Oper} {a : Act} {Q : Exit → Act → World → Prop} {w : World} {B m c : Nat} {v : Value} {xs ys : List TK} {ad : Addr}
    (hgd : o.guard = none) (s x : Operand) (ho : o.op = .call { callee := .builtin .append, args := #[s, x], argTypes := #[28, 28] })
    (hs : a.eval s = v) (hx : a.eval x = .slice (some ad) m c) (hm : m = ys.length) (hown : OwnT w B v xs) (hr : ∀ j u, (tcs ys)[j]? = some u → w.cell? (ad.add j) = some u) (hb : xs.length + ys.length ≤ 1000000) (hB : B ≤ w.heap.size)
    (h : ∀ v' w', OwnT w' B v' (xs ++ ys) → Gr w w' v v' → wpList Tryz.prog ops Q rest (a.put o.dst v') w') : wpList Tryz.prog ops Q (o :: rest) a w := by
  subst hm
  refine wpList_plain hgd fun K hK => ?_
  obtain ⟨v', w', hrun, h2, h3⟩ := run_appT o.type hown hr hb hB
  unfold Oper.wp execOp
  simp only [ho, resolve, invoke, builtin, Sem.run_bind, Sem.run_pure, Result.andThen_ok, List.map_toArray, List.map_cons, List.map_nil, hs, hx]
  rw [hrun]
  exact hK _ _ (h v' w' h2 h3)
theorem ownT_below {w w' : World} {B B' : Nat} {v : Value} {ts : List TK} (h : OwnT w B v ts) (hb : Below B' w w') (hB : w.heap.size ≤ B') : OwnT w' B v ts := by
  refine ⟨h.1, ?_⟩
  rcases h.2 with h0 | ⟨g, cap, cur, hv, hg, hh, r⟩
  · exact Or.inl h0
  · have hl := (h.lt g (by rw [hv]; rfl)).2
    exact Or.inr ⟨g, cap, cur, hv, hg, (hb.block g (by omega)).trans hh, r⟩
def AE (w : World) (r : List TK × Nat × Nat) (e : Ending) (w' : World) : Prop := ∃ v, e = .returned (.tuple #[v, .int .i64 r.2.1, .int .i64 r.2.2]) ∧ Below w.heap.size w w' ∧ OwnT w' w.heap.size v r.1
end Go.Proofs.YtodmlgbomhmbpaaGreatDoor
namespace Go.Proofs.YtodmlgbomhmbpaaGreatDoor
open Go.RowKit Ut Lx Go.Maps

theorem ownT_ne {w : World} {B g : Nat} {v : Value} {ts : List TK} {kl : List (Nat × Nat)} (h : OwnT w B v ts) (hM : KM w g kl) : v.ownBlock ≠ some g := by
  obtain ⟨_, _, _, ⟨es, clock, hb, _⟩, _⟩ := hM
  rcases h.2 with ⟨rfl, _⟩ | ⟨g', cap, cur, rfl, _, hh, _⟩
  · simp [Value.ownBlock]
  · intro he
    have : g' = g := by simpa [Value.ownBlock] using he
    subst this
    rw [hb] at hh
    cases hh
theorem KM.grown {w w' : World} {b : Nat} {l : List (Nat × Nat)} {row : Option Nat} (h : KM w b l) (hg : w.grownBy w' row) (hne : some b ≠ row) : KM w' b l := by
  obtain ⟨n, D, hn, ho, hk⟩ := h
  exact ⟨n, D, hn, ho.kept hg hne, hk⟩
/-- The round's head. -/
structure AH (w : World) (s : ByteArray) (l : List UInt8) (g : Nat) (v : Value) (k : Nat) (ts : List TK) (wr : World) : Prop where
  ks : k ≤ s.size
  own : OwnT wr w.heap.size v ts
  len : ts.length ≤ k
  bel : Below w.heap.size w wr
  km : KM wr g kdL
  gb : w.heap.size ≤ g
  all : ∃ n, alls l = pre ts (toks l (n + 1) k) ∧ l.length < n + 1 + k
  lim : s.size ≤ 65536 ∨ s.size ≤ k + cnt wsL (l.drop k)
theorem app_src {w1 : World} (tk tf tt : Nat) (tN : Int) (tU : Nat) (tx : List UInt8) (y : ByteArray) (hy : str tx = y) :
    ∀ j u, (tcs [⟨tk, tf, tt, tN, tU, tx, 0⟩])[j]? = some u → ((w1.alloc (.cells #[.int .i64 tk, .int .i64 tf, .int .i64 tt, .int .i64 tN, .int .u64 tU, .string y] 36)).alloc (.cells #[.int .i64 tk, .int .i64 tf, .int .i64 tt, .int .i64 tN, .int .u64 tU, .string y] 36)).cell? ((⟨w1.heap.size + 1, 0, none⟩ : Addr).add j) = some u := by
  intro j u h
  have h1 : ((⟨w1.heap.size + 1, 0, none⟩ : Addr).add j) = ⟨w1.heap.size + 1, j, none⟩ := by
    unfold Addr.add
    by_cases h : j = 0 <;> simp [h]
  have hb := (Blk.new (w1.alloc (.cells #[.int .i64 tk, .int .i64 tf, .int .i64 tt, .int .i64 tN, .int .u64 tU, .string y] 36)) 36 #[.int .i64 tk, .int .i64 tf, .int .i64 tt, .int .i64 tN, .int .u64 tU, .string y]).cell j
  rw [show (w1.alloc (.cells #[.int .i64 tk, .int .i64 tf, .int .i64 tt, .int .i64 tN, .int .u64 tU, .string y] 36)).heap.size = w1.heap.size + 1 by simp] at hb
  rw [h1, hb, ← hy]
  simpa [tcs, tc] using h
theorem own_lt {w : World} {B : Nat} {v : Value} {ts : List TK} (h : OwnT w B v ts) {w1 w' : World} {o : Obj} {v' : Value} (_hs : w.heap.size ≤ w1.heap.size) (hg : Gr (w1.alloc o) w' v v') {k : Nat} (hk : k < (w1.alloc o).heap.size) (hne : w.heap.size ≤ k) (i : Nat) :
    w'.cell? ⟨k, i, none⟩ = (w1.alloc o).cell? ⟨k, i, none⟩ :=
  World.cell?_of_block (hg.1.block k hk (fun e => by have := (h.lt k e.symm).2; omega))
theorem AH.next {w wr w1 w' : World} {s : ByteArray} {l : List UInt8} {g : Nat} {v v' : Value} {k tt : Nat} {ts : List TK} {t : TK} {a b : Obj} (h : AH w s l g v k ts wr) (hb : Below wr.heap.size wr w1)
    (hown : OwnT w' w.heap.size v' (ts ++ [t])) (hg : Gr ((w1.alloc a).alloc b) w' v v') (hx : ∃ n, alls l = pre (ts ++ [t]) (toks l (n + 1) tt) ∧ l.length < n + 1 + tt) (hkt : k < tt) (hts : tt ≤ s.size) (hq : s.size ≤ 65536) : AH w s l g v' tt (ts ++ [t]) w' := by
  have hb2 : Below wr.heap.size wr ((w1.alloc a).alloc b) := (hb.alloc hb.size _).alloc (Nat.le_trans hb.size (by simp)) _
  have hb3 := h.bel.trans (hb2.mono h.bel.size)
  have hgl := h.km.lt
  have hne := ownT_ne h.own h.km
  refine ⟨hts, hown, by rw [List.length_append]; have := h.len; simp; omega, ?_, ?_, h.gb, hx, Or.inl hq⟩
  · exact hg.below hb3 hb3.size (fun q hq => (h.own.lt q hq).1)
  · exact (h.km.below hb2 hgl).grown hg.1 (fun e => hne e.symm)
set_option maxHeartbeats 4000000 in
set_option maxRecDepth 100000 in
theorem All_any (s : ByteArray) (l : List UInt8) (w : World) (hl : s.data.toList = l) (hs : s.size ≤ 1048576) (hq : s.size ≤ 65536 ∨ s.size ≤ cnt wsL l) (hL : LB w.heap.size w) :
    Calls Tryz.prog 7 #[.string s] w (AE w (alls l)) := by
  obtain ⟨g, hg⟩ : ∃ g, w.heap.size = g := ⟨_, rfl⟩
  have hsz : s.size = l.length := by rw [Lib.size_eq, hl]
  have HLB := Lib.hid hL
  have HK := Lib.hid (show Calls Tryz.prog 16 #[] w fun e w' => e = .returned (.map (some g)) ∧ AH w s l g (.slice none 0 0) 0 [] w' by
    refine (kinds_any w).mono ?_
    rintro e w' ⟨rfl, hb, hm⟩
    rw [hg] at hm hb ⊢
    exact ⟨rfl, Nat.zero_le _, World.ownsRow_nil _ _ _ _, Nat.le_refl _, by rw [hg]; exact hb, hm, Nat.le_of_eq hg, ⟨l.length, by rw [pre_nil]; rfl, by omega⟩, by rw [Nat.zero_add]; exact hq⟩)
  have HSZ := Lib.hid hsz
  have HL := Lib.hid hl
  have d1 : decide ((1048576 : Int) < (s.size : Int)) = false := decide_eq_false (by omega)
  have d2 : decide (1048576 < s.size) = false := decide_eq_false (by omega)
  have HS := Lib.hid hs
  clear hg hsz hq hL hl hs
  go_enter Tryz.func7, Tryz.ntmps7
  go_wp2
  go_step3
  go_wp2_with (go_at_call 16; (with_reducible refine HK.out.mono ?_); rintro e1 w1 ⟨rfl, h1⟩; have H1 := Lib.hid h1; clear h1)
  go_step3
  go_wp2
  go_loopw [2, 3] (fun v i wr => ∃ (k : Nat) (ts : List TK), i = .int .i64 k ∧ Hid (AH w s l g v k ts wr)) (fun _ i _ => s.size + 1 - (RowKit.intOf i).toNat)
  case atStart => exact ⟨0, [], rfl, H1⟩
  case round =>
    clear H1 HK d1 d2
    obtain ⟨k, ts, rfl, H⟩ := hrel
    have hks := H.out.ks
    obtain ⟨t, ht⟩ : ∃ t, tok l k = t := ⟨_, rfl⟩
    have hf := tok_facts l (k := k) (by rw [← HSZ.out]; exact hks)
    rw [ht] at hf
    obtain ⟨tk, tf, tt, tN, tU, tx, te⟩ := t
    obtain ⟨y, hy⟩ : ∃ y, str tx = y := ⟨_, rfl⟩
    have HT := Lib.hid ht
    have HY := Lib.hid hy
    have HN := Lib.hid (show Calls Tryz.prog 17 #[.map (some g), .string s, .int .i64 k] wr fun e w' => e = .returned (.tuple #[.agg #[.int .i64 tk, .int .i64 tf, .int .i64 tt, .int .i64 tN, .int .u64 tU, .string y], .int .i64 te]) ∧ Below wr.heap.size wr w' by
      refine (next_any s l g k wr HL.out hks (by have := HS.out; omega) H.out.lim (HLB.out.below H.out.bel).here H.out.km).mono ?_
      rintro e w' ⟨rfl, hb⟩
      rw [ht]
      exact ⟨by rw [← hy]; rfl, hb⟩)
    clear ht hy
    by_cases he : te = 0
    · subst he
      rcases hf with ⟨_, hk0, hft, hff⟩ | ⟨_, hk1, hk2, hf1, hf2, hf3⟩ | ⟨he, _⟩
      · have hk0' : tk = 0 := hk0
        subst hk0'
        clear hft hff
        have HR := Lib.hid (show alls l = (ts, 0, 0) by
          obtain ⟨n, hn, _⟩ := H.out.all
          rw [hn, toks_end (by rw [HT.out]) (by rw [HT.out])])
        go_wp2_with (go_at_call 17; (with_reducible refine HN.out.mono ?_); rintro e1 w1 ⟨rfl, hb1⟩; have HB1 := Lib.hid hb1; clear hb1)
        rw [Exit.noGoto_ret]
        go_ret3
        rw [HR.out]
        have hb2 := (H.out.bel.trans (HB1.out.mono H.out.bel.size)).alloc (Nat.le_trans H.out.bel.size HB1.out.size) (.cells #[.int .i64 0, .int .i64 tf, .int .i64 tt, .int .i64 tN, .int .u64 tU, .string y] 36)
        exact ⟨_, rfl, hb2, ownT_below H.out.own (HB1.out.alloc HB1.out.size _) (Nat.le_refl _)⟩
      · have hk0 : ((tk : Int) == 0) = false := by
          have : 1 ≤ tk := hk1
          simp; omega
        have HX := Lib.hid (show ∃ n, alls l = pre (ts ++ [⟨tk, tf, tt, tN, tU, tx, 0⟩]) (toks l (n + 1) tt) ∧ l.length < n + 1 + tt from by
          obtain ⟨n, hn, hl⟩ := H.out.all
          have hf1' : k ≤ tf := hf1
          have hf2' : tf < tt := hf2
          have hf3' : tt ≤ l.length := hf3
          cases n with
          | zero => omega
          | succ n => exact ⟨n, by rw [hn, toks_step (by rw [HT.out]) (by rw [HT.out]; show tk ≠ 0; have : 1 ≤ tk := hk1; omega), HT.out], by omega⟩)
        have HF := Lib.hid (show k < tt ∧ tt ≤ s.size from ⟨Nat.lt_of_le_of_lt hf1 hf2, by rw [HSZ.out]; exact hf3⟩)
        have HQ := Lib.hid (show s.size ≤ 65536 from by
          rcases H.out.lim with h | h
          · exact h
          · have ht := HT.out
            unfold tok at ht
            rw [if_pos (by rw [← HSZ.out]; exact h)] at ht
            injection ht with ht
            have : 1 ≤ tk := hk1
            omega)
        clear hf1 hf2 hf3 hk1 hk2
        go_wp2_with (first
          | (go_at_call 17; (with_reducible refine HN.out.mono ?_); rintro e1 w1 ⟨rfl, hb1⟩; have HB1 := Lib.hid hb1; clear hb1; have HOW := Lib.hid (ownT_below H.out.own ((HB1.out.alloc HB1.out.size (.cells #[.int .i64 tk, .int .i64 tf, .int .i64 tt, .int .i64 tN, .int .u64 tU, .string y] 36)).alloc (Nat.le_trans HB1.out.size (by simp)) (.cells #[.int .i64 tk, .int .i64 tf, .int .i64 tt, .int .i64 tN, .int .u64 tU, .string y] 36)) (Nat.le_refl _)); have HSR := Lib.hid (app_src (w1 := w1) tk tf tt tN tU tx y HY.out); have HLN := Lib.hid (show ts.length + [(⟨tk, tf, tt, tN, tU, tx, 0⟩ : TK)].length ≤ 1000000 by have := H.out.len; have := H.out.ks; have := HQ.out; simp; omega); have HBB := Lib.hid (show w.heap.size ≤ ((w1.alloc (.cells #[.int .i64 tk, .int .i64 tf, .int .i64 tt, .int .i64 tN, .int .u64 tU, .string y] 36)).alloc (.cells #[.int .i64 tk, .int .i64 tf, .int .i64 tt, .int .i64 tN, .int .u64 tU, .string y] 36)).heap.size by have := H.out.bel.size; have := HB1.out.size; simp; omega))
          | (at_builtin; (with_reducible refine wpList_appT rfl _ _ rfl rfl rfl rfl HOW.out HSR.out HLN.out HBB.out ?_); intro v' w' hown hgr; have hcell := (own_lt H.out.own (Nat.le_trans HB1.out.size (by simp)) hgr (k := w1.heap.size) (by simp; omega) HB1.out.size 2).trans (by simp : _ = some (Value.int .i64 (tt : Int))); have HOWN := Lib.hid hown; have HGR := Lib.hid hgr; clear hown hgr))
        exact ⟨⟨tt, _, rfl, H.out.next HB1.out HOWN.out HGR.out HX.out HF.out.1 HF.out.2 HQ.out⟩, by have := HF.out; simp [RowKit.intOf]; omega⟩
      · exact absurd rfl he
    · have hne : ((te : Int) != 0) = true := by simp; omega
      have HR := Lib.hid (show alls l = ([], tf, te) by
        obtain ⟨n, hn, _⟩ := H.out.all
        rw [hn, toks_err (by rw [HT.out]; exact he)]
        rw [HT.out])
      clear hf he
      go_wp2_with (go_at_call 17; (with_reducible refine HN.out.mono ?_); rintro e1 w1 ⟨rfl, hb1⟩; have HB1 := Lib.hid hb1; clear hb1)
      go_quiet (fail)
      go_wp2
      rw [Exit.noGoto_ret]
      go_ret3
      rw [HR.out]
      have hb2 := (H.out.bel.trans (HB1.out.mono H.out.bel.size)).alloc (Nat.le_trans H.out.bel.size HB1.out.size) (.cells #[.int .i64 tk, .int .i64 tf, .int .i64 tt, .int .i64 tN, .int .u64 tU, .string y] 36)
      exact ⟨_, rfl, below_drewN hb2 _, World.ownsRow_nil _ _ _ _⟩
set_option maxRecDepth 100000 in
theorem All_big (s : ByteArray) (w : World) (hs : 1048576 < s.size) :
    Calls Tryz.prog 7 #[.string s] w fun e w' => e = .returned (.tuple #[.slice none 0 0, .int .i64 0, .int .i64 5]) ∧ w = w' := by
  have d1 : decide ((1048576 : Int) < (s.size : Int)) = true := decide_eq_true (by omega)
  have d2 : decide (1048576 < s.size) = true := decide_eq_true hs
  clear hs
  go_enter Tryz.func7, Tryz.ntmps7
  go_wp2
  go_step3
  go_wp2
  rw [Exit.noGoto_ret]
  go_ret3
  exact ⟨rfl, rfl⟩
end Go.Proofs.YtodmlgbomhmbpaaGreatDoor
