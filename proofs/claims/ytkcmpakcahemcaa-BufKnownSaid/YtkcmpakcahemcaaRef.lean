/-
  What is proved here: contracts of the reference's buffer (New, fail, put, Align, Num, Text, Cut, Bytes): they do what the same plain functions say; conditions: as each says.
-/
import Derived.Test.YtkcmpakcahemcaaMeth
import Derived.Maps.AppendAt
namespace Go.Proofs.Ytkcmpakcahemcaa
open Go.RowKit Le

/-- The reference's buffer at p: capacity m, row v with the contents xs, error e. -/
structure Rf (B : Nat) (w : World) (p m : Nat) (v : Value) (xs : List UInt8) (e : Int) : Prop where
  box : Bx w p 39 #[v, .int .i64 (m : Int), .int .i64 e]
  own : w.ownsRow B 5 1 v xs.length (bv xs)
  low : B ≤ p
  base : B ≤ w.heap.size
  cap : m ≤ 1048576
  fit : xs.length ≤ m

section
variable {B p m : Nat} {v : Value} {xs : List UInt8} {e : Int} {w w' : World}
theorem Rf.keep (h : Rf B w p m v xs e) (hs : w.heap.size ≤ w'.heap.size) (hk : ∀ k, k < w.heap.size → k = p ∨ v.ownBlock = some k → w'.heap[k]? = w.heap[k]?) : Rf B w' p m v xs e := by
  refine ⟨h.box.same (hk p h.box.lt (.inl rfl)), ⟨h.own.1, ?_⟩, h.low, Nat.le_trans h.base hs, h.cap, h.fit⟩
  rcases h.own.2 with h0 | ⟨g, cap, cur, hv, hg, hh, r⟩
  · exact .inl h0
  · have hl : g < w.heap.size := (h.own.lt g (by rw [hv]; rfl)).2
    exact .inr ⟨g, cap, cur, hv, hg, (hk g hl (.inr (by rw [hv]; rfl))).trans hh, r⟩
theorem Rf.below (h : Rf B w p m v xs e) (hb : Below w.heap.size w w') : Rf B w' p m v xs e := h.keep hb.size fun k hk _ => hb.block k hk
theorem Rf.drewN (h : Rf B w p m v xs e) (n : Nat) : Rf B (w.drewN n) p m v xs e := h.below ⟨rfl, rfl, rfl, Nat.le_refl _, fun _ _ => rfl⟩
theorem Rf.slice (h : Rf B w p m v xs e) : ∃ A c, v = .slice A xs.length c ∧ Rds w A xs.length c xs := by
  obtain ⟨A, n, c, rfl, hr⟩ := Rd.of_own h.own
  obtain rfl : xs.length = n := hr.1
  exact ⟨A, c, rfl, hr⟩
theorem Rf.row_lt (h : Rf B w p m v xs e) : ∀ k, v.ownBlock = some k → k < w.heap.size := fun k hk => (h.own.lt k hk).2
theorem Rf.new (w : World) (m : Nat) (hm : m ≤ 1048576) : Rf w.heap.size (w.alloc (.cells #[.slice none 0 0, .int .i64 (m : Int), .int .i64 0] 39)) w.heap.size m (.slice none 0 0) [] 0 :=
  ⟨Bx.new _ _ _, World.ownsRow_nil _ _ _ _, Nat.le_refl _, by simp, hm, Nat.zero_le _⟩
theorem Rf.mono {B' : Nat} (h : Rf B w p m v xs e) (hB : B' ≤ B) : Rf B' w p m v xs e := by
  refine ⟨h.box, ⟨h.own.1, ?_⟩, Nat.le_trans hB h.low, Nat.le_trans hB h.base, h.cap, h.fit⟩
  rcases h.own.2 with h0 | ⟨g, cap, cur, h1, h2, h3⟩
  · exact .inl h0
  · exact .inr ⟨g, cap, cur, h1, Nat.le_trans hB h2, h3⟩
theorem Rf.err (h : Rf B w p m v xs e) (e' : Int) :
    Rf B (w.setCell ⟨p, 2, none⟩ (.int .i64 e')) p m v xs e' ∧ Ch w (w.setCell ⟨p, 2, none⟩ (.int .i64 e')) p v v := by
  have hne := h.box.ne_row h.own (by decide)
  refine ⟨⟨h.box.put 2 _, ⟨h.own.1, ?_⟩, h.low, by simpa using h.base, h.cap, h.fit⟩, ⟨rfl, rfl, rfl, by simp, fun k hk hkp hkv => Below.heap_setCell _ _ _ _ (by exact hkp), fun k hk => .inl hk⟩⟩
  rcases h.own.2 with h0 | ⟨g, cap, cur, hv, hgb, hh, r⟩
  · exact .inl h0
  · refine .inr ⟨g, cap, cur, hv, hgb, ?_, r⟩
    rw [Below.heap_setCell _ _ _ _ (by rintro rfl; exact hne (by rw [hv]; rfl))]
    exact hh
/-- A new row, stored into the buffer. -/
theorem Rf.app {w1 : World} {v1 : Value} {ys : List UInt8} (h : Rf B w p m v xs e) (hg : w.grownBy w1 v.ownBlock) (ho : w1.ownsRow B 5 1 v1 ys.length (bv ys))
    (hp : ∀ k, v1.ownBlock = some k → v.ownBlock = some k ∨ w.heap.size ≤ k) (hf : ys.length ≤ m) :
    Rf B (w1.setCell ⟨p, 0, none⟩ v1) p m v1 ys e ∧ Ch w (w1.setCell ⟨p, 0, none⟩ v1) p v v1 := by
  have hne := h.box.ne_row h.own (by decide)
  have hb1 : Bx w1 p 39 #[v, .int .i64 (m : Int), .int .i64 e] := h.box.same (hg.block p h.box.lt (fun he => hne he.symm))
  have hne1 := hb1.ne_row ho (by decide)
  refine ⟨⟨hb1.put 0 v1, ⟨ho.1, ?_⟩, h.low, by simpa using Nat.le_trans h.base hg.size, h.cap, hf⟩, ⟨hg.os, hg.tape, hg.output, by simpa using hg.size, fun k hk hkp hkv => ?_, hp⟩⟩
  · rcases ho.2 with h0 | ⟨g, cap, cur, hv, hgb, hh, r⟩
    · exact .inl h0
    · refine .inr ⟨g, cap, cur, hv, hgb, ?_, r⟩
      rw [Below.heap_setCell _ _ _ _ (by rintro rfl; exact hne1 (by rw [hv]; rfl))]
      exact hh
  · rw [Below.heap_setCell _ _ _ _ (by exact hkp)]
    exact hg.block k hk (fun he => hkv he.symm)
end

/-- What a call on the reference's buffer at p leaves. -/
def RP (B : Nat) (w : World) (p m : Nat) (v : Value) (s : St) (e : Ending) (w' : World) : Prop :=
  ∃ v', e = .returned (.tuple #[]) ∧ Rf B w' p m v' s.1 s.2 ∧ Ch w w' p v v'
theorem RP.of {B : Nat} {w w1 : World} {p m : Nat} {v v1 : Value} {s : St} (hc : Ch w w1 p v v1) {e : Ending} {w' : World} (h : RP B w1 p m v1 s e w') : RP B w p m v s e w' := by
  obtain ⟨v', h1, h2, h3⟩ := h
  exact ⟨v', h1, h2, hc.trans h3⟩

/-- append onto a row of the call's own, from a slice that may be nil; and where the new row lies. -/
theorem run_apB {w : World} {base n m c : Nat} {v : Value} {xs ys : List UInt8} {A : Option Addr} (ty : TypeId) (hown : w.ownsRow base 5 1 v n (bv xs)) (hr : Rds w A m c ys)
    (hb : n + m ≤ 4000000) (hbase : base ≤ w.heap.size) :
    ∃ v' w', (Builtin.append_ #[32, 32] ty #[v, .slice A m c]).run Try.prog w = .ok v' w' ∧ w'.ownsRow base 5 1 v' (n + m) (bv (xs ++ ys)) ∧ w.grownBy w' v.ownBlock ∧ (∀ k, v'.ownBlock = some k → v.ownBlock = some k ∨ w.heap.size ≤ k) := by
  rcases A with _ | ad
  · obtain ⟨v', w', h1, h2, h3⟩ := run_app ty hown hr hb hbase
    obtain ⟨i, hi, hz0, hz1, hz2⟩ := info_parts Try.infoU8
    refine ⟨v', w', h1, h2, h3, ?_⟩
    have hm : m = 0 := by
      rcases Nat.eq_zero_or_pos m with h0 | h0
      · exact h0
      · obtain ⟨b, off, he, _⟩ := hr.2.2 h0; cases he
    subst hm
    have : v' = v := by
      rcases hown.2 with ⟨rfl, rfl⟩ | ⟨g, cap, cur, rfl, _, _, hnc, _⟩
      · simp [Builtin.append_, run_underlying Try.underlying32, sizeOf, typeInfo, hi, Builtin.lenOf, Builtin.firstCells] at h1
        exact h1.1.symm
      · simp [Builtin.append_, run_underlying Try.underlying32, sizeOf, typeInfo, hi, Builtin.lenOf, Builtin.firstCells, hnc, storeCells] at h1
        exact h1.1.symm
    subst this
    exact fun k hk => .inl hk
  · obtain ⟨i, hi, hz0, hz1, hz2⟩ := info_parts Try.infoU8
    obtain ⟨v', w', hrun, h2, h3, _, h5⟩ := run_append_own_at (P := Try.prog) w base 32 ty 5 i (.int .u8 0) 1 1 Try.underlying32 hi hz0 hz1 hz2 rfl (by decide) v n (bv xs) hown ad m c (bv ys)
      (by rw [bv_length, hr.1]; omega) hr.cells (bv_one ys) (by simp only [maxLen]; omega) (by omega) hbase
    rw [bv_append] at h2
    refine ⟨v', w', hrun, h2, h3, fun k hk => ?_⟩
    rcases h5 with h5 | h5
    · exact .inl (by rw [← h5]; exact hk)
    · rw [h5] at hk; injection hk with hk; exact .inr (by omega)
theorem wpList_apB {ops : Array Oper} {rest : List Oper} {o : Oper} {a : Act} {Q : Exit → Act → World → Prop} {w : World} {base n m c : Nat} {v : Value} {xs ys : List UInt8} {A : Option Addr}
    (hgd : o.guard = none) (s x : Operand) (ho : o.op = .call { callee := .builtin .append, args := #[s, x], argTypes := #[32, 32] })
    (hs : a.eval s = v) (hx : a.eval x = .slice A m c) (hown : w.ownsRow base 5 1 v n (bv xs)) (hr : Rds w A m c ys) (hb : n + m ≤ 4000000) (hbase : base ≤ w.heap.size)
    (h : ∀ v' w', w'.ownsRow base 5 1 v' (n + m) (bv (xs ++ ys)) → w.grownBy w' v.ownBlock → (∀ k, v'.ownBlock = some k → v.ownBlock = some k ∨ w.heap.size ≤ k) → wpList Try.prog ops Q rest (a.put o.dst v') w') : wpList Try.prog ops Q (o :: rest) a w := by
  refine wpList_plain hgd fun K hK => ?_
  obtain ⟨v', w', hrun, h2, h3, h4⟩ := run_apB o.type hown hr hb hbase
  unfold Oper.wp execOp
  simp only [ho, resolve, invoke, builtin, Sem.run_bind, Sem.run_pure, Result.andThen_ok, List.map_toArray, List.map_cons, List.map_nil, hs, hx, hrun]
  exact hK _ _ (h v' w' h2 h3 h4)

set_option maxRecDepth 20000 in
theorem rNew_any (t : Int) (w : World) : Calls Try.prog 10 #[.int .i64 t] w fun e w' =>
    e = .returned (.pointer (some ⟨w.heap.size, 0, none⟩)) ∧ w' = w.alloc (.cells #[.slice none 0 0, .int .i64 (cp t : Int), .int .i64 0] 39) := by
  by_cases h : t < 0
  · have e1 : (cp t : Int) = 0 := by rw [cp_neg h]; rfl
    rw [e1]
    have h1 : ¬ (0 : Int) < t := by omega
    have h2 : max t 0 = 0 := by omega
    clear e1
    go_enter Try.func10, Try.ntmps10
    go_wp2
    go_ret
    exact ⟨rfl, rfl⟩
  · by_cases hb : t ≤ 1048576
    · have e1 : (cp t : Int) = t := cp_in h hb
      rw [e1]
      have h2 : max t 0 = t := by omega
      have h3 : min t 1048576 = t := by omega
      clear e1 hb
      go_enter Try.func10, Try.ntmps10
      go_wp2
      go_ret
      exact ⟨rfl, rfl⟩
    · have e1 : (cp t : Int) = 1048576 := by rw [cp_big (by omega)]; rfl
      rw [e1]
      have h2 : max t 0 = t := by omega
      have h3 : min t 1048576 = 1048576 := by omega
      clear e1 hb
      go_enter Try.func10, Try.ntmps10
      go_wp2
      go_ret
      exact ⟨rfl, rfl⟩

theorem rWidth_any (x : Int) (w : World) : Calls Try.prog 48 #[.int .i64 x] w fun e w' => e = .returned (.bool (isW x)) ∧ w = w' := by
  by_cases h : x = 1 ∨ x = 2 ∨ x = 4 ∨ x = 8
  · rcases h with rfl | rfl | rfl | rfl
    all_goals
      go_enter Try.func48, Try.ntmps48
      go_wp2
      go_ret
      exact ⟨rfl, rfl⟩
  · rw [isW_false h]
    have h1 : (x == 1) = false := by simp; omega
    have h2 : (x == 2) = false := by simp; omega
    have h4 : (x == 4) = false := by simp; omega
    have h8 : (x == 8) = false := by simp; omega
    clear h
    go_enter Try.func48, Try.ntmps48
    go_wp2
    go_ret
    exact ⟨rfl, rfl⟩

section
variable {B p m : Nat} {v : Value} {xs : List UInt8} {er : Int} {w : World}
/-- The first error. -/
def failS (s : St) (e' : Int) : St := if s.2 = 0 then (s.1, e') else s
theorem fail_any (h : Rf B w p m v xs er) (e' : Int) : Calls Try.prog 49 #[.pointer (some ⟨p, 0, none⟩), .int .i64 e'] w (RP B w p m v (failS (xs, er) e')) := by
  have c2 : w.cell? ⟨p, 2, none⟩ = some (.int .i64 er) := h.box.cell 2
  have f2 : w.frozen? ⟨p, 2, none⟩ = false := h.box.frozen 2
  by_cases he : er = 0
  · subst he
    have e1 : failS (xs, 0) e' = (xs, e') := if_pos rfl
    rw [e1]
    have HBF := Lib.hid (h.err e')
    clear h e1
    go_enter Try.func49, Try.ntmps49
    go_wp2
    go_end0
    exact ⟨_, rfl, HBF.out.1, HBF.out.2⟩
  · have e1 : failS (xs, er) e' = (xs, er) := if_neg he
    rw [e1]
    have d0 : (er == 0) = false := by simpa using he
    have HBF := Lib.hid h
    clear h e1 he
    go_enter Try.func49, Try.ntmps49
    go_wp2
    go_end0
    exact ⟨_, rfl, HBF.out, Ch.refl _ _ _⟩
end
end Go.Proofs.Ytkcmpakcahemcaa
