/-
  What is proved here: lists of numbers in memory, contracts of the reference's Less and Order; condition: the list is one that the form reads.
-/
import Derived.Test.YtoenigbfcbillaaStr
import Derived.Deep.LoopGhost
namespace Go.Proofs.Ytoenigbfcbillaa
open Go.RowKit

/-- The cells of a list of numbers. -/
def bv (xs : List Int) : List Value := xs.map fun b => Value.int .i64 b
theorem bv_length (xs : List Int) : (bv xs).length = xs.length := by simp [bv]
theorem bv_at {xs : List Int} {j : Nat} {x : Int} (h : xs[j]? = some x) : (bv xs)[j]? = some (.int .i64 x) := by simp [bv, h]
theorem bv_inv {xs : List Int} {j : Nat} {u : Value} (h : (bv xs)[j]? = some u) : ∃ x : Int, xs[j]? = some x ∧ u = .int .i64 x := by
  simp only [bv, List.getElem?_map, Option.map_eq_some_iff] at h
  obtain ⟨x, hx, rfl⟩ := h
  exact ⟨x, hx, rfl⟩
theorem bv_one (xs : List Int) : ∀ u ∈ bv xs, u.oneCell' = true := by
  intro u hu
  simp only [bv, List.mem_map] at hu
  obtain ⟨x, _, rfl⟩ := hu
  rfl
theorem bv_append (xs ys : List Int) : bv xs ++ bv ys = bv (xs ++ ys) := by simp [bv]

/-- The slice (A, n, c) reads as the numbers xs in the world w. -/
def Rds (w : World) (A : Option Addr) (n c : Nat) (xs : List Int) : Prop :=
  xs.length = n ∧ n ≤ c ∧ (0 < n → ∃ b off, A = some ⟨b, off, none⟩ ∧ b < w.heap.size ∧ ∀ j x, xs[j]? = some x → w.cell? ⟨b, off + j, none⟩ = some (.int .i64 x))
/-- A value reads as the numbers xs. -/
def Rd (w : World) (v : Value) (xs : List Int) : Prop := ∃ A n c, v = .slice A n c ∧ Rds w A n c xs

theorem Rds.below {w w' : World} {A : Option Addr} {n c : Nat} {xs : List Int} (h : Rds w A n c xs) (hb : Below w.heap.size w w') : Rds w' A n c xs := by
  refine ⟨h.1, h.2.1, fun hn => ?_⟩
  obtain ⟨b, off, rfl, hlt, hc⟩ := h.2.2 hn
  exact ⟨b, off, rfl, Nat.lt_of_lt_of_le hlt hb.size, fun j x hx => (hb.cell (p := ⟨b, off + j, none⟩) hlt).trans (hc j x hx)⟩
theorem Rds.alloc {w : World} {A : Option Addr} {n c : Nat} {xs : List Int} (h : Rds w A n c xs) (o : Obj) : Rds (w.alloc o) A n c xs := h.below ((Below.refl _ _).alloc (Nat.le_refl _) _)
theorem Rd.below {w w' : World} {v : Value} {xs : List Int} (h : Rd w v xs) (hb : Below w.heap.size w w') : Rd w' v xs := by
  obtain ⟨A, n, c, rfl, hr⟩ := h
  exact ⟨A, n, c, rfl, hr.below hb⟩
theorem Rd.alloc {w : World} {v : Value} {xs : List Int} (h : Rd w v xs) (o : Obj) : Rd (w.alloc o) v xs := h.below ((Below.refl _ _).alloc (Nat.le_refl _) _)
theorem Rd.nil (w : World) (A : Option Addr) (c : Nat) : Rd w (.slice A 0 c) [] := ⟨A, 0, c, rfl, rfl, Nat.zero_le _, fun h => absurd h (by omega)⟩

theorem add_none (b off j : Nat) : (⟨b, off, none⟩ : Addr).add j = ⟨b, off + j, none⟩ := by
  unfold Addr.add
  by_cases h : j = 0 <;> simp [h]

theorem Rd.of_own {w : World} {base n : Nat} {v : Value} {xs : List Int} (h : w.ownsRow base 3 1 v n (bv xs)) : Rd w v xs := by
  have hl : xs.length = n := by have := h.1; rw [bv_length] at this; omega
  rcases h.2 with ⟨rfl, h0⟩ | ⟨g, cap, cur, rfl, hb, hg, hnc, hcm, hcs, ht⟩
  · have : xs = [] := List.eq_nil_of_length_eq_zero (by omega)
    subst this
    exact Rd.nil w _ _
  · refine ⟨_, _, _, rfl, hl, hnc, fun hn => ⟨g, 0, rfl, ?_, fun j x hx => ?_⟩⟩
    · rcases Nat.lt_or_ge g w.heap.size with hlt | hge
      · exact hlt
      · rw [Array.getElem?_eq_none hge] at hg; cases hg
    · have hj : j < n := by rw [← hl]; exact (List.getElem?_eq_some_iff.1 hx).1
      have := h.cells (g := g) rfl j _ (bv_at hx)
      rw [add_none] at this
      exact this

/-- A slice expression x[lo:hi] of a readable slice. -/
theorem Rds.cut {w : World} {b off n c : Nat} {xs : List Int} (h : Rds w (some ⟨b, off, none⟩) n c xs) {lo m c' : Nat} (hm : lo + m ≤ n) (hc : m ≤ c') :
    Rds w (some ⟨b, off + lo, none⟩) m c' ((xs.drop lo).take m) := by
  refine ⟨?_, hc, fun hp => ?_⟩
  · rw [List.length_take, List.length_drop, h.1]; omega
  · obtain ⟨b', off', he, hlt, hcell⟩ := h.2.2 (by omega)
    simp only [Option.some.injEq, Addr.mk.injEq, and_true] at he
    obtain ⟨rfl, rfl⟩ := he
    refine ⟨_, _, rfl, hlt, fun j x hx => ?_⟩
    rw [List.getElem?_take] at hx
    split at hx
    · rw [List.getElem?_drop] at hx
      have := hcell _ _ hx
      rwa [← Nat.add_assoc] at this
    · cases hx

/-- The slice's cells as the walk's laws ask for them. -/
theorem Rds.cells {w : World} {ad : Addr} {n c : Nat} {xs : List Int} (h : Rds w (some ad) n c xs) : ∀ j u, (bv xs)[j]? = some u → w.cell? (ad.add j) = some u := by
  intro j u hu
  obtain ⟨x, hx, rfl⟩ := bv_inv hu
  have hj : j < xs.length := (List.getElem?_eq_some_iff.1 hx).1
  obtain ⟨b, off, he, _, hc⟩ := h.2.2 (by have := h.1; omega)
  injection he with he
  subst he
  rw [add_none]
  exact hc j x hx

theorem Try.infoInt : (Try.prog.info? 3).map (fun i => (i.zero, i.size, i.bytes)) = some (some (.int .i64 0), 1, 8) := by kernel_rfl

/-- append onto a row of the call's own, from whatever source: nil, empty or not. -/
theorem run_app {w : World} {base n m c : Nat} {v : Value} {xs ys : List Int} {A : Option Addr} (ty : TypeId) (hown : w.ownsRow base 3 1 v n (bv xs)) (hr : Rds w A m c ys)
    (hb : n + m ≤ 65536) (hbase : base ≤ w.heap.size) :
    ∃ v' w', (Builtin.append_ #[52, 52] ty #[v, .slice A m c]).run Try.prog w = .ok v' w' ∧ w'.ownsRow base 3 1 v' (n + m) (bv (xs ++ ys)) ∧ w.grownBy w' v.ownBlock := by
  obtain ⟨i, hi, hz0, hz1, hz2⟩ := info_parts Try.infoInt
  rcases A with _ | ad
  · have hm : m = 0 := by
      rcases Nat.eq_zero_or_pos m with h0 | h0
      · exact h0
      · obtain ⟨b, off, he, _⟩ := hr.2.2 h0; cases he
    subst hm
    have hx : ys = [] := List.eq_nil_of_length_eq_zero hr.1
    subst hx
    refine ⟨v, w, ?_, by simpa using hown, World.grownBy.refl w _⟩
    rcases hown.2 with ⟨rfl, rfl⟩ | ⟨g, cap, cur, rfl, _, _, hnc, _⟩
    · simp [Builtin.append_, run_underlying Try.underlying52, sizeOf, typeInfo, hi, Builtin.lenOf, Builtin.firstCells]
    · simp [Builtin.append_, run_underlying Try.underlying52, sizeOf, typeInfo, hi, Builtin.lenOf, Builtin.firstCells, hnc, storeCells]
  · obtain ⟨v', w', hrun, h2, h3, _⟩ := run_append_own (P := Try.prog) w base 52 ty 3 i (.int .i64 0) 1 8 Try.underlying52 hi hz0 hz1 hz2 rfl (by decide) v n (bv xs) hown ad m c (bv ys)
      (by rw [bv_length, hr.1]; omega) hr.cells (bv_one ys) (by simp only [maxLen]; omega) (by omega) hbase
    rw [bv_append] at h2
    exact ⟨v', w', hrun, h2, h3⟩

theorem wpList_app {ops : Array Oper} {rest : List Oper} {o : Oper} {a : Act} {Q : Exit → Act → World → Prop} {w : World} {base n m c : Nat} {v : Value} {xs ys : List Int} {A : Option Addr}
    (hgd : o.guard = none) (s x : Operand) (ho : o.op = .call { callee := .builtin .append, args := #[s, x], argTypes := #[52, 52] })
    (hs : a.eval s = v) (hx : a.eval x = .slice A m c) (hown : w.ownsRow base 3 1 v n (bv xs)) (hr : Rds w A m c ys) (hb : n + m ≤ 65536) (hbase : base ≤ w.heap.size)
    (h : ∀ v' w', w'.ownsRow base 3 1 v' (n + m) (bv (xs ++ ys)) → w.grownBy w' v.ownBlock → wpList Try.prog ops Q rest (a.put o.dst v') w') : wpList Try.prog ops Q (o :: rest) a w := by
  refine wpList_plain hgd fun K hK => ?_
  obtain ⟨v', w', hrun, h2, h3⟩ := run_app o.type hown hr hb hbase
  unfold Oper.wp execOp
  simp only [ho, resolve, invoke, builtin, Sem.run_bind, Sem.run_pure, Result.andThen_ok, List.map_toArray, List.map_cons, List.map_nil, hs, hx, hrun]
  exact hK _ _ (h v' w' h2 h3)

theorem own_base {w : World} {base n : Nat} {v : Value} {xs : List Value} (h : w.ownsRow base 3 1 v n xs) : ∀ k, v.ownBlock = some k → base ≤ k := fun k hk => (h.lt k hk).1
theorem Rds.at {w : World} {A : Option Addr} {n c : Nat} {xs : List Int} (h : Rds w A n c xs) (hn : 0 < n) :
    ∃ b off, A = some ⟨b, off, none⟩ ∧ b < w.heap.size ∧ ∀ j x, xs[j]? = some x → w.cell? ⟨b, off + j, none⟩ = some (.int .i64 x) := h.2.2 hn
theorem belN {n : Nat} {w w' : World} (h : Below n w w') (m : Nat) : Below n w (w'.drewN m) := ⟨h.os, h.tape, h.output, h.size, h.block⟩

set_option maxRecDepth 100000 in
set_option maxHeartbeats 1000000 in
theorem refLess_q (a b : ByteArray) (w : World) (ha : a.size ≤ maxLen) (hb : b.size ≤ maxLen) : Calls Try.prog 37 #[.string a, .string b] w fun e w' => e = .returned (.bool (lt a b)) ∧ ∃ q, w' = w.drewN q := by
  have hma : a.size ≤ 9223372036854775807 := ha
  have hmb : b.size ≤ 9223372036854775807 := hb
  obtain ⟨β, hβ⟩ : ∃ β, Op.bytesLess a.toList b.toList = β := ⟨_, rfl⟩
  have HB := Lib.hid hβ
  have e0 : lt a b = β := hβ
  rw [e0]
  clear hβ ha hb e0
  go_enter Try.func37, Try.ntmps37
  go_wp2_with fail
  go_loopw [5] (fun i wr => ∃ j : Nat, j ≤ a.size ∧ j ≤ b.size ∧ i = .int .i64 (j : Int) ∧ Hid (a.toList.take j = b.toList.take j) ∧ ∃ q, wr = w.drewN q) (fun i wr => a.size - (intOf i).toNat)
  case atStart => exact ⟨0, Nat.zero_le _, Nat.zero_le _, rfl, Lib.hid rfl, 0, rfl⟩
  case round =>
    obtain ⟨j, hja, hjb, rfl, HT, q, rfl⟩ := hrel
    by_cases h1 : j < a.size
    · by_cases h2 : j < b.size
      · have hx : a.toList[j]? = some a[j] := by
          rw [ByteArray.toList_eq, List.getElem?_eq_getElem (by simpa using h1)]
          rfl
        have hy : b.toList[j]? = some b[j] := by
          rw [ByteArray.toList_eq, List.getElem?_eq_getElem (by simpa using h2)]
          rfl
        have HX := Lib.hid hx
        have HY := Lib.hid hy
        clear hx hy
        by_cases hxy : a[j] = b[j]
        · have hne : (((a[j].toNat : Nat) : Int) != ((b[j].toNat : Nat) : Int)) = false := by rw [hxy]; simp
          have HN : Hid (a.toList.take (j + 1) = b.toList.take (j + 1)) := Lib.hid (by rw [List.take_add_one, List.take_add_one, HT.out, HX.out, HY.out, hxy])
          clear hxy
          go_wp2_with fail
          go_quiet (fail)
          go_wp2_with fail
          go_roundw
          case rel => exact ⟨j + 1, by omega, by omega, by simp, HN, _, rfl⟩
          case measure => simp [intOf]; omega
        · have hne : (((a[j].toNat : Nat) : Int) != ((b[j].toNat : Nat) : Int)) = true := by
            simp only [bne_iff_ne, ne_eq]
            intro h
            exact hxy (UInt8.toNat_inj.1 (by omega))
          have HZ : Hid (decide (a[j].toNat < b[j].toNat) = β) := Lib.hid (by
            rw [← HB.out, less_at HT.out HX.out HY.out hxy]
            exact decide_eq_decide.2 UInt8.lt_iff_toNat_lt.symm)
          clear hxy
          go_wp2_with fail
          go_quiet (fail)
          go_wp2_with fail
          go_quiet (fail)
          go_wp2_with fail
          go_ret
          exact ⟨by rw [← HZ.out]; rfl, _, by rw [World.drewN_drewN, World.drewN_drewN]⟩
      · have HZ : Hid (decide (a.size < b.size) = β) := Lib.hid (by
          have := less_end HT.out (by simp [ByteArray.toList_eq]; omega) (by simp [ByteArray.toList_eq]; omega) (.inr (by simp [ByteArray.toList_eq]; omega))
          rw [← HB.out, this]
          simp [ByteArray.toList_eq])
        go_wp2_with fail
        go_ret
        exact ⟨by rw [← HZ.out]; rfl, _, rfl⟩
    · have HZ : Hid (decide (a.size < b.size) = β) := Lib.hid (by
        have := less_end HT.out (by simp [ByteArray.toList_eq]; omega) (by simp [ByteArray.toList_eq]; omega) (.inl (by simp [ByteArray.toList_eq]; omega))
        rw [← HB.out, this]
        simp [ByteArray.toList_eq])
      go_wp2_with fail
      go_ret
      exact ⟨by rw [← HZ.out]; rfl, _, rfl⟩

/-- A row of the call's own, laid since the world w0. -/
def AP (w0 W : World) (v : Value) (xs : List Int) : Prop := W.ownsRow w0.heap.size 3 1 v xs.length (bv xs) ∧ RowKit.Below w0.heap.size w0 W
theorem AP.nil {w0 W : World} (h : RowKit.Below w0.heap.size w0 W) : AP w0 W (.slice none 0 0) [] := ⟨World.ownsRow_nil _ _ _ _, h⟩
theorem own_keep {w w' : World} {base n : Nat} {e : TypeId} {v : Value} {xs : List Value} (h : w.ownsRow base e 1 v n xs) (hb : RowKit.Below w.heap.size w w') : w'.ownsRow base e 1 v n xs := by
  refine ⟨h.1, ?_⟩
  rcases h.2 with ⟨h', h0⟩ | ⟨g, cap', cur, h', h1, hg, h2⟩
  · exact .inl ⟨h', h0⟩
  · exact .inr ⟨g, cap', cur, h', h1, (hb.block g (Array.getElem?_eq_some_iff.1 hg).1).trans hg, h2⟩
theorem own_base_le {w : World} {base base' n : Nat} {e : TypeId} {v : Value} {xs : List Value} (h : w.ownsRow base e 1 v n xs) (hb : base' ≤ base) : w.ownsRow base' e 1 v n xs := by
  refine ⟨h.1, ?_⟩
  rcases h.2 with ⟨h', h0⟩ | ⟨g, cap', cur, h', h1, h2⟩
  · exact .inl ⟨h', h0⟩
  · exact .inr ⟨g, cap', cur, h', Nat.le_trans hb h1, h2⟩
theorem AP.alloc {w0 W : World} {v : Value} {xs : List Int} (h : AP w0 W v xs) (o : Obj) : AP w0 (W.alloc o) v xs :=
  ⟨own_keep h.1 ((RowKit.Below.refl _ _).alloc (Nat.le_refl _) o), h.2.alloc h.2.size o⟩
theorem rds_lit (W : World) (x : Int) : Rds (W.alloc (.cells #[.int .i64 x] 3)) (some ⟨W.heap.size, 0, none⟩) 1 1 [x] := by
  refine ⟨rfl, Nat.le_refl _, fun _ => ⟨W.heap.size, 0, rfl, by simp, fun j y hy => ?_⟩⟩
  rw [cell_of_row _ _ _ #[.int .i64 x] 3 (0, 0) (heap_alloc_new W _)]
  match j, hy with
  | 0, hy => simp at hy; subst hy; rfl
theorem step_ap {ops : Array Oper} {o : Oper} {a : Act} {w w0 : World} {K : Act → World → Prop} {Q : Exit → Act → World → Prop} {E : Prop} {m c : Nat} {v : Value} {xs ys : List Int} {A : Option Addr}
    (hgd : o.guard = none) (s x : Operand) (ho : o.op = .call { callee := .builtin .append, args := #[s, x], argTypes := #[52, 52] })
    (hs : a.eval s = v) (hx : a.eval x = .slice A m c) (hap : AP w0 w v xs) (hr : Rds w A m c ys) (hb : xs.length + m ≤ 65536)
    (h : ∀ v' w', Hid (AP w0 w' v' (xs ++ ys)) → Hid (v = .slice none 0 0 → RowKit.Below w.heap.size w w') → K (a.put o.dst v') w') :
    if Region.wanted o (yielded ops a.tmps) = true then Oper.wp Try.prog o a w K Q else E := by
  have hw : Region.wanted o (yielded ops a.tmps) = true := by simp [Region.wanted, hgd]
  rw [if_pos hw]
  obtain ⟨v', w', hrun, h2, h3⟩ := run_app o.type hap.1 hr hb hap.2.size
  unfold Oper.wp execOp
  simp only [ho, resolve, invoke, builtin, Sem.run_bind, Sem.run_pure, Result.andThen_ok, List.map_toArray, List.map_cons, List.map_nil, hs, hx, hrun]
  refine h v' w' (Lib.hid ⟨?_, ?_⟩) (Lib.hid ?_)
  · rw [List.length_append, hr.1]; exact h2
  · refine hap.2.trans ⟨h3.os, h3.tape, h3.output, h3.size, fun k hk => h3.block k (Nat.lt_of_lt_of_le hk hap.2.size) (fun e => ?_)⟩
    have := own_base hap.1 k e.symm
    omega
  · rintro rfl
    exact ⟨h3.os, h3.tape, h3.output, h3.size, fun k hk => h3.block k hk (by simp [Value.ownBlock])⟩
def ky (l : List ByteArray) (j : Nat) : ByteArray := l.getD j ⟨#[]⟩
/-- The places below i, in the increasing order of their keys. -/
structure SQ (l : List ByteArray) (q : List Nat) (i : Nat) : Prop where
  perm : q.Perm (List.range i)
  inc : q.Pairwise fun a b => lt (ky l a) (ky l b) = true
theorem getD_at (l : List ByteArray) (j : Nat) (h : j < l.length) : l.getD j ⟨#[]⟩ = l[j] := by
  rw [List.getD_eq_getElem?_getD, List.getElem?_eq_getElem h]
  rfl
theorem SQ.nil (l : List ByteArray) : SQ l [] 0 := ⟨by simp, List.Pairwise.nil⟩
theorem SQ.ins {l : List ByteArray} {q : List Nat} {i at' : Nat} (h : SQ l q i) (h1 : ∀ j, j < at' → ∀ a, q[j]? = some a → lt (ky l a) (ky l i) = true) (h2 : ∀ a, q[at']? = some a → lt (ky l i) (ky l a) = true) :
    SQ l (q.take at' ++ i :: q.drop at') (i + 1) := by
  have hq : (q.take at' ++ q.drop at').Pairwise fun a b => lt (ky l a) (ky l b) = true := by rw [List.take_append_drop]; exact h.inc
  obtain ⟨p1, p2, p3⟩ := List.pairwise_append.1 hq
  have hd : ∀ b ∈ q.drop at', lt (ky l i) (ky l b) = true := by
    intro b hb
    cases hD : q.drop at' with
    | nil => rw [hD] at hb; cases hb
    | cons a r =>
      have ha : q[at']? = some a := by
        have : (q.drop at')[0]? = some a := by rw [hD]; rfl
        simpa using this
      rw [hD] at hb p2
      rcases List.mem_cons.1 hb with rfl | hb
      · exact h2 _ ha
      · exact lt_trans (h2 _ ha) ((List.pairwise_cons.1 p2).1 b hb)
  have ht : ∀ a ∈ q.take at', lt (ky l a) (ky l i) = true := by
    intro a ha
    obtain ⟨j, hj, rfl⟩ := List.getElem_of_mem ha
    rw [List.length_take] at hj
    rw [List.getElem_take]
    exact h1 j (by omega) _ (List.getElem?_eq_getElem (by omega))
  constructor
  · refine List.perm_middle.trans ?_
    rw [List.take_append_drop, List.range_succ]
    exact (List.Perm.cons i h.perm).trans (List.perm_append_singleton i (List.range i)).symm
  · refine List.pairwise_append.2 ⟨p1, List.pairwise_cons.2 ⟨hd, p2⟩, ?_⟩
    intro a ha b hb
    rcases List.mem_cons.1 hb with rfl | hb
    · exact ht a ha
    · exact p3 a ha b hb
theorem SQ.length {l : List ByteArray} {q : List Nat} {i : Nat} (h : SQ l q i) : q.length = i := by rw [h.perm.length_eq, List.length_range]
theorem SQ.lt {l : List ByteArray} {q : List Nat} {i j a : Nat} (h : SQ l q i) (ha : q[j]? = some a) : a < i := List.mem_range.1 (h.perm.mem_iff.1 (List.mem_of_getElem? ha))
theorem SQ.twice {l : List ByteArray} {q : List Nat} {i j a : Nat} (h : SQ l q i) (hi : i < l.length) (ha : q[j]? = some a) (he : ky l a = ky l i) : ¬ l.Nodup := by
  intro hn
  have hlt := h.lt ha
  unfold ky at he
  rw [getD_at _ _ (by omega), getD_at _ _ hi] at he
  have := (List.getElem_inj hn).1 he
  omega
theorem SQ.nodup {l : List ByteArray} {q : List Nat} (h : SQ l q l.length) : l.Nodup := by
  rw [List.nodup_iff_pairwise_ne, List.pairwise_iff_getElem]
  intro i j hi hj hij he
  obtain ⟨x, hx, hxi⟩ := List.getElem_of_mem (h.perm.mem_iff.2 (List.mem_range.2 hi))
  obtain ⟨y, hy, hyj⟩ := List.getElem_of_mem (h.perm.mem_iff.2 (List.mem_range.2 hj))
  have hk : ky l i = ky l j := by
    unfold ky
    rw [getD_at _ _ hi, getD_at _ _ hj]
    exact he
  have hxy : x ≠ y := by intro e; subst e; omega
  rcases Nat.lt_or_gt_of_ne hxy with h1 | h1
  · have := List.pairwise_iff_getElem.1 h.inc x y hx hy h1
    rw [hxi, hyj, hk, lt_irrefl] at this
    cases this
  · have := List.pairwise_iff_getElem.1 h.inc y x hy hx h1
    rw [hxi, hyj, hk, lt_irrefl] at this
    cases this
theorem SQ.unique {l : List ByteArray} {q q' : List Nat} {i : Nat} (h : SQ l q i) (h' : SQ l q' i) : q = q' := by
  refine List.Perm.eq_of_pairwise ?_ h.inc h'.inc (h.perm.trans h'.perm.symm)
  intro a b _ _ h1 h2
  have := lt_trans h1 h2
  rw [lt_irrefl] at this
  cases this
abbrev nb (q : List Nat) : List Value := bv (q.map Int.ofNat)
theorem nb_at {q : List Nat} {j a : Nat} (h : q[j]? = some a) : (q.map Int.ofNat)[j]? = some (a : Int) := by simp [h]

/-- What the first at' of q have to do with the key at i. -/
def Low (l : List ByteArray) (q : List Nat) (i at' : Nat) : Prop := ∀ j, j < at' → ∀ a, q[j]? = some a → lt (ky l a) (ky l i) = true
theorem Low.step {l : List ByteArray} {q : List Nat} {i k a : Nat} (h : Low l q i k) (ha : q[k]? = some a) (hl : lt (ky l a) (ky l i) = true) : Low l q i (k + 1) := by
  intro j hj b hb
  by_cases e : j = k
  · subst e; rw [ha] at hb; cases hb; exact hl
  · exact h j (by omega) b hb
structure OI (l : List ByteArray) (w : World) (q : List Nat) (i : Nat) (P : Option Addr) (m cap : Nat) (W : World) : Prop where
  sq : SQ l q i
  row : W.ownsRow w.heap.size 3 1 (.slice P m cap) i (nb q)
  hb : RowKit.Below w.heap.size w W
theorem OI.len {l : List ByteArray} {w W : World} {q : List Nat} {i m cap : Nat} {P : Option Addr} (h : OI l w q i P m cap W) : m = i ∧ q.length = i := by
  refine ⟨?_, h.sq.length⟩
  rcases h.row.2 with ⟨h', h0⟩ | ⟨g, cap', cur, h', _⟩
  · cases h'; omega
  · cases h'; rfl
theorem OI.below {l : List ByteArray} {w W W' : World} {q : List Nat} {i m cap : Nat} {P : Option Addr} (h : OI l w q i P m cap W) (hb : RowKit.Below W.heap.size W W') : OI l w q i P m cap W' :=
  ⟨h.sq, own_keep h.row hb, h.hb.trans (hb.mono h.hb.size)⟩
theorem OI.at {l : List ByteArray} {w W : World} {q : List Nat} {i m cap k : Nat} {P : Option Addr} (h : OI l w q i P m cap W) (hk : k < i) :
    ∃ g a, P = some ⟨g, 0, none⟩ ∧ q[k]? = some a ∧ a < i ∧ W.cell? ⟨g, k, none⟩ = some (.int .i64 (a : Int)) := by
  have hq : k < q.length := by rw [h.len.2]; exact hk
  rcases h.row.2 with ⟨h', h0⟩ | ⟨g, cap', cur, h', h1, hg, _, _, _, htake⟩
  · omega
  · cases h'
    refine ⟨g, q[k], rfl, List.getElem?_eq_getElem hq, h.sq.lt (List.getElem?_eq_getElem hq), ?_⟩
    rw [cell_of_row W g k cur _ (0, 0) hg]
    have : (cur.toList.take (i * 1))[k]? = (nb q)[k]? := by rw [htake]
    rw [List.getElem?_take_of_lt (by omega), Array.getElem?_toList] at this
    rw [this]
    exact bv_at (nb_at (List.getElem?_eq_getElem hq))
/-- The row as the next statement slices it. -/
theorem OI.cut {l : List ByteArray} {w W : World} {q : List Nat} {m cap : Nat} {P : Option Addr} (h : OI l w q m P m cap W) :
    (P = none ∧ m = 0 ∧ cap = 0) ∨ ∃ g, P = some ⟨g, 0, none⟩ ∧ m ≤ cap ∧ Rds W (some ⟨g, 0, none⟩) m cap (q.map Int.ofNat) := by
  rcases h.row.2 with ⟨h', h0⟩ | ⟨g, cap', cur, h', h1, hg, h3, _, _, htake⟩
  · cases h'; exact .inl ⟨rfl, rfl, rfl⟩
  · cases h'
    obtain ⟨A, n, c, e, hr⟩ := Rd.of_own h.row
    cases e
    exact .inr ⟨g, rfl, h3, hr⟩
theorem OI.ins {l : List ByteArray} {w wr W : World} {q : List Nat} {m k : Nat} {v : Value} {xs : List Int} (hs : SQ l (q.take k ++ m :: q.drop k) (m + 1)) (hw : RowKit.Below w.heap.size w wr) (h : AP wr W v xs)
    (hx : xs = (q.take k ++ m :: q.drop k).map Int.ofNat) : ∃ P m' cap, v = .slice P m' cap ∧ OI l w (q.take k ++ m :: q.drop k) (m + 1) P m' cap W := by
  subst hx
  have h1 := h.1
  rw [List.length_map, hs.length] at h1
  have h2 := own_base_le h1 hw.size
  have : ∃ P m' cap, v = .slice P m' cap := by
    rcases h1.2 with ⟨h', _⟩ | ⟨g, cap', cur, h', _⟩
    · exact ⟨_, _, _, h'⟩
    · exact ⟨_, _, _, h'⟩
  obtain ⟨P, m', cap, rfl⟩ := this
  exact ⟨P, m', cap, rfl, hs, h2, hw.trans (h.2.mono hw.size)⟩
theorem map_take_nat (q : List Nat) (k : Nat) : (q.take k).map Int.ofNat = (q.map Int.ofNat).take k := by rw [List.map_take]

theorem quiet_addq {P : Program} {f : FuncId} {args : Array Value} {w : World} {a n : Nat} {v : Value} (h : Calls P f args (w.drewN (a + n)) fun e w' => e = .returned v ∧ ∃ q, w' = (w.drewN (a + n)).drewN q) :
    Calls P f args (w.drewN (a + n)) fun e w'' => e = .returned v ∧ ∃ m, w'' = w.drewN (a + m) := by
  refine h.mono ?_
  rintro e w' ⟨h1, q, rfl⟩
  exact ⟨h1, n + q, by rw [World.drewN_drewN, Nat.add_assoc]⟩

set_option maxRecDepth 100000 in
set_option maxHeartbeats 2000000 in
theorem refOrder_any (l : List ByteArray) (v : Value) (w : World) (hl : RdS w v l) (hn : l.length ≤ 60000) :
    Calls Try.prog 33 #[v] w fun e w' => RowKit.Below w.heap.size w w' ∧ ((e = .returned (.tuple #[.slice none 0 0, .int .i64 71]) ∧ ¬ l.Nodup) ∨
      ∃ v' q, e = .returned (.tuple #[v', .int .i64 0]) ∧ SQ l q l.length ∧ w'.ownsRow w.heap.size 3 1 v' l.length (nb q)) := by
  obtain ⟨A, n, c, rfl, hln, hnc, hc, hsz, hA⟩ := hl.at
  have hn1 : n ≤ 60000 := by omega
  have HLN := Lib.hid hln
  have HA := Lib.hid hA
  have HSZ := Lib.hid hsz
  have HI : Hid (OI l w [] 0 none 0 0 w) := Lib.hid ⟨SQ.nil l, World.ownsRow_nil _ _ _ _, RowKit.Below.refl _ _⟩
  clear hA hsz hl hln
  go_enter Try.func33, Try.ntmps33
  go_wp2_with fail
  go_loopw [4, 5] (fun vo vi wr => ∃ (q : List Nat) (i : Nat) (P : Option Addr) (m cap : Nat), vo = .slice P m cap ∧ vi = .int .i64 (i : Int) ∧ i ≤ n ∧ Hid (OI l w q i P m cap wr)) (fun _ vi _ => n - (intOf vi).toNat)
  case atStart => exact ⟨[], 0, none, 0, 0, rfl, rfl, Nat.zero_le _, HI⟩
  case round =>
    obtain ⟨q, i, P, m, cap, rfl, rfl, hin, HO⟩ := hrel
    obtain ⟨hm, hq⟩ := HO.out.len
    subst hm
    by_cases h1 : m < n
    · clear HI
      obtain ⟨W0, hW0⟩ : ∃ W0, W0 = wr := ⟨_, rfl⟩
      subst hW0
      go_wp2_with fail
      go_loopw [6] (fun va wx => ∃ k q' : Nat, va = .int .i64 (k : Int) ∧ k ≤ m ∧ Hid (Low l q m k) ∧ wx = W0.drewN q') (fun va _ => m - (intOf va).toNat)
      case atStart => exact ⟨0, 0, rfl, Nat.zero_le _, Lib.hid (fun j hj => by omega), rfl⟩
      case round =>
        obtain ⟨k, q', rfl, hkm, HL, rfl⟩ := hrel
        obtain ⟨b, off, rfl, _, hc1⟩ := HA.out (by omega)
        obtain ⟨y, hy⟩ : ∃ y, l[m]? = some y := ⟨_, List.getElem?_eq_getElem (by rw [HLN.out]; exact h1)⟩
        have hym : ky l m = y := by unfold ky; rw [List.getD_eq_getElem?_getD, hy]; rfl
        have hys := HSZ.out y (List.mem_of_getElem? hy)
        have cy := hc1 W0 HO.out.hb m y hy
        have i1 : (0 : Int) ≤ (k : Int) := by omega
        have i5 : (0 : Int) ≤ (m : Int) := by omega
        have i6 : (m : Int) < (n : Int) := by omega
        by_cases h2 : k < m
        · obtain ⟨g, a, rfl, ha, ham, cg⟩ := HO.out.at h2
          obtain ⟨x, hx⟩ : ∃ x, l[a]? = some x := ⟨_, List.getElem?_eq_getElem (by rw [HLN.out]; omega)⟩
          have hxa : ky l a = x := by unfold ky; rw [List.getD_eq_getElem?_getD, hx]; rfl
          have hxs := HSZ.out x (List.mem_of_getElem? hx)
          have cx := hc1 W0 HO.out.hb a x hx
          have i2 : (k : Int) < (m : Int) := by omega
          have i3 : (0 : Int) ≤ (a : Int) := by omega
          have i4 : (a : Int) < (n : Int) := by omega
          obtain ⟨β, hβ⟩ : ∃ β, lt x y = β := ⟨_, rfl⟩
          have HC : Hid (∀ W, Calls Try.prog 37 #[.string x, .string y] W fun e w' => e = .returned (.bool β) ∧ ∃ q, w' = W.drewN q) := Lib.hid fun W => by rw [← hβ]; exact refLess_q x y W hxs hys
          have HX : Hid (q[k]? = some a ∧ ky l a = x ∧ ky l m = y ∧ lt x y = β) := Lib.hid ⟨ha, hxa, hym, hβ⟩
          clear ha hx hxa hxs hc1 hy hym hys hβ HA HSZ
          go_wp2_with fail
          go_quiet ((go_at_call 37; first | exact quiet_addq (HC.out _) | exact Calls.quiet_of (HC.out _)))
          cases β with
          | true =>
            have HL2 : Hid (Low l q m (k + 1)) := Lib.hid (by
              obtain ⟨e1, e2, e3, e4⟩ := HX.out
              exact HL.out.step e1 (by rw [e2, e3]; exact e4))
            go_wp2_with fail
            go_roundw
            case rel => exact ⟨k + 1, _, by simp, by omega, HL2, rfl⟩
            case measure => simp [intOf]; omega
          | false =>
            by_cases hxy : x = y
            · have hT := strEq_true hxy
              have HT : Hid (¬ l.Nodup) := Lib.hid (by
                obtain ⟨e1, e2, e3, e4⟩ := HX.out
                exact HO.out.sq.twice (by rw [HLN.out]; exact h1) e1 (by rw [e2, e3]; exact hxy))
              clear hxy
              go_wp2_with fail
              go_quiet (fail)
              go_wp2_with fail
              go_ret2
              exact ⟨by first | exact belN HO.out.hb _ | exact belN (belN HO.out.hb _) _ | exact belN (belN (belN HO.out.hb _) _) _, .inl ⟨rfl, HT.out⟩⟩
            · have hF := strEq_false hxy
              have HG : Hid (∀ a, q[k]? = some a → lt (ky l m) (ky l a) = true) := Lib.hid (by
                obtain ⟨e1, e2, e3, e4⟩ := HX.out
                intro a' h'
                rw [e1] at h'
                cases h'
                rw [e2, e3]
                rcases lt_tri x y with e | ⟨e, _⟩ | ⟨e, _⟩
                · exact absurd e hxy
                · rw [e4] at e; cases e
                · exact e)
              clear hxy
              go_wp2_with fail
              go_quiet (fail)
              go_wp2_with fail
              obtain ⟨hcap, HR⟩ : m ≤ cap ∧ Hid (Rds W0 (some ⟨g, 0, none⟩) m cap (q.map Int.ofNat)) := by
                rcases HO.out.cut with ⟨e, _⟩ | ⟨g', e, e1, e2⟩
                · cases e
                · cases e; exact ⟨e1, Lib.hid e2⟩
              have HKL : Hid (k < m ∧ m < 60000 ∧ q.length = m) := Lib.hid ⟨h2, by omega, HO.out.len.2⟩
              have HSQ : Hid (SQ l (q.take k ++ m :: q.drop k) (m + 1)) := Lib.hid (HO.out.sq.ins HL.out HG.out)
              have HS1 : Hid (∀ W, RowKit.Below W0.heap.size W0 W → Rds W (some ⟨g, 0, none⟩) k cap ((q.map Int.ofNat).take k)) := Lib.hid fun W hb => (HR.out.cut (lo := 0) (m := k) (c' := cap) (by omega) (by omega)).below hb
              have HS3 : Hid (∀ W, RowKit.Below W0.heap.size W0 W → Rds W (some ⟨g, k, none⟩) (m - k) (cap - k) ((q.map Int.ofNat).drop k)) := Lib.hid fun W hb => by
                have h := (HR.out.cut (lo := k) (m := m - k) (c' := cap - k) (by omega) (by omega)).below hb
                rw [Nat.zero_add, List.take_of_length_le (by simp [HKL.out.2.2])] at h
                exact h
              have ik0 : (k : Int) ≤ (m : Int) := by omega
              have ik1 : (m : Int) ≤ (cap : Int) := by omega
              have ik2 : (k : Int) ≤ (cap : Int) := by omega
              have ik3 : ¬ cap = k := by omega
              clear HC HX hF HG
              generalize hW5 : World.drewN _ _ = W5
              have HW5 : Hid (RowKit.Below W0.heap.size W0 W5) := Lib.hid (by rw [← hW5]; first | exact belN (belN (belN (RowKit.Below.refl _ _) _) _) _ | exact belN (belN (RowKit.Below.refl _ _) _) _)
              clear hW5
              go_region_held3 (fun _ => True) (go_keep)
                (first
                  | (refine step_ap (w0 := W0) (v := .slice none 0 0) (xs := []) (ys := (q.map Int.ofNat).take k) (A := some ⟨g, 0, none⟩) (m := k) (c := cap) rfl _ _ rfl rfl rfl (AP.nil (by first | exact HW5.out.drew | exact (HW5.out.drew).alloc (HW5.out.drew).size _)) (by first | exact HS1.out _ HW5.out.drew | exact HS1.out _ ((HW5.out.drew).alloc (HW5.out.drew).size _)) (by have := HKL.out; simp; omega) ?_; intro v1 w1 H1 H1b)
                  | (refine step_ap (w0 := W0) (v := v1) (xs := [] ++ (q.map Int.ofNat).take k) (ys := [(m : Int)]) (A := some ⟨_, 0, none⟩) (m := 1) (c := 1) rfl _ _ rfl rfl rfl (by first | exact H1.out | exact H1.out.alloc _) (by first | exact rds_lit _ _ | exact (rds_lit _ _).below (H1b.out rfl) | exact (rds_lit W5 _).below (((RowKit.Below.refl _ _).drew).trans (H1b.out rfl))) (by have := HKL.out; simp; omega) ?_; intro v2 w2 H2 H2b)
                  | (refine step_ap (w0 := W0) (v := v2) (xs := [] ++ (q.map Int.ofNat).take k ++ [(m : Int)]) (ys := (q.map Int.ofNat).drop k) (A := some ⟨g, k, none⟩) (m := m - k) (c := cap - k) rfl _ _ rfl rfl rfl H2.out (HS3.out _ H2.out.2) (by have := HKL.out; simp; omega) ?_; intro v3 w3 H3 H3b))
              all_goals
                obtain ⟨P', m', cap', rfl, HOI⟩ := OI.ins HSQ.out HO.out.hb H3.out (by have := HKL.out; simp)
                have HOI := Lib.hid HOI
                clear H1 H1b H2 H2b H3 H3b
                go_wp2_with fail
                go_roundw
                case rel => exact ⟨_, m + 1, P', m', cap', rfl, by simp, by omega, HOI⟩
                case measure => simp [intOf]; omega
        · obtain rfl : k = m := by omega
          have hd : decide ((k : Int) < (k : Int)) = false := by simp
          go_wp2_with fail
          go_quiet (fail)
          go_wp2_with fail
          go_quiet (fail)
          go_wp2_with fail
          have HKL : Hid (k < 60000 ∧ q.length = k) := Lib.hid ⟨by omega, HO.out.len.2⟩
          have HKD : Hid (q.length ≤ k) := Lib.hid (by omega)
          have HSQ : Hid (SQ l (q.take k ++ k :: q.drop k) (k + 1)) := Lib.hid (HO.out.sq.ins HL.out (fun a ha => by rw [List.getElem?_eq_none HKD.out] at ha; cases ha))
          rcases HO.out.cut with ⟨rfl, rfl, rfl⟩ | ⟨g, rfl, hcap, hR⟩
          · have HS1 : Hid (∀ W, RowKit.Below W0.heap.size W0 W → Rds W none 0 0 ((q.map Int.ofNat).take 0)) := Lib.hid fun W hb => ⟨rfl, Nat.le_refl _, fun h => absurd h (by omega)⟩
            generalize hW5 : World.drewN _ _ = W5
            have HW5 : Hid (RowKit.Below W0.heap.size W0 W5) := Lib.hid (by rw [← hW5]; first | exact belN (belN (belN (RowKit.Below.refl _ _) _) _) _ | exact belN (belN (RowKit.Below.refl _ _) _) _)
            clear hW5
            go_region_held3 (fun _ => True) (go_keep)
              (first
                | (refine step_ap (w0 := W0) (v := .slice none 0 0) (xs := []) (ys := [((0 : Nat) : Int)]) (A := some ⟨_, 0, none⟩) (m := 1) (c := 1) rfl _ _ rfl rfl rfl (AP.nil (by first | exact (HW5.out.drew).alloc (HW5.out.drew).size _ | exact (HW5.out.alloc HW5.out.size _).drew)) (by first | exact rds_lit _ _ | exact (rds_lit W5 _).below ((RowKit.Below.refl _ _).drew)) (by simp) ?_; intro v2 w2 H2 H2b)
                | (refine step_ap (w0 := W0) (v := v2) (xs := [] ++ [((0 : Nat) : Int)]) (ys := []) (A := none) (m := 0) (c := 0) rfl _ _ rfl rfl rfl H2.out ⟨rfl, Nat.le_refl _, fun h => absurd h (by omega)⟩ (by simp) ?_; intro v3 w3 H3 H3b))
            all_goals
              obtain ⟨P', m', cap', rfl, HOI⟩ := OI.ins HSQ.out HO.out.hb H3.out (by have := HKL.out; simp [List.eq_nil_of_length_eq_zero (Nat.le_zero.1 HKD.out)])
              have HOI := Lib.hid HOI
              clear H2 H2b H3 H3b
              go_wp2_with fail
              go_roundw
              case rel => exact ⟨_, 0 + 1, P', m', cap', rfl, by simp, by omega, HOI⟩
              case measure => simp [intOf]; omega
          · have HR := Lib.hid hR
            have HS1 : Hid (∀ W, RowKit.Below W0.heap.size W0 W → Rds W (some ⟨g, 0, none⟩) k cap ((q.map Int.ofNat).take k)) := Lib.hid fun W hb => (HR.out.cut (lo := 0) (m := k) (c' := cap) (by omega) (by omega)).below hb
            have ik2 : (k : Int) ≤ (cap : Int) := by omega
            clear hR
            by_cases ik3 : cap = k
            · subst ik3
              generalize hW5 : World.drewN _ _ = W5
              have HW5 : Hid (RowKit.Below W0.heap.size W0 W5) := Lib.hid (by rw [← hW5]; first | exact belN (belN (belN (RowKit.Below.refl _ _) _) _) _ | exact belN (belN (RowKit.Below.refl _ _) _) _)
              clear hW5
              go_region_held3 (fun _ => True) (go_keep)
                (first
                  | (refine step_ap (w0 := W0) (v := .slice none 0 0) (xs := []) (ys := (q.map Int.ofNat).take cap) (A := some ⟨g, 0, none⟩) (m := cap) (c := cap) rfl _ _ rfl rfl rfl (AP.nil (by first | exact HW5.out.drew | exact (HW5.out.drew).alloc (HW5.out.drew).size _)) (by first | exact HS1.out _ HW5.out.drew | exact HS1.out _ ((HW5.out.drew).alloc (HW5.out.drew).size _)) (by have := HKL.out; simp; omega) ?_; intro v1 w1 H1 H1b)
                  | (refine step_ap (w0 := W0) (v := v1) (xs := [] ++ (q.map Int.ofNat).take cap) (ys := [(cap : Int)]) (A := some ⟨_, 0, none⟩) (m := 1) (c := 1) rfl _ _ rfl rfl rfl (by first | exact H1.out | exact H1.out.alloc _) (by first | exact rds_lit _ _ | exact (rds_lit _ _).below (H1b.out rfl) | exact (rds_lit W5 _).below (((RowKit.Below.refl _ _).drew).trans (H1b.out rfl))) (by have := HKL.out; simp; omega) ?_; intro v2 w2 H2 H2b)
                  | (refine step_ap (w0 := W0) (v := v2) (xs := [] ++ (q.map Int.ofNat).take cap ++ [(cap : Int)]) (ys := []) (A := some ⟨g, 0, none⟩) (m := 0) (c := 0) rfl _ _ rfl rfl rfl H2.out ((fun W (_ : RowKit.Below W0.heap.size W0 W) => (⟨rfl, Nat.zero_le _, fun h => absurd h (by omega)⟩ : Rds W _ 0 _ [])) _ H2.out.2) (by have := HKL.out; simp; omega) ?_; intro v3 w3 H3 H3b))
              all_goals
                obtain ⟨P', m', cap', rfl, HOI⟩ := OI.ins HSQ.out HO.out.hb H3.out (by have := HKL.out; simp [List.drop_eq_nil_of_le HKD.out])
                have HOI := Lib.hid HOI
                clear H1 H1b H2 H2b H3 H3b
                go_wp2_with fail
                go_roundw
                case rel => exact ⟨_, cap + 1, P', m', cap', rfl, by simp, by omega, HOI⟩
                case measure => simp [intOf]; omega
            · skip
              generalize hW5 : World.drewN _ _ = W5
              have HW5 : Hid (RowKit.Below W0.heap.size W0 W5) := Lib.hid (by rw [← hW5]; first | exact belN (belN (belN (RowKit.Below.refl _ _) _) _) _ | exact belN (belN (RowKit.Below.refl _ _) _) _)
              clear hW5
              go_region_held3 (fun _ => True) (go_keep)
                (first
                  | (refine step_ap (w0 := W0) (v := .slice none 0 0) (xs := []) (ys := (q.map Int.ofNat).take k) (A := some ⟨g, 0, none⟩) (m := k) (c := cap) rfl _ _ rfl rfl rfl (AP.nil (by first | exact HW5.out.drew | exact (HW5.out.drew).alloc (HW5.out.drew).size _)) (by first | exact HS1.out _ HW5.out.drew | exact HS1.out _ ((HW5.out.drew).alloc (HW5.out.drew).size _)) (by have := HKL.out; simp; omega) ?_; intro v1 w1 H1 H1b)
                  | (refine step_ap (w0 := W0) (v := v1) (xs := [] ++ (q.map Int.ofNat).take k) (ys := [(k : Int)]) (A := some ⟨_, 0, none⟩) (m := 1) (c := 1) rfl _ _ rfl rfl rfl (by first | exact H1.out | exact H1.out.alloc _) (by first | exact rds_lit _ _ | exact (rds_lit _ _).below (H1b.out rfl) | exact (rds_lit W5 _).below (((RowKit.Below.refl _ _).drew).trans (H1b.out rfl))) (by have := HKL.out; simp; omega) ?_; intro v2 w2 H2 H2b)
                  | (refine step_ap (w0 := W0) (v := v2) (xs := [] ++ (q.map Int.ofNat).take k ++ [(k : Int)]) (ys := []) (A := _) (m := 0) (c := _) rfl _ _ rfl rfl rfl H2.out ((fun W (_ : RowKit.Below W0.heap.size W0 W) => (⟨rfl, Nat.zero_le _, fun h => absurd h (by omega)⟩ : Rds W _ 0 _ [])) _ H2.out.2) (by have := HKL.out; simp; omega) ?_; intro v3 w3 H3 H3b))
              all_goals
                obtain ⟨P', m', cap', rfl, HOI⟩ := OI.ins HSQ.out HO.out.hb H3.out (by have := HKL.out; simp [List.drop_eq_nil_of_le HKD.out])
                have HOI := Lib.hid HOI
                clear H1 H1b H2 H2b H3 H3b
                go_wp2_with fail
                go_roundw
                case rel => exact ⟨_, k + 1, P', m', cap', rfl, by simp, by omega, HOI⟩
                case measure => simp [intOf]; omega
    · go_wp2_with fail
      go_ret2
      have e : m = l.length := by rw [HLN.out]; omega
      have hr : ∀ z, m = z → SQ l q z ∧ wr.ownsRow w.heap.size 3 1 (.slice P m cap) z (nb q) := by
        intro z hz
        subst hz
        exact ⟨HO.out.sq, HO.out.row⟩
      exact ⟨HO.out.hb, .inr ⟨.slice P m cap, q, rfl, (hr _ e).1, (hr _ e).2⟩⟩
end Go.Proofs.Ytoenigbfcbillaa
