/-
  What is proved here: what it means that a slice value reads as a list of ints, append onto an own row; the reference's EqInts at equal lists; condition: no longer than the form reads; and: the reference's Less reads only; append onto a row of the call's own as a step of a statement whose order is open; condition: strings no longer than the form reads.
-/
import Derived.Test.YtnplkamkeadlgaaDoorKBase
import Derived.Laws.OwnMore
import Derived.Laws.AppendOwnNone
import Derived.Deep.QuietTactic
import Derived.BigQuiet
import Derived.Test.YtnplkamkeadlgaaDoorKIns
import Derived.Deep.RegionHeld3
namespace Go.Proofs.YtnplkamkeadlgaaDoor
open Go.RowKit

/-- The cells of a list of numbers. -/
def bv (xs : List Int) : List Value := xs.map fun b => Value.int .i64 b
theorem bv_length (xs : List Int) : (bv xs).length = xs.length := by simp [bv]
theorem bv_at {xs : List Int} {j : Nat} {x : Int} (h : xs[j]? = some x) : (bv xs)[j]? = some (.int .i64 x) := by simp [bv, h]
theorem bv_inv {xs : List Int} {j : Nat} {u : Value} (h : (bv xs)[j]? = some u) : ∃ x : Int, xs[j]? = some x ∧ u = .int .i64 x := by
  simp only [bv, List.getElem?_map, Option.map_eq_some_iff] at h
  obtain ⟨x, hx, rfl⟩ := h
  exact ⟨x, hx, rfl⟩
theorem bv_one (xs : List Int) : ∀ u ∈ bv xs, u.oneCell' = true := by
  intro u hu
  simp only [bv, List.mem_map] at hu
  obtain ⟨x, _, rfl⟩ := hu
  rfl
theorem bv_append (xs ys : List Int) : bv xs ++ bv ys = bv (xs ++ ys) := by simp [bv]

/-- The slice (A, n, c) reads as the numbers xs in the world w. -/
def Rds (w : World) (A : Option Addr) (n c : Nat) (xs : List Int) : Prop :=
  xs.length = n ∧ n ≤ c ∧ (0 < n → ∃ b off, A = some ⟨b, off, none⟩ ∧ b < w.heap.size ∧ ∀ j x, xs[j]? = some x → w.cell? ⟨b, off + j, none⟩ = some (.int .i64 x))
/-- A value reads as the numbers xs. -/
def Rd (w : World) (v : Value) (xs : List Int) : Prop := ∃ A n c, v = .slice A n c ∧ Rds w A n c xs

theorem Rds.below {w w' : World} {A : Option Addr} {n c : Nat} {xs : List Int} (h : Rds w A n c xs) (hb : Below w.heap.size w w') : Rds w' A n c xs := by
  refine ⟨h.1, h.2.1, fun hn => ?_⟩
  obtain ⟨b, off, rfl, hlt, hc⟩ := h.2.2 hn
  exact ⟨b, off, rfl, Nat.lt_of_lt_of_le hlt hb.size, fun j x hx => (hb.cell (p := ⟨b, off + j, none⟩) hlt).trans (hc j x hx)⟩
theorem Rds.alloc {w : World} {A : Option Addr} {n c : Nat} {xs : List Int} (h : Rds w A n c xs) (o : Obj) : Rds (w.alloc o) A n c xs := h.below ((Below.refl _ _).alloc (Nat.le_refl _) _)
theorem Rd.below {w w' : World} {v : Value} {xs : List Int} (h : Rd w v xs) (hb : Below w.heap.size w w') : Rd w' v xs := by
  obtain ⟨A, n, c, rfl, hr⟩ := h
  exact ⟨A, n, c, rfl, hr.below hb⟩
theorem Rd.alloc {w : World} {v : Value} {xs : List Int} (h : Rd w v xs) (o : Obj) : Rd (w.alloc o) v xs := h.below ((Below.refl _ _).alloc (Nat.le_refl _) _)
theorem Rd.nil (w : World) (A : Option Addr) (c : Nat) : Rd w (.slice A 0 c) [] := ⟨A, 0, c, rfl, rfl, Nat.zero_le _, fun h => absurd h (by omega)⟩

theorem add_none (b off j : Nat) : (⟨b, off, none⟩ : Addr).add j = ⟨b, off + j, none⟩ := by
  unfold Addr.add
  by_cases h : j = 0 <;> simp [h]

theorem Rd.of_own {w : World} {base n : Nat} {v : Value} {xs : List Int} (h : w.ownsRow base 3 1 v n (bv xs)) : Rd w v xs := by
  have hl : xs.length = n := by have := h.1; rw [bv_length] at this; omega
  rcases h.2 with ⟨rfl, h0⟩ | ⟨g, cap, cur, rfl, hb, hg, hnc, hcm, hcs, ht⟩
  · have : xs = [] := List.eq_nil_of_length_eq_zero (by omega)
    subst this
    exact Rd.nil w _ _
  · refine ⟨_, _, _, rfl, hl, hnc, fun hn => ⟨g, 0, rfl, ?_, fun j x hx => ?_⟩⟩
    · rcases Nat.lt_or_ge g w.heap.size with hlt | hge
      · exact hlt
      · rw [Array.getElem?_eq_none hge] at hg; cases hg
    · have hj : j < n := by rw [← hl]; exact (List.getElem?_eq_some_iff.1 hx).1
      have := h.cells (g := g) rfl j _ (bv_at hx)
      rw [add_none] at this
      exact this

/-- A slice expression x[lo:hi] of a readable slice. -/
theorem Rds.cut {w : World} {b off n c : Nat} {xs : List Int} (h : Rds w (some ⟨b, off, none⟩) n c xs) {lo m c' : Nat} (hm : lo + m ≤ n) (hc : m ≤ c') :
    Rds w (some ⟨b, off + lo, none⟩) m c' ((xs.drop lo).take m) := by
  refine ⟨?_, hc, fun hp => ?_⟩
  · rw [List.length_take, List.length_drop, h.1]; omega
  · obtain ⟨b', off', he, hlt, hcell⟩ := h.2.2 (by omega)
    simp only [Option.some.injEq, Addr.mk.injEq, and_true] at he
    obtain ⟨rfl, rfl⟩ := he
    refine ⟨_, _, rfl, hlt, fun j x hx => ?_⟩
    rw [List.getElem?_take] at hx
    split at hx
    · rw [List.getElem?_drop] at hx
      have := hcell _ _ hx
      rwa [← Nat.add_assoc] at this
    · cases hx

/-- The slice's cells as the walk's laws ask for them. -/
theorem Rds.cells {w : World} {ad : Addr} {n c : Nat} {xs : List Int} (h : Rds w (some ad) n c xs) : ∀ j u, (bv xs)[j]? = some u → w.cell? (ad.add j) = some u := by
  intro j u hu
  obtain ⟨x, hx, rfl⟩ := bv_inv hu
  have hj : j < xs.length := (List.getElem?_eq_some_iff.1 hx).1
  obtain ⟨b, off, he, _, hc⟩ := h.2.2 (by have := h.1; omega)
  injection he with he
  subst he
  rw [add_none]
  exact hc j x hx

theorem Tryd.infoInt : (Tryd.prog.info? 3).map (fun i => (i.zero, i.size, i.bytes)) = some (some (.int .i64 0), 1, 8) := by kernel_rfl

/-- append onto a row of the call's own, from whatever source: nil, empty or not. -/
theorem run_app {w : World} {base n m c : Nat} {v : Value} {xs ys : List Int} {A : Option Addr} (ty : TypeId) (hown : w.ownsRow base 3 1 v n (bv xs)) (hr : Rds w A m c ys)
    (hb : n + m ≤ 65536) (hbase : base ≤ w.heap.size) :
    ∃ v' w', (Builtin.append_ #[37, 37] ty #[v, .slice A m c]).run Tryd.prog w = .ok v' w' ∧ w'.ownsRow base 3 1 v' (n + m) (bv (xs ++ ys)) ∧ w.grownBy w' v.ownBlock := by
  obtain ⟨i, hi, hz0, hz1, hz2⟩ := info_parts Tryd.infoInt
  rcases A with _ | ad
  · have hm : m = 0 := by
      rcases Nat.eq_zero_or_pos m with h0 | h0
      · exact h0
      · obtain ⟨b, off, he, _⟩ := hr.2.2 h0; cases he
    subst hm
    have hx : ys = [] := List.eq_nil_of_length_eq_zero hr.1
    subst hx
    refine ⟨v, w, ?_, by simpa using hown, World.grownBy.refl w _⟩
    rcases hown.2 with ⟨rfl, rfl⟩ | ⟨g, cap, cur, rfl, _, _, hnc, _⟩
    · simp [Builtin.append_, run_underlying Tryd.underlying37, sizeOf, typeInfo, hi, Builtin.lenOf, Builtin.firstCells]
    · simp [Builtin.append_, run_underlying Tryd.underlying37, sizeOf, typeInfo, hi, Builtin.lenOf, Builtin.firstCells, hnc, storeCells]
  · obtain ⟨v', w', hrun, h2, h3, _⟩ := run_append_own (P := Tryd.prog) w base 37 ty 3 i (.int .i64 0) 1 8 Tryd.underlying37 hi hz0 hz1 hz2 rfl (by decide) v n (bv xs) hown ad m c (bv ys)
      (by rw [bv_length, hr.1]; omega) hr.cells (bv_one ys) (by simp only [maxLen]; omega) (by omega) hbase
    rw [bv_append] at h2
    exact ⟨v', w', hrun, h2, h3⟩

theorem wpList_app {ops : Array Oper} {rest : List Oper} {o : Oper} {a : Act} {Q : Exit → Act → World → Prop} {w : World} {base n m c : Nat} {v : Value} {xs ys : List Int} {A : Option Addr}
    (hgd : o.guard = none) (s x : Operand) (ho : o.op = .call { callee := .builtin .append, args := #[s, x], argTypes := #[37, 37] })
    (hs : a.eval s = v) (hx : a.eval x = .slice A m c) (hown : w.ownsRow base 3 1 v n (bv xs)) (hr : Rds w A m c ys) (hb : n + m ≤ 65536) (hbase : base ≤ w.heap.size)
    (h : ∀ v' w', w'.ownsRow base 3 1 v' (n + m) (bv (xs ++ ys)) → w.grownBy w' v.ownBlock → wpList Tryd.prog ops Q rest (a.put o.dst v') w') : wpList Tryd.prog ops Q (o :: rest) a w := by
  refine wpList_plain hgd fun K hK => ?_
  obtain ⟨v', w', hrun, h2, h3⟩ := run_app o.type hown hr hb hbase
  unfold Oper.wp execOp
  simp only [ho, resolve, invoke, builtin, Sem.run_bind, Sem.run_pure, Result.andThen_ok, List.map_toArray, List.map_cons, List.map_nil, hs, hx, hrun]
  exact hK _ _ (h v' w' h2 h3)

theorem own_base {w : World} {base n : Nat} {v : Value} {xs : List Value} (h : w.ownsRow base 3 1 v n xs) : ∀ k, v.ownBlock = some k → base ≤ k := fun k hk => (h.lt k hk).1
theorem Rds.at {w : World} {A : Option Addr} {n c : Nat} {xs : List Int} (h : Rds w A n c xs) (hn : 0 < n) :
    ∃ b off, A = some ⟨b, off, none⟩ ∧ b < w.heap.size ∧ ∀ j x, xs[j]? = some x → w.cell? ⟨b, off + j, none⟩ = some (.int .i64 x) := h.2.2 hn
theorem belN {n : Nat} {w w' : World} (h : Below n w w') (m : Nat) : Below n w (w'.drewN m) := ⟨h.os, h.tape, h.output, h.size, h.block⟩

theorem eqInts_same (v1 v2 : Value) (xs : List Int) (w : World) (h1 : Rd w v1 xs) (h2 : Rd w v2 xs) (hl : xs.length ≤ 60000) :
    Calls Tryd.prog 20 #[v1, v2] w fun e w' => e = .returned (.bool true) ∧ Below w.heap.size w w' := by
  obtain ⟨A1, n, c1, rfl, r1⟩ := h1
  obtain ⟨A2, n2, c2, rfl, r2⟩ := h2
  obtain rfl : n = n2 := by rw [← r1.1, ← r2.1]
  rw [r1.1] at hl
  have R1 := Lib.hid r1
  have R2 := Lib.hid r2
  clear r1 r2
  go_enter Tryd.func20, Tryd.ntmps20
  go_wp2
  go_loopw [5] (fun i wr => ∃ k : Nat, k ≤ n ∧ i = .int .i64 k ∧ Hid (Below w.heap.size w wr)) (fun i _ => n - (intOf i).toNat)
  case atStart => exact ⟨0, Nat.zero_le _, rfl, Below.refl _ _⟩
  case round =>
    obtain ⟨k, hk, rfl, HB⟩ := hrel
    by_cases hlt : k < n
    · obtain ⟨x, hx⟩ : ∃ x, xs[k]? = some x := ⟨_, List.getElem?_eq_getElem (by rw [R1.out.1]; exact hlt)⟩
      have q1 := R1.out.below HB.out
      have q2 := R2.out.below HB.out
      obtain ⟨b1, off1, rfl, _, hc1⟩ := q1.2.2 (by omega)
      obtain ⟨b2, off2, rfl, _, hc2⟩ := q2.2.2 (by omega)
      have hcell1 := hc1 k x hx
      have hcell2 := hc2 k x hx
      clear hx hc1 hc2 q1 q2
      go_wp2
      go_quiet (fail)
      go_wp2
      go_roundw
      case rel => exact ⟨k + 1, by omega, by go_num, belN HB.out _⟩
      case measure => simp [intOf]; omega
    · go_wp2
      go_ret
      exact ⟨rfl, HB.out⟩
end Go.Proofs.YtnplkamkeadlgaaDoor
namespace Go.Proofs.YtnplkamkeadlgaaDoor
open Go.RowKit Go.Sort Go.Shelf

set_option maxRecDepth 100000 in
set_option maxHeartbeats 1000000 in
theorem refLess_q (a b : ByteArray) (w : World) (ha : a.size ≤ maxLen) (hb : b.size ≤ maxLen) : Calls Tryd.prog 19 #[.string a, .string b] w fun e w' => e = .returned (.bool (lt a b)) ∧ ∃ q, w' = w.drewN q := by
  have hma : a.size ≤ 9223372036854775807 := ha
  have hmb : b.size ≤ 9223372036854775807 := hb
  obtain ⟨β, hβ⟩ : ∃ β, Op.bytesLess a.toList b.toList = β := ⟨_, rfl⟩
  have HB := Lib.hid hβ
  have e0 : lt a b = β := hβ
  rw [e0]
  clear hβ ha hb e0
  go_enter Tryd.func19, Tryd.ntmps19
  go_wp2_with fail
  go_loopw [5] (fun i wr => ∃ j : Nat, j ≤ a.size ∧ j ≤ b.size ∧ i = .int .i64 (j : Int) ∧ Hid (a.toList.take j = b.toList.take j) ∧ ∃ q, wr = w.drewN q) (fun i wr => a.size - (intOf i).toNat)
  case atStart => exact ⟨0, Nat.zero_le _, Nat.zero_le _, rfl, Lib.hid rfl, 0, rfl⟩
  case round =>
    obtain ⟨j, hja, hjb, rfl, HT, q, rfl⟩ := hrel
    by_cases h1 : j < a.size
    · by_cases h2 : j < b.size
      · have hx : a.toList[j]? = some a[j] := by
          rw [ByteArray.toList_eq, List.getElem?_eq_getElem (by simpa using h1)]
          rfl
        have hy : b.toList[j]? = some b[j] := by
          rw [ByteArray.toList_eq, List.getElem?_eq_getElem (by simpa using h2)]
          rfl
        have HX := Lib.hid hx
        have HY := Lib.hid hy
        clear hx hy
        by_cases hxy : a[j] = b[j]
        · have hne : (((a[j].toNat : Nat) : Int) != ((b[j].toNat : Nat) : Int)) = false := by rw [hxy]; simp
          have HN : Hid (a.toList.take (j + 1) = b.toList.take (j + 1)) := Lib.hid (by rw [List.take_add_one, List.take_add_one, HT.out, HX.out, HY.out, hxy])
          clear hxy
          go_wp2_with fail
          go_quiet (fail)
          go_wp2_with fail
          go_roundw
          case rel => exact ⟨j + 1, by omega, by omega, by simp, HN, _, rfl⟩
          case measure => simp [intOf]; omega
        · have hne : (((a[j].toNat : Nat) : Int) != ((b[j].toNat : Nat) : Int)) = true := by
            simp only [bne_iff_ne, ne_eq]
            intro h
            exact hxy (UInt8.toNat_inj.1 (by omega))
          have HZ : Hid (decide (a[j].toNat < b[j].toNat) = β) := Lib.hid (by
            rw [← HB.out, less_at HT.out HX.out HY.out hxy]
            exact decide_eq_decide.2 UInt8.lt_iff_toNat_lt.symm)
          clear hxy
          go_wp2_with fail
          go_quiet (fail)
          go_wp2_with fail
          go_quiet (fail)
          go_wp2_with fail
          go_ret
          exact ⟨by rw [← HZ.out]; rfl, _, by rw [World.drewN_drewN, World.drewN_drewN]⟩
      · have HZ : Hid (decide (a.size < b.size) = β) := Lib.hid (by
          have := less_end HT.out (by simp [ByteArray.toList_eq]; omega) (by simp [ByteArray.toList_eq]; omega) (.inr (by simp [ByteArray.toList_eq]; omega))
          rw [← HB.out, this]
          simp [ByteArray.toList_eq])
        go_wp2_with fail
        go_ret
        exact ⟨by rw [← HZ.out]; rfl, _, rfl⟩
    · have HZ : Hid (decide (a.size < b.size) = β) := Lib.hid (by
        have := less_end HT.out (by simp [ByteArray.toList_eq]; omega) (by simp [ByteArray.toList_eq]; omega) (.inl (by simp [ByteArray.toList_eq]; omega))
        rw [← HB.out, this]
        simp [ByteArray.toList_eq])
      go_wp2_with fail
      go_ret
      exact ⟨by rw [← HZ.out]; rfl, _, rfl⟩

/-- A row of the call's own, laid since the world w0. -/
def AP (w0 W : World) (v : Value) (xs : List Int) : Prop := W.ownsRow w0.heap.size 3 1 v xs.length (bv xs) ∧ RowKit.Below w0.heap.size w0 W
theorem AP.nil {w0 W : World} (h : RowKit.Below w0.heap.size w0 W) : AP w0 W (.slice none 0 0) [] := ⟨World.ownsRow_nil _ _ _ _, h⟩
theorem own_keep {w w' : World} {base n : Nat} {e : TypeId} {v : Value} {xs : List Value} (h : w.ownsRow base e 1 v n xs) (hb : RowKit.Below w.heap.size w w') : w'.ownsRow base e 1 v n xs := by
  refine ⟨h.1, ?_⟩
  rcases h.2 with ⟨h', h0⟩ | ⟨g, cap', cur, h', h1, hg, h2⟩
  · exact .inl ⟨h', h0⟩
  · exact .inr ⟨g, cap', cur, h', h1, (hb.block g (Array.getElem?_eq_some_iff.1 hg).1).trans hg, h2⟩
theorem own_base_le {w : World} {base base' n : Nat} {e : TypeId} {v : Value} {xs : List Value} (h : w.ownsRow base e 1 v n xs) (hb : base' ≤ base) : w.ownsRow base' e 1 v n xs := by
  refine ⟨h.1, ?_⟩
  rcases h.2 with ⟨h', h0⟩ | ⟨g, cap', cur, h', h1, h2⟩
  · exact .inl ⟨h', h0⟩
  · exact .inr ⟨g, cap', cur, h', Nat.le_trans hb h1, h2⟩
theorem AP.alloc {w0 W : World} {v : Value} {xs : List Int} (h : AP w0 W v xs) (o : Obj) : AP w0 (W.alloc o) v xs :=
  ⟨own_keep h.1 ((RowKit.Below.refl _ _).alloc (Nat.le_refl _) o), h.2.alloc h.2.size o⟩
theorem rds_lit (W : World) (x : Int) : Rds (W.alloc (.cells #[.int .i64 x] 3)) (some ⟨W.heap.size, 0, none⟩) 1 1 [x] := by
  refine ⟨rfl, Nat.le_refl _, fun _ => ⟨W.heap.size, 0, rfl, by simp, fun j y hy => ?_⟩⟩
  rw [cell_of_row _ _ _ #[.int .i64 x] 3 (0, 0) (heap_alloc_new W _)]
  match j, hy with
  | 0, hy => simp at hy; subst hy; rfl
theorem step_ap {ops : Array Oper} {o : Oper} {a : Act} {w w0 : World} {K : Act → World → Prop} {Q : Exit → Act → World → Prop} {E : Prop} {m c : Nat} {v : Value} {xs ys : List Int} {A : Option Addr}
    (hgd : o.guard = none) (s x : Operand) (ho : o.op = .call { callee := .builtin .append, args := #[s, x], argTypes := #[37, 37] })
    (hs : a.eval s = v) (hx : a.eval x = .slice A m c) (hap : AP w0 w v xs) (hr : Rds w A m c ys) (hb : xs.length + m ≤ 65536)
    (h : ∀ v' w', Hid (AP w0 w' v' (xs ++ ys)) → Hid (v = .slice none 0 0 → RowKit.Below w.heap.size w w') → K (a.put o.dst v') w') :
    if Region.wanted o (yielded ops a.tmps) = true then Oper.wp Tryd.prog o a w K Q else E := by
  have hw : Region.wanted o (yielded ops a.tmps) = true := by simp [Region.wanted, hgd]
  rw [if_pos hw]
  obtain ⟨v', w', hrun, h2, h3⟩ := run_app o.type hap.1 hr hb hap.2.size
  unfold Oper.wp execOp
  simp only [ho, resolve, invoke, builtin, Sem.run_bind, Sem.run_pure, Result.andThen_ok, List.map_toArray, List.map_cons, List.map_nil, hs, hx, hrun]
  refine h v' w' (Lib.hid ⟨?_, ?_⟩) (Lib.hid ?_)
  · rw [List.length_append, hr.1]; exact h2
  · refine hap.2.trans ⟨h3.os, h3.tape, h3.output, h3.size, fun k hk => h3.block k (Nat.lt_of_lt_of_le hk hap.2.size) (fun e => ?_)⟩
    have := own_base hap.1 k e.symm
    omega
  · rintro rfl
    exact ⟨h3.os, h3.tape, h3.output, h3.size, fun k hk => h3.block k hk (by simp [Value.ownBlock])⟩
end Go.Proofs.YtnplkamkeadlgaaDoor
