/-
  What is proved here: what it means that a slice value reads as a list of bytes, that this stays so behind new memory, and how a slice of bytes becomes a string; no condition but those that each fact states.
-/
import Derived.Test.YtkcmpakcahemcaaRows
import Derived.Test.YtkcmpakcahemcaaLeaf
import Derived.WalkKit
import Derived.WalkSpells
import Derived.WalkLawsBesides
import Derived.Lib.Hide
import Derived.Laws.OwnMore
import Derived.Laws.AppendOwnNone
import Derived.Laws.CopyOwn
import Derived.Laws.BytesString
import Derived.Below
import Derived.OwnWalk
import Derived.Lib.AppendStr
import Derived.Deep.QuietTactic
import Derived.BigQuiet
namespace Go.Proofs.Ytkcmpakcahemcaa
open Go.RowKit Le

/-- The cells of a list of bytes. -/
def bv (xs : List UInt8) : List Value := xs.map fun b => Value.int .u8 (b.toNat : Int)
theorem bv_length (xs : List UInt8) : (bv xs).length = xs.length := by simp [bv]
theorem bv_at {xs : List UInt8} {j : Nat} {x : UInt8} (h : xs[j]? = some x) : (bv xs)[j]? = some (.int .u8 (x.toNat : Int)) := by simp [bv, h]
theorem bv_inv {xs : List UInt8} {j : Nat} {u : Value} (h : (bv xs)[j]? = some u) : ∃ x : UInt8, xs[j]? = some x ∧ u = .int .u8 (x.toNat : Int) := by
  simp only [bv, List.getElem?_map, Option.map_eq_some_iff] at h
  obtain ⟨x, hx, rfl⟩ := h
  exact ⟨x, hx, rfl⟩
theorem bv_one (xs : List UInt8) : ∀ u ∈ bv xs, u.oneCell' = true := by
  intro u hu
  simp only [bv, List.mem_map] at hu
  obtain ⟨x, _, rfl⟩ := hu
  rfl
theorem bv_append (xs ys : List UInt8) : bv xs ++ bv ys = bv (xs ++ ys) := by simp [bv]

/-- The slice (A, n, c) reads as the bytes xs in the world w. -/
def Rds (w : World) (A : Option Addr) (n c : Nat) (xs : List UInt8) : Prop :=
  xs.length = n ∧ n ≤ c ∧ (0 < n → ∃ b off, A = some ⟨b, off, none⟩ ∧ b < w.heap.size ∧ ∀ j x, xs[j]? = some x → w.cell? ⟨b, off + j, none⟩ = some (.int .u8 (x.toNat : Int)))
/-- A value reads as the bytes xs. -/
def Rd (w : World) (v : Value) (xs : List UInt8) : Prop := ∃ A n c, v = .slice A n c ∧ Rds w A n c xs

theorem Rds.below {w w' : World} {A : Option Addr} {n c : Nat} {xs : List UInt8} (h : Rds w A n c xs) (hb : Below w.heap.size w w') : Rds w' A n c xs := by
  refine ⟨h.1, h.2.1, fun hn => ?_⟩
  obtain ⟨b, off, rfl, hlt, hc⟩ := h.2.2 hn
  exact ⟨b, off, rfl, Nat.lt_of_lt_of_le hlt hb.size, fun j x hx => (hb.cell (p := ⟨b, off + j, none⟩) hlt).trans (hc j x hx)⟩
theorem Rds.alloc {w : World} {A : Option Addr} {n c : Nat} {xs : List UInt8} (h : Rds w A n c xs) (o : Obj) : Rds (w.alloc o) A n c xs := h.below ((Below.refl _ _).alloc (Nat.le_refl _) _)
theorem Rd.below {w w' : World} {v : Value} {xs : List UInt8} (h : Rd w v xs) (hb : Below w.heap.size w w') : Rd w' v xs := by
  obtain ⟨A, n, c, rfl, hr⟩ := h
  exact ⟨A, n, c, rfl, hr.below hb⟩
theorem Rd.alloc {w : World} {v : Value} {xs : List UInt8} (h : Rd w v xs) (o : Obj) : Rd (w.alloc o) v xs := h.below ((Below.refl _ _).alloc (Nat.le_refl _) _)
theorem Rd.nil (w : World) (A : Option Addr) (c : Nat) : Rd w (.slice A 0 c) [] := ⟨A, 0, c, rfl, rfl, Nat.zero_le _, fun h => absurd h (by omega)⟩

theorem add_none (b off j : Nat) : (⟨b, off, none⟩ : Addr).add j = ⟨b, off + j, none⟩ := by
  unfold Addr.add
  by_cases h : j = 0 <;> simp [h]

theorem Rd.of_own {w : World} {base n : Nat} {v : Value} {xs : List UInt8} (h : w.ownsRow base 5 1 v n (bv xs)) : Rd w v xs := by
  have hl : xs.length = n := by have := h.1; rw [bv_length] at this; omega
  rcases h.2 with ⟨rfl, h0⟩ | ⟨g, cap, cur, rfl, hb, hg, hnc, hcm, hcs, ht⟩
  · have : xs = [] := List.eq_nil_of_length_eq_zero (by omega)
    subst this
    exact Rd.nil w _ _
  · refine ⟨_, _, _, rfl, hl, hnc, fun hn => ⟨g, 0, rfl, ?_, fun j x hx => ?_⟩⟩
    · rcases Nat.lt_or_ge g w.heap.size with hlt | hge
      · exact hlt
      · rw [Array.getElem?_eq_none hge] at hg; cases hg
    · have hj : j < n := by rw [← hl]; exact (List.getElem?_eq_some_iff.1 hx).1
      have := h.cells (g := g) rfl j _ (bv_at hx)
      rw [add_none] at this
      exact this

/-- A slice expression x[lo:hi] of a readable slice. -/
theorem Rds.cut {w : World} {b off n c : Nat} {xs : List UInt8} (h : Rds w (some ⟨b, off, none⟩) n c xs) {lo m c' : Nat} (hm : lo + m ≤ n) (hc : m ≤ c') :
    Rds w (some ⟨b, off + lo, none⟩) m c' ((xs.drop lo).take m) := by
  refine ⟨?_, hc, fun hp => ?_⟩
  · rw [List.length_take, List.length_drop, h.1]; omega
  · obtain ⟨b', off', he, hlt, hcell⟩ := h.2.2 (by omega)
    simp only [Option.some.injEq, Addr.mk.injEq, and_true] at he
    obtain ⟨rfl, rfl⟩ := he
    refine ⟨_, _, rfl, hlt, fun j x hx => ?_⟩
    rw [List.getElem?_take] at hx
    split at hx
    · rw [List.getElem?_drop] at hx
      have := hcell _ _ hx
      rwa [← Nat.add_assoc] at this
    · cases hx

/-- The slice's cells as the walk's laws ask for them. -/
theorem Rds.cells {w : World} {ad : Addr} {n c : Nat} {xs : List UInt8} (h : Rds w (some ad) n c xs) : ∀ j u, (bv xs)[j]? = some u → w.cell? (ad.add j) = some u := by
  intro j u hu
  obtain ⟨x, hx, rfl⟩ := bv_inv hu
  have hj : j < xs.length := (List.getElem?_eq_some_iff.1 hx).1
  obtain ⟨b, off, he, _, hc⟩ := h.2.2 (by have := h.1; omega)
  injection he with he
  subst he
  rw [add_none]
  exact hc j x hx

theorem fold_push (xs : List UInt8) (s : ByteArray) : (xs.map (fun b : UInt8 => (b.toNat : Int))).foldl (fun r n => r.push (UInt8.ofNat n.toNat)) s = ⟨s.data ++ xs.toArray⟩ := by
  induction xs generalizing s with
  | nil => simp
  | cons x xs ih =>
    simp only [List.map_cons, List.foldl_cons, ih]
    congr 1
    simp [ByteArray.push]

/-- The string of the bytes. -/
def str (xs : List UInt8) : ByteArray := ⟨xs.toArray⟩
theorem str_beq (xs ys : List UInt8) : ((str xs).toList == (str ys).toList) = (xs == ys) := by
  have h : ∀ l : List UInt8, (str l).toList = l := fun l => by simp [str]
  rw [h, h]

theorem run_str {w : World} {A : Option Addr} {n c : Nat} {xs : List UInt8} (h : Rds w A n c xs) :
    (convert 32 9 (.slice A n c)).run Try.prog w = .ok (.string (str xs)) w := by
  rw [run_convert_bytes_string w 32 9 5 A n c Try.underlying32 Try.underlying5 Try.underlying9]
  rcases A with _ | ad
  · have hn : n = 0 := by
      rcases Nat.eq_zero_or_pos n with h0 | h0
      · exact h0
      · obtain ⟨b, off, he, _⟩ := h.2.2 h0; cases he
    have hx : xs = [] := List.eq_nil_of_length_eq_zero (by rw [h.1, hn])
    subst hx
    rfl
  · have hl := run_loadCells_list (P := Try.prog) (w := w) ad (bv xs) h.cells
    have e : (bv xs) = (xs.map (fun b : UInt8 => (b.toNat : Int))).map (Value.int .u8) := by simp [bv]
    rw [bv_length, h.1, e] at hl
    rw [run_bytesToString w ad n c _ hl, fold_push]
    simp [str]

theorem eqBytes_any (v1 v2 : Value) (xs ys : List UInt8) (w : World) (h1 : Rd w v1 xs) (h2 : Rd w v2 ys) :
    Calls Try.prog 15 #[v1, v2] w fun e w' => e = .returned (.bool (xs == ys)) ∧ w = w' := by
  obtain ⟨A1, n1, c1, rfl, r1⟩ := h1
  obtain ⟨A2, n2, c2, rfl, r2⟩ := h2
  have s1 := run_str r1
  have s2 := run_str r2
  have HB := Lib.hid (str_beq xs ys)
  clear r1 r2
  go_enter Try.func15, Try.ntmps15
  go_wp2
  go_ret
  exact ⟨ret_bool HB.out, rfl⟩

theorem Try.infoU8 : (Try.prog.info? 5).map (fun i => (i.zero, i.size, i.bytes)) = some (some (.int .u8 0), 1, 1) := by kernel_rfl

/-- append onto a row of the call's own, from whatever source: nil, empty or not. -/
theorem run_app {w : World} {base n m c : Nat} {v : Value} {xs ys : List UInt8} {A : Option Addr} (ty : TypeId) (hown : w.ownsRow base 5 1 v n (bv xs)) (hr : Rds w A m c ys)
    (hb : n + m ≤ 4000000) (hbase : base ≤ w.heap.size) :
    ∃ v' w', (Builtin.append_ #[32, 32] ty #[v, .slice A m c]).run Try.prog w = .ok v' w' ∧ w'.ownsRow base 5 1 v' (n + m) (bv (xs ++ ys)) ∧ w.grownBy w' v.ownBlock := by
  obtain ⟨i, hi, hz0, hz1, hz2⟩ := info_parts Try.infoU8
  rcases A with _ | ad
  · have hm : m = 0 := by
      rcases Nat.eq_zero_or_pos m with h0 | h0
      · exact h0
      · obtain ⟨b, off, he, _⟩ := hr.2.2 h0; cases he
    subst hm
    have hx : ys = [] := List.eq_nil_of_length_eq_zero hr.1
    subst hx
    refine ⟨v, w, ?_, by simpa using hown, World.grownBy.refl w _⟩
    rcases hown.2 with ⟨rfl, rfl⟩ | ⟨g, cap, cur, rfl, _, _, hnc, _⟩
    · simp [Builtin.append_, run_underlying Try.underlying32, sizeOf, typeInfo, hi, Builtin.lenOf, Builtin.firstCells]
    · simp [Builtin.append_, run_underlying Try.underlying32, sizeOf, typeInfo, hi, Builtin.lenOf, Builtin.firstCells, hnc, storeCells]
  · obtain ⟨v', w', hrun, h2, h3, _⟩ := run_append_own (P := Try.prog) w base 32 ty 5 i (.int .u8 0) 1 1 Try.underlying32 hi hz0 hz1 hz2 rfl (by decide) v n (bv xs) hown ad m c (bv ys)
      (by rw [bv_length, hr.1]; omega) hr.cells (bv_one ys) (by simp only [maxLen]; omega) (by omega) hbase
    rw [bv_append] at h2
    exact ⟨v', w', hrun, h2, h3⟩

theorem wpList_app {ops : Array Oper} {rest : List Oper} {o : Oper} {a : Act} {Q : Exit → Act → World → Prop} {w : World} {base n m c : Nat} {v : Value} {xs ys : List UInt8} {A : Option Addr}
    (hgd : o.guard = none) (s x : Operand) (ho : o.op = .call { callee := .builtin .append, args := #[s, x], argTypes := #[32, 32] })
    (hs : a.eval s = v) (hx : a.eval x = .slice A m c) (hown : w.ownsRow base 5 1 v n (bv xs)) (hr : Rds w A m c ys) (hb : n + m ≤ 4000000) (hbase : base ≤ w.heap.size)
    (h : ∀ v' w', w'.ownsRow base 5 1 v' (n + m) (bv (xs ++ ys)) → w.grownBy w' v.ownBlock → wpList Try.prog ops Q rest (a.put o.dst v') w') : wpList Try.prog ops Q (o :: rest) a w := by
  refine wpList_plain hgd fun K hK => ?_
  obtain ⟨v', w', hrun, h2, h3⟩ := run_app o.type hown hr hb hbase
  unfold Oper.wp execOp
  simp only [ho, resolve, invoke, builtin, Sem.run_bind, Sem.run_pure, Result.andThen_ok, List.map_toArray, List.map_cons, List.map_nil, hs, hx, hrun]
  exact hK _ _ (h v' w' h2 h3)

theorem own_base {w : World} {base n : Nat} {v : Value} {xs : List Value} (h : w.ownsRow base 5 1 v n xs) : ∀ k, v.ownBlock = some k → base ≤ k := fun k hk => (h.lt k hk).1

theorem copyBytes_any (v : Value) (xs : List UInt8) (w : World) (h : Rd w v xs) (hl : xs.length ≤ 60000) :
    Calls Try.prog 34 #[v] w fun e w' => ∃ v', e = .returned v' ∧ w'.ownsRow w.heap.size 5 1 v' xs.length (bv xs) ∧ Below w.heap.size w w' := by
  obtain ⟨A, n, c, rfl, hr⟩ := h
  obtain rfl : xs.length = n := hr.1
  go_enter Try.func34, Try.ntmps34
  go_wp2_with (at_builtin; refine wpList_app (base := w.heap.size) (n := 0) (xs := []) (v := .slice none 0 0) rfl (.tmp 4) (.tmp 5) rfl rfl rfl (World.ownsRow_nil _ _ _ _) hr (by omega) (Nat.le_refl _) ?_; intro v1 w1 hown1 hg1)
  go_ret
  refine ⟨v1, rfl, ?_, (Below.refl _ _).grown hg1 (Nat.le_refl _) (by simp [Value.ownBlock])⟩
  simpa using hown1

end Go.Proofs.Ytkcmpakcahemcaa
