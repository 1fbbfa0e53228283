/-
  What is proved here: contracts of the reference's bits and Put; condition: at most 10000 bytes.
-/
import Derived.Test.YtddgmpmfdgfcdaaWorksB
namespace Go.Proofs.Ytddgmpmfdgfcdaa
open Go.RowKit Bs

/-- The cells of a list of numbers. -/
def bvi (xs : List Int) : List Value := xs.map fun b => Value.int .i64 b
theorem bvi_length (xs : List Int) : (bvi xs).length = xs.length := by simp [bvi]
theorem bvi_at {xs : List Int} {j : Nat} {x : Int} (h : xs[j]? = some x) : (bvi xs)[j]? = some (.int .i64 x) := by simp [bvi, h]
theorem bvi_inv {xs : List Int} {j : Nat} {u : Value} (h : (bvi xs)[j]? = some u) : ∃ x : Int, xs[j]? = some x ∧ u = .int .i64 x := by
  simp only [bvi, List.getElem?_map, Option.map_eq_some_iff] at h
  obtain ⟨x, hx, rfl⟩ := h
  exact ⟨x, hx, rfl⟩
theorem bvi_one (xs : List Int) : ∀ u ∈ bvi xs, u.oneCell' = true := by
  intro u hu
  simp only [bvi, List.mem_map] at hu
  obtain ⟨x, _, rfl⟩ := hu
  rfl
theorem bvi_append (xs ys : List Int) : bvi xs ++ bvi ys = bvi (xs ++ ys) := by simp [bvi]

/-- The slice (A, n, c) reads as the numbers xs in the world w. -/
def RdsI (w : World) (A : Option Addr) (n c : Nat) (xs : List Int) : Prop :=
  xs.length = n ∧ n ≤ c ∧ (0 < n → ∃ b off, A = some ⟨b, off, none⟩ ∧ b < w.heap.size ∧ ∀ j x, xs[j]? = some x → w.cell? ⟨b, off + j, none⟩ = some (.int .i64 x))
/-- A value reads as the numbers xs. -/
def RdI (w : World) (v : Value) (xs : List Int) : Prop := ∃ A n c, v = .slice A n c ∧ RdsI w A n c xs

theorem RdsI.below {w w' : World} {A : Option Addr} {n c : Nat} {xs : List Int} (h : RdsI w A n c xs) (hb : Below w.heap.size w w') : RdsI w' A n c xs := by
  refine ⟨h.1, h.2.1, fun hn => ?_⟩
  obtain ⟨b, off, rfl, hlt, hc⟩ := h.2.2 hn
  exact ⟨b, off, rfl, Nat.lt_of_lt_of_le hlt hb.size, fun j x hx => (hb.cell (p := ⟨b, off + j, none⟩) hlt).trans (hc j x hx)⟩
theorem RdsI.alloc {w : World} {A : Option Addr} {n c : Nat} {xs : List Int} (h : RdsI w A n c xs) (o : Obj) : RdsI (w.alloc o) A n c xs := h.below ((Below.refl _ _).alloc (Nat.le_refl _) _)
theorem RdI.below {w w' : World} {v : Value} {xs : List Int} (h : RdI w v xs) (hb : Below w.heap.size w w') : RdI w' v xs := by
  obtain ⟨A, n, c, rfl, hr⟩ := h
  exact ⟨A, n, c, rfl, hr.below hb⟩
theorem RdI.alloc {w : World} {v : Value} {xs : List Int} (h : RdI w v xs) (o : Obj) : RdI (w.alloc o) v xs := h.below ((Below.refl _ _).alloc (Nat.le_refl _) _)
theorem RdI.nil (w : World) (A : Option Addr) (c : Nat) : RdI w (.slice A 0 c) [] := ⟨A, 0, c, rfl, rfl, Nat.zero_le _, fun h => absurd h (by omega)⟩

theorem RdI.of_own {w : World} {base n : Nat} {v : Value} {xs : List Int} (h : w.ownsRow base 3 1 v n (bvi xs)) : RdI w v xs := by
  have hl : xs.length = n := by have := h.1; rw [bvi_length] at this; omega
  rcases h.2 with ⟨rfl, h0⟩ | ⟨g, cap, cur, rfl, hb, hg, hnc, hcm, hcs, ht⟩
  · have : xs = [] := List.eq_nil_of_length_eq_zero (by omega)
    subst this
    exact RdI.nil w _ _
  · refine ⟨_, _, _, rfl, hl, hnc, fun hn => ⟨g, 0, rfl, ?_, fun j x hx => ?_⟩⟩
    · rcases Nat.lt_or_ge g w.heap.size with hlt | hge
      · exact hlt
      · rw [Array.getElem?_eq_none hge] at hg; cases hg
    · have hj : j < n := by rw [← hl]; exact (List.getElem?_eq_some_iff.1 hx).1
      have := h.cells (g := g) rfl j _ (bvi_at hx)
      rw [add_none] at this
      exact this

abbrev OwnI (w : World) (B : Nat) (v : Value) (xs : List Int) : Prop := w.ownsRow B 3 1 v xs.length (bvi xs)
theorem Try.infoI64 : (Try.prog.info? 3).map (fun i => (i.zero, i.size, i.bytes)) = some (some (.int .i64 0), 1, 8) := by kernel_rfl
theorem ownI_len {w : World} {B n : Nat} {v : Value} {xs : List Int} (h : w.ownsRow B 3 1 v n (bvi xs)) (hn : n = xs.length) : OwnI w B v xs := by subst hn; exact h
theorem ownI_baseI {w : World} {B n : Nat} {v : Value} {xs : List Value} (h : w.ownsRow B 3 1 v n xs) : ∀ k, v.ownBlock = some k → B ≤ k := fun k hk => (h.lt k hk).1
theorem ownsRow_allocI {w : World} {B n : Nat} {v : Value} {xs : List Value} {o : Obj} (h : w.ownsRow B 3 1 v n xs) : (w.alloc o).ownsRow B 3 1 v n xs := h.alloc _
/-- One number appended onto an own row. -/
theorem wpList_one {ops : Array Oper} {rest : List Oper} {o : Oper} {a : Act} {Q : Exit → Act → World → Prop} {w : World} {B : Nat} {v : Value} {xs : List Int} {z : Int}
    (hgd : o.guard = none) (s x : Operand) (ho : o.op = .call { callee := .builtin .append, args := #[s, x], argTypes := #[44, 44] })
    (hs : a.eval s = v) (hx : a.eval x = .slice (some ⟨w.heap.size, 0, none⟩) 1 1) (hown : OwnI w B v xs) (hb : xs.length ≤ 100000) (hB : B ≤ w.heap.size)
    (h : ∀ v' w', OwnI w' B v' (xs ++ [z]) → Below B w w' → wpList Try.prog ops Q rest (a.put o.dst v') w') :
    wpList Try.prog ops Q (o :: rest) a (w.alloc (.cells #[.int .i64 z] 3)) := by
  obtain ⟨i0, hi, hz0, hz1, hz2⟩ := info_parts Try.infoI64
  have hl := bvi_length xs
  refine wpList_append_own _ hgd s x 44 ho B 3 i0 (.int .i64 0) 1 8 Try.underlying44 hi hz0 hz1 hz2 rfl (by decide) v xs.length (bvi xs) hs (ownsRow_allocI hown) ⟨w.heap.size, 0, none⟩ 1 1 [.int .i64 z] hx rfl ?c1 ?c2 ?c3 ?c4 ?c5 ?_
  case c1 =>
    intro j u hj
    match j, hj with
    | 0, hj => simp at hj; subst hj; simp [Addr.add]
  case c2 => intro u hu; simp at hu; subst hu; rfl
  case c3 => unfold maxLen; omega
  case c4 => omega
  case c5 => simp; omega
  intro v' w' h1 h2 _
  refine h v' w' ?_ (((Below.refl B w).alloc hB _).grown h2 (by simp; omega) (fun k hk => (hown.lt k hk).1))
  refine ownI_len (n := xs.length + 1) ?_ (by simp)
  rw [show bvi (xs ++ [z]) = bvi xs ++ [.int .i64 z] by simp [bvi]]
  exact h1
def bitsB (c : Nat) : List Int := [((c / 128 % 2 : Nat) : Int), ((c / 64 % 2 : Nat) : Int), ((c / 32 % 2 : Nat) : Int), ((c / 16 % 2 : Nat) : Int), ((c / 8 % 2 : Nat) : Int), ((c / 4 % 2 : Nat) : Int), ((c / 2 % 2 : Nat) : Int), ((c % 2 : Nat) : Int)]
def bitsL (xs : List UInt8) : List Int := xs.flatMap fun c => bitsB c.toNat
theorem bitsL_len (xs : List UInt8) : (bitsL xs).length = 8 * xs.length := by
  induction xs with
  | nil => rfl
  | cons x xs ih =>
    have : bitsL (x :: xs) = bitsB x.toNat ++ bitsL xs := by simp [bitsL]
    rw [this, List.length_append, ih]
    simp [bitsB]
    omega
theorem bitsL_step {xs : List UInt8} {k : Nat} {x : UInt8} (h : xs[k]? = some x) : bitsL (xs.take (k + 1)) = bitsL (xs.take k) ++ bitsB x.toNat := by
  rw [List.take_add_one, h]
  simp [bitsL]
def wt (j : Nat) : Nat := 128 / 2 ^ j
theorem wt_0 : ((wt 0 : Nat) : Int) = 128 := rfl
theorem wt_1 : ((wt 1 : Nat) : Int) = 64 := rfl
theorem wt_2 : ((wt 2 : Nat) : Int) = 32 := rfl
theorem wt_3 : ((wt 3 : Nat) : Int) = 16 := rfl
theorem wt_4 : ((wt 4 : Nat) : Int) = 8 := rfl
theorem wt_5 : ((wt 5 : Nat) : Int) = 4 := rfl
theorem wt_6 : ((wt 6 : Nat) : Int) = 2 := rfl
theorem wt_7 : ((wt 7 : Nat) : Int) = 1 := rfl
theorem wt_8 : ((wt 8 : Nat) : Int) = 0 := rfl
theorem take_bit {c j : Nat} (hj : j < 8) : (bitsB c).take (j + 1) = (bitsB c).take j ++ [((c / wt j % 2 : Nat) : Int)] := by
  rcases (show j = 0 ∨ j = 1 ∨ j = 2 ∨ j = 3 ∨ j = 4 ∨ j = 5 ∨ j = 6 ∨ j = 7 by omega) with rfl | rfl | rfl | rfl | rfl | rfl | rfl | rfl <;> simp [bitsB, wt]
theorem bv_0 (c : Nat) : ((c / wt 0 % 2 : Nat) : Int) = (c : Int) / 128 % 2 := by show ((c / 128 % 2 : Nat) : Int) = _; omega
theorem bv_1 (c : Nat) : ((c / wt 1 % 2 : Nat) : Int) = (c : Int) / 64 % 2 := by show ((c / 64 % 2 : Nat) : Int) = _; omega
theorem bv_2 (c : Nat) : ((c / wt 2 % 2 : Nat) : Int) = (c : Int) / 32 % 2 := by show ((c / 32 % 2 : Nat) : Int) = _; omega
theorem bv_3 (c : Nat) : ((c / wt 3 % 2 : Nat) : Int) = (c : Int) / 16 % 2 := by show ((c / 16 % 2 : Nat) : Int) = _; omega
theorem bv_4 (c : Nat) : ((c / wt 4 % 2 : Nat) : Int) = (c : Int) / 8 % 2 := by show ((c / 8 % 2 : Nat) : Int) = _; omega
theorem bv_5 (c : Nat) : ((c / wt 5 % 2 : Nat) : Int) = (c : Int) / 4 % 2 := by show ((c / 4 % 2 : Nat) : Int) = _; omega
theorem bv_6 (c : Nat) : ((c / wt 6 % 2 : Nat) : Int) = (c : Int) / 2 % 2 := by show ((c / 2 % 2 : Nat) : Int) = _; omega
theorem bv_7 (c : Nat) : ((c / wt 7 % 2 : Nat) : Int) = (c : Int) % 2 := by show ((c / 1 % 2 : Nat) : Int) = _; omega
set_option maxHeartbeats 8000000 in
set_option maxRecDepth 100000 in
theorem bits_any (A : Option Addr) (n c : Nat) (xs : List UInt8) (w : World) (hr : Rds w A n c xs) (hn : n ≤ 10000) :
    Calls Try.prog 26 #[.slice A n c] w fun e w' => ∃ v, e = .returned v ∧ OwnI w' w.heap.size v (bitsL xs) ∧ Below w.heap.size w w' := by
  have HR := Lib.hid hr
  have HX := Lib.hid hr.1
  clear hr
  go_enter Try.func26, Try.ntmps26
  go_wp2
  go_loopw [3, 4] (fun v i wr => ∃ k : Nat, k ≤ n ∧ i = .int .i64 k ∧ Hid (OwnI wr w.heap.size v (bitsL (xs.take k))) ∧ Hid (Below w.heap.size w wr)) (fun _ i _ => n - (intOf i).toNat)
  case atStart => exact ⟨0, Nat.zero_le _, rfl, World.ownsRow_nil _ _ _ _, Below.refl _ _⟩
  case round =>
    obtain ⟨k, hk, rfl, HO, HB⟩ := hrel
    by_cases hlt : k < n
    · obtain ⟨x, hx⟩ : ∃ x, xs[k]? = some x := ⟨_, List.getElem?_eq_getElem (by rw [HX.out]; exact hlt)⟩
      obtain ⟨g, off, hA, _, hc⟩ := (HR.out.below HB.out).2.2 (by omega)
      subst hA
      have hcell := hc k x hx
      have HX2 := Lib.hid hx
      have hx256 := lt256 x
      clear hx hc
      go_wp2
      go_loopw [3, 6] (fun v i wq => ∃ j : Nat, j ≤ 8 ∧ i = .int .i64 (wt j : Nat) ∧ Hid (OwnI wq w.heap.size v (bitsL (xs.take k) ++ (bitsB x.toNat).take j)) ∧ Hid (Below w.heap.size w wq)) (fun _ i _ => (intOf i).toNat)
      case atStart => exact ⟨0, by omega, rfl, by simpa [Hid] using HO, HB⟩
      case round =>
        clear HO HB hcell
        obtain ⟨j, hj, rfl, HO, HB⟩ := hrel
        have hlen : (bitsL (xs.take k) ++ (bitsB x.toNat).take j).length ≤ 100000 := by
          rw [List.length_append, bitsL_len, List.length_take, List.length_take]
          simp only [bitsB, List.length_cons, List.length_nil]
          omega
        have HLEN := Lib.hid hlen
        clear hlen
        by_cases hj8 : j < 8
        · have HT := Lib.hid (take_bit (c := x.toNat) hj8)
          rcases (show j = 0 ∨ j = 1 ∨ j = 2 ∨ j = 3 ∨ j = 4 ∨ j = 5 ∨ j = 6 ∨ j = 7 by omega) with rfl | rfl | rfl | rfl | rfl | rfl | rfl | rfl
          all_goals
            first | rw [wt_0] | rw [wt_1] | rw [wt_2] | rw [wt_3] | rw [wt_4] | rw [wt_5] | rw [wt_6] | rw [wt_7]
            go_wp2_with (at_builtin; refine wpList_one rfl _ _ rfl rfl rfl HO.out HLEN.out HB.out.size ?_; intro v1 w1 ho1 hb1; have HO1 := Lib.hid ho1; have HB1 := Lib.hid hb1; clear ho1 hb1)
            go_roundw
            case rel =>
              have ho := HO1.out
              rw [List.append_assoc] at ho
              first | (rw [← bv_0, ← HT.out] at ho; exact ⟨1, by omega, rfl, ho, HB.out.trans HB1.out⟩) | (rw [← bv_1, ← HT.out] at ho; exact ⟨2, by omega, rfl, ho, HB.out.trans HB1.out⟩) | (rw [← bv_2, ← HT.out] at ho; exact ⟨3, by omega, rfl, ho, HB.out.trans HB1.out⟩) | (rw [← bv_3, ← HT.out] at ho; exact ⟨4, by omega, rfl, ho, HB.out.trans HB1.out⟩) | (rw [← bv_4, ← HT.out] at ho; exact ⟨5, by omega, rfl, ho, HB.out.trans HB1.out⟩) | (rw [← bv_5, ← HT.out] at ho; exact ⟨6, by omega, rfl, ho, HB.out.trans HB1.out⟩) | (rw [← bv_6, ← HT.out] at ho; exact ⟨7, by omega, rfl, ho, HB.out.trans HB1.out⟩) | (rw [← bv_7, ← HT.out] at ho; exact ⟨8, by omega, rfl, ho, HB.out.trans HB1.out⟩)
            case measure => simp [intOf]
        · obtain rfl : j = 8 := by omega
          have ho := HO.out
          rw [show (bitsB x.toNat).take 8 = bitsB x.toNat from rfl, ← bitsL_step HX2.out] at ho
          have HO2 := Lib.hid ho
          clear ho HO HLEN
          rw [wt_8]
          go_wp2
          go_roundw
          case rel => exact ⟨k + 1, by omega, by go_num, HO2.out, HB.out⟩
          case measure => simp [intOf]; omega
    · have hkn : k = n := by omega
      subst hkn
      have ho := HO.out
      rw [List.take_of_length_le (by rw [HX.out]; omega)] at ho
      have HO2 := Lib.hid ho
      clear ho HO hlt hk
      go_wp2
      go_ret
      exact ⟨_, rfl, HO2.out, HB.out⟩
end Go.Proofs.Ytddgmpmfdgfcdaa
