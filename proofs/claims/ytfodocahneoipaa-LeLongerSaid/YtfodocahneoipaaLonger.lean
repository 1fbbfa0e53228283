/-
  What is proved here: accordionlaw01.LeLonger returns true for all widths and integers; no condition.
-/
import Derived.Test.YtfodocahneoipaaPuts
import Derived.Maps.AppendAt
namespace Go.Proofs.Ytfodocahneoipaa
open Go.ChangeShapes Go.WideShapes Go.ChangeAt Go.RowKit Le

/-- v is a slice of the call's own with the bytes xs; vb, elsewhere, reads as ys. -/
def Two (w : World) (base : Nat) (v vb : Value) (n : Nat) (xs ys : List UInt8) : Prop :=
  w.ownsRow base 5 1 v n (bv xs) ∧ Rd w vb ys ∧ (∀ g, v.ownBlock = some g → vb.ownBlock ≠ some g) ∧ base ≤ w.heap.size

theorem Rd.keep {w w' : World} {v : Value} {xs : List UInt8} {row : Option Nat} (h : Rd w v xs) (hg : w.grownBy w' row) (hr : ∀ g, row = some g → v.ownBlock ≠ some g) : Rd w' v xs := by
  obtain ⟨A, n, c, rfl, h1, h2, h3⟩ := h
  refine ⟨A, n, c, rfl, h1, h2, fun hn => ?_⟩
  obtain ⟨b, off, rfl, hlt, hc⟩ := h3 hn
  refine ⟨b, off, rfl, Nat.lt_of_lt_of_le hlt hg.size, fun j x hx => ?_⟩
  exact (World.cell?_of_block (w := w) (a := ⟨b, off + j, none⟩) (hg.block b hlt (fun e => hr b e.symm rfl))).trans (hc j x hx)

theorem Rd.blk {w : World} {v : Value} {xs : List UInt8} (h : Rd w v xs) (h0 : 0 < xs.length) : ∀ g, v.ownBlock = some g → g < w.heap.size := by
  obtain ⟨A, n, c, rfl, h1, h2, h3⟩ := h
  obtain ⟨b, off, rfl, hlt, _⟩ := h3 (by omega)
  intro g hg
  simp only [Value.ownBlock, Option.some.injEq] at hg
  omega

theorem Two.below {w w' : World} {base n : Nat} {v vb : Value} {xs ys : List UInt8} (h : Two w base v vb n xs ys) (hb : Below w.heap.size w w') : Two w' base v vb n xs ys :=
  ⟨own_below h.1 hb, h.2.1.below hb, h.2.2.1, Nat.le_trans h.2.2.2 hb.size⟩

theorem wpList_app_two {ops : Array Oper} {rest : List Oper} {o : Oper} {a : Act} {Q : Exit → Act → World → Prop} {wr w0 : World} {base n B : Nat} {v vb : Value} {xs ys : List UInt8} {zi : Int} (z : UInt8)
    (hgd : o.guard = none) (s x : Operand) (ho : o.op = .call { callee := .builtin .append, args := #[s, x], argTypes := #[22, 22] })
    (hs : a.eval s = v) (hx : a.eval x = .slice (some ⟨wr.heap.size, 0, none⟩) 1 1) (hz : zi = (z.toNat : Int)) (h2 : Two wr base v vb n xs ys) (hy : 0 < ys.length) (hB : Below B w0 wr) (hBb : B ≤ base) (hn : n ≤ 60000)
    (h : ∀ v' w', Two w' base v' vb (n + 1) (xs ++ [z]) ys → Below B w0 w' → wpList Try.prog ops Q rest (a.put o.dst v') w') : wpList Try.prog ops Q (o :: rest) a (wr.alloc (.cells #[.int .u8 zi] 5)) := by
  refine wpList_plain hgd fun K hK => ?_
  obtain ⟨i, hi, hz0, hz1, hz2⟩ := info_parts Try.infoU8
  have hb1 : Below wr.heap.size wr (wr.alloc (.cells #[.int .u8 zi] 5)) := (Below.refl _ _).alloc (Nat.le_refl _) _
  have h3 := h2.below hb1
  have hr := rds_lit wr wr.heap.size #[.int .u8 zi] 1 [z] rfl (by subst hz; rfl) rfl
  obtain ⟨v', w', hrun, ho', hg', _, hblk⟩ := run_append_own_at (P := Try.prog) (wr.alloc (.cells #[.int .u8 zi] 5)) base 22 o.type 5 i (.int .u8 0) 1 1 Try.underlying22 hi hz0 hz1 hz2 rfl (by decide) v n (bv xs) h3.1 ⟨wr.heap.size, 0, none⟩ 1 1 (bv [z])
    rfl hr.cells (bv_one _) (by simp only [maxLen]; omega) (by omega) h3.2.2.2
  rw [bv_append] at ho'
  unfold Oper.wp execOp
  simp only [ho, resolve, invoke, builtin, Sem.run_bind, Sem.run_pure, Result.andThen_ok, List.map_toArray, List.map_cons, List.map_nil, hs, hx, hrun]
  refine hK _ _ (h v' w' ⟨ho', h3.2.1.keep hg' h3.2.2.1, fun g hg hvb => ?_, Nat.le_trans h3.2.2.2 hg'.size⟩ ((hB.trans (hb1.mono (Nat.le_trans hBb h2.2.2.2))).grown hg' ?_ (fun k hk => Nat.le_trans hBb (own_base h3.1 k hk))))
  · rcases hblk with e | e
    · exact h3.2.2.1 g (e ▸ hg) hvb
    · rw [e] at hg
      injection hg with hg
      have := h3.2.1.blk hy g hvb
      omega
  · exact Nat.le_trans hBb h3.2.2.2

theorem enc_zeros {k j u : Nat} (hu : u < 256 ^ k) : enc (k + j) u = enc k u ++ List.replicate j 0 := by
  rw [enc_add, Nat.div_eq_of_lt hu, enc_zero]

theorem put_own (k U : Nat) (w : World) (hw : isW (k : Int) = true) (hf : fitsU U k = true) :
    Calls Try.prog 17 #[.slice none 0 0, .int .i64 (k : Int), .int .u64 (U : Int)] w fun e w' => ∃ v', e = .returned (.tuple #[v', .int .i64 0]) ∧ w'.ownsRow w.heap.size 5 1 v' k (bv (enc k U)) ∧ Below w.heap.size w w' := by
  have e1 : putE k U = 0 := by rw [putE, if_pos hw, if_pos hf]
  have e2 : putL [] k U = enc k U := by rw [putL, if_pos e1]; simp
  have hs := put_any (.slice none 0 0) [] k U w (Rd.nil _ _ _) (by decide)
  rw [e1, e2, enc_length] at hs
  exact hs
theorem putInt_own (k : Nat) (N : Int) (w : World) (hw : isW (k : Int) = true) (hf : fitsI N k = true) :
    Calls Try.prog 19 #[.slice none 0 0, .int .i64 (k : Int), .int .i64 N] w fun e w' => ∃ v', e = .returned (.tuple #[v', .int .i64 0]) ∧ w'.ownsRow w.heap.size 5 1 v' k (bv (enc k (u64 N).toNat)) ∧ Below w.heap.size w w' := by
  have e1 : putIE k N = 0 := by rw [putIE, if_pos hw, if_pos hf]
  have e2 : putIL [] k N = enc k (u64 N).toNat := by rw [putIL, if_pos e1]; simp
  have hs := putInt_any (.slice none 0 0) [] k N w (Rd.nil _ _ _) (by decide)
  rw [e1, e2, enc_length] at hs
  exact hs

/-- Two new slices, one after the other, lie apart. -/
theorem two_of {w w1 w2 : World} {v vb : Value} {n m : Nat} {xs ys : List UInt8} (h1 : w1.ownsRow w.heap.size 5 1 v n (bv xs)) (h2 : w2.ownsRow w1.heap.size 5 1 vb m (bv ys)) (hb1 : Below w.heap.size w w1) (hb2 : Below w1.heap.size w1 w2) : Two w2 w.heap.size v vb n xs ys := by
  refine ⟨own_below h1 hb2, Rd.of_own h2, fun g hg hvb => ?_, Nat.le_trans hb1.size hb2.size⟩
  have := (h1.lt g hg).2
  have := own_base h2 g hvb
  omega

/-- The sign's byte, and what it extends to. -/
def sb (N : Int) : UInt8 := if N < 0 then 255 else 0
theorem shr63 (N : Int) (h0 : -9223372036854775808 ≤ N) (h1 : N ≤ 9223372036854775807) : IntKind.u8.wrap (N / 9223372036854775808) = ((sb N).toNat : Int) := by
  rw [IntKind.wrap_u8', sb]
  by_cases h : N < 0
  · rw [if_pos h]
    have : N / 9223372036854775808 = -1 := by omega
    rw [this]; rfl
  · rw [if_neg h]
    have : N / 9223372036854775808 = 0 := by omega
    rw [this]; rfl
theorem enc_ff (j m : Nat) : enc j (256 ^ j - 1 + 256 ^ j * m) = List.replicate j 255 := by
  induction j generalizing m with
  | zero => rfl
  | succ j ih =>
    have hp : 0 < 256 ^ j := Nat.pow_pos (by decide)
    have e1 : 256 ^ (j + 1) - 1 + 256 ^ (j + 1) * m = 255 + 256 * (256 ^ j - 1 + 256 ^ j * m) := by
      rw [Nat.pow_succ, Nat.mul_comm (256 ^ j) 256, Nat.mul_assoc]; omega
    rw [e1, enc, List.replicate_succ]
    congr 1
    · exact ofNat_add_mul 255 _
    · rw [show (255 + 256 * (256 ^ j - 1 + 256 ^ j * m)) / 256 = 256 ^ j - 1 + 256 ^ j * m by omega, ih]

theorem enc_sign {k l : Nat} {N : Int} (hk : isW (k : Int) = true) (hl : isW (l : Int) = true) (hkl : k ≤ l) (h0 : -9223372036854775808 ≤ N) (h1 : N ≤ 9223372036854775807) (hf : fitsI N k = true) :
    enc k (u64 N).toNat ++ List.replicate (l - k) (sb N) = enc l (u64 N).toNat := by
  have hk' : k = 1 ∨ k = 2 ∨ k = 4 ∨ k = 8 := by rcases isW_iff.1 hk with h | h | h | h <;> omega
  have hl' : l = 1 ∨ l = 2 ∨ l = 4 ∨ l = 8 := by rcases isW_iff.1 hl with h | h | h | h <;> omega
  obtain ⟨j, rfl⟩ : ∃ j, l = k + j := ⟨l - k, by omega⟩
  have hj : k + j - k = j := by omega
  rw [hj, enc_add]
  congr 1
  have hf' := fitsI_iff.1 hf
  clear hf hk hl
  by_cases hn : N < 0
  · rw [sb, if_pos hn]
    have e : (u64 N).toNat = (N + 18446744073709551616).toNat := by unfold u64; omega
    rw [e]
    rcases hk' with rfl | rfl | rfl | rfl
    · rw [show ((1 : Nat) : Int) = 1 from rfl, pw1] at hf'
      have e2 : (N + 18446744073709551616).toNat / 256 ^ 1 = 72057594037927935 := by omega
      rw [e2]
      rcases hl' with h | h | h | h
      · obtain rfl : j = 0 := by omega
        rfl
      · obtain rfl : j = 1 := by omega
        rfl
      · obtain rfl : j = 3 := by omega
        rfl
      · obtain rfl : j = 7 := by omega
        rfl
    · rw [show ((2 : Nat) : Int) = 2 from rfl, pw2] at hf'
      have e2 : (N + 18446744073709551616).toNat / 256 ^ 2 = 281474976710655 := by omega
      rw [e2]
      rcases hl' with h | h | h | h
      · omega
      · obtain rfl : j = 0 := by omega
        rfl
      · obtain rfl : j = 2 := by omega
        rfl
      · obtain rfl : j = 6 := by omega
        rfl
    · rw [show ((4 : Nat) : Int) = 4 from rfl, pw4] at hf'
      have e2 : (N + 18446744073709551616).toNat / 256 ^ 4 = 4294967295 := by omega
      rw [e2]
      rcases hl' with h | h | h | h
      · omega
      · omega
      · obtain rfl : j = 0 := by omega
        rfl
      · obtain rfl : j = 4 := by omega
        rfl
    · obtain rfl : j = 0 := by omega
      rfl
  · rw [sb, if_neg hn]
    have e : (u64 N).toNat = N.toNat := by unfold u64; omega
    have e2 : N.toNat / 256 ^ k = 0 := by
      rcases hk' with rfl | rfl | rfl | rfl
      · rw [show ((1 : Nat) : Int) = 1 from rfl, pw1] at hf'; omega
      · rw [show ((2 : Nat) : Int) = 2 from rfl, pw2] at hf'; omega
      · rw [show ((4 : Nat) : Int) = 4 from rfl, pw4] at hf'; omega
      · have e8 : (256 : Nat) ^ 8 = 18446744073709551616 := by decide
        rw [e8]; omega
    rw [e, e2, enc_zero]

theorem rep_snoc (xs : List UInt8) (z : UInt8) (k j : Nat) (h : k ≤ j) : (xs ++ List.replicate (j - k) z) ++ [z] = xs ++ List.replicate (j + 1 - k) z := by
  rw [List.append_assoc, show j + 1 - k = (j - k) + 1 by omega, List.replicate_succ']

theorem put_no (k U : Nat) (w : World) (hw : isW (k : Int) = true) (hf : fitsU U k = false) :
    Calls Try.prog 17 #[.slice none 0 0, .int .i64 (k : Int), .int .u64 (U : Int)] w fun e w' => ∃ A c, e = .returned (.tuple #[.slice A 0 c, .int .i64 10]) ∧ Below w.heap.size w w' := by
  have e1 : putE k U = 10 := by rw [putE, if_pos hw, if_neg (by simp [hf])]
  have e2 : putL [] k U = [] := by rw [putL, if_neg (by rw [e1]; decide)]
  have hs := put_any (.slice none 0 0) [] k U w (Rd.nil _ _ _) (by decide)
  rw [e1, e2] at hs
  refine hs.mono ?_
  rintro e w' ⟨v', rfl, ho, hb⟩
  obtain ⟨A, c, rfl⟩ := own_shape0 ho
  exact ⟨A, c, rfl, hb⟩
theorem putInt_no (k : Nat) (N : Int) (w : World) (hw : isW (k : Int) = true) (hf : fitsI N k = false) :
    Calls Try.prog 19 #[.slice none 0 0, .int .i64 (k : Int), .int .i64 N] w fun e w' => ∃ A c, e = .returned (.tuple #[.slice A 0 c, .int .i64 10]) ∧ Below w.heap.size w w' := by
  have e1 : putIE k N = 10 := by rw [putIE, if_pos hw, if_neg (by simp [hf])]
  have e2 : putIL [] k N = [] := by rw [putIL, if_neg (by rw [e1]; decide)]
  have hs := putInt_any (.slice none 0 0) [] k N w (Rd.nil _ _ _) (by decide)
  rw [e1, e2] at hs
  refine hs.mono ?_
  rintro e w' ⟨v', rfl, ho, hb⟩
  obtain ⟨A, c, rfl⟩ := own_shape0 ho
  exact ⟨A, c, rfl, hb⟩
theorem fitsI_mono {k l : Nat} {N : Int} (hk : isW (k : Int) = true) (hl : isW (l : Int) = true) (hkl : k ≤ l) (hf : fitsI N k = true) : fitsI N l = true := by
  rw [fitsI_iff] at hf ⊢
  have hp : pw k ≤ pw l := by
    rw [pw_eq hk, pw_eq hl]
    exact Int.ofNat_le.2 (Nat.pow_le_pow_right (by decide) (by simpa using hkl))
  omega

set_option maxHeartbeats 4000000 in
theorem longer_ff (x y : Int) (p q k l U : Nat) (w : World) (x0 : -9223372036854775808 ≤ x) (y0 : -9223372036854775808 ≤ y) (hx : wideF x = (p : Int)) (hy : wideF y = (q : Int)) (hord : (p < q ∧ k = p ∧ l = q) ∨ (q < p ∧ k = q ∧ l = p) ∨ (p = q ∧ k = p ∧ l = p))
    (hf : fitsU U k = false) (hfi : fitsI (wrap64 U) k = false) :
    Calls Try.prog 8 #[.int .i64 x, .int .i64 y, .int .u64 (U : Int)] w fun e w' => e = .returned (.bool true) ∧ Below w.heap.size w w' := by
  have hwp := wideF_isW x
  rw [hx] at hwp
  have hwq := wideF_isW y
  rw [hy] at hwq
  have hkl : k ≤ l := by omega
  have hwk : isW (k : Int) = true := by rcases hord with ⟨_, rfl, rfl⟩ | ⟨_, rfl, rfl⟩ | ⟨rfl, rfl, rfl⟩ <;> assumption
  have hwl : isW (l : Int) = true := by rcases hord with ⟨_, rfl, rfl⟩ | ⟨_, rfl, rfl⟩ | ⟨rfl, rfl, rfl⟩ <;> assumption
  have hk := isW_nat hwk
  have hl := isW_nat hwl
  have hwx := fun W => wideF_any x W x0
  have hwy := fun W => wideF_any y W y0
  rw [hx] at hwx
  rw [hy] at hwy
  have HWX := Lib.hid hwx
  have HWY := Lib.hid hwy
  have hNb := wrap64_bd (U : Int)
  obtain ⟨N, hN⟩ : ∃ N, wrap64 (U : Int) = N := ⟨_, rfl⟩
  rw [hN] at hNb hfi
  have hp1 := fun W => put_no k U W hwk hf
  have hp2 := fun W => put_any (.slice none 0 0) [] l U W (Rd.nil _ _ _) (by decide)
  generalize putE l U = E2 at hp2
  generalize putL [] l U = L2 at hp2
  have HP1 := Lib.hid hp1
  have HP2 := Lib.hid hp2
  have hq1 := fun W => putInt_no k N W hwk hfi
  have hq2 := fun W => putInt_any (.slice none 0 0) [] l N W (Rd.nil _ _ _) (by decide)
  generalize putIE l N = G2 at hq2
  generalize putIL [] l N = M2 at hq2
  have HQ1 := Lib.hid hq1
  have HQ2 := Lib.hid hq2
  clear hp1 hp2 hq1 hq2 hf hfi hwp hwq hwk hwl hwx hwy hx hy
  rcases hord with ⟨hpq, rfl, rfl⟩ | ⟨hpq, rfl, rfl⟩ | ⟨rfl, rfl, rfl⟩
  · go_enter Try.func8, Try.ntmps8
    go_wp2_with fail
    refine (HWX.out _).mono ?_
    rintro e w' ⟨rfl, rfl⟩
    go_wp2_with fail
    refine (HWY.out _).mono ?_
    rintro e w' ⟨rfl, rfl⟩
    go_wp2_with fail
    refine (HWX.out _).mono ?_
    rintro e w' ⟨rfl, rfl⟩
    go_wp2_with fail
    refine (HWY.out _).mono ?_
    rintro e w' ⟨rfl, rfl⟩
    go_wp2_with fail
    refine (HP1.out _).mono ?_
    rintro e w1 ⟨A1, c1, rfl, hb⟩
    have HB := Lib.hid hb
    clear hb
    go_wp2_with fail
    refine (HP2.out _).mono ?_
    rintro e w2 ⟨vb, rfl, ho, hb⟩
    replace HB := Lib.hid (HB.out.trans (hb.mono HB.out.size))
    clear hb ho
    go_wp2_with fail
    refine (HQ1.out _).mono ?_
    rintro e w4 ⟨A4, c4, rfl, hb⟩
    replace HB := Lib.hid (HB.out.trans (hb.mono HB.out.size))
    clear hb
    go_wp2_with fail
    refine (HQ2.out _).mono ?_
    rintro e w5 ⟨vd, rfl, ho, hb⟩
    replace HB := Lib.hid (HB.out.trans (hb.mono HB.out.size))
    clear hb ho
    go_wp2_with fail
    refine (works_true _).mono ?_
    rintro e w6 ⟨rfl, hb⟩
    replace HB := Lib.hid (HB.out.trans (hb.mono HB.out.size))
    clear hb
    go_wp2_with fail
    go_ret
    exact ⟨rfl, HB.out⟩
  · go_enter Try.func8, Try.ntmps8
    go_wp2_with fail
    refine (HWX.out _).mono ?_
    rintro e w' ⟨rfl, rfl⟩
    go_wp2_with fail
    refine (HWY.out _).mono ?_
    rintro e w' ⟨rfl, rfl⟩
    go_wp2_with fail
    refine (HWX.out _).mono ?_
    rintro e w' ⟨rfl, rfl⟩
    go_wp2_with fail
    refine (HWY.out _).mono ?_
    rintro e w' ⟨rfl, rfl⟩
    go_wp2_with fail
    refine (HP1.out _).mono ?_
    rintro e w1 ⟨A1, c1, rfl, hb⟩
    have HB := Lib.hid hb
    clear hb
    go_wp2_with fail
    refine (HP2.out _).mono ?_
    rintro e w2 ⟨vb, rfl, ho, hb⟩
    replace HB := Lib.hid (HB.out.trans (hb.mono HB.out.size))
    clear hb ho
    go_wp2_with fail
    refine (HQ1.out _).mono ?_
    rintro e w4 ⟨A4, c4, rfl, hb⟩
    replace HB := Lib.hid (HB.out.trans (hb.mono HB.out.size))
    clear hb
    go_wp2_with fail
    refine (HQ2.out _).mono ?_
    rintro e w5 ⟨vd, rfl, ho, hb⟩
    replace HB := Lib.hid (HB.out.trans (hb.mono HB.out.size))
    clear hb ho
    go_wp2_with fail
    refine (works_true _).mono ?_
    rintro e w6 ⟨rfl, hb⟩
    replace HB := Lib.hid (HB.out.trans (hb.mono HB.out.size))
    clear hb
    go_wp2_with fail
    go_ret
    exact ⟨rfl, HB.out⟩
  · go_enter Try.func8, Try.ntmps8
    go_wp2_with fail
    refine (HWX.out _).mono ?_
    rintro e w' ⟨rfl, rfl⟩
    go_wp2_with fail
    refine (HWY.out _).mono ?_
    rintro e w' ⟨rfl, rfl⟩
    go_wp2_with fail
    refine (HWX.out _).mono ?_
    rintro e w' ⟨rfl, rfl⟩
    go_wp2_with fail
    refine (HWY.out _).mono ?_
    rintro e w' ⟨rfl, rfl⟩
    go_wp2_with fail
    refine (HP1.out _).mono ?_
    rintro e w1 ⟨A1, c1, rfl, hb⟩
    have HB := Lib.hid hb
    clear hb
    go_wp2_with fail
    refine (HP2.out _).mono ?_
    rintro e w2 ⟨vb, rfl, ho, hb⟩
    replace HB := Lib.hid (HB.out.trans (hb.mono HB.out.size))
    clear hb ho
    go_wp2_with fail
    refine (HQ1.out _).mono ?_
    rintro e w4 ⟨A4, c4, rfl, hb⟩
    replace HB := Lib.hid (HB.out.trans (hb.mono HB.out.size))
    clear hb
    go_wp2_with fail
    refine (HQ2.out _).mono ?_
    rintro e w5 ⟨vd, rfl, ho, hb⟩
    replace HB := Lib.hid (HB.out.trans (hb.mono HB.out.size))
    clear hb ho
    go_wp2_with fail
    refine (works_true _).mono ?_
    rintro e w6 ⟨rfl, hb⟩
    replace HB := Lib.hid (HB.out.trans (hb.mono HB.out.size))
    clear hb
    go_wp2_with fail
    go_ret
    exact ⟨rfl, HB.out⟩

set_option maxHeartbeats 4000000 in
theorem longer_ft (x y : Int) (p q k l U : Nat) (w : World) (x0 : -9223372036854775808 ≤ x) (y0 : -9223372036854775808 ≤ y) (hx : wideF x = (p : Int)) (hy : wideF y = (q : Int)) (hord : (p < q ∧ k = p ∧ l = q) ∨ (q < p ∧ k = q ∧ l = p) ∨ (p = q ∧ k = p ∧ l = p))
    (hf : fitsU U k = false) (hfi : fitsI (wrap64 U) k = true) :
    Calls Try.prog 8 #[.int .i64 x, .int .i64 y, .int .u64 (U : Int)] w fun e w' => e = .returned (.bool true) ∧ Below w.heap.size w w' := by
  have hwp := wideF_isW x
  rw [hx] at hwp
  have hwq := wideF_isW y
  rw [hy] at hwq
  have hkl : k ≤ l := by omega
  have hwk : isW (k : Int) = true := by rcases hord with ⟨_, rfl, rfl⟩ | ⟨_, rfl, rfl⟩ | ⟨rfl, rfl, rfl⟩ <;> assumption
  have hwl : isW (l : Int) = true := by rcases hord with ⟨_, rfl, rfl⟩ | ⟨_, rfl, rfl⟩ | ⟨rfl, rfl, rfl⟩ <;> assumption
  have hk := isW_nat hwk
  have hl := isW_nat hwl
  have hwx := fun W => wideF_any x W x0
  have hwy := fun W => wideF_any y W y0
  rw [hx] at hwx
  rw [hy] at hwy
  have HWX := Lib.hid hwx
  have HWY := Lib.hid hwy
  have hNb := wrap64_bd (U : Int)
  obtain ⟨N, hN⟩ : ∃ N, wrap64 (U : Int) = N := ⟨_, rfl⟩
  rw [hN] at hNb hfi
  have hp1 := fun W => put_no k U W hwk hf
  have hp2 := fun W => put_any (.slice none 0 0) [] l U W (Rd.nil _ _ _) (by decide)
  generalize putE l U = E2 at hp2
  generalize putL [] l U = L2 at hp2
  have HP1 := Lib.hid hp1
  have HP2 := Lib.hid hp2
  have hfil : fitsI N l = true := fitsI_mono hwk hwl hkl hfi
  have hq1 := fun W => putInt_own k N W hwk hfi
  have hq2 := fun W => putInt_own l N W hwl hfil
  have hsx := enc_sign hwk hwl hkl hNb.1 hNb.2 hfi
  have hlen2 : 0 < (enc l (u64 N).toNat).length := by rw [enc_length]; omega
  have hshr := shr63 N hNb.1 hNb.2
  generalize enc k (u64 N).toNat = sk at hq1 hsx
  generalize enc l (u64 N).toNat = sl at hq2 hsx hlen2
  generalize sb N = zb at hsx hshr
  have HQ1 := Lib.hid hq1
  have HQ2 := Lib.hid hq2
  have HSX := Lib.hid hsx
  have HL2 := Lib.hid hlen2
  have HSH := Lib.hid hshr
  clear hfil hsx hlen2 hshr
  clear hp1 hp2 hq1 hq2 hf hfi hwp hwq hwk hwl hwx hwy hx hy
  rcases hord with ⟨hpq, rfl, rfl⟩ | ⟨hpq, rfl, rfl⟩ | ⟨rfl, rfl, rfl⟩
  · go_enter Try.func8, Try.ntmps8
    go_wp2_with fail
    refine (HWX.out _).mono ?_
    rintro e w' ⟨rfl, rfl⟩
    go_wp2_with fail
    refine (HWY.out _).mono ?_
    rintro e w' ⟨rfl, rfl⟩
    go_wp2_with fail
    refine (HWX.out _).mono ?_
    rintro e w' ⟨rfl, rfl⟩
    go_wp2_with fail
    refine (HWY.out _).mono ?_
    rintro e w' ⟨rfl, rfl⟩
    go_wp2_with fail
    refine (HP1.out _).mono ?_
    rintro e w1 ⟨A1, c1, rfl, hb⟩
    have HB := Lib.hid hb
    clear hb
    go_wp2_with fail
    refine (HP2.out _).mono ?_
    rintro e w2 ⟨vb, rfl, ho, hb⟩
    replace HB := Lib.hid (HB.out.trans (hb.mono HB.out.size))
    clear hb ho
    go_wp2_with fail
    refine (HQ1.out _).mono ?_
    rintro e w4 ⟨vc, rfl, ho1, hb1⟩
    have HO1 := Lib.hid ho1
    have HB1 := Lib.hid hb1
    clear ho1 hb1
    go_wp2_with fail
    refine (HQ2.out _).mono ?_
    rintro e w5 ⟨vd, rfl, ho, hb⟩
    have HT := Lib.hid (two_of HO1.out ho HB1.out hb)
    have hz := HB.out.size
    replace HB := Lib.hid (HB.out.trans ((HB1.out.trans (hb.mono HB1.out.size)).mono HB.out.size))
    clear hb ho HO1 HB1
    go_wp2_with fail
    go_loopw [12, 16] (fun v i wr2 => ∃ j : Nat, k ≤ j ∧ j ≤ l ∧ i = .int .i64 j ∧ Hid (Two wr2 w2.heap.size v vd j (sk ++ List.replicate (j - k) zb) sl) ∧ Hid (Below w.heap.size w wr2)) (fun _ i _ => l - (intOf i).toNat)
    case atStart => exact ⟨k, Nat.le_refl _, by omega, rfl, by show Two _ _ _ _ _ _ _; rw [Nat.sub_self]; simpa using HT.out, HB⟩
    case round =>
    clear HT HB
    obtain ⟨j2, hkj, hjl, rfl, HT, HB⟩ := hrel
    by_cases hlt : j2 < l
    · go_wp2_with (at_builtin; refine wpList_app_two (B := w.heap.size) (w0 := w) zb rfl (.tmp 92) (.tmp 97) rfl rfl rfl HSH.out HT.out HL2.out HB.out hz (by omega) ?_; intro v1 w6 ht hb; have HT1 := Lib.hid ht; have HB1 := Lib.hid hb; clear ht hb)
      go_roundw
      case rel =>
        have ht := HT1.out
        rw [rep_snoc _ _ _ _ hkj] at ht
        exact ⟨j2 + 1, by omega, by omega, by go_num, ht, HB1⟩
      case measure => simp [intOf]; omega
    obtain rfl : l = j2 := by omega
    have ht := HT.out
    unfold Two at ht
    rw [HSX.out] at ht
    have HA := Lib.hid (Rd.of_own ht.1)
    have HD := Lib.hid ht.2.1
    clear ht HT
    go_wp2_with fail
    refine (eqBytes_any _ _ sl sl _ HA.out HD.out).mono ?_
    rintro e w' ⟨rfl, rfl⟩
    rw [beq_self_eq_true]
    clear HA HD
    go_wp2_with fail
    refine (works_true _).mono ?_
    rintro e w7 ⟨rfl, hb⟩
    replace HB := Lib.hid (HB.out.trans (hb.mono HB.out.size))
    clear hb
    go_wp2_with fail
    go_ret
    exact ⟨rfl, HB.out⟩
  · go_enter Try.func8, Try.ntmps8
    go_wp2_with fail
    refine (HWX.out _).mono ?_
    rintro e w' ⟨rfl, rfl⟩
    go_wp2_with fail
    refine (HWY.out _).mono ?_
    rintro e w' ⟨rfl, rfl⟩
    go_wp2_with fail
    refine (HWX.out _).mono ?_
    rintro e w' ⟨rfl, rfl⟩
    go_wp2_with fail
    refine (HWY.out _).mono ?_
    rintro e w' ⟨rfl, rfl⟩
    go_wp2_with fail
    refine (HP1.out _).mono ?_
    rintro e w1 ⟨A1, c1, rfl, hb⟩
    have HB := Lib.hid hb
    clear hb
    go_wp2_with fail
    refine (HP2.out _).mono ?_
    rintro e w2 ⟨vb, rfl, ho, hb⟩
    replace HB := Lib.hid (HB.out.trans (hb.mono HB.out.size))
    clear hb ho
    go_wp2_with fail
    refine (HQ1.out _).mono ?_
    rintro e w4 ⟨vc, rfl, ho1, hb1⟩
    have HO1 := Lib.hid ho1
    have HB1 := Lib.hid hb1
    clear ho1 hb1
    go_wp2_with fail
    refine (HQ2.out _).mono ?_
    rintro e w5 ⟨vd, rfl, ho, hb⟩
    have HT := Lib.hid (two_of HO1.out ho HB1.out hb)
    have hz := HB.out.size
    replace HB := Lib.hid (HB.out.trans ((HB1.out.trans (hb.mono HB1.out.size)).mono HB.out.size))
    clear hb ho HO1 HB1
    go_wp2_with fail
    go_loopw [12, 16] (fun v i wr2 => ∃ j : Nat, k ≤ j ∧ j ≤ l ∧ i = .int .i64 j ∧ Hid (Two wr2 w2.heap.size v vd j (sk ++ List.replicate (j - k) zb) sl) ∧ Hid (Below w.heap.size w wr2)) (fun _ i _ => l - (intOf i).toNat)
    case atStart => exact ⟨k, Nat.le_refl _, by omega, rfl, by show Two _ _ _ _ _ _ _; rw [Nat.sub_self]; simpa using HT.out, HB⟩
    case round =>
    clear HT HB
    obtain ⟨j2, hkj, hjl, rfl, HT, HB⟩ := hrel
    by_cases hlt : j2 < l
    · go_wp2_with (at_builtin; refine wpList_app_two (B := w.heap.size) (w0 := w) zb rfl (.tmp 92) (.tmp 97) rfl rfl rfl HSH.out HT.out HL2.out HB.out hz (by omega) ?_; intro v1 w6 ht hb; have HT1 := Lib.hid ht; have HB1 := Lib.hid hb; clear ht hb)
      go_roundw
      case rel =>
        have ht := HT1.out
        rw [rep_snoc _ _ _ _ hkj] at ht
        exact ⟨j2 + 1, by omega, by omega, by go_num, ht, HB1⟩
      case measure => simp [intOf]; omega
    obtain rfl : l = j2 := by omega
    have ht := HT.out
    unfold Two at ht
    rw [HSX.out] at ht
    have HA := Lib.hid (Rd.of_own ht.1)
    have HD := Lib.hid ht.2.1
    clear ht HT
    go_wp2_with fail
    refine (eqBytes_any _ _ sl sl _ HA.out HD.out).mono ?_
    rintro e w' ⟨rfl, rfl⟩
    rw [beq_self_eq_true]
    clear HA HD
    go_wp2_with fail
    refine (works_true _).mono ?_
    rintro e w7 ⟨rfl, hb⟩
    replace HB := Lib.hid (HB.out.trans (hb.mono HB.out.size))
    clear hb
    go_wp2_with fail
    go_ret
    exact ⟨rfl, HB.out⟩
  · go_enter Try.func8, Try.ntmps8
    go_wp2_with fail
    refine (HWX.out _).mono ?_
    rintro e w' ⟨rfl, rfl⟩
    go_wp2_with fail
    refine (HWY.out _).mono ?_
    rintro e w' ⟨rfl, rfl⟩
    go_wp2_with fail
    refine (HWX.out _).mono ?_
    rintro e w' ⟨rfl, rfl⟩
    go_wp2_with fail
    refine (HWY.out _).mono ?_
    rintro e w' ⟨rfl, rfl⟩
    go_wp2_with fail
    refine (HP1.out _).mono ?_
    rintro e w1 ⟨A1, c1, rfl, hb⟩
    have HB := Lib.hid hb
    clear hb
    go_wp2_with fail
    refine (HP2.out _).mono ?_
    rintro e w2 ⟨vb, rfl, ho, hb⟩
    replace HB := Lib.hid (HB.out.trans (hb.mono HB.out.size))
    clear hb ho
    go_wp2_with fail
    refine (HQ1.out _).mono ?_
    rintro e w4 ⟨vc, rfl, ho1, hb1⟩
    have HO1 := Lib.hid ho1
    have HB1 := Lib.hid hb1
    clear ho1 hb1
    go_wp2_with fail
    refine (HQ2.out _).mono ?_
    rintro e w5 ⟨vd, rfl, ho, hb⟩
    have HT := Lib.hid (two_of HO1.out ho HB1.out hb)
    have hz := HB.out.size
    replace HB := Lib.hid (HB.out.trans ((HB1.out.trans (hb.mono HB1.out.size)).mono HB.out.size))
    clear hb ho HO1 HB1
    go_wp2_with fail
    go_loopw [12, 16] (fun v i wr2 => ∃ j : Nat, l ≤ j ∧ j ≤ l ∧ i = .int .i64 j ∧ Hid (Two wr2 w2.heap.size v vd j (sk ++ List.replicate (j - l) zb) sl) ∧ Hid (Below w.heap.size w wr2)) (fun _ i _ => l - (intOf i).toNat)
    case atStart => exact ⟨l, Nat.le_refl _, by omega, rfl, by show Two _ _ _ _ _ _ _; rw [Nat.sub_self]; simpa using HT.out, HB⟩
    case round =>
    clear HT HB
    obtain ⟨j2, hkj, hjl, rfl, HT, HB⟩ := hrel
    by_cases hlt : j2 < l
    · omega
    obtain rfl : l = j2 := by omega
    have ht := HT.out
    unfold Two at ht
    rw [HSX.out] at ht
    have HA := Lib.hid (Rd.of_own ht.1)
    have HD := Lib.hid ht.2.1
    clear ht HT
    go_wp2_with fail
    refine (eqBytes_any _ _ sl sl _ HA.out HD.out).mono ?_
    rintro e w' ⟨rfl, rfl⟩
    rw [beq_self_eq_true]
    clear HA HD
    go_wp2_with fail
    refine (works_true _).mono ?_
    rintro e w7 ⟨rfl, hb⟩
    replace HB := Lib.hid (HB.out.trans (hb.mono HB.out.size))
    clear hb
    go_wp2_with fail
    go_ret
    exact ⟨rfl, HB.out⟩

set_option maxHeartbeats 4000000 in
theorem longer_tf (x y : Int) (p q k l U : Nat) (w : World) (x0 : -9223372036854775808 ≤ x) (y0 : -9223372036854775808 ≤ y) (hx : wideF x = (p : Int)) (hy : wideF y = (q : Int)) (hord : (p < q ∧ k = p ∧ l = q) ∨ (q < p ∧ k = q ∧ l = p) ∨ (p = q ∧ k = p ∧ l = p))
    (hf : fitsU U k = true) (hfi : fitsI (wrap64 U) k = false) :
    Calls Try.prog 8 #[.int .i64 x, .int .i64 y, .int .u64 (U : Int)] w fun e w' => e = .returned (.bool true) ∧ Below w.heap.size w w' := by
  have hwp := wideF_isW x
  rw [hx] at hwp
  have hwq := wideF_isW y
  rw [hy] at hwq
  have hkl : k ≤ l := by omega
  have hwk : isW (k : Int) = true := by rcases hord with ⟨_, rfl, rfl⟩ | ⟨_, rfl, rfl⟩ | ⟨rfl, rfl, rfl⟩ <;> assumption
  have hwl : isW (l : Int) = true := by rcases hord with ⟨_, rfl, rfl⟩ | ⟨_, rfl, rfl⟩ | ⟨rfl, rfl, rfl⟩ <;> assumption
  have hk := isW_nat hwk
  have hl := isW_nat hwl
  have hwx := fun W => wideF_any x W x0
  have hwy := fun W => wideF_any y W y0
  rw [hx] at hwx
  rw [hy] at hwy
  have HWX := Lib.hid hwx
  have HWY := Lib.hid hwy
  have hNb := wrap64_bd (U : Int)
  obtain ⟨N, hN⟩ : ∃ N, wrap64 (U : Int) = N := ⟨_, rfl⟩
  rw [hN] at hNb hfi
  have hU : U < 256 ^ k := by
    have h1 := fitsU_iff.1 hf
    rw [pw_eq hwk] at h1
    have h2 : ((256 ^ (k : Int).toNat : Nat) : Int) = ((256 ^ k : Nat) : Int) := by simp
    rw [h2] at h1
    exact Int.ofNat_lt.1 h1
  have hfl : fitsU U l = true := by
    rw [fitsU_iff, pw_eq hwl]
    have h2 : ((256 ^ (l : Int).toNat : Nat) : Int) = ((256 ^ l : Nat) : Int) := by simp
    rw [h2]
    exact Int.ofNat_lt.2 (Nat.lt_of_lt_of_le hU (Nat.pow_le_pow_right (by decide) hkl))
  have hp1 := fun W => put_own k U W hwk hf
  have hp2 := fun W => put_own l U W hwl hfl
  have hext : enc k U ++ List.replicate (l - k) 0 = enc l U := by
    have := enc_zeros (j := l - k) hU
    rw [show k + (l - k) = l by omega] at this
    exact this.symm
  have hlen1 : 0 < (enc l U).length := by rw [enc_length]; omega
  generalize enc k U = ek at hp1 hext
  generalize enc l U = el at hp2 hext hlen1
  have HP1 := Lib.hid hp1
  have HP2 := Lib.hid hp2
  have HE := Lib.hid hext
  have HL := Lib.hid hlen1
  clear hU hfl hext hlen1
  have hq1 := fun W => putInt_no k N W hwk hfi
  have hq2 := fun W => putInt_any (.slice none 0 0) [] l N W (Rd.nil _ _ _) (by decide)
  generalize putIE l N = G2 at hq2
  generalize putIL [] l N = M2 at hq2
  have HQ1 := Lib.hid hq1
  have HQ2 := Lib.hid hq2
  clear hp1 hp2 hq1 hq2 hf hfi hwp hwq hwk hwl hwx hwy hx hy
  rcases hord with ⟨hpq, rfl, rfl⟩ | ⟨hpq, rfl, rfl⟩ | ⟨rfl, rfl, rfl⟩
  · go_enter Try.func8, Try.ntmps8
    go_wp2_with fail
    refine (HWX.out _).mono ?_
    rintro e w' ⟨rfl, rfl⟩
    go_wp2_with fail
    refine (HWY.out _).mono ?_
    rintro e w' ⟨rfl, rfl⟩
    go_wp2_with fail
    refine (HWX.out _).mono ?_
    rintro e w' ⟨rfl, rfl⟩
    go_wp2_with fail
    refine (HWY.out _).mono ?_
    rintro e w' ⟨rfl, rfl⟩
    go_wp2_with fail
    refine (HP1.out _).mono ?_
    rintro e w1 ⟨va, rfl, ho1, hb1⟩
    have HO1 := Lib.hid ho1
    have HB1 := Lib.hid hb1
    clear ho1 hb1
    go_wp2_with fail
    refine (HP2.out _).mono ?_
    rintro e w2 ⟨vb, rfl, ho, hb⟩
    have HT := Lib.hid (two_of HO1.out ho HB1.out hb)
    have HB := Lib.hid (HB1.out.trans (hb.mono HB1.out.size))
    clear hb ho HO1 HB1
    go_wp2_with fail
    go_loopw [7, 11] (fun v i wr => ∃ j : Nat, k ≤ j ∧ j ≤ l ∧ i = .int .i64 j ∧ Hid (Two wr w.heap.size v vb j (ek ++ List.replicate (j - k) 0) el) ∧ Hid (Below w.heap.size w wr)) (fun _ i _ => l - (intOf i).toNat)
    case atStart => exact ⟨k, Nat.le_refl _, by omega, rfl, by show Two _ _ _ _ _ _ _; rw [Nat.sub_self]; simpa using HT.out, HB⟩
    case round =>
    clear HT HB
    obtain ⟨j, hkj, hjl, rfl, HT, HB⟩ := hrel
    by_cases hlt : j < l
    · go_wp2_with (at_builtin; refine wpList_app_two (B := w.heap.size) (w0 := w) (wr := wr) (zi := 0) 0 rfl (.tmp 47) (.tmp 48) rfl rfl rfl rfl HT.out HL.out HB.out (Nat.le_refl _) (by omega) ?_; intro v1 w3 ht hb; have HT1 := Lib.hid ht; have HB1 := Lib.hid hb; clear ht hb)
      go_roundw
      case rel =>
        have ht := HT1.out
        rw [rep_snoc _ _ _ _ hkj] at ht
        exact ⟨j + 1, by omega, by omega, by go_num, ht, HB1⟩
      case measure => simp [intOf]; omega
    obtain rfl : l = j := by omega
    have ht := HT.out
    unfold Two at ht
    rw [HE.out] at ht
    have HA := Lib.hid (Rd.of_own ht.1)
    have HD := Lib.hid ht.2.1
    clear ht HT
    go_wp2_with fail
    refine (eqBytes_any _ _ el el _ HA.out HD.out).mono ?_
    rintro e w' ⟨rfl, rfl⟩
    rw [beq_self_eq_true]
    clear HA HD
    go_wp2_with fail
    refine (HQ1.out _).mono ?_
    rintro e w4 ⟨A4, c4, rfl, hb⟩
    replace HB := Lib.hid (HB.out.trans (hb.mono HB.out.size))
    clear hb
    go_wp2_with fail
    refine (HQ2.out _).mono ?_
    rintro e w5 ⟨vd, rfl, ho, hb⟩
    replace HB := Lib.hid (HB.out.trans (hb.mono HB.out.size))
    clear hb ho
    go_wp2_with fail
    refine (works_true _).mono ?_
    rintro e w6 ⟨rfl, hb⟩
    replace HB := Lib.hid (HB.out.trans (hb.mono HB.out.size))
    clear hb
    go_wp2_with fail
    go_ret
    exact ⟨rfl, HB.out⟩
  · go_enter Try.func8, Try.ntmps8
    go_wp2_with fail
    refine (HWX.out _).mono ?_
    rintro e w' ⟨rfl, rfl⟩
    go_wp2_with fail
    refine (HWY.out _).mono ?_
    rintro e w' ⟨rfl, rfl⟩
    go_wp2_with fail
    refine (HWX.out _).mono ?_
    rintro e w' ⟨rfl, rfl⟩
    go_wp2_with fail
    refine (HWY.out _).mono ?_
    rintro e w' ⟨rfl, rfl⟩
    go_wp2_with fail
    refine (HP1.out _).mono ?_
    rintro e w1 ⟨va, rfl, ho1, hb1⟩
    have HO1 := Lib.hid ho1
    have HB1 := Lib.hid hb1
    clear ho1 hb1
    go_wp2_with fail
    refine (HP2.out _).mono ?_
    rintro e w2 ⟨vb, rfl, ho, hb⟩
    have HT := Lib.hid (two_of HO1.out ho HB1.out hb)
    have HB := Lib.hid (HB1.out.trans (hb.mono HB1.out.size))
    clear hb ho HO1 HB1
    go_wp2_with fail
    go_loopw [7, 11] (fun v i wr => ∃ j : Nat, k ≤ j ∧ j ≤ l ∧ i = .int .i64 j ∧ Hid (Two wr w.heap.size v vb j (ek ++ List.replicate (j - k) 0) el) ∧ Hid (Below w.heap.size w wr)) (fun _ i _ => l - (intOf i).toNat)
    case atStart => exact ⟨k, Nat.le_refl _, by omega, rfl, by show Two _ _ _ _ _ _ _; rw [Nat.sub_self]; simpa using HT.out, HB⟩
    case round =>
    clear HT HB
    obtain ⟨j, hkj, hjl, rfl, HT, HB⟩ := hrel
    by_cases hlt : j < l
    · go_wp2_with (at_builtin; refine wpList_app_two (B := w.heap.size) (w0 := w) (wr := wr) (zi := 0) 0 rfl (.tmp 47) (.tmp 48) rfl rfl rfl rfl HT.out HL.out HB.out (Nat.le_refl _) (by omega) ?_; intro v1 w3 ht hb; have HT1 := Lib.hid ht; have HB1 := Lib.hid hb; clear ht hb)
      go_roundw
      case rel =>
        have ht := HT1.out
        rw [rep_snoc _ _ _ _ hkj] at ht
        exact ⟨j + 1, by omega, by omega, by go_num, ht, HB1⟩
      case measure => simp [intOf]; omega
    obtain rfl : l = j := by omega
    have ht := HT.out
    unfold Two at ht
    rw [HE.out] at ht
    have HA := Lib.hid (Rd.of_own ht.1)
    have HD := Lib.hid ht.2.1
    clear ht HT
    go_wp2_with fail
    refine (eqBytes_any _ _ el el _ HA.out HD.out).mono ?_
    rintro e w' ⟨rfl, rfl⟩
    rw [beq_self_eq_true]
    clear HA HD
    go_wp2_with fail
    refine (HQ1.out _).mono ?_
    rintro e w4 ⟨A4, c4, rfl, hb⟩
    replace HB := Lib.hid (HB.out.trans (hb.mono HB.out.size))
    clear hb
    go_wp2_with fail
    refine (HQ2.out _).mono ?_
    rintro e w5 ⟨vd, rfl, ho, hb⟩
    replace HB := Lib.hid (HB.out.trans (hb.mono HB.out.size))
    clear hb ho
    go_wp2_with fail
    refine (works_true _).mono ?_
    rintro e w6 ⟨rfl, hb⟩
    replace HB := Lib.hid (HB.out.trans (hb.mono HB.out.size))
    clear hb
    go_wp2_with fail
    go_ret
    exact ⟨rfl, HB.out⟩
  · go_enter Try.func8, Try.ntmps8
    go_wp2_with fail
    refine (HWX.out _).mono ?_
    rintro e w' ⟨rfl, rfl⟩
    go_wp2_with fail
    refine (HWY.out _).mono ?_
    rintro e w' ⟨rfl, rfl⟩
    go_wp2_with fail
    refine (HWX.out _).mono ?_
    rintro e w' ⟨rfl, rfl⟩
    go_wp2_with fail
    refine (HWY.out _).mono ?_
    rintro e w' ⟨rfl, rfl⟩
    go_wp2_with fail
    refine (HP1.out _).mono ?_
    rintro e w1 ⟨va, rfl, ho1, hb1⟩
    have HO1 := Lib.hid ho1
    have HB1 := Lib.hid hb1
    clear ho1 hb1
    go_wp2_with fail
    refine (HP2.out _).mono ?_
    rintro e w2 ⟨vb, rfl, ho, hb⟩
    have HT := Lib.hid (two_of HO1.out ho HB1.out hb)
    have HB := Lib.hid (HB1.out.trans (hb.mono HB1.out.size))
    clear hb ho HO1 HB1
    go_wp2_with fail
    go_loopw [7, 11] (fun v i wr => ∃ j : Nat, l ≤ j ∧ j ≤ l ∧ i = .int .i64 j ∧ Hid (Two wr w.heap.size v vb j (ek ++ List.replicate (j - l) 0) el) ∧ Hid (Below w.heap.size w wr)) (fun _ i _ => l - (intOf i).toNat)
    case atStart => exact ⟨l, Nat.le_refl _, by omega, rfl, by show Two _ _ _ _ _ _ _; rw [Nat.sub_self]; simpa using HT.out, HB⟩
    case round =>
    clear HT HB
    obtain ⟨j, hkj, hjl, rfl, HT, HB⟩ := hrel
    by_cases hlt : j < l
    · omega
    obtain rfl : l = j := by omega
    have ht := HT.out
    unfold Two at ht
    rw [HE.out] at ht
    have HA := Lib.hid (Rd.of_own ht.1)
    have HD := Lib.hid ht.2.1
    clear ht HT
    go_wp2_with fail
    refine (eqBytes_any _ _ el el _ HA.out HD.out).mono ?_
    rintro e w' ⟨rfl, rfl⟩
    rw [beq_self_eq_true]
    clear HA HD
    go_wp2_with fail
    refine (HQ1.out _).mono ?_
    rintro e w4 ⟨A4, c4, rfl, hb⟩
    replace HB := Lib.hid (HB.out.trans (hb.mono HB.out.size))
    clear hb
    go_wp2_with fail
    refine (HQ2.out _).mono ?_
    rintro e w5 ⟨vd, rfl, ho, hb⟩
    replace HB := Lib.hid (HB.out.trans (hb.mono HB.out.size))
    clear hb ho
    go_wp2_with fail
    refine (works_true _).mono ?_
    rintro e w6 ⟨rfl, hb⟩
    replace HB := Lib.hid (HB.out.trans (hb.mono HB.out.size))
    clear hb
    go_wp2_with fail
    go_ret
    exact ⟨rfl, HB.out⟩

set_option maxHeartbeats 4000000 in
theorem longer_tt (x y : Int) (p q k l U : Nat) (w : World) (x0 : -9223372036854775808 ≤ x) (y0 : -9223372036854775808 ≤ y) (hx : wideF x = (p : Int)) (hy : wideF y = (q : Int)) (hord : (p < q ∧ k = p ∧ l = q) ∨ (q < p ∧ k = q ∧ l = p) ∨ (p = q ∧ k = p ∧ l = p))
    (hf : fitsU U k = true) (hfi : fitsI (wrap64 U) k = true) :
    Calls Try.prog 8 #[.int .i64 x, .int .i64 y, .int .u64 (U : Int)] w fun e w' => e = .returned (.bool true) ∧ Below w.heap.size w w' := by
  have hwp := wideF_isW x
  rw [hx] at hwp
  have hwq := wideF_isW y
  rw [hy] at hwq
  have hkl : k ≤ l := by omega
  have hwk : isW (k : Int) = true := by rcases hord with ⟨_, rfl, rfl⟩ | ⟨_, rfl, rfl⟩ | ⟨rfl, rfl, rfl⟩ <;> assumption
  have hwl : isW (l : Int) = true := by rcases hord with ⟨_, rfl, rfl⟩ | ⟨_, rfl, rfl⟩ | ⟨rfl, rfl, rfl⟩ <;> assumption
  have hk := isW_nat hwk
  have hl := isW_nat hwl
  have hwx := fun W => wideF_any x W x0
  have hwy := fun W => wideF_any y W y0
  rw [hx] at hwx
  rw [hy] at hwy
  have HWX := Lib.hid hwx
  have HWY := Lib.hid hwy
  have hNb := wrap64_bd (U : Int)
  obtain ⟨N, hN⟩ : ∃ N, wrap64 (U : Int) = N := ⟨_, rfl⟩
  rw [hN] at hNb hfi
  have hU : U < 256 ^ k := by
    have h1 := fitsU_iff.1 hf
    rw [pw_eq hwk] at h1
    have h2 : ((256 ^ (k : Int).toNat : Nat) : Int) = ((256 ^ k : Nat) : Int) := by simp
    rw [h2] at h1
    exact Int.ofNat_lt.1 h1
  have hfl : fitsU U l = true := by
    rw [fitsU_iff, pw_eq hwl]
    have h2 : ((256 ^ (l : Int).toNat : Nat) : Int) = ((256 ^ l : Nat) : Int) := by simp
    rw [h2]
    exact Int.ofNat_lt.2 (Nat.lt_of_lt_of_le hU (Nat.pow_le_pow_right (by decide) hkl))
  have hp1 := fun W => put_own k U W hwk hf
  have hp2 := fun W => put_own l U W hwl hfl
  have hext : enc k U ++ List.replicate (l - k) 0 = enc l U := by
    have := enc_zeros (j := l - k) hU
    rw [show k + (l - k) = l by omega] at this
    exact this.symm
  have hlen1 : 0 < (enc l U).length := by rw [enc_length]; omega
  generalize enc k U = ek at hp1 hext
  generalize enc l U = el at hp2 hext hlen1
  have HP1 := Lib.hid hp1
  have HP2 := Lib.hid hp2
  have HE := Lib.hid hext
  have HL := Lib.hid hlen1
  clear hU hfl hext hlen1
  have hfil : fitsI N l = true := fitsI_mono hwk hwl hkl hfi
  have hq1 := fun W => putInt_own k N W hwk hfi
  have hq2 := fun W => putInt_own l N W hwl hfil
  have hsx := enc_sign hwk hwl hkl hNb.1 hNb.2 hfi
  have hlen2 : 0 < (enc l (u64 N).toNat).length := by rw [enc_length]; omega
  have hshr := shr63 N hNb.1 hNb.2
  generalize enc k (u64 N).toNat = sk at hq1 hsx
  generalize enc l (u64 N).toNat = sl at hq2 hsx hlen2
  generalize sb N = zb at hsx hshr
  have HQ1 := Lib.hid hq1
  have HQ2 := Lib.hid hq2
  have HSX := Lib.hid hsx
  have HL2 := Lib.hid hlen2
  have HSH := Lib.hid hshr
  clear hfil hsx hlen2 hshr
  clear hp1 hp2 hq1 hq2 hf hfi hwp hwq hwk hwl hwx hwy hx hy
  rcases hord with ⟨hpq, rfl, rfl⟩ | ⟨hpq, rfl, rfl⟩ | ⟨rfl, rfl, rfl⟩
  · go_enter Try.func8, Try.ntmps8
    go_wp2_with fail
    refine (HWX.out _).mono ?_
    rintro e w' ⟨rfl, rfl⟩
    go_wp2_with fail
    refine (HWY.out _).mono ?_
    rintro e w' ⟨rfl, rfl⟩
    go_wp2_with fail
    refine (HWX.out _).mono ?_
    rintro e w' ⟨rfl, rfl⟩
    go_wp2_with fail
    refine (HWY.out _).mono ?_
    rintro e w' ⟨rfl, rfl⟩
    go_wp2_with fail
    refine (HP1.out _).mono ?_
    rintro e w1 ⟨va, rfl, ho1, hb1⟩
    have HO1 := Lib.hid ho1
    have HB1 := Lib.hid hb1
    clear ho1 hb1
    go_wp2_with fail
    refine (HP2.out _).mono ?_
    rintro e w2 ⟨vb, rfl, ho, hb⟩
    have HT := Lib.hid (two_of HO1.out ho HB1.out hb)
    have HB := Lib.hid (HB1.out.trans (hb.mono HB1.out.size))
    clear hb ho HO1 HB1
    go_wp2_with fail
    go_loopw [7, 11] (fun v i wr => ∃ j : Nat, k ≤ j ∧ j ≤ l ∧ i = .int .i64 j ∧ Hid (Two wr w.heap.size v vb j (ek ++ List.replicate (j - k) 0) el) ∧ Hid (Below w.heap.size w wr)) (fun _ i _ => l - (intOf i).toNat)
    case atStart => exact ⟨k, Nat.le_refl _, by omega, rfl, by show Two _ _ _ _ _ _ _; rw [Nat.sub_self]; simpa using HT.out, HB⟩
    case round =>
    clear HT HB
    obtain ⟨j, hkj, hjl, rfl, HT, HB⟩ := hrel
    by_cases hlt : j < l
    · go_wp2_with (at_builtin; refine wpList_app_two (B := w.heap.size) (w0 := w) (wr := wr) (zi := 0) 0 rfl (.tmp 47) (.tmp 48) rfl rfl rfl rfl HT.out HL.out HB.out (Nat.le_refl _) (by omega) ?_; intro v1 w3 ht hb; have HT1 := Lib.hid ht; have HB1 := Lib.hid hb; clear ht hb)
      go_roundw
      case rel =>
        have ht := HT1.out
        rw [rep_snoc _ _ _ _ hkj] at ht
        exact ⟨j + 1, by omega, by omega, by go_num, ht, HB1⟩
      case measure => simp [intOf]; omega
    obtain rfl : l = j := by omega
    have ht := HT.out
    unfold Two at ht
    rw [HE.out] at ht
    have HA := Lib.hid (Rd.of_own ht.1)
    have HD := Lib.hid ht.2.1
    clear ht HT
    go_wp2_with fail
    refine (eqBytes_any _ _ el el _ HA.out HD.out).mono ?_
    rintro e w' ⟨rfl, rfl⟩
    rw [beq_self_eq_true]
    clear HA HD
    go_wp2_with fail
    refine (HQ1.out _).mono ?_
    rintro e w4 ⟨vc, rfl, ho1, hb1⟩
    have HO1 := Lib.hid ho1
    have HB1 := Lib.hid hb1
    clear ho1 hb1
    go_wp2_with fail
    refine (HQ2.out _).mono ?_
    rintro e w5 ⟨vd, rfl, ho, hb⟩
    have HT := Lib.hid (two_of HO1.out ho HB1.out hb)
    have hz := HB.out.size
    replace HB := Lib.hid (HB.out.trans ((HB1.out.trans (hb.mono HB1.out.size)).mono HB.out.size))
    clear hb ho HO1 HB1
    go_wp2_with fail
    go_loopw [12, 16] (fun v i wr2 => ∃ j : Nat, k ≤ j ∧ j ≤ l ∧ i = .int .i64 j ∧ Hid (Two wr2 wr.heap.size v vd j (sk ++ List.replicate (j - k) zb) sl) ∧ Hid (Below w.heap.size w wr2)) (fun _ i _ => l - (intOf i).toNat)
    case atStart => exact ⟨k, Nat.le_refl _, by omega, rfl, by show Two _ _ _ _ _ _ _; rw [Nat.sub_self]; simpa using HT.out, HB⟩
    case round =>
    clear HT HB
    obtain ⟨j2, hkj, hjl, rfl, HT, HB⟩ := hrel
    by_cases hlt : j2 < l
    · go_wp2_with (at_builtin; refine wpList_app_two (B := w.heap.size) (w0 := w) zb rfl (.tmp 92) (.tmp 97) rfl rfl rfl HSH.out HT.out HL2.out HB.out hz (by omega) ?_; intro v1 w6 ht hb; have HT1 := Lib.hid ht; have HB1 := Lib.hid hb; clear ht hb)
      go_roundw
      case rel =>
        have ht := HT1.out
        rw [rep_snoc _ _ _ _ hkj] at ht
        exact ⟨j2 + 1, by omega, by omega, by go_num, ht, HB1⟩
      case measure => simp [intOf]; omega
    obtain rfl : l = j2 := by omega
    have ht := HT.out
    unfold Two at ht
    rw [HSX.out] at ht
    have HA := Lib.hid (Rd.of_own ht.1)
    have HD := Lib.hid ht.2.1
    clear ht HT
    go_wp2_with fail
    refine (eqBytes_any _ _ sl sl _ HA.out HD.out).mono ?_
    rintro e w' ⟨rfl, rfl⟩
    rw [beq_self_eq_true]
    clear HA HD
    go_wp2_with fail
    refine (works_true _).mono ?_
    rintro e w7 ⟨rfl, hb⟩
    replace HB := Lib.hid (HB.out.trans (hb.mono HB.out.size))
    clear hb
    go_wp2_with fail
    go_ret
    exact ⟨rfl, HB.out⟩
  · go_enter Try.func8, Try.ntmps8
    go_wp2_with fail
    refine (HWX.out _).mono ?_
    rintro e w' ⟨rfl, rfl⟩
    go_wp2_with fail
    refine (HWY.out _).mono ?_
    rintro e w' ⟨rfl, rfl⟩
    go_wp2_with fail
    refine (HWX.out _).mono ?_
    rintro e w' ⟨rfl, rfl⟩
    go_wp2_with fail
    refine (HWY.out _).mono ?_
    rintro e w' ⟨rfl, rfl⟩
    go_wp2_with fail
    refine (HP1.out _).mono ?_
    rintro e w1 ⟨va, rfl, ho1, hb1⟩
    have HO1 := Lib.hid ho1
    have HB1 := Lib.hid hb1
    clear ho1 hb1
    go_wp2_with fail
    refine (HP2.out _).mono ?_
    rintro e w2 ⟨vb, rfl, ho, hb⟩
    have HT := Lib.hid (two_of HO1.out ho HB1.out hb)
    have HB := Lib.hid (HB1.out.trans (hb.mono HB1.out.size))
    clear hb ho HO1 HB1
    go_wp2_with fail
    go_loopw [7, 11] (fun v i wr => ∃ j : Nat, k ≤ j ∧ j ≤ l ∧ i = .int .i64 j ∧ Hid (Two wr w.heap.size v vb j (ek ++ List.replicate (j - k) 0) el) ∧ Hid (Below w.heap.size w wr)) (fun _ i _ => l - (intOf i).toNat)
    case atStart => exact ⟨k, Nat.le_refl _, by omega, rfl, by show Two _ _ _ _ _ _ _; rw [Nat.sub_self]; simpa using HT.out, HB⟩
    case round =>
    clear HT HB
    obtain ⟨j, hkj, hjl, rfl, HT, HB⟩ := hrel
    by_cases hlt : j < l
    · go_wp2_with (at_builtin; refine wpList_app_two (B := w.heap.size) (w0 := w) (wr := wr) (zi := 0) 0 rfl (.tmp 47) (.tmp 48) rfl rfl rfl rfl HT.out HL.out HB.out (Nat.le_refl _) (by omega) ?_; intro v1 w3 ht hb; have HT1 := Lib.hid ht; have HB1 := Lib.hid hb; clear ht hb)
      go_roundw
      case rel =>
        have ht := HT1.out
        rw [rep_snoc _ _ _ _ hkj] at ht
        exact ⟨j + 1, by omega, by omega, by go_num, ht, HB1⟩
      case measure => simp [intOf]; omega
    obtain rfl : l = j := by omega
    have ht := HT.out
    unfold Two at ht
    rw [HE.out] at ht
    have HA := Lib.hid (Rd.of_own ht.1)
    have HD := Lib.hid ht.2.1
    clear ht HT
    go_wp2_with fail
    refine (eqBytes_any _ _ el el _ HA.out HD.out).mono ?_
    rintro e w' ⟨rfl, rfl⟩
    rw [beq_self_eq_true]
    clear HA HD
    go_wp2_with fail
    refine (HQ1.out _).mono ?_
    rintro e w4 ⟨vc, rfl, ho1, hb1⟩
    have HO1 := Lib.hid ho1
    have HB1 := Lib.hid hb1
    clear ho1 hb1
    go_wp2_with fail
    refine (HQ2.out _).mono ?_
    rintro e w5 ⟨vd, rfl, ho, hb⟩
    have HT := Lib.hid (two_of HO1.out ho HB1.out hb)
    have hz := HB.out.size
    replace HB := Lib.hid (HB.out.trans ((HB1.out.trans (hb.mono HB1.out.size)).mono HB.out.size))
    clear hb ho HO1 HB1
    go_wp2_with fail
    go_loopw [12, 16] (fun v i wr2 => ∃ j : Nat, k ≤ j ∧ j ≤ l ∧ i = .int .i64 j ∧ Hid (Two wr2 wr.heap.size v vd j (sk ++ List.replicate (j - k) zb) sl) ∧ Hid (Below w.heap.size w wr2)) (fun _ i _ => l - (intOf i).toNat)
    case atStart => exact ⟨k, Nat.le_refl _, by omega, rfl, by show Two _ _ _ _ _ _ _; rw [Nat.sub_self]; simpa using HT.out, HB⟩
    case round =>
    clear HT HB
    obtain ⟨j2, hkj, hjl, rfl, HT, HB⟩ := hrel
    by_cases hlt : j2 < l
    · go_wp2_with (at_builtin; refine wpList_app_two (B := w.heap.size) (w0 := w) zb rfl (.tmp 92) (.tmp 97) rfl rfl rfl HSH.out HT.out HL2.out HB.out hz (by omega) ?_; intro v1 w6 ht hb; have HT1 := Lib.hid ht; have HB1 := Lib.hid hb; clear ht hb)
      go_roundw
      case rel =>
        have ht := HT1.out
        rw [rep_snoc _ _ _ _ hkj] at ht
        exact ⟨j2 + 1, by omega, by omega, by go_num, ht, HB1⟩
      case measure => simp [intOf]; omega
    obtain rfl : l = j2 := by omega
    have ht := HT.out
    unfold Two at ht
    rw [HSX.out] at ht
    have HA := Lib.hid (Rd.of_own ht.1)
    have HD := Lib.hid ht.2.1
    clear ht HT
    go_wp2_with fail
    refine (eqBytes_any _ _ sl sl _ HA.out HD.out).mono ?_
    rintro e w' ⟨rfl, rfl⟩
    rw [beq_self_eq_true]
    clear HA HD
    go_wp2_with fail
    refine (works_true _).mono ?_
    rintro e w7 ⟨rfl, hb⟩
    replace HB := Lib.hid (HB.out.trans (hb.mono HB.out.size))
    clear hb
    go_wp2_with fail
    go_ret
    exact ⟨rfl, HB.out⟩
  · go_enter Try.func8, Try.ntmps8
    go_wp2_with fail
    refine (HWX.out _).mono ?_
    rintro e w' ⟨rfl, rfl⟩
    go_wp2_with fail
    refine (HWY.out _).mono ?_
    rintro e w' ⟨rfl, rfl⟩
    go_wp2_with fail
    refine (HWX.out _).mono ?_
    rintro e w' ⟨rfl, rfl⟩
    go_wp2_with fail
    refine (HWY.out _).mono ?_
    rintro e w' ⟨rfl, rfl⟩
    go_wp2_with fail
    refine (HP1.out _).mono ?_
    rintro e w1 ⟨va, rfl, ho1, hb1⟩
    have HO1 := Lib.hid ho1
    have HB1 := Lib.hid hb1
    clear ho1 hb1
    go_wp2_with fail
    refine (HP2.out _).mono ?_
    rintro e w2 ⟨vb, rfl, ho, hb⟩
    have HT := Lib.hid (two_of HO1.out ho HB1.out hb)
    have HB := Lib.hid (HB1.out.trans (hb.mono HB1.out.size))
    clear hb ho HO1 HB1
    go_wp2_with fail
    go_loopw [7, 11] (fun v i wr => ∃ j : Nat, l ≤ j ∧ j ≤ l ∧ i = .int .i64 j ∧ Hid (Two wr w.heap.size v vb j (ek ++ List.replicate (j - l) 0) el) ∧ Hid (Below w.heap.size w wr)) (fun _ i _ => l - (intOf i).toNat)
    case atStart => exact ⟨l, Nat.le_refl _, by omega, rfl, by show Two _ _ _ _ _ _ _; rw [Nat.sub_self]; simpa using HT.out, HB⟩
    case round =>
    clear HT HB
    obtain ⟨j, hkj, hjl, rfl, HT, HB⟩ := hrel
    by_cases hlt : j < l
    · omega
    obtain rfl : l = j := by omega
    have ht := HT.out
    unfold Two at ht
    rw [HE.out] at ht
    have HA := Lib.hid (Rd.of_own ht.1)
    have HD := Lib.hid ht.2.1
    clear ht HT
    go_wp2_with fail
    refine (eqBytes_any _ _ el el _ HA.out HD.out).mono ?_
    rintro e w' ⟨rfl, rfl⟩
    rw [beq_self_eq_true]
    clear HA HD
    go_wp2_with fail
    refine (HQ1.out _).mono ?_
    rintro e w4 ⟨vc, rfl, ho1, hb1⟩
    have HO1 := Lib.hid ho1
    have HB1 := Lib.hid hb1
    clear ho1 hb1
    go_wp2_with fail
    refine (HQ2.out _).mono ?_
    rintro e w5 ⟨vd, rfl, ho, hb⟩
    have HT := Lib.hid (two_of HO1.out ho HB1.out hb)
    have hz := HB.out.size
    replace HB := Lib.hid (HB.out.trans ((HB1.out.trans (hb.mono HB1.out.size)).mono HB.out.size))
    clear hb ho HO1 HB1
    go_wp2_with fail
    go_loopw [12, 16] (fun v i wr2 => ∃ j : Nat, l ≤ j ∧ j ≤ l ∧ i = .int .i64 j ∧ Hid (Two wr2 wr.heap.size v vd j (sk ++ List.replicate (j - l) zb) sl) ∧ Hid (Below w.heap.size w wr2)) (fun _ i _ => l - (intOf i).toNat)
    case atStart => exact ⟨l, Nat.le_refl _, by omega, rfl, by show Two _ _ _ _ _ _ _; rw [Nat.sub_self]; simpa using HT.out, HB⟩
    case round =>
    clear HT HB
    obtain ⟨j2, hkj, hjl, rfl, HT, HB⟩ := hrel
    by_cases hlt : j2 < l
    · omega
    obtain rfl : l = j2 := by omega
    have ht := HT.out
    unfold Two at ht
    rw [HSX.out] at ht
    have HA := Lib.hid (Rd.of_own ht.1)
    have HD := Lib.hid ht.2.1
    clear ht HT
    go_wp2_with fail
    refine (eqBytes_any _ _ sl sl _ HA.out HD.out).mono ?_
    rintro e w' ⟨rfl, rfl⟩
    rw [beq_self_eq_true]
    clear HA HD
    go_wp2_with fail
    refine (works_true _).mono ?_
    rintro e w7 ⟨rfl, hb⟩
    replace HB := Lib.hid (HB.out.trans (hb.mono HB.out.size))
    clear hb
    go_wp2_with fail
    go_ret
    exact ⟨rfl, HB.out⟩

theorem longer_walk (x y u : Int) (w : World) (x0 : -9223372036854775808 ≤ x) (y0 : -9223372036854775808 ≤ y) (u0 : 0 ≤ u) (_u1 : u ≤ 18446744073709551615) :
    Calls Try.prog 8 #[.int .i64 x, .int .i64 y, .int .u64 u] w fun e w' => e = .returned (.bool true) ∧ Below w.heap.size w w' := by
  obtain ⟨U, rfl⟩ := Int.eq_ofNat_of_zero_le u0
  have hx := isW_bd (wideF_isW x)
  have hy := isW_bd (wideF_isW y)
  obtain ⟨p, hp⟩ := Int.eq_ofNat_of_zero_le (show 0 ≤ wideF x by omega)
  obtain ⟨q, hq⟩ := Int.eq_ofNat_of_zero_le (show 0 ≤ wideF y by omega)
  obtain ⟨k, l, hord⟩ : ∃ k l, (p < q ∧ k = p ∧ l = q) ∨ (q < p ∧ k = q ∧ l = p) ∨ (p = q ∧ k = p ∧ l = p) := by
    rcases Nat.lt_trichotomy p q with h | h | h
    · exact ⟨p, q, .inl ⟨h, rfl, rfl⟩⟩
    · exact ⟨p, p, .inr (.inr ⟨h, rfl, rfl⟩)⟩
    · exact ⟨q, p, .inr (.inl ⟨h, rfl, rfl⟩)⟩
  cases hf : fitsU U k with
  | false =>
    cases hi : fitsI (wrap64 U) k with
    | false => exact longer_ff x y p q k l U w x0 y0 hp hq hord hf hi
    | true => exact longer_ft x y p q k l U w x0 y0 hp hq hord hf hi
  | true =>
    cases hi : fitsI (wrap64 U) k with
    | false => exact longer_tf x y p q k l U w x0 y0 hp hq hord hf hi
    | true => exact longer_tt x y p q k l U w x0 y0 hp hq hord hf hi

set_option maxRecDepth 100000 in
theorem leLonger_lifted (os : Os) (started : os.Started) (H : Type) (enc : TypeId × Value → H) :
    ReturnsInHanded {} Try.checked os 8 .any (Rows.leLongerSpec.pre6 enc Try.prog Try.f8 Rows.leLongerRow.domain false) (Rows.leLongerSpec.post enc Try.prog Try.f8 false true false false) := by
  refine returnsInHanded_of_change (C := Try.checked) ownK started (by kernel_rfl) Try.func8
    (ChangeSpec.witness6 (enc := enc) (C := Try.checked) false ⟨#[], #[.int .i64 0, .int .i64 0, .int .u64 0], []⟩ 8 (by kernel_rfl) (by kernel_rfl) (by kernel_rfl) (by kernel_rfl)) ?_
  intro W base args ds gs before hval0 hW hcnd _
  have hval : ∀ (j : Nat) t v, Try.f8.params[j]? = some t → args[j]? = some v → Value.okWide Try.prog W .any base t v := hval0
  have hW' := hW
  obtain ⟨p, q, hA0, hV, rfl, hfz, hnd⟩ := hW
  have hA : DataW.TrodAll enc Try.prog W 0 (fun _ => true) true Try.f8.params.toList args.toList ds p := hA0
  rw [Try.params8] at hA hval
  obtain ⟨v0, vs0, d0, ds0, p0, q0, hargs, rfl, rfl, h0, r0⟩ := trodAll_cons hA
  obtain ⟨v1, vs1, d1, ds1, p1, q1, rfl, rfl, rfl, h1, r1⟩ := trodAll_cons r0
  obtain ⟨v2, vs2, d2, ds2, p2, q2, rfl, rfl, rfl, h2, r2⟩ := trodAll_cons r1
  obtain ⟨rfl, rfl, rfl⟩ := trodAll_nil r2
  obtain rfl : args = #[v0, v1, v2] := by cases args; simp_all
  obtain ⟨rfl, rfl⟩ := trodVars_none hV
  obtain ⟨a0, rfl, rfl, rfl, w0⟩ := open_int Try.underlying3 (hval 0 3 v0 rfl rfl) h0
  have b0 : -9223372036854775808 ≤ a0 ∧ a0 ≤ 9223372036854775807 := by simpa [Lit.wf, IntKind.min, IntKind.max, IntKind.signed, IntKind.bits] using w0
  obtain ⟨a1, rfl, rfl, rfl, w1⟩ := open_int Try.underlying3 (hval 1 3 v1 rfl rfl) h1
  have b1 : -9223372036854775808 ≤ a1 ∧ a1 ≤ 9223372036854775807 := by simpa [Lit.wf, IntKind.min, IntKind.max, IntKind.signed, IntKind.bits] using w1
  obtain ⟨a2, rfl, rfl, rfl, w2⟩ := open_int Try.underlying24 (hval 2 24 v2 rfl rfl) h2
  have b2 : 0 ≤ a2 ∧ a2 ≤ 18446744073709551615 := by simpa [Lit.wf, IntKind.min, IntKind.max, IntKind.signed, IntKind.bits] using w2
  refine (longer_walk a0 a1 a2 W b0.1 b1.1 b2.1 b2.2).mono fun e W' ⟨he, hb⟩ => ?_
  subst he
  exact ⟨_, rfl, law_post (by rw [Try.params8]; decide +kernel) rfl rfl rfl rfl rfl hW' hb⟩

theorem leLonger_over : Rows.leLongerRow.holds Try.pinned (OpenSpec.ofChange Rows.leLongerSpec) :=
  OpenClaim.holds_of_wide 8 Try.f8 rfl rfl rfl rfl rfl rfl rfl ⟨rfl, rfl, rfl, rfl, rfl⟩ rfl rfl rfl rfl rfl (by kernel_rfl) Try.func8 (by kernel_rfl)
    (of_decide_eq_true (by kernel_rfl)) (by unfold Func.isWrapper; first | (rw [if_pos (by decide +kernel)]; kernel_rfl) | (rw [if_neg (by decide +kernel)]; exact ⟨rfl, rfl⟩))
    (fun os started H enc _ => leLonger_lifted os started H enc)

theorem leLonger_holds : Rows.LeLongerSaid := leLonger_over
end Go.Proofs.Ytfodocahneoipaa
