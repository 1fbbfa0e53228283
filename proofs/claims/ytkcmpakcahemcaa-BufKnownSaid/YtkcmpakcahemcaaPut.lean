/-
  What is proved here: contracts of le.Put and le.PutInt: their results are those that the specification of layer 1 gives, in new memory; condition: the slice has at most 60000 bytes, and the integers are in the range of their types.
-/
import Derived.Test.YtkcmpakcahemcaaCode
namespace Go.Proofs.Ytkcmpakcahemcaa
open Go.RowKit Le

/-- A row of zero bytes. -/
def zeros (n : Nat) : List Value := List.replicate n (.int .u8 0)
theorem zeros_length (n : Nat) : (zeros n).length = n := by simp [zeros]
theorem madeCells_zeros (n : Nat) : madeCells #[.int .u8 0] n = (zeros n).toArray := by
  apply Array.toList_inj.1
  rw [toList_madeCells_one]; simp [zeros]

theorem run_mk (N : Nat) (L : Int) (hL : L = (N : Int)) (hN : N ≤ 65536) (w : World) :
    (Instr.makeSlice 32 (.int .i64 L) (.int .i64 L)).run Try.prog w = .ok (.slice (some ⟨w.heap.size, 0, none⟩) N N) (w.alloc (.cells (zeros N).toArray 5)) := by
  obtain ⟨i, hi, hz0, hz1, hz2⟩ := info_parts Try.infoU8
  subst hL
  have hr := run_make (P := Try.prog) w 32 5 i (.int .u8 0) Try.underlying32 hi hz0 .i64 .i64 N N (by omega) (by omega) (by rw [hz2]; omega) (by omega)
  simp only [Int.toNat_natCast, hz1, Nat.mul_one] at hr
  rw [hr]
  simp only [← madeCells_zeros]
  rfl

theorem sizeU8 : (Try.prog.info? 5).map (·.size) = some 1 := by
  obtain ⟨i, hi, _, hz1, _⟩ := info_parts Try.infoU8
  rw [hi, Option.map_some, hz1]

/-- copy(dst, src), dst at the head of a row that is known whole. -/
theorem run_cp {w : World} {g n c N C : Nat} {Z : List Value} {A : Option Addr} {xs : List UInt8} (hg : w.heap[g]? = some (.cells Z.toArray 5 (0, 0))) (hr : Rds w A n c xs) (hZ : n ≤ Z.length) (hN : n ≤ N) :
    ∃ w2, (∀ ty, (Builtin.copy_ #[32, 32] ty #[.slice (some ⟨g, 0, none⟩) N C, .slice A n c]).run Try.prog w = .ok (goInt n) w2) ∧
      w2.heap[g]? = some (.cells (splice Z 0 (bv xs)).toArray 5 (0, 0)) ∧ w.grownBy w2 (some g) := by
  have hl : (bv xs).length = n := by rw [bv_length, hr.1]
  by_cases h0 : n = 0
  · have hx : xs = [] := List.eq_nil_of_length_eq_zero (by rw [hr.1, h0])
    subst hx
    subst h0
    refine ⟨w, fun ty => run_copy_none w _ _ ty 5 _ _ _ _ _ _ Try.underlying32 sizeU8 (by simp), ?_, World.grownBy.refl w _⟩
    simpa [bv, splice] using hg
  · obtain ⟨b, off, rfl, _⟩ := hr.2.2 (by omega)
    have hrun := fun ty => run_copy_row (P := Try.prog) w 32 32 ty 5 g 0 N C ⟨b, off, none⟩ n c Z.toArray 5 (bv xs) Try.underlying32 sizeU8 hg
      (by rw [hl]; exact (Nat.min_eq_left hN).symm) hr.cells (by rw [hl]; simpa using hZ) (bv_one xs)
    rw [hl] at hrun
    refine ⟨_, hrun, ?_, ⟨rfl, rfl, rfl, by simp [World.setRow], fun k _ hk => setRow_other w g k _ (fun e => hk (by simp [e]))⟩⟩
    rw [setRow_heap w g _ _ 5 _ hg]
    simp [splice, hl]

theorem splice_two (Z X Y : List Value) (hZ : Z.length = X.length + Y.length) : splice (splice Z 0 X) X.length Y = X ++ Y := by
  have h1 : splice Z 0 X = X ++ Z.drop X.length := by simp [splice]
  rw [h1]
  unfold splice
  have h2 : (X ++ Z.drop X.length).take X.length = X := by simp
  have h3 : (X ++ Z.drop X.length).drop (X.length + Y.length) = [] := by
    apply List.drop_eq_nil_of_le; simp; omega
  rw [h2, h3]; simp

theorem own_of_row {w : World} {base g n : Nat} {xs : List UInt8} (hb : base ≤ g) (hl : xs.length = n) (hn : n ≤ 70000) (hg : w.heap[g]? = some (.cells (bv xs).toArray 5 (0, 0))) :
    w.ownsRow base 5 1 (.slice (some ⟨g, 0, none⟩) n n) n (bv xs) :=
  ⟨by rw [bv_length, hl, Nat.mul_one], .inr ⟨g, n, (bv xs).toArray, rfl, hb, hg, Nat.le_refl _, by simp only [maxLen]; omega, by simp [bv_length, hl], by
    rw [List.toList_toArray]; exact List.take_of_length_le (by rw [bv_length, hl]; omega)⟩⟩

theorem extend_any (v : Value) (xs : List UInt8) (m u : Nat) (w : World) (h : Rd w v xs) (hn : xs.length ≤ 60000) (hm : 1 ≤ m ∧ m ≤ 8) :
    Calls Try.prog 55 #[v, .int .i64 (m : Int), .int .u64 (u : Int)] w fun e w' =>
      ∃ v', e = .returned v' ∧ w'.ownsRow w.heap.size 5 1 v' (xs ++ enc m u).length (bv (xs ++ enc m u)) ∧ Below w.heap.size w w' := by
  obtain ⟨A, n, c, rfl, hr⟩ := h
  have hnx := hr.1
  rw [hnx] at hn
  have hmk := run_mk (n + m) ((n : Int) + (m : Int)) (by omega) (by omega) w
  obtain ⟨Z, hZ⟩ : ∃ Z, zeros (n + m) = Z := ⟨_, rfl⟩
  have hZl : Z.length = n + m := by rw [← hZ, zeros_length]
  rw [hZ] at hmk
  obtain ⟨w2, hcp, hg2, ho2⟩ := run_cp (N := n + m) (C := n + m) (heap_alloc_new w (.cells Z.toArray 5)) (hr.alloc (.cells Z.toArray 5)) (by omega) (by omega)
  have hb2 : Below w.heap.size w w2 := ((Below.refl _ _).alloc (Nat.le_refl _) _).grown ho2 (by simp) (fun k hk => by injection hk with hk; omega)
  have hsp : (splice Z 0 (bv xs)).length = n + m := by rw [length_splice _ _ _ (by rw [bv_length]; omega), hZl]
  have henc := encode_any w.heap.size n m m u (splice Z 0 (bv xs)) w2 hm.2 hg2 (by omega)
  have hfin : splice (splice Z 0 (bv xs)) n (bv (enc m u)) = bv (xs ++ enc m u) := by
    have := splice_two Z (bv xs) (bv (enc m u)) (by rw [bv_length, bv_length, enc_length]; omega)
    rw [bv_length, hnx, bv_append] at this
    exact this
  rw [hfin] at henc
  have HE := Lib.hid henc
  have HB := Lib.hid hb2
  have HN := Lib.hid hnx
  clear hZ hZl hr hnx hg2 ho2 hsp henc hfin hb2
  go_enter Try.func55, Try.ntmps55
  go_wp2_with (go_at_call 62; refine HE.out.mono ?_; rintro e w3 ⟨rfl, hg3, ho3⟩; have HG3 := Lib.hid hg3; have HO3 := Lib.hid ho3; clear hg3 ho3)
  go_ret
  have hlen : (xs ++ enc m u).length = n + m := by rw [List.length_append, enc_length, HN.out]
  refine ⟨_, rfl, ?_, HB.out.grown HO3.out HB.out.size (fun k hk => by injection hk with hk; omega)⟩
  rw [hlen]
  exact own_of_row (Nat.le_refl _) hlen (by omega) HG3.out

theorem own_nil (w : World) (base : Nat) : w.ownsRow base 5 1 (.slice none 0 0) ([] : List UInt8).length (bv []) := World.ownsRow_nil w base 5 1

theorem put_any (v : Value) (xs : List UInt8) (x : Int) (u : Nat) (w : World) (h : Rd w v xs) (hn : xs.length ≤ 60000) :
    Calls Try.prog 41 #[v, .int .i64 x, .int .u64 (u : Int)] w fun e w' =>
      ∃ v', e = .returned (.tuple #[v', .int .i64 (putE x u)]) ∧ w'.ownsRow w.heap.size 5 1 v' (putL xs x u).length (bv (putL xs x u)) ∧ Below w.heap.size w w' := by
  cases hw : isW x with
  | false =>
    have e1 : putE x u = 2 := by rw [putE, if_neg (by simp [hw])]
    have e2 : putL xs x u = [] := by rw [putL, e1]; rfl
    rw [e1, e2]
    have HW := Lib.hid hw
    clear h hw e1 e2 hn
    go_enter Try.func41, Try.ntmps41
    go_wp2_with (go_at_call 53; refine (isWidth_any _ _).mono ?_; rintro e w' ⟨rfl, rfl⟩; rw [HW.out])
    go_ret2
    exact ⟨_, rfl, own_nil _ _, Below.refl _ _⟩
  | true =>
    cases hf : fitsU u x with
    | false =>
      have e1 : putE x u = 10 := by rw [putE, if_pos hw, if_neg (by simp [hf])]
      have e2 : putL xs x u = [] := by rw [putL, e1]; rfl
      rw [e1, e2]
      have HW := Lib.hid hw
      have HF := Lib.hid hf
      clear h hw hf e1 e2 hn
      go_enter Try.func41, Try.ntmps41
      go_wp2_with (first
        | (go_at_call 53; refine (isWidth_any _ _).mono ?_; rintro e w' ⟨rfl, rfl⟩; rw [HW.out])
        | (go_at_call 54; refine (fits_any _ _ _ HW.out (by omega)).mono ?_; rintro e w' ⟨rfl, rfl⟩; rw [HF.out]))
      go_ret2
      exact ⟨_, rfl, own_nil _ _, Below.refl _ _⟩
    | true =>
      have e1 : putE x u = 0 := by rw [putE, if_pos hw, if_pos hf]
      have hx := isW_bd hw
      obtain ⟨m, rfl⟩ := Int.eq_ofNat_of_zero_le (show 0 ≤ x by omega)
      have e2 : putL xs m u = xs ++ enc m u := by rw [putL, e1, if_pos rfl]; simp
      have hm := isW_nat hw
      have he := extend_any v xs m u w h hn hm
      rw [e1, e2]
      have HW := Lib.hid hw
      have HF := Lib.hid hf
      have HE := Lib.hid he
      clear h hw hf e1 e2 hn he
      go_enter Try.func41, Try.ntmps41
      go_wp2_with (first
        | (go_at_call 53; refine (isWidth_any _ _).mono ?_; rintro e w' ⟨rfl, rfl⟩; rw [HW.out])
        | (go_at_call 54; refine (fits_any _ _ _ HW.out (by omega)).mono ?_; rintro e w' ⟨rfl, rfl⟩; rw [HF.out])
        | (go_at_call 55; refine HE.out.mono ?_; rintro e w' ⟨v', rfl, ho, hb⟩; have HO := Lib.hid ho; have HB := Lib.hid hb; clear ho hb))
      go_ret2
      exact ⟨_, rfl, HO.out, HB.out⟩

theorem u64_cast (n : Int) : IntKind.u64.wrap n = (((u64 n).toNat : Nat) : Int) := by
  rw [IntKind.wrap_u64, u64]; omega

end Go.Proofs.Ytkcmpakcahemcaa
