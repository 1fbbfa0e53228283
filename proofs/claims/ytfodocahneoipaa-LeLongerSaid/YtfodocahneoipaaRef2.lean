/-
  What is proved here: contracts of the reference implementation of layer 1 (digits, Put, PutInt, Set) and of SpoilBytes; condition: the slice has at most 60000 bytes, and the integers are in the range of their types.
-/
import Derived.Test.YtfodocahneoipaaBack
import Derived.Test.YtfodocahneoipaaRef
namespace Go.Proofs.Ytfodocahneoipaa
open Go.RowKit Le

theorem rds_lit (w : World) (g : Nat) (cs : Array Value) (n : Nat) (xs : List UInt8) (hg : g = w.heap.size) (h : cs = (bv xs).toArray) (hn : xs.length = n) : Rds (w.alloc (.cells cs 5)) (some ⟨g, 0, none⟩) n n xs := by
  subst h
  subst hg
  refine ⟨hn, Nat.le_refl _, fun _ => ⟨w.heap.size, 0, rfl, by simp, fun j x hx => ?_⟩⟩
  rw [Nat.zero_add, World.cell?_alloc_new]
  simpa using bv_at hx

theorem own_below {w w' : World} {base n : Nat} {v : Value} {xs : List Value} (h : w.ownsRow base 5 1 v n xs) (hb : Below w.heap.size w w') : w'.ownsRow base 5 1 v n xs := by
  refine h.kept (row := none) ⟨hb.os, hb.tape, hb.output, hb.size, fun k hk _ => hb.block k hk⟩ ?_
  cases v.ownBlock with
  | none => exact .inl rfl
  | some k => exact .inr (by simp)

theorem byte_mod (X : Nat) : (#[Value.int .u8 ((X : Int) % 256)] : Array Value) = (bv [UInt8.ofNat X]).toArray := by
  have e : ((UInt8.ofNat X).toNat : Int) = (X : Int) % 256 := by
    rw [UInt8.toNat_ofNat']
    have e8 : (2 : Nat) ^ 8 = 256 := by decide
    rw [e8]; omega
  simp only [bv, List.map_cons, List.map_nil, e]

theorem digits_any (k V : Nat) (w : World) (hk : 1 ≤ k ∧ k ≤ 8) (hV : (V : Int) ≤ 18446744073709551615) :
    Calls Try.prog 38 #[.int .i64 (k : Int), .int .u64 (V : Int)] w fun e w' => ∃ A c, e = .returned (.slice A k c) ∧ Rds w' A k c (enc k V) ∧ Below w.heap.size w w' := by
  go_enter Try.func38, Try.ntmps38
  go_wp2
  go_loopw [1, 5, 6] (fun u out i wr => ∃ j X : Nat, j ≤ k ∧ i = .int .i64 j ∧ u = .int .u64 X ∧ (X : Int) ≤ 18446744073709551615 ∧ Hid (X = V / 256 ^ j) ∧ Hid (wr.ownsRow w.heap.size 5 1 out j (bv (enc j V))) ∧ Hid (Below w.heap.size w wr)) (fun _ _ i _ => k - (intOf i).toNat)
  case atStart => exact ⟨0, V, Nat.zero_le _, rfl, rfl, hV, by show V = _; simp, World.ownsRow_nil _ _ _ _, Below.refl _ _⟩
  case round =>
    obtain ⟨j, X, hj, rfl, rfl, hX, HX, HO, HB⟩ := hrel
    by_cases hlt : j < k
    · go_wp2_with (at_builtin; refine wpList_app (v := u5) (base := w.heap.size) (xs := enc j V) (ys := [UInt8.ofNat X]) rfl (.tmp 12) (.tmp 16) rfl rfl rfl (HO.out.alloc _) (rds_lit wr _ _ 1 _ rfl (byte_mod X) rfl) (by omega) (by have := HB.out.size; simp; omega) ?_; intro v1 w1 ho hg; have HO1 := Lib.hid ho; have HG1 := Lib.hid hg; clear ho hg)
      go_roundw
      case rel =>
        have hb : Below w.heap.size w w1 := (HB.out.alloc HB.out.size _).grown HG1.out (by have := HB.out.size; simp; omega) (own_base HO.out)
        have ho := HO1.out
        have hx := HX.out
        rw [hx, ← enc_snoc] at ho
        refine ⟨j + 1, V / 256 ^ (j + 1), by omega, by go_num, ?_, ?_, rfl, ho, hb⟩
        · rw [Nat.pow_succ, ← Nat.div_div_eq_div_mul, ← hx]; simp
        · rw [Nat.pow_succ, ← Nat.div_div_eq_div_mul, ← hx]; omega
      case measure => simp [intOf]; omega
    · obtain rfl : j = k := by omega
      obtain ⟨g, c, hv, hr⟩ := own_shape HO.out (by omega)
      have HR := Lib.hid hr
      subst hv
      clear hr
      go_wp2
      go_ret
      exact ⟨_, c, rfl, HR.out, HB.out⟩

theorem rput_any (v : Value) (xs : List UInt8) (x : Int) (u : Nat) (w : World) (h : Rd w v xs) (hn : xs.length ≤ 60000) (hu : (u : Int) ≤ 18446744073709551615) :
    Calls Try.prog 18 #[v, .int .i64 x, .int .u64 (u : Int)] w fun e w' => ∃ v', e = .returned (.tuple #[v', .int .i64 (putE x u)]) ∧ Rd w' v' (putL xs x u) ∧ Below w.heap.size w w' := by
  cases hw : isW x with
  | false =>
    have e1 : putE x u = 2 := by rw [putE, if_neg (by simp [hw])]
    have e2 : putL xs x u = [] := by rw [putL, e1]; rfl
    rw [e1, e2]
    have HW := Lib.hid hw
    clear h hw e1 e2 hn
    go_enter Try.func18, Try.ntmps18
    go_wp2_with (go_at_call 36; refine (wide_any _ _).mono ?_; rintro e w' ⟨rfl, rfl⟩; rw [HW.out])
    go_ret2
    exact ⟨_, rfl, Rd.nil _ _ _, Below.refl _ _⟩
  | true =>
    cases hf : fitsU u x with
    | false =>
      have e1 : putE x u = 10 := by rw [putE, if_pos hw, if_neg (by simp [hf])]
      have e2 : putL xs x u = [] := by rw [putL, e1]; rfl
      rw [e1, e2]
      have HW := Lib.hid hw
      have HF := Lib.hid hf
      have HU := Lib.hid hu
      clear h hw hf e1 e2 hn hu
      go_enter Try.func18, Try.ntmps18
      go_wp2_with (first
        | (go_at_call 36; refine (wide_any _ _).mono ?_; rintro e w' ⟨rfl, rfl⟩; rw [HW.out])
        | (go_at_call 37; refine (rfits_any _ _ _ HW.out HU.out).mono ?_; rintro e w' ⟨rfl, rfl⟩; rw [HF.out]))
      go_ret2
      exact ⟨_, rfl, Rd.nil _ _ _, Below.refl _ _⟩
    | true =>
      have e1 : putE x u = 0 := by rw [putE, if_pos hw, if_pos hf]
      have hx := isW_bd hw
      obtain ⟨m, rfl⟩ := Int.eq_ofNat_of_zero_le (show 0 ≤ x by omega)
      have e2 : putL xs m u = xs ++ enc m u := by rw [putL, e1, if_pos rfl]; simp
      have hm := isW_nat hw
      rw [e1, e2]
      have HW := Lib.hid hw
      have HF := Lib.hid hf
      have HU := Lib.hid hu
      have HV := Lib.hid h
      have HN := Lib.hid hn
      clear h hw hf e1 e2 hn hu
      go_enter Try.func18, Try.ntmps18
      go_wp2_with (first
        | (go_at_call 36; refine (wide_any _ _).mono ?_; rintro e w' ⟨rfl, rfl⟩; rw [HW.out])
        | (go_at_call 37; refine (rfits_any _ _ _ HW.out HU.out).mono ?_; rintro e w' ⟨rfl, rfl⟩; rw [HF.out])
        | (go_at_call 10; refine (copyBytes_any _ xs _ HV.out HN.out).mono ?_; rintro e w1 ⟨v1, rfl, ho, hb⟩; have HO1 := Lib.hid ho; have HB1 := Lib.hid hb; clear ho hb)
        | (go_at_call 38; refine (digits_any m u _ hm HU.out).mono ?_; rintro e w2 ⟨A2, c2, rfl, hr, hb⟩; have HR2 := Lib.hid hr; have HB2 := Lib.hid hb; clear hr hb)
        | (at_builtin; refine wpList_app (v := v1) (base := w.heap.size) (xs := xs) (ys := enc m u) rfl (.tmp 16) (.tmp 19) rfl rfl rfl (own_below HO1.out HB2.out) HR2.out (by have := HN.out; omega) (Nat.le_trans HB1.out.size HB2.out.size) ?_; intro v3 w3 ho hg; have HO3 := Lib.hid ho; have HG3 := Lib.hid hg; clear ho hg))
      go_ret2
      exact ⟨_, rfl, Rd.of_own HO3.out, (HB1.out.trans (HB2.out.mono HB1.out.size)).grown HG3.out (Nat.le_trans HB1.out.size HB2.out.size) (own_base HO1.out)⟩

theorem rputInt_any (v : Value) (xs : List UInt8) (x n : Int) (w : World) (h : Rd w v xs) (hn : xs.length ≤ 60000) (n0 : -9223372036854775808 ≤ n) (n1 : n ≤ 9223372036854775807) :
    Calls Try.prog 20 #[v, .int .i64 x, .int .i64 n] w fun e w' => ∃ v', e = .returned (.tuple #[v', .int .i64 (putIE x n)]) ∧ Rd w' v' (putIL xs x n) ∧ Below w.heap.size w w' := by
  cases hw : isW x with
  | false =>
    have e1 : putIE x n = 2 := by rw [putIE, if_neg (by simp [hw])]
    have e2 : putIL xs x n = [] := by rw [putIL, e1]; rfl
    rw [e1, e2]
    have HW := Lib.hid hw
    clear h hw e1 e2 hn
    go_enter Try.func20, Try.ntmps20
    go_wp2_with (go_at_call 36; refine (wide_any _ _).mono ?_; rintro e w' ⟨rfl, rfl⟩; rw [HW.out])
    go_ret2
    exact ⟨_, rfl, Rd.nil _ _ _, Below.refl _ _⟩
  | true =>
    have hfi := fun W => rfitsInt_any n x W hw n0 n1
    cases hf : fitsI n x with
    | false =>
      have e1 : putIE x n = 10 := by rw [putIE, if_pos hw, if_neg (by simp [hf])]
      have e2 : putIL xs x n = [] := by rw [putIL, e1]; rfl
      rw [e1, e2]
      rw [hf] at hfi
      have HW := Lib.hid hw
      have HF := Lib.hid hfi
      clear h hw hf e1 e2 hn hfi
      go_enter Try.func20, Try.ntmps20
      go_wp2_with (first
        | (go_at_call 36; refine (wide_any _ _).mono ?_; rintro e w' ⟨rfl, rfl⟩; rw [HW.out])
        | (go_at_call 40; refine (HF.out _).mono ?_; rintro e w' ⟨rfl, rfl⟩))
      go_ret2
      exact ⟨_, rfl, Rd.nil _ _ _, Below.refl _ _⟩
    | true =>
      have e1 : putIE x n = 0 := by rw [putIE, if_pos hw, if_pos hf]
      have hx := isW_bd hw
      obtain ⟨m, rfl⟩ := Int.eq_ofNat_of_zero_le (show 0 ≤ x by omega)
      have e2 : putIL xs m n = xs ++ enc m (u64 n).toNat := by rw [putIL, e1, if_pos rfl]; simp
      have hm := isW_nat hw
      have hd := fun W => digits_any m (u64 n).toNat W hm (by unfold u64; omega)
      rw [← u64_cast] at hd
      rw [e1, e2]
      rw [hf] at hfi
      have HW := Lib.hid hw
      have HF := Lib.hid hfi
      have HD := Lib.hid hd
      have HV := Lib.hid h
      have HN := Lib.hid hn
      clear h hw hf e1 e2 hn hfi hd
      go_enter Try.func20, Try.ntmps20
      go_wp2_with (first
        | (go_at_call 36; refine (wide_any _ _).mono ?_; rintro e w' ⟨rfl, rfl⟩; rw [HW.out])
        | (go_at_call 40; refine (HF.out _).mono ?_; rintro e w' ⟨rfl, rfl⟩)
        | (go_at_call 10; refine (copyBytes_any _ xs _ HV.out HN.out).mono ?_; rintro e w1 ⟨v1, rfl, ho, hb⟩; have HO1 := Lib.hid ho; have HB1 := Lib.hid hb; clear ho hb)
        | (go_at_call 38; refine (HD.out _).mono ?_; rintro e w2 ⟨A2, c2, rfl, hr, hb⟩; have HR2 := Lib.hid hr; have HB2 := Lib.hid hb; clear hr hb)
        | (at_builtin; refine wpList_app (v := v1) (base := w.heap.size) (xs := xs) (ys := enc m (u64 n).toNat) rfl (.tmp 16) (.tmp 20) rfl rfl rfl (own_below HO1.out HB2.out) HR2.out (by have := HN.out; omega) (Nat.le_trans HB1.out.size HB2.out.size) ?_; intro v3 w3 ho hg; have HO3 := Lib.hid ho; have HG3 := Lib.hid hg; clear ho hg))
      go_ret2
      exact ⟨_, rfl, Rd.of_own HO3.out, (HB1.out.trans (HB2.out.mono HB1.out.size)).grown HG3.out (Nat.le_trans HB1.out.size HB2.out.size) (own_base HO1.out)⟩
end Go.Proofs.Ytfodocahneoipaa
