/-
  What is proved here: contracts of the reference implementation's Set and of SpoilBytes; condition: the slice has at most 60000 bytes, and the integers are in the range of their types.
-/
import Derived.Test.YtfodocahneoipaaRef2
namespace Go.Proofs.Ytfodocahneoipaa
open Go.RowKit Le

theorem rset_no (A : Option Addr) (n c : Nat) (xs : List UInt8) (at' x : Int) (u : Nat) (w : World) (hr : Rds w A n c xs) (hn : n ≤ 60000) (he : ¬ lookE n at' x = 0) :
    Calls Try.prog 22 #[.slice A n c, .int .i64 at', .int .i64 x, .int .u64 (u : Int)] w fun e w' => ∃ v', e = .returned (.tuple #[v', .int .i64 (setE xs.length at' x u)]) ∧ Rd w' v' (setL xs at' x u) ∧ Below w.heap.size w w' := by
  have e1 : setE xs.length at' x u = lookE n at' x := by rw [setE, hr.1, if_neg he]
  have e2 : setL xs at' x u = [] := by rw [setL, if_neg (by rw [e1]; exact he)]
  rw [e1, e2]
  have hl := look_any A n c at' x w hn
  obtain ⟨er, her⟩ : ∃ er, lookE n at' x = er := ⟨_, rfl⟩
  rw [her] at he hl ⊢
  have hb : (er != 0) = true := by simpa using he
  have hb' : (er == 0) = false := by simpa using he
  have HL := Lib.hid hl
  clear hl her e1 e2 hr he
  go_enter Try.func22, Try.ntmps22
  go_wp2_with (go_at_call 28; refine HL.out.mono ?_; rintro e w' ⟨rfl, rfl⟩)
  go_ret2
  exact ⟨_, rfl, Rd.nil _ _ _, Below.refl _ _⟩

theorem rset_fit (A : Option Addr) (n c : Nat) (xs : List UInt8) (at' x : Int) (u : Nat) (w : World) (hr : Rds w A n c xs) (hn : n ≤ 60000) (hu : (u : Int) ≤ 18446744073709551615) (he : lookE n at' x = 0) (hw : isW x = true) (hf : fitsU u x = false) :
    Calls Try.prog 22 #[.slice A n c, .int .i64 at', .int .i64 x, .int .u64 (u : Int)] w fun e w' => ∃ v', e = .returned (.tuple #[v', .int .i64 (setE xs.length at' x u)]) ∧ Rd w' v' (setL xs at' x u) ∧ Below w.heap.size w w' := by
  have e1 : setE xs.length at' x u = 10 := by rw [setE, hr.1, if_pos he, if_neg (by simp [hf])]
  have e2 : setL xs at' x u = [] := by rw [setL, if_neg (by rw [e1]; decide)]
  rw [e1, e2]
  have hl := look_any A n c at' x w hn
  rw [he] at hl
  have HL := Lib.hid hl
  have hfi := fun W => rfits_any u x W hw hu
  rw [hf] at hfi
  have HF := Lib.hid hfi
  clear hl e1 e2 hr he hf hfi hw hu
  go_enter Try.func22, Try.ntmps22
  go_wp2_with (first
    | (go_at_call 28; refine HL.out.mono ?_; rintro e w' ⟨rfl, rfl⟩)
    | (go_at_call 37; refine (HF.out _).mono ?_; rintro e w' ⟨rfl, rfl⟩))
  go_ret2
  exact ⟨_, rfl, Rd.nil _ _ _, Below.refl _ _⟩

theorem rset_in1 (b off n c a m u : Nat) (xs : List UInt8) (w : World) (hr : Rds w (some ⟨b, off, none⟩) n c xs) (hn : n ≤ 60000) (hcm : c ≤ 9223372036854775807) (hu : (u : Int) ≤ 18446744073709551615) (hw : isW (m : Int) = true) (ham : a + m ≤ n) (hf : fitsU u m = true) (hca : a + m < c) :
    Calls Try.prog 22 #[.slice (some ⟨b, off, none⟩) n c, .int .i64 (a : Int), .int .i64 (m : Int), .int .u64 (u : Int)] w fun e w' => ∃ v', e = .returned (.tuple #[v', .int .i64 (setE xs.length a m u)]) ∧ Rd w' v' (setL xs a m u) ∧ Below w.heap.size w w' := by
  have he : lookE n a m = 0 := look0_of hw (by omega) (by omega)
  have e1 : setE xs.length a m u = 0 := by rw [setE, hr.1, if_pos he, if_pos hf]
  have e2 : setL xs a m u = (xs.take a ++ enc m u) ++ xs.drop (a + m) := by rw [setL, if_pos e1]; simp
  rw [e1, e2]
  have hl := look_any (some ⟨b, off, none⟩) n c a m w hn
  rw [he] at hl
  have hm := isW_nat hw
  have HL := Lib.hid hl
  have hfi := fun W => rfits_any u m W hw hu
  rw [hf] at hfi
  have HF := Lib.hid hfi
  have HD := Lib.hid (fun W => digits_any m u W hm hu)
  have hnc := hr.2.1
  have hpre := hr.pre (m := a) (by omega)
  have hpl : (xs.take a).length = a := by rw [List.length_take, hr.1]; omega
  have hel : (xs.take a ++ enc m u).length = a + m := by rw [List.length_append, hpl, enc_length]
  have hsuf : Rds w (some ⟨b, off + (a + m), none⟩) (n - (a + m)) (c - (a + m)) (xs.drop (a + m)) := by
    have := hr.cut (lo := a + m) (m := n - (a + m)) (c' := c - (a + m)) (by omega) (by omega)
    rw [List.take_of_length_le (by rw [List.length_drop, hr.1]; omega)] at this
    exact this
  obtain ⟨ps, hps⟩ : ∃ ps, xs.take a = ps := ⟨_, rfl⟩
  obtain ⟨qs, hqs⟩ : ∃ qs, xs.drop (a + m) = qs := ⟨_, rfl⟩
  rw [hps] at hpre hpl hel ⊢
  rw [hqs] at hsuf ⊢
  have HP := Lib.hid hpre
  have HPL := Lib.hid hpl
  have HEL := Lib.hid hel
  have HS := Lib.hid hsuf
  have hca' : ¬ c = a + m := by omega
  clear hl e1 e2 hr he hf hfi hw hu hpre hpl hel hsuf hps hqs
  go_enter Try.func22, Try.ntmps22
  go_wp2_with (first
    | (go_at_call 28; refine HL.out.mono ?_; rintro e w' ⟨rfl, rfl⟩)
    | (go_at_call 37; refine (HF.out _).mono ?_; rintro e w' ⟨rfl, rfl⟩))
  refine (copyBytes_any _ ps _ HP.out.rd (by rw [HPL.out]; omega)).mono ?_
  rintro e w1 ⟨v1, rfl, ho, hb⟩
  have HO1 := Lib.hid ho
  have HB1 := Lib.hid hb
  clear ho hb
  go_wp2_with fail
  refine (HD.out _).mono ?_
  rintro e w2 ⟨A2, c2, rfl, hr, hb⟩
  have HR2 := Lib.hid hr
  have HB2 := Lib.hid hb
  clear hr hb
  go_wp2_with (first
    | (at_builtin; refine wpList_app (v := v1) (base := w.heap.size) (xs := ps) (ys := enc m u) rfl (.tmp 26) (.tmp 29) rfl rfl rfl (own_below HO1.out HB2.out) HR2.out (by rw [HPL.out]; omega) (Nat.le_trans HB1.out.size HB2.out.size) ?_; intro v3 w3 ho hg; have HO3 := Lib.hid ho; have HB3 := Lib.hid ((HB1.out.trans (HB2.out.mono HB1.out.size)).grown hg (Nat.le_trans HB1.out.size HB2.out.size) (own_base HO1.out)); clear ho hg)
    | (at_builtin; refine wpList_app (v := v3) (base := w.heap.size) (xs := ps ++ enc m u) (ys := qs) rfl (.tmp 31) (.tmp 36) rfl rfl rfl HO3.out (HS.out.below HB3.out) (by rw [HPL.out]; omega) HB3.out.size ?_; intro v4 w4 ho hg; have HO4 := Lib.hid ho; have HB4 := Lib.hid (HB3.out.grown hg HB3.out.size (own_base HO3.out)); clear ho hg))
  go_ret2
  exact ⟨_, rfl, Rd.of_own HO4.out, HB4.out⟩

theorem rset_in0 (b off a m u : Nat) (xs : List UInt8) (w : World) (hr : Rds w (some ⟨b, off, none⟩) (a + m) (a + m) xs) (hn : a + m ≤ 60000) (hu : (u : Int) ≤ 18446744073709551615) (hw : isW (m : Int) = true) (hf : fitsU u m = true) :
    Calls Try.prog 22 #[.slice (some ⟨b, off, none⟩) (a + m) (a + m), .int .i64 (a : Int), .int .i64 (m : Int), .int .u64 (u : Int)] w fun e w' => ∃ v', e = .returned (.tuple #[v', .int .i64 (setE xs.length a m u)]) ∧ Rd w' v' (setL xs a m u) ∧ Below w.heap.size w w' := by
  have he : lookE (a + m) a m = 0 := look0_of hw (by omega) (by omega)
  have e1 : setE xs.length a m u = 0 := by rw [setE, hr.1, if_pos he, if_pos hf]
  have e2 : setL xs a m u = (xs.take a ++ enc m u) ++ xs.drop (a + m) := by rw [setL, if_pos e1]; simp
  rw [e1, e2]
  have hl := look_any (some ⟨b, off, none⟩) (a + m) (a + m) a m w hn
  rw [he] at hl
  have hm := isW_nat hw
  have HL := Lib.hid hl
  have hfi := fun W => rfits_any u m W hw hu
  rw [hf] at hfi
  have HF := Lib.hid hfi
  have HD := Lib.hid (fun W => digits_any m u W hm hu)
  have hpre := hr.pre (m := a) (by omega)
  have hpl : (xs.take a).length = a := by rw [List.length_take, hr.1]; omega
  have hel : (xs.take a ++ enc m u).length = a + m := by rw [List.length_append, hpl, enc_length]
  have hsuf : Rds w (some ⟨b, off, none⟩) 0 0 (xs.drop (a + m)) := ⟨by rw [List.length_drop, hr.1]; omega, Nat.le_refl _, fun h => absurd h (by omega)⟩
  obtain ⟨ps, hps⟩ : ∃ ps, xs.take a = ps := ⟨_, rfl⟩
  obtain ⟨qs, hqs⟩ : ∃ qs, xs.drop (a + m) = qs := ⟨_, rfl⟩
  rw [hps] at hpre hpl hel ⊢
  rw [hqs] at hsuf ⊢
  have HP := Lib.hid hpre
  have HPL := Lib.hid hpl
  have HEL := Lib.hid hel
  have HS := Lib.hid hsuf
  clear hl e1 e2 hr he hf hfi hw hu hpre hpl hel hsuf hps hqs
  go_enter Try.func22, Try.ntmps22
  go_wp2_with (first
    | (go_at_call 28; refine HL.out.mono ?_; rintro e w' ⟨rfl, rfl⟩)
    | (go_at_call 37; refine (HF.out _).mono ?_; rintro e w' ⟨rfl, rfl⟩))
  refine (copyBytes_any _ ps _ HP.out.rd (by rw [HPL.out]; omega)).mono ?_
  rintro e w1 ⟨v1, rfl, ho, hb⟩
  have HO1 := Lib.hid ho
  have HB1 := Lib.hid hb
  clear ho hb
  go_wp2_with fail
  refine (HD.out _).mono ?_
  rintro e w2 ⟨A2, c2, rfl, hr, hb⟩
  have HR2 := Lib.hid hr
  have HB2 := Lib.hid hb
  clear hr hb
  go_wp2_with (first
    | (at_builtin; refine wpList_app (v := v1) (base := w.heap.size) (xs := ps) (ys := enc m u) rfl (.tmp 26) (.tmp 29) rfl rfl rfl (own_below HO1.out HB2.out) HR2.out (by rw [HPL.out]; omega) (Nat.le_trans HB1.out.size HB2.out.size) ?_; intro v3 w3 ho hg; have HO3 := Lib.hid ho; have HB3 := Lib.hid ((HB1.out.trans (HB2.out.mono HB1.out.size)).grown hg (Nat.le_trans HB1.out.size HB2.out.size) (own_base HO1.out)); clear ho hg)
    | (at_builtin; refine wpList_app (v := v3) (base := w.heap.size) (xs := ps ++ enc m u) (ys := qs) rfl (.tmp 31) (.tmp 36) rfl rfl rfl HO3.out (by simpa using HS.out.below HB3.out) (by rw [HPL.out]; omega) HB3.out.size ?_; intro v4 w4 ho hg; have HO4 := Lib.hid ho; have HB4 := Lib.hid (HB3.out.grown hg HB3.out.size (own_base HO3.out)); clear ho hg))
  go_ret2
  exact ⟨_, rfl, Rd.of_own HO4.out, HB4.out⟩

theorem rset_any (v : Value) (xs : List UInt8) (at' x : Int) (u : Nat) (w : World) (h : Rd w v xs) (hc : ∀ A n c, v = .slice A n c → c ≤ 9223372036854775807) (hn : xs.length ≤ 60000) (hu : (u : Int) ≤ 18446744073709551615) :
    Calls Try.prog 22 #[v, .int .i64 at', .int .i64 x, .int .u64 (u : Int)] w fun e w' => ∃ v', e = .returned (.tuple #[v', .int .i64 (setE xs.length at' x u)]) ∧ Rd w' v' (setL xs at' x u) ∧ Below w.heap.size w w' := by
  obtain ⟨A, n, c, rfl, hr⟩ := h
  have hcm := hc A n c rfl
  rw [hr.1] at hn
  by_cases he : lookE n at' x = 0
  · obtain ⟨h1, h0, hle⟩ := look0 he
    have hx := isW_bd h1
    cases hf : fitsU u x with
    | false => exact rset_fit A n c xs at' x u w hr hn hu he h1 hf
    | true =>
      obtain ⟨a, rfl⟩ := Int.eq_ofNat_of_zero_le h0
      obtain ⟨m, rfl⟩ := Int.eq_ofNat_of_zero_le (show 0 ≤ x by omega)
      obtain ⟨b, off, rfl, _⟩ := hr.2.2 (by omega)
      have hnc := hr.2.1
      by_cases hca : c = a + m
      · obtain rfl : n = a + m := by omega
        subst hca
        exact rset_in0 b off a m u xs w hr hn hu h1 hf
      · exact rset_in1 b off n c a m u xs w hr hn hcm hu h1 (by omega) hf (by omega)
  · exact rset_no A n c xs at' x u w hr hn he

theorem spoil_xor (x : UInt8) : bits .xor .u8 (x.toNat : Int) 165 = (((x ^^^ 165).toNat : Nat) : Int) := by
  have := u8_xor_nat x.toNat 165 x.toNat_lt (by decide)
  rw [UInt8.toNat_xor]
  exact this

theorem spoil_any (v : Value) (xs : List UInt8) (base n : Nat) (w : World) (h : w.ownsRow base 5 1 v n (bv xs)) (hn : n ≤ 65536) :
    Calls Try.prog 23 #[v] w fun e w' => e = .returned (.tuple #[]) ∧ w.grownBy w' v.ownBlock := by
  by_cases h0 : n = 0
  · subst h0
    obtain ⟨A, c, rfl⟩ := own_shape0 h
    clear h
    go_enter Try.func23, Try.ntmps23
    go_wp2
    refine wp_loop_rounds 1 ?_
    rw [rounds_succ]
    go_wp2
    go_end0
    exact ⟨rfl, World.grownBy.refl w _⟩
  · obtain ⟨g, c, rfl, _⟩ := own_shape h (by omega)
    have HO := Lib.hid h
    clear h
    go_enter Try.func23, Try.ntmps23
    go_wp2
    go_loopw [2] (fun i wr => ∃ (j : Nat) (ys : List UInt8), j ≤ n ∧ i = .int .i64 j ∧ Hid (wr.ownsRow base 5 1 (.slice (some ⟨g, 0, none⟩) n c) n (bv ys)) ∧ Hid (w.grownBy wr (some g))) (fun i _ => n - (intOf i).toNat)
    case atStart => exact ⟨0, xs, Nat.zero_le _, rfl, HO, World.grownBy.refl w _⟩
    case round =>
      obtain ⟨j, ys, hj, rfl, HR, HB⟩ := hrel
      by_cases hlt : j < n
      · have hlen : ys.length = n := by have := HR.out.1; rw [bv_length] at this; omega
        obtain ⟨x, hx⟩ : ∃ x, ys[j]? = some x := ⟨_, List.getElem?_eq_getElem (by omega)⟩
        have hc := HR.out.cellAt j (by omega)
        rw [bv_at hx] at hc
        have hfz := HR.out.frozenAt j
        have hsx := spoil_xor x
        have HX := Lib.hid hx
        clear hx hlen
        go_wp2
        go_roundw
        case rel =>
          have hst := HR.out.stored j (.int .u8 (((x ^^^ 165).toNat : Nat) : Int))
          have eset : (bv ys).set j (.int .u8 (((x ^^^ 165).toNat : Nat) : Int)) = bv (ys.set j (x ^^^ 165)) := by simp [bv, List.map_set]
          rw [eset] at hst
          refine ⟨j + 1, ys.set j (x ^^^ 165), by omega, by go_num, ?_, ?_⟩
          · exact hst.1
          · have h1 := HB.out
            have h2 := hst.2
            exact ⟨h2.os.trans h1.os, h2.tape.trans h1.tape, h2.output.trans h1.output, Nat.le_trans h1.size h2.size, fun k hk hne => (h2.block k (Nat.lt_of_lt_of_le hk h1.size) hne).trans (h1.block k hk hne)⟩
        case measure => simp [intOf]; omega
      · go_wp2
        go_end0
        exact ⟨rfl, HB.out⟩
theorem own_mono {w : World} {base base' n : Nat} {v : Value} {xs : List Value} (h : w.ownsRow base 5 1 v n xs) (hb : base' ≤ base) : w.ownsRow base' 5 1 v n xs := by
  refine ⟨h.1, ?_⟩
  rcases h.2 with h0 | ⟨g, cap, cur, h1, h2, h3⟩
  · exact .inl h0
  · exact .inr ⟨g, cap, cur, h1, Nat.le_trans hb h2, h3⟩
theorem own_cap {w : World} {base n : Nat} {v : Value} {xs : List Value} (h : w.ownsRow base 5 1 v n xs) : ∀ A m c, v = .slice A m c → c ≤ 9223372036854775807 := by
  intro A m c hv
  rcases h.2 with ⟨rfl, _⟩ | ⟨g, cap, cur, rfl, _, _, _, hm, _⟩
  · injection hv with _ _ h3; omega
  · injection hv with _ _ h3; simp only [maxLen] at hm; omega
end Go.Proofs.Ytfodocahneoipaa
