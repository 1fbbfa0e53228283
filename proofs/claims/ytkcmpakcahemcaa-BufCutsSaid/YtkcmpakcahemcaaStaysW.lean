/-
  What is proved here: BufStays returns true and leaves all memory that was there as it was; condition: the argument reads as a list of calls.
-/
import Derived.Test.YtkcmpakcahemcaaLaw
namespace Go.Proofs.Ytkcmpakcahemcaa
open Go.RowKit Le

theorem ad_ok {m : Nat} {xs ys : List UInt8} (h : xs.length + ys.length ≤ m) : (adL m xs ys, adE m xs ys) = ((xs ++ ys, 0) : St) := by rw [(ad_in h).1, (ad_in h).2]
/-- What fine does where there is room. -/
theorem fine_ok {s : St} {K W N : Int} {U : Nat} {S : ByteArray} (he : s.2 = 0) (hl : s.1.length ≤ 50000) (hU : (U : Int) ≤ 18446744073709551615) :
    (fineS 1048576 s K W N (U : Int) S).2 = 0 ∧ (fineS 1048576 s K W N (U : Int) S).1.length ≤ s.1.length + 48 ∧
      (K % 5 = 3 → ∃ n, n ≤ s.1.length ∧ (fineS 1048576 s K W N (U : Int) S).1 = s.1.take n) ∧ (K % 5 ≠ 3 → ∃ ys, (fineS 1048576 s K W N (U : Int) S).1 = s.1 ++ ys) := by
  have fin : ∀ ys : List UInt8, ys.length ≤ 40 → (addS 1048576 s ys) = (s.1 ++ ys, 0) := fun ys hy => by
    unfold addS; rw [if_pos he]; exact ad_ok (by omega)
  unfold fineS
  split
  · rename_i h0
    have e : algS 1048576 s (w4 W) = (s.1 ++ List.replicate (pad s.1.length (w4 W)) 0, 0) := by
      unfold algS; rw [if_pos he, if_pos (w4_isW W)]
      have := pad_lt (n := s.1.length) (w4_isW W)
      exact ad_ok (by rw [List.length_replicate]; omega)
    rw [e]
    have := pad_lt (n := s.1.length) (w4_isW W)
    exact ⟨rfl, by simp; omega, fun h => by omega, fun _ => ⟨_, rfl⟩⟩
  · split
    · rename_i h0
      have hp : putE 8 (U : Int) = 0 := by unfold putE; rw [if_pos (show isW 8 = true from rfl), if_pos (by rw [fitsU_iff, pw8]; omega)]
      have e : numS 1048576 s 8 (U : Int) = (s.1 ++ enc 8 U, 0) := by
        unfold numS; rw [if_pos he, if_pos hp]
        exact ad_ok (by rw [enc_length]; show _ + 8 ≤ _; omega)
      rw [e]
      exact ⟨rfl, by rw [List.length_append, enc_length]; omega, fun h => by omega, fun _ => ⟨_, rfl⟩⟩
    · split
      · rename_i h3
        have b0 := Int.emod_nonneg N (show ((s.1.length : Int) + 1) ≠ 0 by omega)
        have b1 := Int.emod_lt_of_pos N (show (0 : Int) < (s.1.length : Int) + 1 by omega)
        have e : cutS s (N % ((s.1.length : Int) + 1)) = (s.1.take (N % ((s.1.length : Int) + 1)).toNat, 0) := by
          unfold cutS; rw [if_pos he, if_neg (by omega)]
        rw [e]
        exact ⟨rfl, by show (s.1.take _).length ≤ _; rw [List.length_take]; omega, fun _ => ⟨_, by omega, rfl⟩, fun h => absurd h3 h⟩
      · rename_i h3
        rw [fin _ (shL_le S)]
        have := shL_le S
        exact ⟨rfl, by rw [List.length_append]; omega, fun h => absurd h h3, fun _ => ⟨_, rfl⟩⟩

theorem take_same {xs ys : List UInt8} (h : (∃ n, n ≤ xs.length ∧ ys = xs.take n) ∨ ∃ zs, ys = xs ++ zs) : xs.take (min xs.length ys.length) = ys.take (min xs.length ys.length) := by
  rcases h with ⟨n, hn, rfl⟩ | ⟨zs, rfl⟩
  · have : (xs.take n).length = n := by rw [List.length_take]; omega
    rw [this, Nat.min_eq_right hn, List.take_take, Nat.min_self]
  · rw [List.length_append, Nat.min_eq_left (by omega), List.take_length, List.take_left]

/-- A slice expression x[:m] of a slice that reads as bytes. -/
theorem rds_take {w : World} {A : Option Addr} {n c m : Nat} {xs : List UInt8} (h : Rds w A n c xs) (hm : m ≤ n) : Rds w A m c (xs.take m) := by
  refine ⟨by rw [List.length_take, h.1]; omega, by have := h.2.1; omega, fun h0 => ?_⟩
  obtain ⟨b, off, h1, h2, h3⟩ := h.2.2 (by omega)
  exact ⟨b, off, h1, h2, fun j x hj => h3 j x (by rw [List.getElem?_take] at hj; split at hj; (· exact hj); (· cases hj))⟩
theorem out_ok {s : St} (h : s.2 = 0) : out s = s.1 := if_pos h

/-- A row that was made behind the buffer stays. -/
theorem Ch.row_keep {w w' : World} {p n B : Nat} {v v' x : Value} {xs : List Value} (hc : Ch w w' p v v') (ho : w.ownsRow B 5 1 x n xs) (hp : p < B) (hv : ∀ k, v.ownBlock = some k → k < B) : w'.ownsRow B 5 1 x n xs := by
  refine ⟨ho.1, ?_⟩
  rcases ho.2 with h0 | ⟨g, cap, cur, hx, hg, hh, r⟩
  · exact .inl h0
  · have hl := (ho.lt g (by rw [hx]; rfl)).2
    exact .inr ⟨g, cap, cur, hx, hg, (hc.block g hl (by omega) (fun he => by have := hv g he; omega)).trans hh, r⟩

set_option maxRecDepth 20000 in
set_option maxHeartbeats 1000000 in
theorem bufStays_walk (l : List Dv) (v : Value) (w : World) (h : RdD w v l) :
    Calls Try.prog 4 #[v] w fun e w' => e = .returned (.bool true) ∧ Below w.heap.size w w' := by
  obtain ⟨A, n, c, rfl, hn, hnc, hcm, hok, hA⟩ := h
  unfold maxLen at hcm
  have HA := Lib.hid hA
  have HOK := Lib.hid hok
  have HN := Lib.hid hn
  have HWK := Lib.hid (works_true w)
  have HNEW : Hid (∀ W, Hid (Below w.heap.size w W) → Calls Try.prog 9 #[.int .i64 1048576] W fun e w' => ∃ p, e = .returned (.pointer (some ⟨p, 0, none⟩)) ∧ Bu w p 1048576 ([], 0) w') := Lib.hid fun W hW => new_U hW.out 1048576
  clear hA hok hn
  go_enter Try.func4, Try.ntmps4
  go_wp2_with (first
    | (go_at_call 19; (with_reducible refine HWK.out.mono ?_); rintro e w1 ⟨rfl, hb1⟩; have H1 := Lib.hid hb1; clear hb1)
    | (go_at_call 9; (with_reducible refine (HNEW.out _ H1).mono ?_); rintro e w2 ⟨p, rfl, h2⟩; have HB0 := Lib.hid h2; clear h2))
  clear HNEW HWK
  go_loopw [4] (fun i wr => ∃ (k : Nat) (s : St), k ≤ n ∧ k ≤ 60 ∧ i = .int .i64 k ∧ Hid (Bu w p 1048576 s wr) ∧ Hid (s.1.length ≤ 48 * k) ∧ Hid (s.2 = 0)) (fun i _ => 60 - (intOf i).toNat)
  case atStart => exact ⟨0, ([], 0), Nat.zero_le _, Nat.zero_le _, rfl, HB0, Nat.le_refl _, rfl⟩
  case round =>
    obtain ⟨k, s, hk, hk6, rfl, HS, HLE, HZ⟩ := hrel
    by_cases hlt : k < n
    · by_cases hlt6 : k < 60
      · obtain ⟨d, hd⟩ : ∃ d, l[k]? = some d := ⟨_, List.getElem?_eq_getElem (by have := HN.out; omega)⟩
        obtain ⟨b, off, rfl, hbl, hcell⟩ := HA.out (by omega)
        have HAT : Hid (∀ W, Below w.heap.size w W → At5 W b (off + k * 5) d) := Lib.hid fun W hW => (hcell k d hd).below hW hbl
        have hdk := HOK.out d (List.mem_of_getElem? hd)
        obtain ⟨t, ht⟩ : ∃ t, fineS 1048576 s d.k d.w d.n (d.u : Int) d.s = t := ⟨_, rfl⟩
        have hfo := fine_ok (s := s) (K := d.k) (W := d.w) (N := d.n) (U := d.u) (S := d.s) HZ.out (by have := HLE.out; omega) hdk.u1
        rw [ht] at hfo
        obtain ⟨z1, z2, z3, z4⟩ := hfo
        obtain ⟨⟨vb, hvb⟩, hb0⟩ := HS.out
        have HVB := Lib.hid hvb
        have HF : Hid (∀ W, Hid (Below wr.heap.size wr W) → Calls Try.prog 20 #[.pointer (some ⟨p, 0, none⟩), .agg #[.int .i64 d.k, .int .i64 d.w, .int .i64 d.n, .int .u64 (d.u : Int), .string d.s]] W fun e w' => e = .returned (.tuple #[]) ∧ Bu w p 1048576 t w' ∧ ∃ v', Ch W w' p vb v') :=
          Lib.hid fun W hW => by
            have hv2 := HVB.out.below hW.out
            have hbw : Below w.heap.size w W := HS.out.2.trans (hW.out.mono HS.out.2.size)
            rw [← ht]
            refine (fine_any hv2 (by have := HLE.out; omega) d.k d.w d.n d.u d.s hdk.k0 hdk.k1 hdk.w0 hdk.w1 hdk.n0 hdk.n1 hdk.s1).mono fun e w' hh => ?_
            obtain ⟨q1, q2⟩ := Bu.of (t := fineS 1048576 (s.1, s.2) d.k d.w d.n (d.u : Int) d.s) hv2 hbw hh
            obtain ⟨v', _, _, q3⟩ := hh
            exact ⟨q1, q2, v', q3⟩
        have HBY := Lib.hid (bytes_U HS.out)
        have hse : s.2 = 0 := HZ.out
        rw [out_ok hse, hse] at HBY
        clear hse hvb hb0
        have HBT : Hid (∀ W, Hid (Bu w p 1048576 t W) → Calls Try.prog 13 #[.pointer (some ⟨p, 0, none⟩)] W fun e w' => ∃ v', e = .returned (.tuple #[v', .int .i64 0]) ∧ Rd w' v' t.1 ∧ Below W.heap.size W w') :=
          Lib.hid fun W hW => by
            refine (bytes_U hW.out).mono ?_
            rintro e w' ⟨v', n', rfl, ho, hb⟩
            rw [out_ok z1] at ho
            exact ⟨v', by rw [z1], Rd.of_own ho, hb⟩
        have HTS := Lib.hid (take_same (xs := s.1) (ys := t.1) (by by_cases h3 : d.k % 5 = 3; (· exact .inl (z3 h3)); (· exact .inr (z4 h3))))
        have HSH : Hid (t.1.length < s.1.length → d.k % 5 = 3) := Lib.hid fun hlt => by
          by_cases h3 : d.k % 5 = 3
          · exact h3
          · obtain ⟨ys, hy⟩ := z4 h3
            rw [hy, List.length_append] at hlt
            omega
        have HTZ := Lib.hid z1
        have HTL : Hid (t.1.length ≤ 48 * (k + 1)) := Lib.hid (by have := HLE.out; omega)
        have HDK := Lib.hid hdk
        clear hd hcell hdk ht z1 z2 z3 z4
        go_upto_region 11 with (first
          | (go_at_call 13; (with_reducible refine HBY.out.mono ?_); rintro e w3 ⟨x1, q1, rfl, hr3, hb3⟩; have HO3 := Lib.hid hr3; obtain ⟨X1, xn, xc, rfl, -⟩ := Rd.of_own hr3; have HB3 := Lib.hid hb3; obtain ⟨g0, g1, g2, g3, g4⟩ := HAT.out _ (HS.out.2.trans (hb3.mono HS.out.2.size)); clear hb3 hr3)
          | (go_at_call 20; (with_reducible refine (HF.out _ HB3).mono ?_); rintro e w4 ⟨rfl, h4, v4, hc4⟩; have HX4 := Lib.hid (hc4.row_keep HO3.out HVB.out.box.lt HVB.out.row_lt); have H4 := Lib.hid h4; clear h4 hc4)
          | (go_at_call 13; (with_reducible refine (HBT.out _ H4).mono ?_); rintro e w5 ⟨y1, rfl, hr5, hb5⟩; obtain ⟨Y1, yn, yc, rfl, hy1⟩ := hr5; have HY1 := Lib.hid hy1; have HB5 := Lib.hid hb5; have H5 := Lib.hid (H4.out.below hb5); clear hb5 hy1))
        have hx5 : Rds w5 X1 xn xc s.1 := by
          obtain ⟨A1, n1, c1, he, hr⟩ := Rd.of_own (own_below HX4.out HB5.out)
          injection he with e1 e2 e3
          subst e1; subst e2; subst e3
          exact hr
        have hxn : s.1.length = xn := hx5.1
        have hyn : t.1.length = yn := HY1.out.1
        have HBZ : ∀ z, Bu w p 1048576 t (w5.drewN z) := fun z => H5.out.below (w' := w5.drewN z) ⟨rfl, rfl, rfl, Nat.le_refl _, fun _ _ => rfl⟩
        have HLL : Hid (∀ z, Calls Try.prog 16 #[.pointer (some ⟨p, 0, none⟩)] (w5.drewN z) fun e w' => e = .returned (.int .i64 (yn : Int)) ∧ w' = w5.drewN z) := Lib.hid fun z => by rw [← hyn]; exact (len_U (HBZ z)).mono fun _ _ ⟨h1, h2⟩ => ⟨h1, h2.symm⟩
        have HEQ : ∀ mm, mm = min xn yn → Hid (∀ z, Calls Try.prog 15 #[.slice X1 mm xc, .slice Y1 mm yc] (w5.drewN z) fun e w' => e = .returned (.bool true) ∧ w' = w5.drewN z) := fun mm hmm => Lib.hid fun z => by
          have r1 := rds_take (m := mm) hx5 (by omega)
          have r2 := rds_take (m := mm) HY1.out (by omega)
          have h3 := HTS.out
          rw [hxn, hyn, ← hmm] at h3
          exact (eqBytes_any _ _ (s.1.take mm) (t.1.take mm) (w5.drewN z) ⟨_, _, _, rfl, r1⟩ ⟨_, _, _, rfl, r2⟩).mono fun _ _ ⟨h1, h2⟩ => ⟨by rw [h1, h3]; simp, h2.symm⟩
        have hxc : xn ≤ xc := hx5.2.1
        have hyc : yn ≤ yc := HY1.out.2.1
        obtain ⟨k0, k1, k2, k3, k4⟩ := HAT.out w5 H5.out.2
        by_cases hlt2 : yn < xn
        · have hmin : min (xn : Int) (yn : Int) = (yn : Int) := by omega
          have hk5 : d.k % 5 = 3 := HSH.out (by omega)
          have HBRK : Hid (∀ z, Calls Try.prog 21 #[.int .i64 d.k, .int .i64 5] (w5.drewN z) fun e w' => e = .returned (.int .i64 3) ∧ w' = w5.drewN z) := Lib.hid fun z => by
            rw [← hk5]; exact (bring_any d.k 5 (w5.drewN z) HDK.out.k0 HDK.out.k1 (by omega) (by omega)).mono fun _ _ ⟨h1, h2⟩ => ⟨h1, h2.symm⟩
          have HEQ2 := HEQ yn (by omega)
          have d1 : decide ((yn : Int) < (xn : Int)) = true := by simp; omega
          have i1 : (0 : Int) ≤ (k : Int) := by omega
          have i2 : (k : Int) < (n : Int) := by omega
          have hyx : yn ≤ xc := by omega
          rw [hmin]
          clear HBZ HEQ hxn hyn hmin hk5 hx5
          go_quiet (first
            | (go_at_call 15; exact Calls.quiet_of_same (HEQ2.out _))
            | (go_at_call 21; exact Calls.quiet_of_same (HBRK.out _))
            | (go_at_call 16; exact Calls.quiet_of_same (HLL.out _)))
          go_wp2
          go_roundw
          case rel => exact ⟨k + 1, t, by omega, by omega, by go_num, Lib.hid (H5.out.below ⟨rfl, rfl, rfl, Nat.le_refl _, fun _ _ => rfl⟩), HTL, HTZ⟩
          case measure => simp [intOf]; omega
        · have hmin : min (xn : Int) (yn : Int) = (xn : Int) := by omega
          have HEQ2 := HEQ xn (by omega)
          have d1 : decide ((yn : Int) < (xn : Int)) = false := by simp; omega
          have hyx : xn ≤ yc := by omega
          rw [hmin]
          clear HBZ HEQ hxn hyn hmin hx5
          go_quiet (first
            | (go_at_call 15; exact Calls.quiet_of_same (HEQ2.out _))
            | (go_at_call 16; exact Calls.quiet_of_same (HLL.out _)))
          go_wp2
          go_roundw
          case rel => exact ⟨k + 1, t, by omega, by omega, by go_num, Lib.hid (H5.out.below ⟨rfl, rfl, rfl, Nat.le_refl _, fun _ _ => rfl⟩), HTL, HTZ⟩
          case measure => simp [intOf]; omega
      · obtain rfl : k = 60 := by omega
        go_wp2
        go_ret
        exact ⟨rfl, HS.out.2⟩
    · go_wp2
      go_ret
      exact ⟨rfl, HS.out.2⟩
end Go.Proofs.Ytkcmpakcahemcaa
