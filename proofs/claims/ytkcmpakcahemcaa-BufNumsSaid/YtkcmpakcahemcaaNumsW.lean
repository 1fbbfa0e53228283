/-
  What is proved here: BufNums returns true and leaves all memory that was there as it was; condition: the numbers are in the range of their types.
-/
import Derived.Test.YtkcmpakcahemcaaLaw
namespace Go.Proofs.Ytkcmpakcahemcaa
open Go.RowKit Le

theorem out_zero {s : St} (h : s.2 = 0) : out s = s.1 := if_pos h

theorem adL_ok {m : Nat} {xs ys : List UInt8} (h : xs.length + ys.length ≤ m) : (adL m xs ys, adE m xs ys) = ((xs ++ ys, 0) : St) := by rw [(ad_in h).1, (ad_in h).2]
theorem dec_step (xs : List UInt8) (j : Nat) (x : UInt8) (h : xs[j]? = some x) : dec (xs.drop j) = x.toNat + 256 * dec (xs.drop (j + 1)) := by
  have hl := (List.getElem?_eq_some_iff.1 h).1
  rw [List.drop_eq_getElem_cons hl]
  have : xs[j] = x := by have := List.getElem?_eq_getElem hl; rw [h] at this; injection this with this; exact this.symm
  rw [this]
  rfl
theorem or_num (D x : Nat) (hD : 256 * D + x < 18446744073709551616) (hx : x < 256) :
    bits .or .u64 (IntKind.u64.wrap ((D : Int) * 2 ^ 8)) (x : Int) = ((x + 256 * D : Nat) : Int) := by
  have e1 : ((D : Int) * 2 ^ 8) = ((D * 256 : Nat) : Int) := by rw [Int.natCast_mul]; rfl
  rw [e1, IntWalk.u64_in _ ⟨by omega, by omega⟩, u64_or_nat _ _ (by omega) (by omega)]
  have h := Nat.two_pow_add_eq_or_of_lt (i := 8) (b := x) (show x < 2 ^ 8 from hx) D
  have e2 : (2 : Nat) ^ 8 * D = D * 256 := by rw [Nat.mul_comm]
  rw [e2] at h
  rw [← h]
  congr 1
  omega

set_option maxRecDepth 20000 in
set_option maxHeartbeats 4000000 in
theorem bufNums_walk (a : Int) (s : ByteArray) (i : Int) (w : World) (h0 : 0 ≤ a) (h1 : a ≤ 18446744073709551615) (hs : s.size ≤ 9223372036854775807) (hi : -9223372036854775808 ≤ i) (hi2 : i ≤ 9223372036854775807) :
    Calls Try.prog 7 #[.int .u64 a, .string s, .int .i64 i] w fun e w' => e = .returned (.bool true) ∧ Below w.heap.size w w' := by
  obtain ⟨u, rfl⟩ := Int.eq_ofNat_of_zero_le h0
  have hu : u < 18446744073709551616 := by omega
  have HBR := Lib.hid (bring_any i 4 w hi hi2 (by omega) (by omega))
  have HNEW := Lib.hid (new_U (Below.refl w.heap.size w) 1000)
  have hcp : cp 1000 = 1000 := by decide +kernel
  rw [hcp] at HNEW
  have HSH : Hid (∀ W, Calls Try.prog 24 #[.string s, .int .i64 40] W fun e w' => e = .returned (.string (str (shL s))) ∧ W = w') := Lib.hid fun W => short_any s 40 W hs
  have hsl := shL_le s
  obtain ⟨l, hl⟩ : ∃ l, l = (shL s).length := ⟨_, rfl⟩
  have hsz : (str (shL s)).size = l := by rw [hl]; rfl
  -- the states
  have b4 := four i
  obtain ⟨f, hf⟩ : ∃ f, i % 4 = f := ⟨_, rfl⟩
  obtain ⟨x, hx⟩ : ∃ x, w4 i = x := ⟨_, rfl⟩
  have hxw : isW x = true := by rw [← hx]; exact w4_isW i
  rw [hf, hx] at b4
  rw [hf] at HBR
  have e1 : addS 1000 ([], 0) (shL s) = (shL s, 0) := by unfold addS; rw [if_pos rfl]; exact adL_ok (by simp; omega)
  obtain ⟨g, hg⟩ : ∃ g, g = pad l x := ⟨_, rfl⟩
  have hg8 : g < 8 := by rw [hg]; exact pad_lt hxw
  have e2 : algS 1000 (shL s, 0) x = (shL s ++ List.replicate g 0, 0) := by
    unfold algS; rw [if_pos rfl, if_pos hxw]
    show (adL 1000 (shL s) (List.replicate (pad (shL s).length x) 0), _) = _
    rw [← hl, ← hg]
    exact adL_ok (by rw [List.length_replicate]; omega)
  obtain ⟨ys, hys⟩ : ∃ ys, ys = shL s ++ List.replicate g 0 := ⟨_, rfl⟩
  have hyl : ys.length = l + g := by rw [hys, List.length_append, List.length_replicate, hl]
  rw [← hys] at e2
  have hmod : (((l + g : Nat) : Int) % x == 0) = true := by
    have := rem_pad (l := l) (k := g) hxw (by omega)
    rw [← hg] at this
    push_cast
    rw [this]; simp
  have hgx : (g : Int) < x := by
    rw [hg]; unfold pad
    rcases isW_iff.1 hxw with rfl | rfl | rfl | rfl
    · show (((1 - l % 1) % 1 : Nat) : Int) < 1; omega
    · show (((2 - l % 2) % 2 : Nat) : Int) < 2; omega
    · show (((4 - l % 4) % 4 : Nat) : Int) < 4; omega
    · show (((8 - l % 8) % 8 : Nat) : Int) < 8; omega
  obtain ⟨t, ht⟩ : ∃ t, numS 1000 (ys, 0) x (u : Int) = t := ⟨_, rfl⟩
  have HT1 : Hid (∀ p W, Hid (Bu w p 1000 ([], 0) W) → ∀ g, g = W.heap.size → Calls Try.prog 23 #[.pointer (some ⟨p, 0, none⟩), .slice (some ⟨g, 0, none⟩) 1 1] (W.alloc (.cells #[.string (str (shL s))] 9)) fun e w' => e = .returned (.tuple #[]) ∧ Bu w p 1000 (shL s, 0) w') :=
    Lib.hid fun p W hW g hg => by
      have := text1_U hW.out (a := str (shL s)) hg (by omega)
      rw [show (str (shL s)).data.toList = shL s from rfl, e1] at this
      exact this
  have HAL : Hid (∀ p W, Hid (Bu w p 1000 (shL s, 0) W) → Calls Try.prog 25 #[.pointer (some ⟨p, 0, none⟩), .int .i64 x] W fun e w' => e = .returned (.tuple #[]) ∧ Bu w p 1000 (ys, 0) w') :=
    Lib.hid fun p W hW => by rw [← e2]; exact align_U hW.out x
  have HLE : Hid (∀ p W, Hid (Bu w p 1000 (ys, 0) W) → Calls Try.prog 16 #[.pointer (some ⟨p, 0, none⟩)] W fun e w' => e = .returned (.int .i64 ((l + g : Nat) : Int)) ∧ W = w') := Lib.hid fun p W hW => by rw [← hyl]; exact len_U hW.out
  have HNU : Hid (∀ p W, Hid (Bu w p 1000 (ys, 0) W) → Calls Try.prog 26 #[.pointer (some ⟨p, 0, none⟩), .int .i64 x, .int .u64 (u : Int)] W fun e w' => e = .returned (.tuple #[]) ∧ Bu w p 1000 t w') :=
    Lib.hid fun p W hW => by rw [← ht]; exact num_U hW.out x u
  have HBY : Hid (∀ p W, Hid (Bu w p 1000 t W) → Calls Try.prog 13 #[.pointer (some ⟨p, 0, none⟩)] W fun e w' => ∃ v' n, e = .returned (.tuple #[v', .int .i64 t.2]) ∧ w'.ownsRow W.heap.size 5 1 v' n (bv (out t)) ∧ Below W.heap.size W w') := Lib.hid fun p W hW => bytes_U hW.out
  have HWK := Lib.hid works_true
  obtain ⟨A, hA⟩ : ∃ A, A = l + g := ⟨_, rfl⟩
  rw [← hA] at hmod hyl
  rw [← hA] at HLE
  have hmn : (((A : Nat) : Int) % x != 0) = false := by rw [bne, hmod]; rfl
  have a1 : l ≤ A := by omega
  have a2 : (A : Int) < (l : Int) + x := by omega
  have a3 : A ≤ 47 := by omega
  have HYL2 := Lib.hid hyl
  obtain ⟨Y, hY⟩ : ∃ Y, Y = str (shL s) := ⟨_, rfl⟩
  rw [← hY] at HSH HT1 hsz
  have y1 : Y.size ≤ A := by omega
  have y2 : (A : Int) < (Y.size : Int) + x := by omega
  have y3 : Y.size ≤ 40 := by omega
  have hxb := isW_bd hxw
  obtain ⟨n, hn⟩ := Int.eq_ofNat_of_zero_le (show 0 ≤ x by omega)
  have hpf := put_fits (u := u) hxw
  rw [show x.toNat = n by omega] at hpf
  by_cases hz : u / 256 ^ n = 0
  · rw [if_pos hz] at hpf
    have et : t = (ys ++ enc n u, 0) := by
      rw [← ht]; unfold numS; rw [if_pos rfl, if_pos hpf, show x.toNat = n by omega]
      exact adL_ok (by rw [hyl, enc_length]; show A + n ≤ 1000; omega)
    have hlt : u < 256 ^ n := by
      rcases Nat.lt_or_ge u (256 ^ n) with h | h
      · exact h
      · have := Nat.div_pos h (Nat.pos_of_ne_zero (by simp)); omega
    rw [et] at HNU HBY
    rw [out_zero (s := (ys ++ enc n u, 0)) rfl] at HBY
    have HDE : Hid (dec (enc n u) = u) := Lib.hid (dec_enc_of_lt hlt)
    have HLN : Hid ((ys ++ enc n u).length = A + n) := Lib.hid (by rw [List.length_append, hyl, enc_length])
    have HUL : Hid (u < 256 ^ n) := Lib.hid hlt
    clear ht et hpf hz hxw hx hf e1 e2 hys hyl hsz hl hg hA hgx hg8 hs hi hi2 hcp hsl h0 h1 hY a1 a2
    have b5 : (f = 0 ∧ n = 1 ∧ x = 1 ∧ decide (256 ≤ (u : Int)) = false) ∨ (f = 1 ∧ n = 2 ∧ x = 2 ∧ decide (65536 ≤ (u : Int)) = false) ∨ (f = 2 ∧ n = 4 ∧ x = 4 ∧ decide (4294967296 ≤ (u : Int)) = false) ∨ (f = 3 ∧ n = 8 ∧ x = 8) := by
      rcases b4 with ⟨b, c⟩ | ⟨b, c⟩ | ⟨b, c⟩ | ⟨b, c⟩
      · have hn : n = 1 := by omega
        subst hn; exact .inl ⟨b, rfl, c, by have : u < 256 := hlt; exact decide_eq_false (by omega)⟩
      · have hn : n = 2 := by omega
        subst hn; exact .inr (.inl ⟨b, rfl, c, by have : u < 65536 := hlt; exact decide_eq_false (by omega)⟩)
      · have hn : n = 4 := by omega
        subst hn; exact .inr (.inr (.inl ⟨b, rfl, c, by have : u < 4294967296 := hlt; exact decide_eq_false (by omega)⟩))
      · exact .inr (.inr (.inr ⟨b, by omega, c⟩))
    clear b4 hlt hn
    have HU := Lib.hid hu
    clear hu
    have z1 : decide ((A : Int) < (Y.size : Int)) = false := by simp; omega
    have z2 : decide ((Y.size : Int) + x ≤ (A : Int)) = false := by simp; omega
    rcases b5 with ⟨rfl, rfl, rfl, hu2⟩ | ⟨rfl, rfl, rfl, hu2⟩ | ⟨rfl, rfl, rfl, hu2⟩ | ⟨rfl, rfl, rfl⟩
    · go_enter Try.func7, Try.ntmps7
      go_wp2_with (first
          | (go_at_call 21; (with_reducible refine HBR.out.mono ?_); rintro e w1 ⟨rfl, rfl⟩)
          | (go_at_call 9; (with_reducible refine HNEW.out.mono ?_); rintro e w2 ⟨p, rfl, h2⟩; have H2 := Lib.hid h2; clear h2)
          | (go_at_call 24; (with_reducible refine (HSH.out _).mono ?_); rintro e w2 ⟨rfl, rfl⟩)
          | (go_at_call 23; (with_reducible refine (HT1.out _ _ H2 _ rfl).mono ?_); rintro e w3 ⟨rfl, h3⟩; have H3 := Lib.hid h3; clear h3)
          | (go_at_call 25; (with_reducible refine (HAL.out _ _ H3).mono ?_); rintro e w4 ⟨rfl, h4⟩; have H4 := Lib.hid h4; clear h4)
          | (go_at_call 16; (with_reducible refine (HLE.out _ _ H4).mono ?_); rintro e w5 ⟨rfl, rfl⟩)
          | (go_at_call 26; (with_reducible refine (HNU.out _ _ H4).mono ?_); rintro e w6 ⟨rfl, h6⟩; have H6 := Lib.hid h6; clear h6)
          | (go_at_call 13; (with_reducible refine (HBY.out _ _ H6).mono ?_); rintro e w7 ⟨x1, q1, rfl, ho7, hb7⟩; obtain ⟨X1, xn, xc, rfl, hr7⟩ := Rd.of_own ho7; have hxn : (xn : Int) = (A : Int) + 1 := (by have := hr7.1; rw [HLN.out] at this; omega); have HR7 := Lib.hid hr7; have H7 := Lib.hid (H6.out.below hb7); clear ho7 hb7 hr7))
      go_loop [12, 13] (fun nv iv => ∃ j D : Nat, j ≤ 1 ∧ iv = .int .i64 ((j : Int) - 1) ∧ nv = .int .u64 (D : Int) ∧ Hid (D = dec ((enc 1 u).drop j))) (fun _ iv => (intOf iv + 1).toNat)
      case atStart => exact ⟨1, 0, Nat.le_refl _, rfl, rfl, by show 0 = dec ((enc 1 u).drop 1); rw [List.drop_of_length_le (by rw [enc_length]; exact Nat.le_refl _)]; rfl⟩
      case round =>
        obtain ⟨j, D, hj, rfl, rfl, HD⟩ := hrel
        rcases j with _ | k
        · rw [show (((0 : Nat) : Int) - 1) = -1 by rfl]
          have hD : D = u := by have := HD.out; rw [List.drop_zero, HDE.out] at this; exact this
          subst hD
          go_wp2_with (go_at_call 19; (with_reducible refine (HWK.out _).mono ?_); rintro e w8 ⟨rfl, hb8⟩; have H8 := Lib.hid hb8; clear hb8)
          go_ret
          exact ⟨rfl, H7.out.2.trans (H8.out.mono H7.out.2.size)⟩
        · rw [show (((k + 1 : Nat) : Int) - 1) = (k : Int) by omega]
          obtain ⟨bx, ox, rfl, hlx, hcx⟩ := HR7.out.2.2 (by omega)
          obtain ⟨y, hy⟩ : ∃ y, (enc 1 u)[k]? = some y := ⟨_, List.getElem?_eq_getElem (by rw [enc_length]; omega)⟩
          have hce : w7.cell? ⟨bx, ox + (A + k), none⟩ = some (.int .u8 (y.toNat : Int)) := hcx (A + k) y (by rw [List.getElem?_append_right (by have := HYL2.out; omega), show A + k - ys.length = k by have := HYL2.out; omega]; exact hy)
          have hst := dec_step (enc 1 u) k y hy
          rw [← HD.out] at hst
          have hbd : dec ((enc 1 u).drop k) < 18446744073709551616 := by
            have h1 := dec_lt ((enc 1 u).drop k)
            rw [List.length_drop, enc_length] at h1
            have h2 : 256 ^ (1 - k) ≤ 256 ^ 8 := Nat.pow_le_pow_right (by decide) (by omega)
            have h3 : (256 : Nat) ^ 8 = 18446744073709551616 := by decide
            omega
          have hy8 := y.toNat_lt
          have hor := or_num D y.toNat (by omega) hy8
          have HST := Lib.hid hst
          have HOR := Lib.hid hor
          have i1 : (A : Int) + (k : Int) < (xn : Int) := by omega
          clear hst hor hcx hy hbd
          go_wp2
          go_round
          case rel => exact ⟨k, y.toNat + 256 * D, by omega, by simp, by first | exact congrArg (Value.int .u64) HOR.out | (simp only [Value.int.injEq, true_and]; exact HOR.out), Lib.hid HST.out.symm⟩
          case measure => first | (simp [intOf]; done) | (simp [intOf]; omega)
    · go_enter Try.func7, Try.ntmps7
      go_wp2_with (first
          | (go_at_call 21; (with_reducible refine HBR.out.mono ?_); rintro e w1 ⟨rfl, rfl⟩)
          | (go_at_call 9; (with_reducible refine HNEW.out.mono ?_); rintro e w2 ⟨p, rfl, h2⟩; have H2 := Lib.hid h2; clear h2)
          | (go_at_call 24; (with_reducible refine (HSH.out _).mono ?_); rintro e w2 ⟨rfl, rfl⟩)
          | (go_at_call 23; (with_reducible refine (HT1.out _ _ H2 _ rfl).mono ?_); rintro e w3 ⟨rfl, h3⟩; have H3 := Lib.hid h3; clear h3)
          | (go_at_call 25; (with_reducible refine (HAL.out _ _ H3).mono ?_); rintro e w4 ⟨rfl, h4⟩; have H4 := Lib.hid h4; clear h4)
          | (go_at_call 16; (with_reducible refine (HLE.out _ _ H4).mono ?_); rintro e w5 ⟨rfl, rfl⟩)
          | (go_at_call 26; (with_reducible refine (HNU.out _ _ H4).mono ?_); rintro e w6 ⟨rfl, h6⟩; have H6 := Lib.hid h6; clear h6)
          | (go_at_call 13; (with_reducible refine (HBY.out _ _ H6).mono ?_); rintro e w7 ⟨x1, q1, rfl, ho7, hb7⟩; obtain ⟨X1, xn, xc, rfl, hr7⟩ := Rd.of_own ho7; have hxn : (xn : Int) = (A : Int) + 2 := (by have := hr7.1; rw [HLN.out] at this; omega); have HR7 := Lib.hid hr7; have H7 := Lib.hid (H6.out.below hb7); clear ho7 hb7 hr7))
      go_loop [12, 13] (fun nv iv => ∃ j D : Nat, j ≤ 2 ∧ iv = .int .i64 ((j : Int) - 1) ∧ nv = .int .u64 (D : Int) ∧ Hid (D = dec ((enc 2 u).drop j))) (fun _ iv => (intOf iv + 1).toNat)
      case atStart => exact ⟨2, 0, Nat.le_refl _, rfl, rfl, by show 0 = dec ((enc 2 u).drop 2); rw [List.drop_of_length_le (by rw [enc_length]; exact Nat.le_refl _)]; rfl⟩
      case round =>
        obtain ⟨j, D, hj, rfl, rfl, HD⟩ := hrel
        rcases j with _ | k
        · rw [show (((0 : Nat) : Int) - 1) = -1 by rfl]
          have hD : D = u := by have := HD.out; rw [List.drop_zero, HDE.out] at this; exact this
          subst hD
          go_wp2_with (go_at_call 19; (with_reducible refine (HWK.out _).mono ?_); rintro e w8 ⟨rfl, hb8⟩; have H8 := Lib.hid hb8; clear hb8)
          go_ret
          exact ⟨rfl, H7.out.2.trans (H8.out.mono H7.out.2.size)⟩
        · rw [show (((k + 1 : Nat) : Int) - 1) = (k : Int) by omega]
          obtain ⟨bx, ox, rfl, hlx, hcx⟩ := HR7.out.2.2 (by omega)
          obtain ⟨y, hy⟩ : ∃ y, (enc 2 u)[k]? = some y := ⟨_, List.getElem?_eq_getElem (by rw [enc_length]; omega)⟩
          have hce : w7.cell? ⟨bx, ox + (A + k), none⟩ = some (.int .u8 (y.toNat : Int)) := hcx (A + k) y (by rw [List.getElem?_append_right (by have := HYL2.out; omega), show A + k - ys.length = k by have := HYL2.out; omega]; exact hy)
          have hst := dec_step (enc 2 u) k y hy
          rw [← HD.out] at hst
          have hbd : dec ((enc 2 u).drop k) < 18446744073709551616 := by
            have h1 := dec_lt ((enc 2 u).drop k)
            rw [List.length_drop, enc_length] at h1
            have h2 : 256 ^ (2 - k) ≤ 256 ^ 8 := Nat.pow_le_pow_right (by decide) (by omega)
            have h3 : (256 : Nat) ^ 8 = 18446744073709551616 := by decide
            omega
          have hy8 := y.toNat_lt
          have hor := or_num D y.toNat (by omega) hy8
          have HST := Lib.hid hst
          have HOR := Lib.hid hor
          have i1 : (A : Int) + (k : Int) < (xn : Int) := by omega
          clear hst hor hcx hy hbd
          go_wp2
          go_round
          case rel => exact ⟨k, y.toNat + 256 * D, by omega, by simp, by first | exact congrArg (Value.int .u64) HOR.out | (simp only [Value.int.injEq, true_and]; exact HOR.out), Lib.hid HST.out.symm⟩
          case measure => first | (simp [intOf]; done) | (simp [intOf]; omega)
    · go_enter Try.func7, Try.ntmps7
      go_wp2_with (first
          | (go_at_call 21; (with_reducible refine HBR.out.mono ?_); rintro e w1 ⟨rfl, rfl⟩)
          | (go_at_call 9; (with_reducible refine HNEW.out.mono ?_); rintro e w2 ⟨p, rfl, h2⟩; have H2 := Lib.hid h2; clear h2)
          | (go_at_call 24; (with_reducible refine (HSH.out _).mono ?_); rintro e w2 ⟨rfl, rfl⟩)
          | (go_at_call 23; (with_reducible refine (HT1.out _ _ H2 _ rfl).mono ?_); rintro e w3 ⟨rfl, h3⟩; have H3 := Lib.hid h3; clear h3)
          | (go_at_call 25; (with_reducible refine (HAL.out _ _ H3).mono ?_); rintro e w4 ⟨rfl, h4⟩; have H4 := Lib.hid h4; clear h4)
          | (go_at_call 16; (with_reducible refine (HLE.out _ _ H4).mono ?_); rintro e w5 ⟨rfl, rfl⟩)
          | (go_at_call 26; (with_reducible refine (HNU.out _ _ H4).mono ?_); rintro e w6 ⟨rfl, h6⟩; have H6 := Lib.hid h6; clear h6)
          | (go_at_call 13; (with_reducible refine (HBY.out _ _ H6).mono ?_); rintro e w7 ⟨x1, q1, rfl, ho7, hb7⟩; obtain ⟨X1, xn, xc, rfl, hr7⟩ := Rd.of_own ho7; have hxn : (xn : Int) = (A : Int) + 4 := (by have := hr7.1; rw [HLN.out] at this; omega); have HR7 := Lib.hid hr7; have H7 := Lib.hid (H6.out.below hb7); clear ho7 hb7 hr7))
      go_loop [12, 13] (fun nv iv => ∃ j D : Nat, j ≤ 4 ∧ iv = .int .i64 ((j : Int) - 1) ∧ nv = .int .u64 (D : Int) ∧ Hid (D = dec ((enc 4 u).drop j))) (fun _ iv => (intOf iv + 1).toNat)
      case atStart => exact ⟨4, 0, Nat.le_refl _, rfl, rfl, by show 0 = dec ((enc 4 u).drop 4); rw [List.drop_of_length_le (by rw [enc_length]; exact Nat.le_refl _)]; rfl⟩
      case round =>
        obtain ⟨j, D, hj, rfl, rfl, HD⟩ := hrel
        rcases j with _ | k
        · rw [show (((0 : Nat) : Int) - 1) = -1 by rfl]
          have hD : D = u := by have := HD.out; rw [List.drop_zero, HDE.out] at this; exact this
          subst hD
          go_wp2_with (go_at_call 19; (with_reducible refine (HWK.out _).mono ?_); rintro e w8 ⟨rfl, hb8⟩; have H8 := Lib.hid hb8; clear hb8)
          go_ret
          exact ⟨rfl, H7.out.2.trans (H8.out.mono H7.out.2.size)⟩
        · rw [show (((k + 1 : Nat) : Int) - 1) = (k : Int) by omega]
          obtain ⟨bx, ox, rfl, hlx, hcx⟩ := HR7.out.2.2 (by omega)
          obtain ⟨y, hy⟩ : ∃ y, (enc 4 u)[k]? = some y := ⟨_, List.getElem?_eq_getElem (by rw [enc_length]; omega)⟩
          have hce : w7.cell? ⟨bx, ox + (A + k), none⟩ = some (.int .u8 (y.toNat : Int)) := hcx (A + k) y (by rw [List.getElem?_append_right (by have := HYL2.out; omega), show A + k - ys.length = k by have := HYL2.out; omega]; exact hy)
          have hst := dec_step (enc 4 u) k y hy
          rw [← HD.out] at hst
          have hbd : dec ((enc 4 u).drop k) < 18446744073709551616 := by
            have h1 := dec_lt ((enc 4 u).drop k)
            rw [List.length_drop, enc_length] at h1
            have h2 : 256 ^ (4 - k) ≤ 256 ^ 8 := Nat.pow_le_pow_right (by decide) (by omega)
            have h3 : (256 : Nat) ^ 8 = 18446744073709551616 := by decide
            omega
          have hy8 := y.toNat_lt
          have hor := or_num D y.toNat (by omega) hy8
          have HST := Lib.hid hst
          have HOR := Lib.hid hor
          have i1 : (A : Int) + (k : Int) < (xn : Int) := by omega
          clear hst hor hcx hy hbd
          go_wp2
          go_round
          case rel => exact ⟨k, y.toNat + 256 * D, by omega, by simp, by first | exact congrArg (Value.int .u64) HOR.out | (simp only [Value.int.injEq, true_and]; exact HOR.out), Lib.hid HST.out.symm⟩
          case measure => first | (simp [intOf]; done) | (simp [intOf]; omega)
    · go_enter Try.func7, Try.ntmps7
      go_wp2_with (first
          | (go_at_call 21; (with_reducible refine HBR.out.mono ?_); rintro e w1 ⟨rfl, rfl⟩)
          | (go_at_call 9; (with_reducible refine HNEW.out.mono ?_); rintro e w2 ⟨p, rfl, h2⟩; have H2 := Lib.hid h2; clear h2)
          | (go_at_call 24; (with_reducible refine (HSH.out _).mono ?_); rintro e w2 ⟨rfl, rfl⟩)
          | (go_at_call 23; (with_reducible refine (HT1.out _ _ H2 _ rfl).mono ?_); rintro e w3 ⟨rfl, h3⟩; have H3 := Lib.hid h3; clear h3)
          | (go_at_call 25; (with_reducible refine (HAL.out _ _ H3).mono ?_); rintro e w4 ⟨rfl, h4⟩; have H4 := Lib.hid h4; clear h4)
          | (go_at_call 16; (with_reducible refine (HLE.out _ _ H4).mono ?_); rintro e w5 ⟨rfl, rfl⟩)
          | (go_at_call 26; (with_reducible refine (HNU.out _ _ H4).mono ?_); rintro e w6 ⟨rfl, h6⟩; have H6 := Lib.hid h6; clear h6)
          | (go_at_call 13; (with_reducible refine (HBY.out _ _ H6).mono ?_); rintro e w7 ⟨x1, q1, rfl, ho7, hb7⟩; obtain ⟨X1, xn, xc, rfl, hr7⟩ := Rd.of_own ho7; have hxn : (xn : Int) = (A : Int) + 8 := (by have := hr7.1; rw [HLN.out] at this; omega); have HR7 := Lib.hid hr7; have H7 := Lib.hid (H6.out.below hb7); clear ho7 hb7 hr7))
      go_loop [12, 13] (fun nv iv => ∃ j D : Nat, j ≤ 8 ∧ iv = .int .i64 ((j : Int) - 1) ∧ nv = .int .u64 (D : Int) ∧ Hid (D = dec ((enc 8 u).drop j))) (fun _ iv => (intOf iv + 1).toNat)
      case atStart => exact ⟨8, 0, Nat.le_refl _, rfl, rfl, by show 0 = dec ((enc 8 u).drop 8); rw [List.drop_of_length_le (by rw [enc_length]; exact Nat.le_refl _)]; rfl⟩
      case round =>
        obtain ⟨j, D, hj, rfl, rfl, HD⟩ := hrel
        rcases j with _ | k
        · rw [show (((0 : Nat) : Int) - 1) = -1 by rfl]
          have hD : D = u := by have := HD.out; rw [List.drop_zero, HDE.out] at this; exact this
          subst hD
          go_wp2_with (go_at_call 19; (with_reducible refine (HWK.out _).mono ?_); rintro e w8 ⟨rfl, hb8⟩; have H8 := Lib.hid hb8; clear hb8)
          go_ret
          exact ⟨rfl, H7.out.2.trans (H8.out.mono H7.out.2.size)⟩
        · rw [show (((k + 1 : Nat) : Int) - 1) = (k : Int) by omega]
          obtain ⟨bx, ox, rfl, hlx, hcx⟩ := HR7.out.2.2 (by omega)
          obtain ⟨y, hy⟩ : ∃ y, (enc 8 u)[k]? = some y := ⟨_, List.getElem?_eq_getElem (by rw [enc_length]; omega)⟩
          have hce : w7.cell? ⟨bx, ox + (A + k), none⟩ = some (.int .u8 (y.toNat : Int)) := hcx (A + k) y (by rw [List.getElem?_append_right (by have := HYL2.out; omega), show A + k - ys.length = k by have := HYL2.out; omega]; exact hy)
          have hst := dec_step (enc 8 u) k y hy
          rw [← HD.out] at hst
          have hbd : dec ((enc 8 u).drop k) < 18446744073709551616 := by
            have h1 := dec_lt ((enc 8 u).drop k)
            rw [List.length_drop, enc_length] at h1
            have h2 : 256 ^ (8 - k) ≤ 256 ^ 8 := Nat.pow_le_pow_right (by decide) (by omega)
            have h3 : (256 : Nat) ^ 8 = 18446744073709551616 := by decide
            omega
          have hy8 := y.toNat_lt
          have hor := or_num D y.toNat (by omega) hy8
          have HST := Lib.hid hst
          have HOR := Lib.hid hor
          have i1 : (A : Int) + (k : Int) < (xn : Int) := by omega
          clear hst hor hcx hy hbd
          go_wp2
          go_round
          case rel => exact ⟨k, y.toNat + 256 * D, by omega, by simp, by first | exact congrArg (Value.int .u64) HOR.out | (simp only [Value.int.injEq, true_and]; exact HOR.out), Lib.hid HST.out.symm⟩
          case measure => first | (simp [intOf]; done) | (simp [intOf]; omega)
  · rw [if_neg hz] at hpf
    have et : t = (ys, 10) := by
      rw [← ht]; unfold numS; rw [if_pos rfl, if_neg (by rw [hpf]; decide), hpf]
    have hge : 256 ^ n ≤ u := by
      rcases Nat.lt_or_ge u (256 ^ n) with h | h
      · exact absurd (Nat.div_eq_of_lt h) hz
      · exact h
    rw [et] at HNU HBY
    have HL2 : Hid (∀ p W, Hid (Bu w p 1000 (ys, 10) W) → Calls Try.prog 16 #[.pointer (some ⟨p, 0, none⟩)] W fun e w' => e = .returned (.int .i64 (A : Int)) ∧ W = w') := Lib.hid fun p W hW => by rw [← HYL2.out]; exact len_U hW.out
    clear ht et hpf hz hxw hx hf e1 e2 hys hyl hsz hl hg hA hgx hg8 hs hi hi2 hcp hsl h0 h1 hY a1 a2
    have b5 : (f = 0 ∧ x = 1 ∧ decide (256 ≤ (u : Int)) = true) ∨ (f = 1 ∧ x = 2 ∧ decide (65536 ≤ (u : Int)) = true) ∨ (f = 2 ∧ x = 4 ∧ decide (4294967296 ≤ (u : Int)) = true) := by
      rcases b4 with ⟨b, c⟩ | ⟨b, c⟩ | ⟨b, c⟩ | ⟨b, c⟩
      · have hn : n = 1 := by omega
        subst hn; exact .inl ⟨b, c, by have : 256 ≤ u := hge; exact decide_eq_true (by omega)⟩
      · have hn : n = 2 := by omega
        subst hn; exact .inr (.inl ⟨b, c, by have : 65536 ≤ u := hge; exact decide_eq_true (by omega)⟩)
      · have hn : n = 4 := by omega
        subst hn; exact .inr (.inr ⟨b, c, by have : 4294967296 ≤ u := hge; exact decide_eq_true (by omega)⟩)
      · have hn : n = 8 := by omega
        subst hn
        have : 18446744073709551616 ≤ u := hge
        omega
    clear b4 hge hn
    have HU := Lib.hid hu
    clear hu
    have z1 : decide ((A : Int) < (Y.size : Int)) = false := by simp; omega
    have z2 : decide ((Y.size : Int) + x ≤ (A : Int)) = false := by simp; omega
    rcases b5 with ⟨rfl, rfl, hu2⟩ | ⟨rfl, rfl, hu2⟩ | ⟨rfl, rfl, hu2⟩
    all_goals
      go_enter Try.func7, Try.ntmps7
      go_wp2_with (first
          | (go_at_call 21; (with_reducible refine HBR.out.mono ?_); rintro e w1 ⟨rfl, rfl⟩)
          | (go_at_call 9; (with_reducible refine HNEW.out.mono ?_); rintro e w2 ⟨p, rfl, h2⟩; have H2 := Lib.hid h2; clear h2)
          | (go_at_call 24; (with_reducible refine (HSH.out _).mono ?_); rintro e w2 ⟨rfl, rfl⟩)
          | (go_at_call 23; (with_reducible refine (HT1.out _ _ H2 _ rfl).mono ?_); rintro e w3 ⟨rfl, h3⟩; have H3 := Lib.hid h3; clear h3)
          | (go_at_call 25; (with_reducible refine (HAL.out _ _ H3).mono ?_); rintro e w4 ⟨rfl, h4⟩; have H4 := Lib.hid h4; clear h4)
          | (go_at_call 16; (with_reducible refine (HLE.out _ _ H4).mono ?_); rintro e w5 ⟨rfl, rfl⟩)
          | (go_at_call 26; (with_reducible refine (HNU.out _ _ H4).mono ?_); rintro e w6 ⟨rfl, h6⟩; have H6 := Lib.hid h6; clear h6)
          | (go_at_call 13; (with_reducible refine (HBY.out _ _ H6).mono ?_); rintro e w7 ⟨x1, q1, rfl, ho7, hb7⟩; obtain ⟨X1, xn, xc, rfl, hr7⟩ := Rd.of_own ho7; have H7 := Lib.hid (H6.out.below hb7); clear ho7 hb7 hr7)
          | (go_at_call 16; (with_reducible refine (HL2.out _ _ H7).mono ?_); rintro e w8 ⟨rfl, rfl⟩)
          | (go_at_call 19; (with_reducible refine (HWK.out _).mono ?_); rintro e w9 ⟨rfl, hb9⟩; have H9 := Lib.hid hb9; clear hb9))
      go_ret
      exact ⟨rfl, H7.out.2.trans (H9.out.mono H7.out.2.size)⟩
end Go.Proofs.Ytkcmpakcahemcaa
