/-
  What is proved here: BufCuts returns true and leaves all memory that was there as it was; condition: the arguments read as lists of calls.
-/
import Derived.Test.YtkcmpakcahemcaaStaysW
import Derived.Deep.DeepCutAuto
import Derived.Deep.CutBlock
namespace Go.Proofs.Ytkcmpakcahemcaa
open Go.RowKit Le

/-- Two buffers with the same contents and no error. -/
def Tw (w : World) (p q : Nat) (s t : St) (M : Nat) (wx : World) : Prop := Bu2 w p 1048576 s q 1048576 t wx ∧ s.2 = 0 ∧ t.2 = 0 ∧ s.1.length ≤ M ∧ t.1.length ≤ M
theorem Tw.mono {w wx : World} {p q M M' : Nat} {s t : St} (h : Tw w p q s t M wx) (hm : M ≤ M') : Tw w p q s t M' wx := ⟨h.1, h.2.1, h.2.2.1, by have := h.2.2.2.1; omega, by have := h.2.2.2.2; omega⟩
def stepD (s : St) (d : Dv) : St := fineS 1048576 s d.k d.w d.n (d.u : Int) d.s
theorem fine_1 {w wx : World} {p q M : Nat} {s t : St} (h : Tw w p q s t M wx) (hM : M ≤ 50000) {d : Dv} (hd : okD d) :
    Calls Try.prog 20 #[.pointer (some ⟨p, 0, none⟩), .agg #[.int .i64 d.k, .int .i64 d.w, .int .i64 d.n, .int .u64 (d.u : Int), .string d.s]] wx fun e w' => e = .returned (.tuple #[]) ∧ Tw w p q (stepD s d) t (M + 48) w' := by
  refine (h.1.on1 fun v hv => fine_any hv (by have := h.2.2.2.1; omega) d.k d.w d.n d.u d.s hd.k0 hd.k1 hd.w0 hd.w1 hd.n0 hd.n1 hd.s1).mono ?_
  rintro e w' ⟨rfl, hh⟩
  obtain ⟨z1, z2, _, _⟩ := fine_ok (s := s) (K := d.k) (W := d.w) (N := d.n) (U := d.u) (S := d.s) h.2.1 (by have := h.2.2.2.1; omega) hd.u1
  exact ⟨rfl, hh, z1, h.2.2.1, by have := h.2.2.2.1; unfold stepD; omega, by have := h.2.2.2.2; omega⟩
theorem fine_2 {w wx : World} {p q M : Nat} {s t : St} (h : Tw w p q s t M wx) (hM : M ≤ 50000) {d : Dv} (hd : okD d) :
    Calls Try.prog 20 #[.pointer (some ⟨q, 0, none⟩), .agg #[.int .i64 d.k, .int .i64 d.w, .int .i64 d.n, .int .u64 (d.u : Int), .string d.s]] wx fun e w' => e = .returned (.tuple #[]) ∧ Tw w p q s (stepD t d) (M + 48) w' := by
  refine (h.1.on2 fun v hv => fine_any hv (by have := h.2.2.2.2; omega) d.k d.w d.n d.u d.s hd.k0 hd.k1 hd.w0 hd.w1 hd.n0 hd.n1 hd.s1).mono ?_
  rintro e w' ⟨rfl, hh⟩
  obtain ⟨z1, z2, _, _⟩ := fine_ok (s := t) (K := d.k) (W := d.w) (N := d.n) (U := d.u) (S := d.s) h.2.2.1 (by have := h.2.2.2.2; omega) hd.u1
  exact ⟨rfl, hh, h.2.1, z1, by have := h.2.2.2.1; omega, by have := h.2.2.2.2; unfold stepD; omega⟩

theorem st_eq {s : St} (h : s.2 = 0) : s = (s.1, 0) := by cases s; cases h; rfl
/-- Cut takes away what was appended. -/
theorem cut_2 {w wx : World} {p q M : Nat} {s t : St} (h : Tw w p q s t M wx) (hp : ∃ ys, t.1 = s.1 ++ ys) {k : Int} (hk : k = (s.1.length : Int)) :
    Calls Try.prog 22 #[.pointer (some ⟨q, 0, none⟩), .int .i64 k] wx fun e w' => e = .returned (.tuple #[]) ∧ Tw w p q s s M w' := by
  subst hk
  refine (h.1.on2 fun v hv => cut_any hv (s.1.length : Int)).mono ?_
  rintro e w' ⟨rfl, hh⟩
  obtain ⟨ys, hy⟩ := hp
  have e1 : cutS (t.1, t.2) (s.1.length : Int) = s := by
    unfold cutS
    rw [if_pos h.2.2.1, if_neg (by rw [hy, List.length_append]; omega), hy, st_eq h.2.1]
    simp
  rw [e1] at hh
  exact ⟨rfl, hh, h.2.1, h.2.1, h.2.2.2.1, h.2.2.2.1⟩
theorem Tw.below {w wx wy : World} {p q M : Nat} {s t : St} (h : Tw w p q s t M wx) (hb : Below wx.heap.size wx wy) : Tw w p q s t M wy := ⟨h.1.below hb, h.2⟩

set_option maxRecDepth 20000 in
set_option maxHeartbeats 4000000 in
theorem bufCuts_walk (l : List Dv) (v : Value) (l1 : List Dv) (v1 : Value) (l2 : List Dv) (v2 : Value) (w : World) (h : RdD w v l) (h1 : RdD w v1 l1) (h2 : RdD w v2 l2) :
    Calls Try.prog 5 #[v, v1, v2] w fun e w' => e = .returned (.bool true) ∧ Below w.heap.size w w' := by
  obtain ⟨A, n, c, rfl, hn, hnc, hcm, hok, hA⟩ := h
  obtain ⟨A1, n1, c1, rfl, hn1, hnc1, hcm1, hok1, hA1⟩ := h1
  obtain ⟨A2, n2, c2, rfl, hn2, hnc2, hcm2, hok2, hA2⟩ := h2
  unfold maxLen at hcm hcm1 hcm2
  have HA := Lib.hid hA
  have HOK := Lib.hid hok
  have HN := Lib.hid hn
  have HA1 := Lib.hid hA1
  have HOK1 := Lib.hid hok1
  have HN1 := Lib.hid hn1
  have HA2 := Lib.hid hA2
  have HOK2 := Lib.hid hok2
  have HN2 := Lib.hid hn2
  have HNEW := Lib.hid (new_U (Below.refl w.heap.size w) 1048576)
  have HNEW2 : Hid (∀ p W, Hid (Bu w p 1048576 ([], 0) W) → Calls Try.prog 9 #[.int .i64 1048576] W fun e w' => ∃ q, e = .returned (.pointer (some ⟨q, 0, none⟩)) ∧ Tw w p q ([], 0) ([], 0) 0 w') := Lib.hid fun p W hW => by
    refine (new_U2 hW.out 1048576).mono ?_
    rintro e w' ⟨q, rfl, hq⟩
    exact ⟨q, rfl, hq, rfl, rfl, Nat.le_refl _, Nat.le_refl _⟩
  clear hA hok hn hA1 hok1 hn1 hA2 hok2 hn2
  go_enter Try.func5, Try.ntmps5
  go_upto_block 0 with (first
    | (go_at_call 9; (with_reducible refine HNEW.out.mono ?_); rintro e w2 ⟨p, rfl, h2⟩; have HB0 := Lib.hid h2; clear h2 HNEW)
    | (go_at_call 9; (with_reducible refine (HNEW2.out _ _ HB0).mono ?_); rintro e w3 ⟨q, rfl, h3⟩; have HT0 := Lib.hid h3; clear h3 HB0 HNEW2))
  go_cut [9] (fun s9 wx => ∃ s, Tw w p q s s 1440 wx)
  case first =>
    go_wp2_with fail
    go_loopw [9] (fun i wr => ∃ (k : Nat) (s : St), k ≤ n ∧ k ≤ 30 ∧ i = .int .i64 k ∧ Hid (Tw w p q s s (0 + 48 * k) wr)) (fun i _ => 30 - (intOf i).toNat)
    case atStart => exact ⟨0, ([], 0), Nat.zero_le _, Nat.zero_le _, rfl, HT0⟩
    case round =>
      obtain ⟨k, s, hk, hk3, rfl, HT⟩ := hrel
      by_cases hlt : k < n
      · by_cases hlt3 : k < 30
        · obtain ⟨d, hd⟩ : ∃ d, l[k]? = some d := ⟨_, List.getElem?_eq_getElem (by have := HN.out; omega)⟩
          obtain ⟨b, off, rfl, hbl, hcell⟩ := HA.out (by omega)
          have HAT : Hid (∀ W, Below w.heap.size w W → At5 W b (off + k * 5) d) := Lib.hid fun W hW => (hcell k d hd).below hW hbl
          have HDK := Lib.hid (HOK.out d (List.mem_of_getElem? hd))
          obtain ⟨g0, g1, g2, g3, g4⟩ := HAT.out wr HT.out.1.2
          clear hd hcell
          have HF1 : Hid (Calls Try.prog 20 #[.pointer (some ⟨p, 0, none⟩), .agg #[.int .i64 d.k, .int .i64 d.w, .int .i64 d.n, .int .u64 (d.u : Int), .string d.s]] wr fun e w' => e = .returned (.tuple #[]) ∧ Tw w p q (stepD s d) s (0 + 48 * k + 48) w') := Lib.hid (fine_1 HT.out (by omega) HDK.out)
          have HF2 : Hid (∀ W, Hid (Tw w p q (stepD s d) s (0 + 48 * k + 48) W) → Calls Try.prog 20 #[.pointer (some ⟨q, 0, none⟩), .agg #[.int .i64 d.k, .int .i64 d.w, .int .i64 d.n, .int .u64 (d.u : Int), .string d.s]] W fun e w' => e = .returned (.tuple #[]) ∧ Tw w p q (stepD s d) (stepD s d) (0 + 48 * (k + 1)) w') := Lib.hid fun W hW => by
            refine (fine_2 ⟨hW.out.1, hW.out.2.1, hW.out.2.2.1, hW.out.2.2.2.1, hW.out.2.2.2.2⟩ (by omega) HDK.out).mono ?_
            rintro e w' ⟨rfl, hh⟩
            obtain ⟨z1, z2, _, _⟩ := fine_ok (s := s) (K := d.k) (W := d.w) (N := d.n) (U := d.u) (S := d.s) HT.out.2.1 (by have := HT.out.2.2.2.1; omega) HDK.out.u1
            have z3 : (stepD s d).1.length ≤ 0 + 48 * (k + 1) := by have := HT.out.2.2.2.1; unfold stepD; omega
            exact ⟨rfl, hh.1, hh.2.1, hh.2.2.1, z3, z3⟩
          go_wp2_with (first
            | (go_at_call 20; (with_reducible refine HF1.out.mono ?_); rintro e w4 ⟨rfl, h4⟩; obtain ⟨g5, g6, g7, g8, g9⟩ := HAT.out w4 h4.1.2; have H4 := Lib.hid h4; clear h4)
            | (go_at_call 20; (with_reducible refine (HF2.out _ H4).mono ?_); rintro e w5 ⟨rfl, h5⟩; have H5 := Lib.hid h5; clear h5))
          go_roundw
          case rel => exact ⟨k + 1, stepD s d, by omega, by omega, by go_num, H5⟩
          case measure => simp [intOf]; omega
        · obtain rfl : k = 30 := by omega
          go_wp2_with fail
          go_meet
          exact ⟨s, HT.out.mono (by omega)⟩
      · go_wp2_with fail
        go_meet
        exact ⟨s, HT.out.mono (by omega)⟩
  case rest =>
    obtain ⟨s, hs⟩ := hcut
    have HS := Lib.hid hs
    have HL : Hid (∀ W, Hid (Tw w p q s s 1440 W) → Calls Try.prog 16 #[.pointer (some ⟨p, 0, none⟩)] W fun e w' => e = .returned (.int .i64 (s.1.length : Int)) ∧ W = w') := Lib.hid fun W hW => len_U hW.out.1.left
    obtain ⟨sl, hsl⟩ : ∃ sl, sl = s.1.length := ⟨_, rfl⟩
    have HSL := Lib.hid hsl
    rw [← hsl] at HL
    clear hs hsl
    go_upto_block 2 with (go_at_call 16; (with_reducible refine (HL.out _ HS).mono ?_); rintro e w4 ⟨rfl, rfl⟩)
    go_cut [11] (fun s9 wx => ∃ t, Tw w p q s t 2880 wx ∧ ∃ ys, t.1 = s.1 ++ ys)
    case first =>
      go_wp2_with fail
      go_loopw [11] (fun i wr => ∃ (k : Nat) (t : St), k ≤ n1 ∧ k ≤ 30 ∧ i = .int .i64 k ∧ Hid (Tw w p q s t (1440 + 48 * k) wr) ∧ Hid (∃ ys, t.1 = s.1 ++ ys)) (fun i _ => 30 - (intOf i).toNat)
      case atStart => exact ⟨0, s, Nat.zero_le _, Nat.zero_le _, rfl, HS, ⟨[], by simp⟩⟩
      case round =>
        obtain ⟨k, t, hk, hk3, rfl, HT, HY⟩ := hrel
        by_cases hlt : k < n1
        · by_cases hlt3 : k < 30
          · obtain ⟨d, hd⟩ : ∃ d, l1[k]? = some d := ⟨_, List.getElem?_eq_getElem (by have := HN1.out; omega)⟩
            obtain ⟨b, off, rfl, hbl, hcell⟩ := HA1.out (by omega)
            have HDK := Lib.hid (HOK1.out d (List.mem_of_getElem? hd))
            obtain ⟨g0, g1, g2, g3, g4⟩ := (hcell k d hd).below HT.out.1.2 hbl
            have HBR := Lib.hid (bring_any d.k 5 wr HDK.out.k0 HDK.out.k1 (by omega) (by omega))
            have HF2 : Hid (Calls Try.prog 20 #[.pointer (some ⟨q, 0, none⟩), .agg #[.int .i64 d.k, .int .i64 d.w, .int .i64 d.n, .int .u64 (d.u : Int), .string d.s]] wr fun e w' => e = .returned (.tuple #[]) ∧ Tw w p q s (stepD t d) (1440 + 48 * k + 48) w') := Lib.hid (fine_2 HT.out (by omega) HDK.out)
            by_cases h3 : d.k % 5 = 3
            · rw [h3] at HBR
              clear hd hcell h3
              go_wp2_with (go_at_call 21; (with_reducible refine HBR.out.mono ?_); rintro e w4 ⟨rfl, rfl⟩)
              go_roundw
              case rel => exact ⟨k + 1, t, by omega, by omega, by go_num, Lib.hid (HT.out.mono (by omega)), HY⟩
              case measure => simp [intOf]; omega
            · have HY2 : Hid (∃ ys, (stepD t d).1 = s.1 ++ ys) := Lib.hid (by
                obtain ⟨_, _, _, z4⟩ := fine_ok (s := t) (K := d.k) (W := d.w) (N := d.n) (U := d.u) (S := d.s) HT.out.2.2.1 (by have := HT.out.2.2.2.2; omega) HDK.out.u1
                obtain ⟨y1, e1⟩ := z4 h3
                obtain ⟨y2, e2⟩ := HY.out
                exact ⟨y2 ++ y1, by unfold stepD; rw [e1, e2, List.append_assoc]⟩)
              obtain ⟨f, hf⟩ : ∃ f, d.k % 5 = f := ⟨_, rfl⟩
              rw [hf] at HBR h3
              have d3 : (f == 3) = false := by simpa using h3
              clear hd hcell h3 hf
              go_wp2_with (first
                | (go_at_call 21; (with_reducible refine HBR.out.mono ?_); rintro e w4 ⟨rfl, rfl⟩)
                | (go_at_call 20; (with_reducible refine HF2.out.mono ?_); rintro e w5 ⟨rfl, h5⟩; have H5 := Lib.hid h5; clear h5))
              go_roundw
              case rel => exact ⟨k + 1, stepD t d, by omega, by omega, by go_num, Lib.hid (H5.out.mono (by omega)), HY2⟩
              case measure => simp [intOf]; omega
          · obtain rfl : k = 30 := by omega
            go_wp2_with fail
            go_meet
            exact ⟨t, HT.out.mono (by omega), HY.out⟩
        · go_wp2_with fail
          go_meet
          exact ⟨t, HT.out.mono (by omega), HY.out⟩
    case rest =>
      obtain ⟨t, ht, hy⟩ := hcut
      have HC := Lib.hid (cut_2 ht hy (k := (sl : Int)) (by rw [HSL.out]))
      clear ht hy HS HL HSL
      go_upto_block 4 with (go_at_call 22; (with_reducible refine HC.out.mono ?_); rintro e w4 ⟨rfl, h4⟩; have H4 := Lib.hid h4; clear h4)
      go_cut [12] (fun s9 wx => ∃ u, Tw w p q u u 4320 wx)
      case first =>
        go_wp2_with fail
        go_loopw [12] (fun i wr => ∃ (k : Nat) (s : St), k ≤ n2 ∧ k ≤ 30 ∧ i = .int .i64 k ∧ Hid (Tw w p q s s (2880 + 48 * k) wr)) (fun i _ => 30 - (intOf i).toNat)
        case atStart => exact ⟨0, s, Nat.zero_le _, Nat.zero_le _, rfl, H4⟩
        case round =>
          obtain ⟨k, s, hk, hk3, rfl, HT⟩ := hrel
          by_cases hlt : k < n2
          · by_cases hlt3 : k < 30
            · obtain ⟨d, hd⟩ : ∃ d, l2[k]? = some d := ⟨_, List.getElem?_eq_getElem (by have := HN2.out; omega)⟩
              obtain ⟨b, off, rfl, hbl, hcell⟩ := HA2.out (by omega)
              have HAT : Hid (∀ W, Below w.heap.size w W → At5 W b (off + k * 5) d) := Lib.hid fun W hW => (hcell k d hd).below hW hbl
              have HDK := Lib.hid (HOK2.out d (List.mem_of_getElem? hd))
              obtain ⟨g0, g1, g2, g3, g4⟩ := HAT.out wr HT.out.1.2
              clear hd hcell
              have HF1 : Hid (Calls Try.prog 20 #[.pointer (some ⟨p, 0, none⟩), .agg #[.int .i64 d.k, .int .i64 d.w, .int .i64 d.n, .int .u64 (d.u : Int), .string d.s]] wr fun e w' => e = .returned (.tuple #[]) ∧ Tw w p q (stepD s d) s (2880 + 48 * k + 48) w') := Lib.hid (fine_1 HT.out (by omega) HDK.out)
              have HF2 : Hid (∀ W, Hid (Tw w p q (stepD s d) s (2880 + 48 * k + 48) W) → Calls Try.prog 20 #[.pointer (some ⟨q, 0, none⟩), .agg #[.int .i64 d.k, .int .i64 d.w, .int .i64 d.n, .int .u64 (d.u : Int), .string d.s]] W fun e w' => e = .returned (.tuple #[]) ∧ Tw w p q (stepD s d) (stepD s d) (2880 + 48 * (k + 1)) w') := Lib.hid fun W hW => by
                refine (fine_2 ⟨hW.out.1, hW.out.2.1, hW.out.2.2.1, hW.out.2.2.2.1, hW.out.2.2.2.2⟩ (by omega) HDK.out).mono ?_
                rintro e w' ⟨rfl, hh⟩
                obtain ⟨z1, z2, _, _⟩ := fine_ok (s := s) (K := d.k) (W := d.w) (N := d.n) (U := d.u) (S := d.s) HT.out.2.1 (by have := HT.out.2.2.2.1; omega) HDK.out.u1
                have z3 : (stepD s d).1.length ≤ 2880 + 48 * (k + 1) := by have := HT.out.2.2.2.1; unfold stepD; omega
                exact ⟨rfl, hh.1, hh.2.1, hh.2.2.1, z3, z3⟩
              go_wp2_with (first
                | (go_at_call 20; (with_reducible refine HF1.out.mono ?_); rintro e w4 ⟨rfl, h4⟩; obtain ⟨g5, g6, g7, g8, g9⟩ := HAT.out w4 h4.1.2; have H4 := Lib.hid h4; clear h4)
                | (go_at_call 20; (with_reducible refine (HF2.out _ H4).mono ?_); rintro e w5 ⟨rfl, h5⟩; have H5 := Lib.hid h5; clear h5))
              go_roundw
              case rel => exact ⟨k + 1, stepD s d, by omega, by omega, by go_num, H5⟩
              case measure => simp [intOf]; omega
            · obtain rfl : k = 30 := by omega
              go_wp2_with fail
              go_meet
              exact ⟨s, HT.out.mono (by omega)⟩
          · go_wp2_with fail
            go_meet
            exact ⟨s, HT.out.mono (by omega)⟩
      case rest =>
        obtain ⟨u, hu⟩ := hcut
        have HU := Lib.hid hu
        have hz := out_ok hu.2.1
        have HB1 := Lib.hid (bytes_U hu.1.left)
        have HB2 : Hid (∀ W, Hid (Tw w p q u u 4320 W) → Calls Try.prog 13 #[.pointer (some ⟨q, 0, none⟩)] W fun e w' => ∃ v' n, e = .returned (.tuple #[v', .int .i64 0]) ∧ w'.ownsRow W.heap.size 5 1 v' n (bv u.1) ∧ Below W.heap.size W w') := Lib.hid fun W hW => by
          have := bytes_U hW.out.1.right
          rw [hz, hW.out.2.1] at this
          exact this
        rw [hz, hu.2.1] at HB1
        clear hu hz
        have HEQ : Hid (∀ W x y, Rd W x u.1 → Rd W y u.1 → Calls Try.prog 15 #[x, y] W fun e w' => e = .returned (.bool true) ∧ W = w') := Lib.hid fun W x y h1 h2 => (eqBytes_any x y u.1 u.1 W h1 h2).mono fun _ _ ⟨h3, h4⟩ => ⟨by rw [h3]; simp, h4⟩
        have HWK := Lib.hid works_true
        go_wp2_with (first
          | (go_at_call 13; (with_reducible refine HB1.out.mono ?_); rintro e w5 ⟨x1, m1, rfl, ho5, hb5⟩; have HR5 := Lib.hid (Rd.of_own ho5); have H5 := Lib.hid (HU.out.below hb5); clear ho5 hb5)
          | (go_at_call 13; (with_reducible refine (HB2.out _ H5).mono ?_); rintro e w6 ⟨y1, m2, rfl, ho6, hb6⟩; have HR6 := Lib.hid (Rd.of_own ho6); have HX6 := Lib.hid (HR5.out.below hb6); have H6 := Lib.hid (H5.out.below hb6); clear ho6 hb6)
          | (go_at_call 15; (with_reducible refine (HEQ.out _ _ _ HX6.out HR6.out).mono ?_); rintro e w7 ⟨rfl, rfl⟩)
          | (go_at_call 19; (with_reducible refine (HWK.out _).mono ?_); rintro e w8 ⟨rfl, hb8⟩; have H8 := Lib.hid hb8; clear hb8))
        go_ret
        exact ⟨rfl, H6.out.1.2.trans (H8.out.mono H6.out.1.2.size)⟩
end Go.Proofs.Ytkcmpakcahemcaa
