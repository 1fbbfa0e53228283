/-
  What is proved here: contracts of (*strings.Builder).copyCheck and WriteByte at a builder that Grow has made, and of b64.putGroup; condition: at most 65536 bytes.
-/
import Derived.Test.YtddgmpmfdgfcdaaBits
namespace Go.Proofs.Ytddgmpmfdgfcdaa
open Go.RowKit Bs

/-- A builder in block b that has been used. -/
abbrev Bd (B b : Nat) (bs : List UInt8) (w : World) : Prop := Lib.BuilderAt 40 5 B b (.pointer (some ⟨b, 0, none⟩)) (bv bs) w
theorem copyCheck_any (B b : Nat) (bs : List UInt8) (w : World) (h : Bd B b bs w) :
    Calls Try.prog 29 #[.pointer (some ⟨b, 0, none⟩)] w fun e w' => e = .returned (.tuple #[]) ∧ w = w' := by
  have c0 := h.cell0
  clear h
  obtain ⟨j, hj, _⟩ := Option.map_eq_some_iff.1 Try.Builder_Extra_165.sizeBuilder
  have hn := Lib.run_neq_ptr_same (P := Try.prog) w ⟨b, 0, none⟩ Try.underlying38 hj
  have HN := Lib.hid hn
  clear hn hj
  go_enter Try.func29, Try.ntmps29
  go_wp2
  rw [HN.out]
  go_wp2
  go_end0
  exact ⟨rfl, rfl⟩
set_option maxRecDepth 100000 in
theorem writeByte_any (B b : Nat) (bs : List UInt8) (c : UInt8) (w : World) (h : Bd B b bs w) (hl : bs.length ≤ 65536) (hBw : B ≤ w.heap.size) :
    Calls Try.prog 31 #[.pointer (some ⟨b, 0, none⟩), .int .u8 (c.toNat : Int)] w fun e w' => e = .returned .nilIface ∧ Bd B b (bs ++ [c]) w' ∧ Below B w w' := by
  obtain ⟨i0, hi, hz0, hz1, hz2⟩ := info_parts Try.infoU8
  have HC := Lib.hid (copyCheck_any B b bs w h)
  obtain ⟨hB, v, hbk, hown, hne⟩ := h
  have c0 : w.cell? ⟨b, 0, none⟩ = some (.pointer (some ⟨b, 0, none⟩)) := by rw [Lib.cell_of_heap hbk]; rfl
  have c1 : w.cell? ⟨b, 1, none⟩ = some v := by rw [Lib.cell_of_heap hbk]; rfl
  go_enter Try.func31, Try.ntmps31
  go_wp2_with (first
    | (go_at_call 29; refine HC.out.mono ?_; rintro e w1 ⟨rfl, rfl⟩)
    | (at_builtin; refine wpList_append_own _ rfl _ _ 22 rfl B 5 i0 (.int .u8 0) 1 1 Try.underlying22 hi hz0 hz1 hz2 rfl (by decide) _ _ _ rfl (hown.alloc _) ⟨w.heap.size, 0, none⟩ 1 1 [.int .u8 (c.toNat : Int)] rfl rfl ?c1 ?c2 ?c3 ?c4 ?c5 ?_))
  case c1 =>
    intro j u hj
    match j, hj with
    | 0, hj => simp at hj; subst hj; simp [Addr.add]
  case c2 => intro u hu; simp at hu; subst hu; rfl
  case c3 => have := bv_length bs; unfold maxLen; omega
  case c4 => have := bv_length bs; omega
  case c5 => simp; omega
  intro v' w2 hown' hgrow _
  have hlt : b < w.heap.size := by
    rcases Nat.lt_or_ge b w.heap.size with h' | h'
    · exact h'
    · simp [Array.getElem?_eq_none h'] at hbk
  have hb2 : w2.heap[b]? = some (.cells #[.pointer (some ⟨b, 0, none⟩), v] 40 (0, 0)) := by
    rw [hgrow.block b (by simp; omega) (fun e => hne e.symm), Lib.alloc_old w _ b hlt]
    exact hbk
  have d0 : w2.cell? ⟨b, 0, none⟩ = some (.pointer (some ⟨b, 0, none⟩)) := by rw [Lib.cell_of_heap hb2]; rfl
  have d1 : w2.cell? ⟨b, 1, none⟩ = some v := by rw [Lib.cell_of_heap hb2]; rfl
  have f1 : w2.frozen? ⟨b, 1, none⟩ = false := Lib.frozen_of_heap hb2 1
  obtain ⟨g, cap, rfl⟩ : ∃ g cap, v' = .slice (some ⟨g, 0, none⟩) ((bv bs).length + 1) cap := by
    rcases hown'.2 with ⟨_, h0⟩ | ⟨g, cap, cur, hv, _⟩
    · omega
    · exact ⟨g, cap, hv⟩
  go_wp2
  go_ret
  refine ⟨rfl, ?_, ?_⟩
  · have := Lib.BuilderAt.put (T := 40) (e := 5) hB hb2 (bs' := bv bs ++ [.int .u8 (c.toNat : Int)]) (by simpa using hown') (by decide)
    rwa [show bv bs ++ [.int .u8 (c.toNat : Int)] = bv (bs ++ [c]) by simp [bv]] at this
  · exact (((Below.refl B w).alloc hBw _).grown hgrow (by simp; omega) (fun k hk => (hown.lt k hk).1)).setCell (p := ⟨b, 1, none⟩) hB _

/-- The bits of up to three bytes. -/
def btp (xs : List UInt8) : Nat := (xs.getD 0 0).toNat * 16777216 + (xs.getD 1 0).toNat * 65536 + (xs.getD 2 0).toNat * 256
theorem utake_getD (xs : List UInt8) (k j : Nat) : (xs.take k).getD j 0 = if j < k then xs.getD j 0 else 0 := by
  rw [List.getD_eq_getElem?_getD, List.getElem?_take]
  split <;> simp [List.getD_eq_getElem?_getD]
theorem utake_in {vs : List UInt8} {k j : Nat} (h : j < k) : (vs.take k).getD j 0 = vs.getD j 0 := by rw [utake_getD, if_pos h]
theorem utake_out {vs : List UInt8} {k j : Nat} (h : k ≤ j) : (vs.take k).getD j 0 = 0 := by rw [utake_getD, if_neg (by omega)]
theorem z8 : (0 : UInt8).toNat = 0 := rfl
theorem psum0 : 0 * 16777216 + 0 * 65536 + 0 * 256 = 0 := by omega
theorem psum1 (a : Nat) : a * 16777216 + 0 * 65536 + 0 * 256 = a * 16777216 := by omega
theorem psum2 (a b : Nat) : a * 16777216 + b * 65536 + 0 * 256 = a * 16777216 + b * 65536 := by omega
theorem btp_t0 (xs : List UInt8) : btp (xs.take 0) = 0 := by
  unfold btp
  rw [utake_out (by decide), utake_out (by decide), utake_out (by decide), z8, psum0]
theorem btp_t1 (xs : List UInt8) : btp (xs.take 1) = (xs.getD 0 0).toNat * 16777216 := by
  unfold btp
  rw [utake_in (by decide), utake_out (by decide), utake_out (by decide), z8, psum1]
theorem btp_t2 (xs : List UInt8) : btp (xs.take 2) = (xs.getD 0 0).toNat * 16777216 + (xs.getD 1 0).toNat * 65536 := by
  unfold btp
  rw [utake_in (by decide), utake_in (by decide), utake_out (by decide), z8, psum2]
theorem btp_t3 (xs : List UInt8) : btp (xs.take 3) = (xs.getD 0 0).toNat * 16777216 + (xs.getD 1 0).toNat * 65536 + (xs.getD 2 0).toNat * 256 := by
  unfold btp
  rw [utake_in (by decide), utake_in (by decide), utake_in (by decide)]
theorem btp_0 (xs : List UInt8) : Value.int .u32 0 = Value.int .u32 (btp (xs.take 0) : Nat) := by rw [btp_t0]; rfl
theorem or_hi8 (a v k : Nat) (h : v < 256) (m : Nat) (ha : a = m * 2 ^ (k + 8)) : a ||| (v * 2 ^ k) = a + v * 2 ^ k := by
  subst ha
  have h2 : v * 2 ^ k < 2 ^ (k + 8) := by
    rw [Nat.pow_add, Nat.mul_comm (2 ^ k)]
    exact Nat.mul_lt_mul_of_pos_right (by omega) (Nat.pow_pos (by omega))
  rw [Nat.mul_comm m, ← Nat.two_pow_add_eq_or_of_lt h2]
theorem bits_key8 {B v j m n p q : Nat} (hp : 2 ^ j = p) (hq : 2 ^ (j + 8) = q) (h : v < 256) (hm : B = m * q) (hlt : B + v * p < 4294967296) (he : n = B + v * p) :
    Go.bits .or .u32 (B : Int) ((v : Int) % 4294967296 * 2 ^ j % 4294967296) = (n : Int) := by
  subst hp hq
  rw [he, ← or_hi8 B v j h m hm]
  have e0 : (v : Int) % 4294967296 = (v : Int) := by omega
  have e1 : ((v : Int) * 2 ^ j) = ((v * 2 ^ j : Nat) : Int) := by simp
  rw [e0]
  generalize v * 2 ^ j = x at e1 hlt ⊢
  have e2 : (x : Int) % 4294967296 = (x : Int) := by omega
  rw [e1, e2, u32_or_nat _ _ (by omega) (by omega)]
theorem plt0 {v : Nat} (h : v < 256) : 0 + v * 16777216 < 4294967296 := by omega
theorem plt1 {a B v : Nat} (ha : a < 256) (hB : a * 16777216 = B) (h : v < 256) : B + v * 65536 < 4294967296 := by subst hB; omega
theorem plt2 {a b B v : Nat} (ha : a < 256) (hb : b < 256) (hB : a * 16777216 + b * 65536 = B) (h : v < 256) : B + v * 256 < 4294967296 := by subst hB; omega
theorem pm2 {a b B : Nat} (hB : a * 16777216 + b * 65536 = B) : B = (a * 256 + b) * 65536 := by rw [← hB]; omega
theorem btp_round {B k : Nat} {xs : List UInt8} {x : UInt8} (hB : btp (xs.take k) = B) (hx : xs[k]? = some x) (hk : k < 3) :
    Go.bits .or .u32 (B : Int) ((x.toNat : Int) % 4294967296 * 2 ^ (24 - 8 * k) % 4294967296) = ((btp (xs.take (k + 1)) : Nat) : Int) := by
  have hxk : xs.getD k 0 = x := by rw [List.getD_eq_getElem?_getD, hx]; rfl
  have h := lt256 x
  have h0 := lt256 (xs.getD 0 0)
  have h1 := lt256 (xs.getD 1 0)
  have hk' : k = 0 ∨ k = 1 ∨ k = 2 := by omega
  rcases hk' with rfl | rfl | rfl
  · rw [btp_t0] at hB
    subst hB
    rw [show 24 - 8 * 0 = 24 by decide, show 0 + 1 = 1 by decide, btp_t1, hxk]
    exact bits_key8 (j := 24) (m := 0) (p := 16777216) (q := 4294967296) (by decide) (by decide) h rfl (plt0 h) (by rw [Nat.zero_add])
  · rw [btp_t1] at hB
    rw [show 24 - 8 * 1 = 16 by decide, show 1 + 1 = 2 by decide, btp_t2, hxk]
    exact bits_key8 (j := 16) (m := (xs.getD 0 0).toNat) (p := 65536) (q := 16777216) (by decide) (by decide) h hB.symm (plt1 h0 hB h) (by rw [hB])
  · rw [btp_t2] at hB
    rw [show 24 - 8 * 2 = 8 by decide, show 2 + 1 = 3 by decide, btp_t3, hxk]
    exact bits_key8 (j := 8) (m := (xs.getD 0 0).toNat * 256 + (xs.getD 1 0).toNat) (p := 256) (q := 65536) (by decide) (by decide) h (pm2 hB) (plt2 h0 h1 hB h) (by rw [hB])
/-- The numbers of the characters of a group. -/
def chN (xs : List UInt8) (k : Nat) : Nat := btp xs * 2 ^ (6 * k) % 4294967296 / 67108864
theorem chN_lt (xs : List UInt8) (k : Nat) : chN xs k < 64 := by unfold chN; omega
theorem ch0 {a b c : Nat} (_ha : a < 256) (_hb : b < 256) (_hc : c < 256) : (a * 16777216 + b * 65536 + c * 256) * 1 % 4294967296 / 67108864 = a / 4 := by omega
theorem ch1 {a b c : Nat} (_ha : a < 256) (_hb : b < 256) (_hc : c < 256) : (a * 16777216 + b * 65536 + c * 256) * 64 % 4294967296 / 67108864 = a % 4 * 16 + b / 16 := by omega
theorem ch2 {a b c : Nat} (_ha : a < 256) (_hb : b < 256) (_hc : c < 256) : (a * 16777216 + b * 65536 + c * 256) * 4096 % 4294967296 / 67108864 = b % 16 * 4 + c / 64 := by omega
theorem ch3 {a b c : Nat} (_ha : a < 256) (_hb : b < 256) (_hc : c < 256) : (a * 16777216 + b * 65536 + c * 256) * 262144 % 4294967296 / 67108864 = c % 64 := by omega
theorem p0 : (2 : Nat) ^ (6 * 0) = 1 := by decide
theorem p1 : (2 : Nat) ^ (6 * 1) = 64 := by decide
theorem p2 : (2 : Nat) ^ (6 * 2) = 4096 := by decide
theorem p3 : (2 : Nat) ^ (6 * 3) = 262144 := by decide
theorem chN_0 (xs : List UInt8) : chN xs 0 = (xs.getD 0 0).toNat / 4 := by unfold chN btp; rw [p0, ch0 (lt256 _) (lt256 _) (lt256 _)]
theorem chN_1 (xs : List UInt8) : chN xs 1 = (xs.getD 0 0).toNat % 4 * 16 + (xs.getD 1 0).toNat / 16 := by unfold chN btp; rw [p1, ch1 (lt256 _) (lt256 _) (lt256 _)]
theorem chN_2 (xs : List UInt8) : chN xs 2 = (xs.getD 1 0).toNat % 16 * 4 + (xs.getD 2 0).toNat / 64 := by unfold chN btp; rw [p2, ch2 (lt256 _) (lt256 _) (lt256 _)]
theorem chN_3 (xs : List UInt8) : chN xs 3 = (xs.getD 2 0).toNat % 64 := by unfold chN btp; rw [p3, ch3 (lt256 _) (lt256 _) (lt256 _)]
/-- The characters of a group. -/
theorem enc_chr {xs : List UInt8} {k : Nat} (h0 : 0 < xs.length) (h3 : xs.length ≤ 3) (hk : k < 4) : (enc xs)[k]? = some (if k ≤ xs.length then al (chN xs k) else 61) := by
  have hk' : k = 0 ∨ k = 1 ∨ k = 2 ∨ k = 3 := by omega
  match xs, h0, h3 with
  | [a], _, _ =>
    rcases hk' with rfl | rfl | rfl | rfl
    · rw [chN_0]; rfl
    · rw [chN_1]; simp [enc, g1]
    · rfl
    · rfl
  | [a, b], _, _ =>
    rcases hk' with rfl | rfl | rfl | rfl
    · rw [chN_0]; rfl
    · rw [chN_1]; rfl
    · rw [chN_2]; simp [enc, g2]
    · rfl
  | [a, b, c], _, _ =>
    rcases hk' with rfl | rfl | rfl | rfl
    · rw [chN_0]; rfl
    · rw [chN_1]; rfl
    · rw [chN_2]; rfl
    · rw [chN_3]; rfl
theorem enc_four {xs : List UInt8} (h0 : 0 < xs.length) (h3 : xs.length ≤ 3) : (enc xs).length = 4 := by rw [enc_len]; omega
theorem alpha_get : ∀ v : Fin 64, alphaS.data.toList[v.val]? = some (al v.val) := by decide +kernel
theorem alpha_at (z : Int) (v : Nat) (hz : z.toNat = v) (hv : v < 64) (h : z.toNat < alphaS.size) : alphaS[z.toNat]'h = al v := by
  subst hz
  have h1 := alpha_get ⟨z.toNat, hv⟩
  rw [List.getElem?_eq_some_iff] at h1
  obtain ⟨_, h1⟩ := h1
  exact h1
theorem chN_int {Z j : Nat} {xs : List UInt8} (h : btp xs = Z) : ((Z : Int) * 2 ^ (6 * j) % 4294967296 / 67108864).toNat = chN xs j := by
  subst h
  unfold chN
  have e : ((btp xs : Nat) : Int) * 2 ^ (6 * j) = ((btp xs * 2 ^ (6 * j) : Nat) : Int) := by simp
  rw [e]
  generalize btp xs * 2 ^ (6 * j) = y
  omega
set_option maxHeartbeats 4000000 in
set_option maxRecDepth 100000 in
theorem putGroup_any (B b : Nat) (bs : List UInt8) (A : Option Addr) (n c : Nat) (xs : List UInt8) (w : World) (h : Bd B b bs w) (hl : bs.length ≤ 60000) (hBw : B ≤ w.heap.size) (hr : Rds w A n c xs) (hn0 : 0 < n) (hn3 : n ≤ 3) :
    Calls Try.prog 24 #[.pointer (some ⟨b, 0, none⟩), .slice A n c] w fun e w' => e = .returned (.tuple #[]) ∧ Bd B b (bs ++ enc xs) w' ∧ Below B w w' := by
  obtain ⟨g, off, rfl, hg, hc⟩ := hr.2.2 hn0
  have hxn := hr.1
  have HC := Lib.hid hc
  have HX := Lib.hid hxn
  have HB := Lib.hid h
  clear hc hxn h hr hg
  go_enter Try.func24, Try.ntmps24
  go_wp2
  go_loop [4, 10] (fun b i => ∃ k : Nat, k ≤ n ∧ i = .int .i64 k ∧ b = .int .u32 (btp (xs.take k) : Nat)) (fun _ i => 5 - (intOf i).toNat)
  case atStart => exact ⟨0, Nat.zero_le _, rfl, btp_0 xs⟩
  case round =>
    obtain ⟨k, hk, rfl, rfl⟩ := hrel
    by_cases hlt : k < n
    · have hk4 : k < 3 := by omega
      obtain ⟨x, hx⟩ : ∃ x, xs[k]? = some x := ⟨_, List.getElem?_eq_getElem (by rw [HX.out]; exact hlt)⟩
      have hcell := HC.out k x hx
      have HX2 := Lib.hid hx
      clear hx
      obtain ⟨B, hB⟩ : ∃ B, btp (xs.take k) = B := ⟨_, rfl⟩
      have HBB := Lib.hid hB
      rw [hB]
      clear hB
      go_wp2
      go_round
      case rel => exact ⟨k + 1, by omega, by go_num, by rw [btp_round HBB.out HX2.out hk4]⟩
      case measure => simp [intOf]; omega
    · have hkn : k = n := by omega
      subst hkn
      rw [List.take_of_length_le (by rw [HX.out]; omega)]
      clear hlt hk
      obtain ⟨Z, hZ⟩ : ∃ Z, btp xs = Z := ⟨_, rfl⟩
      have HZ := Lib.hid hZ
      rw [hZ]
      clear hZ
      go_wp2
      go_loopw [24] (fun i wr => ∃ j : Nat, j ≤ 4 ∧ i = .int .i64 j ∧ Hid (Bd B b (bs ++ (enc xs).take j) wr) ∧ Hid (Below B w wr)) (fun i _ => 5 - (intOf i).toNat)
      case atStart => exact ⟨0, by omega, rfl, by simpa [Hid] using HB, Below.refl _ _⟩
      case round =>
        obtain ⟨j, hj, rfl, HD, HW⟩ := hrel
        by_cases hj4 : j < 4
        · have hch := enc_chr (xs := xs) (k := j) (by rw [HX.out]; omega) (by rw [HX.out]; omega) hj4
          by_cases hjk : j ≤ k
          · have hal := fun (h : ((Z : Int) * 2 ^ (6 * j) % 4294967296 / 67108864).toNat < alphaS.size) => alpha_at _ _ (chN_int (j := j) HZ.out) (chN_lt xs j) h
            have HAL := Lib.hid (show ∀ h, (⟨#[65, 66, 67, 68, 69, 70, 71, 72, 73, 74, 75, 76, 77, 78, 79, 80, 81, 82, 83, 84, 85, 86, 87, 88, 89, 90, 97, 98, 99, 100, 101, 102, 103, 104, 105, 106, 107, 108, 109, 110, 111, 112, 113, 114, 115, 116, 117, 118, 119, 120, 121, 122, 48, 49, 50, 51, 52, 53, 54, 55, 56, 57, 43, 47]⟩ : ByteArray)[((Z : Int) * 2 ^ (6 * j) % 4294967296 / 67108864).toNat]'h = al (chN xs j) from hal)
            obtain ⟨ch, hche⟩ : ∃ ch, al (chN xs j) = ch := ⟨_, rfl⟩
            rw [hche] at HAL
            have HCE := Lib.hid hche
            have HCH := Lib.hid hch
            clear hal hche hch
            go_wp2_with (go_at_call 31; rw [HAL.out]; (with_reducible refine (writeByte_any B b _ ch wr HD.out (by rw [List.length_append, List.length_take]; omega) (Nat.le_trans hBw HW.out.size)).mono ?_); rintro e w' ⟨rfl, hD, hB⟩)
            go_roundw
            case rel =>
              refine ⟨j + 1, by omega, by go_num, ?_, HW.out.trans hB⟩
              have hch := HCH.out
              rw [if_pos (by rw [HX.out]; omega), HCE.out] at hch
              rw [List.append_assoc] at hD
              rw [List.take_add_one, hch]
              exact hD
            case measure => simp [intOf]; omega
          · go_wp2_with (go_at_call 31; refine (writeByte_any B b _ 61 wr HD.out (by rw [List.length_append, List.length_take]; omega) (Nat.le_trans hBw HW.out.size)).mono ?_; rintro e w' ⟨rfl, hD, hB⟩)
            go_roundw
            case rel =>
              refine ⟨j + 1, by omega, by go_num, ?_, HW.out.trans hB⟩
              rw [if_neg (by rw [HX.out]; omega)] at hch
              rw [List.append_assoc] at hD
              rw [List.take_add_one, hch]
              exact hD
            case measure => simp [intOf]; omega
        · have h4 : j = 4 := by omega
          subst h4
          have he := enc_four (xs := xs) (by rw [HX.out]; omega) (by rw [HX.out]; omega)
          have hD := HD.out
          rw [List.take_of_length_le (by omega)] at hD
          have HDD := Lib.hid hD
          clear hD he HD
          go_wp2
          go_end0
          exact ⟨rfl, HDD.out, HW.out⟩
end Go.Proofs.Ytddgmpmfdgfcdaa
