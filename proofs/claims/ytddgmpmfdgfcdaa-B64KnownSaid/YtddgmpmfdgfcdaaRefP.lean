/-
  What is proved here: the contract of the reference's Put; condition: at most 10000 bytes.
-/
import Derived.Test.YtddgmpmfdgfcdaaRefB
namespace Go.Proofs.Ytddgmpmfdgfcdaa
open Go.RowKit Bs

/-- Six bits a character. -/
def v6 (l : List Int) : Int := 32 * l.getD 0 0 + 16 * l.getD 1 0 + 8 * l.getD 2 0 + 4 * l.getD 3 0 + 2 * l.getD 4 0 + l.getD 5 0
def ch6 : Nat → List Int → List UInt8
  | 0, _ => []
  | m + 1, l => al (v6 l).toNat :: ch6 m (l.drop 6)
theorem ch6_len : ∀ (m : Nat) (l : List Int), (ch6 m l).length = m
  | 0, _ => rfl
  | m + 1, l => by simp [ch6, ch6_len m]
theorem ch6_at : ∀ (m t : Nat) (l : List Int), t < m → (ch6 m l)[t]? = some (al (v6 (l.drop (6 * t))).toNat)
  | m + 1, 0, l, _ => by simp [ch6]
  | m + 1, t + 1, l, h => by
    have ih := ch6_at m t (l.drop 6) (by omega)
    simp only [ch6, List.getElem?_cons_succ, ih, List.drop_drop]
    rw [show 6 + 6 * t = 6 * (t + 1) by omega]
theorem ch6_app : ∀ (m : Nat) (l r : List Int), l.length = 6 * m → ∀ k, ch6 (m + k) (l ++ r) = ch6 m l ++ ch6 k r
  | 0, l, r, h, k => by
    have : l = [] := List.eq_nil_of_length_eq_zero (by omega)
    subst this
    simp [ch6]
  | m + 1, l, r, h, k => by
    have ih := ch6_app m (l.drop 6) r (by rw [List.length_drop]; omega) k
    have e : v6 (l ++ r) = v6 l := by
      unfold v6
      simp only [List.getD_eq_getElem?_getD]
      rw [List.getElem?_append_left (by omega), List.getElem?_append_left (by omega), List.getElem?_append_left (by omega), List.getElem?_append_left (by omega), List.getElem?_append_left (by omega), List.getElem?_append_left (by omega)]
    rw [show m + 1 + k = (m + k) + 1 by omega]
    simp only [ch6, e, List.cons_append]
    rw [List.drop_append_of_le_length (by omega), ih]
theorem n0 {a : Nat} (_h : a < 256) : (32 * ((a / 128 % 2 : Nat) : Int) + 16 * ((a / 64 % 2 : Nat) : Int) + 8 * ((a / 32 % 2 : Nat) : Int) + 4 * ((a / 16 % 2 : Nat) : Int) + 2 * ((a / 8 % 2 : Nat) : Int) + ((a / 4 % 2 : Nat) : Int)).toNat = a / 4 := by omega
theorem n1 {a b : Nat} (_h : a < 256) (_h2 : b < 256) : (32 * ((a / 2 % 2 : Nat) : Int) + 16 * ((a % 2 : Nat) : Int) + 8 * ((b / 128 % 2 : Nat) : Int) + 4 * ((b / 64 % 2 : Nat) : Int) + 2 * ((b / 32 % 2 : Nat) : Int) + ((b / 16 % 2 : Nat) : Int)).toNat = a % 4 * 16 + b / 16 := by omega
theorem n2 {b c : Nat} (_h : b < 256) (_h2 : c < 256) : (32 * ((b / 8 % 2 : Nat) : Int) + 16 * ((b / 4 % 2 : Nat) : Int) + 8 * ((b / 2 % 2 : Nat) : Int) + 4 * ((b % 2 : Nat) : Int) + 2 * ((c / 128 % 2 : Nat) : Int) + ((c / 64 % 2 : Nat) : Int)).toNat = b % 16 * 4 + c / 64 := by omega
theorem n3 {c : Nat} (_h : c < 256) : (32 * ((c / 32 % 2 : Nat) : Int) + 16 * ((c / 16 % 2 : Nat) : Int) + 8 * ((c / 8 % 2 : Nat) : Int) + 4 * ((c / 4 % 2 : Nat) : Int) + 2 * ((c / 2 % 2 : Nat) : Int) + ((c % 2 : Nat) : Int)).toNat = c % 64 := by omega
theorem n1' {a : Nat} (_h : a < 256) : (32 * ((a / 2 % 2 : Nat) : Int) + 16 * ((a % 2 : Nat) : Int) + 8 * 0 + 4 * 0 + 2 * 0 + 0).toNat = a % 4 * 16 := by omega
theorem n2' {b : Nat} (_h : b < 256) : (32 * ((b / 8 % 2 : Nat) : Int) + 16 * ((b / 4 % 2 : Nat) : Int) + 8 * ((b / 2 % 2 : Nat) : Int) + 4 * ((b % 2 : Nat) : Int) + 2 * 0 + 0).toNat = b % 16 * 4 := by omega
/-- Zero bits behind, and signs behind. -/
def zs (n : Nat) : Nat := (6 - 8 * n % 6) % 6
def eqs (m : Nat) : Nat := (4 - m % 4) % 4
theorem enc_bits : ∀ xs : List UInt8, enc xs = ch6 ((8 * xs.length + zs xs.length) / 6) (bitsL xs ++ List.replicate (zs xs.length) 0) ++ List.replicate (eqs ((8 * xs.length + zs xs.length) / 6)) 61
  | [] => rfl
  | [a] => by
    have e : bitsL [a] ++ List.replicate 4 0 = bitsB a.toNat ++ [0, 0, 0, 0] := by simp [bitsL, List.replicate]
    rw [show ([a] : List UInt8).length = 1 from rfl, show zs 1 = 4 by decide, show (8 * 1 + 4) / 6 = 2 by decide, show eqs 2 = 2 by decide, e, show List.replicate 2 (61 : UInt8) = [61, 61] from rfl]
    have h := lt256 a
    simp only [enc, g1, ch6, bitsB, v6, List.cons_append, List.nil_append, List.getD_cons_zero, List.getD_cons_succ, List.drop_succ_cons, List.drop_zero]
    rw [n0 h, n1' h]
  | [a, b] => by
    have e : bitsL [a, b] ++ List.replicate 2 0 = bitsB a.toNat ++ (bitsB b.toNat ++ [0, 0]) := by simp [bitsL, List.replicate]
    rw [show ([a, b] : List UInt8).length = 2 from rfl, show zs 2 = 2 by decide, show (8 * 2 + 2) / 6 = 3 by decide, show eqs 3 = 1 by decide, e, show List.replicate 1 (61 : UInt8) = [61] from rfl]
    have h := lt256 a
    have h2 := lt256 b
    simp only [enc, g2, ch6, bitsB, v6, List.cons_append, List.nil_append, List.getD_cons_zero, List.getD_cons_succ, List.drop_succ_cons, List.drop_zero]
    rw [n0 h, n1 h h2, n2' h2]
  | a :: b :: c :: t => by
    have ih := enc_bits t
    have hz : zs (t.length + 3) = zs t.length := by unfold zs; omega
    have hl : (8 * (t.length + 3) + zs t.length) / 6 = 4 + (8 * t.length + zs t.length) / 6 := by omega
    have e : bitsL (a :: b :: c :: t) = (bitsB a.toNat ++ bitsB b.toNat ++ bitsB c.toNat) ++ bitsL t := by simp [bitsL]
    have he : eqs (4 + (8 * t.length + zs t.length) / 6) = eqs ((8 * t.length + zs t.length) / 6) := by unfold eqs; omega
    rw [show (a :: b :: c :: t).length = t.length + 3 from rfl, hz, hl, he, e, List.append_assoc, ch6_app 4 _ _ (by simp [bitsB])]
    have h := lt256 a
    have h2 := lt256 b
    have h3 := lt256 c
    simp only [enc, g3, ch6, bitsB, v6, List.cons_append, List.nil_append, List.getD_cons_zero, List.getD_cons_succ, List.drop_succ_cons, List.drop_zero]
    rw [n0 h, n1 h h2, n2 h2 h3, n3 h3, ih]
def pv (l : List Int) : Nat → Int
  | 0 => 0
  | q + 1 => 2 * pv l q + l.getD q 0
theorem pv6 (l : List Int) : pv l 6 = v6 l := by unfold v6; simp only [pv]; omega
def bit01 (l : List Int) : Prop := ∀ j, 0 ≤ l.getD j 0 ∧ l.getD j 0 ≤ 1
theorem pv_lt {l : List Int} (h : bit01 l) : ∀ q, 0 ≤ pv l q ∧ pv l q < 2 ^ q
  | 0 => by simp [pv]
  | q + 1 => by
    have ih := pv_lt h q
    have hq := h q
    simp only [pv, Int.pow_succ]
    omega
theorem bitsL_01 (xs : List UInt8) (z : Nat) (x : Int) (h : x ∈ bitsL xs ++ List.replicate z 0) : 0 ≤ x ∧ x ≤ 1 := by
  rw [List.mem_append] at h
  rcases h with h | h
  · unfold bitsL at h
    rw [List.mem_flatMap] at h
    obtain ⟨c, _, hx⟩ := h
    simp only [bitsB, List.mem_cons, List.not_mem_nil, or_false] at hx
    rcases hx with rfl | rfl | rfl | rfl | rfl | rfl | rfl | rfl <;> omega
  · rw [List.mem_replicate] at h
    omega
theorem bit01_of {l : List Int} (h : ∀ x ∈ l, 0 ≤ x ∧ x ≤ 1) (k : Nat) : bit01 (l.drop k) := by
  intro j
  rw [List.getD_eq_getElem?_getD, List.getElem?_drop]
  rcases hx : l[k + j]? with _ | x
  · simp
  · exact h x (List.mem_of_getElem? hx)
theorem sign_at (v : Nat) (h : v < 64) : alphaS.extract v (v + 1) = str [al v] := by
  have : ∀ m : Fin 64, alphaS.extract m.val (m.val + 1) = str [al m.val] := by decide +kernel
  exact this ⟨v, h⟩
theorem str_cat (a b : List UInt8) : str a ++ str b = str (a ++ b) := by
  unfold str
  apply ByteArray.ext
  simp
def lnOf : Value → Nat
  | .slice _ n _ => n
  | _ => 0
theorem ownI_shape {w : World} {B : Nat} {v : Value} {xs : List Int} (h : OwnI w B v xs) : ∃ A c, v = .slice A xs.length c := by
  rcases h.2 with ⟨rfl, h0⟩ | ⟨g, cap, cur, rfl, _⟩
  · exact ⟨none, 0, by rw [h0]⟩
  · exact ⟨_, cap, rfl⟩
set_option maxHeartbeats 8000000 in
set_option maxRecDepth 100000 in
theorem refPut_any (A : Option Addr) (n c : Nat) (xs : List UInt8) (w : World) (hr : Rds w A n c xs) (hn : n ≤ 1000) :
    Calls Try.prog 13 #[.slice A n c] w fun e w' => e = .returned (.string (str (enc xs))) ∧ Below w.heap.size w w' := by
  have hxn := hr.1
  have HENC := Lib.hid (enc_bits xs)
  have HBI := Lib.hid (bits_any A n c xs w hr (by omega))
  have hbl := bitsL_len xs
  rw [hxn] at hbl
  rw [hxn] at HENC
  obtain ⟨Z, hZ⟩ : ∃ Z, zs n = Z := ⟨_, rfl⟩
  obtain ⟨M, hM⟩ : ∃ M, (8 * n + zs n) / 6 = M := ⟨_, rfl⟩
  obtain ⟨E, hE⟩ : ∃ E, eqs M = E := ⟨_, rfl⟩
  have h6 : 8 * n + Z = 6 * M := by rw [← hM, ← hZ]; unfold zs; omega
  have hZ5 : Z ≤ 5 := by rw [← hZ]; unfold zs; omega
  have hE3 : (M + E) % 4 = 0 ∧ E ≤ 3 := by rw [← hE]; unfold eqs; omega
  rw [hM, hZ, hE] at HENC
  have HBL := Lib.hid hbl
  have H6 := Lib.hid h6
  have HE3 := Lib.hid hE3
  clear hr hxn hbl hZ hM hE h6 hE3
  go_enter Try.func13, Try.ntmps13
  go_wp2_with (go_at_call 26; refine HBI.out.mono ?_; rintro e w1 ⟨v1, rfl, ho, hb⟩; obtain ⟨A1, c1, rfl⟩ := ownI_shape ho; have HO := Lib.hid ho; have HB := Lib.hid hb; clear ho hb)
  go_loopw [3] (fun v wr => ∃ (m : Nat) (A' : Option Addr) (c' : Nat), 8 * n ≤ m ∧ m ≤ 8 * n + Z ∧ v = .slice A' m c' ∧ Hid (OwnI wr w.heap.size v (bitsL xs ++ List.replicate (m - 8 * n) 0)) ∧ Hid (Below w.heap.size w wr)) (fun v _ => 8 * n + Z + 1 - lnOf v)
  case atStart => exact ⟨8 * n, A1, c1, Nat.le_refl _, by omega, by rw [HBL.out], by simpa [Hid] using HO, HB⟩
  case round =>
    obtain ⟨m, A', c', hm1, hm2, rfl, HO, HB⟩ := hrel
    have hml : (bitsL xs ++ List.replicate (m - 8 * n) (0 : Int)).length = m := by rw [List.length_append, HBL.out, List.length_replicate]; omega
    have HML := Lib.hid hml
    clear hml
    by_cases hlt : m < 8 * n + Z
    · have d1 : ((m : Int) % 6 == 0) = false := by rw [Bool.eq_false_iff, ne_eq, beq_iff_eq]; have := H6.out; omega
      go_wp2_with (at_builtin; refine wpList_one rfl _ _ rfl rfl rfl HO.out (by rw [HML.out]; omega) HB.out.size ?_; intro v2 w2 ho2 hb2; obtain ⟨A2, c2, hv⟩ := ownI_shape ho2; rw [List.length_append, HML.out] at hv; subst hv; have HO2 := Lib.hid ho2; have HB2 := Lib.hid hb2; clear ho2 hb2)
      go_roundw
      case rel =>
        refine ⟨m + 1, A2, c2, by omega, by omega, rfl, ?_, HB.out.trans HB2.out⟩
        have ho := HO2.out
        rw [List.append_assoc, show List.replicate (m - 8 * n) (0 : Int) ++ [0] = List.replicate (m + 1 - 8 * n) 0 by rw [show m + 1 - 8 * n = (m - 8 * n) + 1 by omega, List.replicate_succ']] at ho
        exact ho
      case measure => simp [lnOf]; omega
    · have hmz : m = 8 * n + Z := by omega
      have d1 : ((m : Int) % 6 == 0) = true := by rw [beq_iff_eq]; have := H6.out; omega
      obtain ⟨L, hL⟩ : ∃ L, bitsL xs ++ List.replicate Z (0 : Int) = L := ⟨_, rfl⟩
      have ho := HO.out
      rw [show m - 8 * n = Z by omega, hL] at ho
      have hLl : L.length = 6 * M := by rw [← hL, List.length_append, HBL.out, List.length_replicate]; have := H6.out; omega
      have h01 : ∀ k, bit01 (L.drop k) := fun k => bit01_of (fun x hx => bitsL_01 xs Z x (by rw [hL]; exact hx)) k
      have henc := HENC.out
      rw [hL] at henc
      obtain ⟨A3, n3, c3, hv3, hr3⟩ := RdI.of_own ho
      injection hv3 with e1 e2 e3
      subst e1 e3
      have hm6 : m = 6 * M := by have := H6.out; omega
      have HRD := Lib.hid hr3
      have HLL := Lib.hid hLl
      have H01 := Lib.hid h01
      have HEN := Lib.hid henc
      have HCL := Lib.hid (ch6_len M L)
      have HM6 := Lib.hid hm6
      have hM2 := H6.out
      have hMb : M ≤ 1400 := by omega
      clear ho hL hLl h01 henc hr3 hm1 hm2 hmz hlt HML HENC HBI HBL HO e2 hm6 hM2
      go_wp2
      clear d1
      go_loop [4, 5] (fun s i => ∃ t : Nat, t ≤ M ∧ i = .int .i64 ((6 * t : Nat) : Int) ∧ s = .string (str ((ch6 M L).take t))) (fun _ i => 6 * M + 1 - (intOf i).toNat)
      case atStart => exact ⟨0, Nat.zero_le _, rfl, by simp [str]⟩
      case round =>
        obtain ⟨t, ht, rfl, rfl⟩ := hrel
        obtain ⟨y, hy⟩ : ∃ y, str ((ch6 M L).take t) = y := ⟨_, rfl⟩
        have hys : y.size = t := by rw [← hy, str_size, List.length_take, HCL.out]; omega
        have HY := Lib.hid hy
        have HYS := Lib.hid hys
        rw [hy]
        clear hy hys
        by_cases htM : t < M
        · have hmm := HM6.out
          obtain ⟨g, off, hA, _, hc⟩ := HRD.out.2.2 (by have := HRD.out.1; have := HLL.out; omega)
          subst hA
          have hCH := Lib.hid (ch6_at M t L htM)
          have HC := Lib.hid hc
          have hB := H01.out (6 * t)
          have HBT := Lib.hid hB
          have c1 : 6 * t < m := by omega
          have c2 : ((6 * t : Nat) : Int) < (m : Int) := by omega
          have dd : decide (((6 * t : Nat) : Int) < (m : Int)) = true := decide_eq_true c2
          obtain ⟨T, hT⟩ : ∃ T, 6 * t = T := ⟨_, rfl⟩
          have HT := Lib.hid hT
          rw [hT] at c1 c2 dd hCH HBT ⊢
          clear hT hB hc hmm
          go_wp2
          go_loop [6, 7] (fun v q => ∃ k : Nat, k ≤ 6 ∧ q = .int .i64 (k : Nat) ∧ v = .int .i64 (pv (L.drop T) k)) (fun _ q => 7 - (intOf q).toNat)
          case atStart => exact ⟨0, Nat.zero_le _, rfl, rfl⟩
          case round =>
            obtain ⟨k, hk, rfl, rfl⟩ := hrel
            by_cases hk6 : k < 6
            · have hp := pv_lt HBT.out k
              have hpow : (2 : Int) ^ k ≤ 32 := by
                rcases (show k = 0 ∨ k = 1 ∨ k = 2 ∨ k = 3 ∨ k = 4 ∨ k = 5 by omega) with rfl | rfl | rfl | rfl | rfl | rfl <;> decide
              obtain ⟨P, hP⟩ : ∃ P, pv (L.drop T) k = P := ⟨_, rfl⟩
              obtain ⟨z, hz⟩ : ∃ z, L[T + k]? = some z := ⟨_, List.getElem?_eq_getElem (by rw [HLL.out]; have := HT.out; omega)⟩
              have hz1 : (L.drop T).getD k 0 = z := by rw [List.getD_eq_getElem?_getD, List.getElem?_drop, hz]; rfl
              have hzb := HBT.out k
              rw [hz1] at hzb
              have hcell := HC.out (T + k) z hz
              have HPV := Lib.hid (show pv (L.drop T) (k + 1) = 2 * P + z by simp only [pv]; rw [hP, hz1])
              rw [hP] at hp ⊢
              have hP32 : 0 ≤ P ∧ P < 32 := by omega
              have hzz := hzb
              have hTb : T + k < m := by have := HT.out; have := HM6.out; omega
              have hTi : (T : Int) + (k : Int) < (m : Int) := by omega
              have hTw : IntKind.i64.wrap ((T : Int) + (k : Int)) = (T : Int) + (k : Int) := IntWalk.i64_in _ (by have := HT.out; omega)
              have hmB : m ≤ 8400 := by have := HM6.out; omega
              clear hz hz1 hzb hpow hp hP
              go_wp2
              go_round
              case rel => exact ⟨k + 1, by omega, by go_num, by rw [HPV.out]⟩
              case measure => simp [intOf]; omega
            · obtain rfl : k = 6 := by omega
              have hv := pv_lt HBT.out 6
              rw [pv6] at hv ⊢
              obtain ⟨v, hvv⟩ := Int.eq_ofNat_of_zero_le hv.1
              have hv64 : v < 64 := by have := hv.2; rw [hvv] at this; have e : (2 : Int) ^ 6 = 64 := by decide
                                       omega
              rw [hvv]
              have hch := hCH.out
              rw [hvv, Int.toNat_natCast] at hch
              have HCH := Lib.hid hch
              have HSG := Lib.hid (show (⟨#[65, 66, 67, 68, 69, 70, 71, 72, 73, 74, 75, 76, 77, 78, 79, 80, 81, 82, 83, 84, 85, 86, 87, 88, 89, 90, 97, 98, 99, 100, 101, 102, 103, 104, 105, 106, 107, 108, 109, 110, 111, 112, 113, 114, 115, 116, 117, 118, 119, 120, 121, 122, 48, 49, 50, 51, 52, 53, 54, 55, 56, 57, 43, 47]⟩ : ByteArray).extract v (v + 1) = str [al v] from sign_at v hv64)
              have hys := HYS.out
              have x1 : (v : Int) + 1 ≤ 64 := by omega
              have x2 : (0 : Int) ≤ (v : Int) := by omega
              clear hk6 hv hvv hch hCH hk
              go_wp2
              have hTT := HT.out
              have hw : wrap64 ((T : Int) + 6) = 6 * ((t + 1 : Nat) : Int) := by unfold wrap64; omega
              refine ⟨⟨t + 1, by omega, hw, ?_⟩, ?_⟩
              · rw [HSG.out, ← HY.out, str_cat, List.take_add_one, HCH.out]
                rfl
              · rw [hw]
                simp [intOf]
                omega
        · have htM' : t = M := by omega
          have hy := HY.out
          rw [htM', List.take_of_length_le (by rw [HCL.out]; omega)] at hy
          have hTm : 6 * t = m := by have := HM6.out; omega
          have HY2 := Lib.hid hy
          have HYM := Lib.hid (show y.size = M by rw [← hy, str_size, HCL.out])
          have HE3' := HE3.out
          have dd : decide (((6 * t : Nat) : Int) < (m : Int)) = false := decide_eq_false (by omega)
          have d2 : ¬ ((6 * t : Nat) : Int) < (m : Int) := by omega
          clear htM hy hTm HY HYS htM'
          obtain ⟨T, hT⟩ : ∃ T, 6 * t = T := ⟨_, rfl⟩
          rw [hT] at dd d2 ⊢
          clear hT
          go_wp2
          go_loop [4] (fun s => ∃ (e : Nat) (u : ByteArray), e ≤ E ∧ s = .string u ∧ Hid (u = str (ch6 M L ++ List.replicate e 61)) ∧ u.size = M + e) (fun s => match s with | .string u => M + E + 1 - u.size | _ => 0)
          case atStart => exact ⟨0, y, by omega, rfl, by simpa [Hid] using HY2.out.symm, HYM.out⟩
          case round =>
            clear dd d2
            obtain ⟨e, u, he, rfl, HU, hus⟩ := hrel
            have HUS := Lib.hid hus
            by_cases hlt : e < E
            · have d1 : ((u.size : Int) % 4 == 0) = false := by rw [Bool.eq_false_iff, ne_eq, beq_iff_eq]; omega
              have z1 : u.size ≤ 2000 := by omega
              clear hus HE3'
              go_wp2
              have hus := HUS.out
              have hsz : (u ++ (⟨#[61]⟩ : ByteArray)).size = u.size + 1 := by rw [ByteArray.size_append]; rfl
              refine ⟨⟨e + 1, _, by omega, rfl, ?_, by rw [hsz]; omega⟩, ?_⟩
              · have hu := HU.out
                show u ++ str [61] = _
                rw [hu, str_cat, List.append_assoc, List.replicate_succ']
              · show M + E + 1 - (u ++ (⟨#[61]⟩ : ByteArray)).size < M + E + 1 - u.size
                rw [hsz]
                omega
            · have d1 : ((u.size : Int) % 4 == 0) = true := by rw [beq_iff_eq]; omega
              have heE : e = E := by omega
              have hu := HU.out
              rw [heE, ← HEN.out] at hu
              have HU2 := Lib.hid hu
              clear hus HE3' heE hu hlt
              go_wp2
              go_ret
              exact ⟨by rw [← HU2.out]; rfl, HB.out⟩
end Go.Proofs.Ytddgmpmfdgfcdaa
