/-
  What is proved here: contracts of the reference's Next and All; condition: a string of at most 60000 bytes (or one that ends in white space where the token is sought).
-/
import Derived.Test.YtodmlgbomhmbpaaGreatDoorLRefN
import Derived.Test.YtodmlgbomhmbpaaGreatDoorRdG
namespace Go.Proofs.YtodmlgbomhmbpaaGreatDoor
open Go.RowKit Ut Lx

def sgL : List UInt8 := [123, 125, 91, 93, 44, 58]
theorem sg_kd (c : UInt8) (j : Nat) (hj : j < 6) : (c = sgL.getD j 0) ↔ kd c.toNat = j + 1 := by
  have : ∀ (n : Fin 256) (j : Fin 6), (UInt8.ofNat n.val = sgL.getD j.val 0) ↔ kd n.val = j.val + 1 := by decide +kernel
  have h := this ⟨c.toNat, UInt8.toNat_lt c⟩ ⟨j, hj⟩
  rwa [UInt8.ofNat_toNat] at h
theorem wd_kd (c : UInt8) (j : Nat) (hj : j < 3) : (c = (wordL (7 + j)).getD 0 0) ↔ kd c.toNat = 7 + j := by
  have : ∀ (n : Fin 256) (j : Fin 3), (UInt8.ofNat n.val = (wordL (7 + j.val)).getD 0 0) ↔ kd n.val = 7 + j.val := by decide +kernel
  have h := this ⟨c.toNat, UInt8.toNat_lt c⟩ ⟨j, hj⟩
  rwa [UInt8.ofNat_toNat] at h
theorem nm_kd (c : UInt8) : isin [45, 48, 49, 50, 51, 52, 53, 54, 55, 56, 57] c = decide (kd c.toNat = 10) := by
  have : ∀ (n : Fin 256), isin [45, 48, 49, 50, 51, 52, 53, 54, 55, 56, 57] (UInt8.ofNat n.val) = decide (kd n.val = 10) := by decide +kernel
  have h := this ⟨c.toNat, UInt8.toNat_lt c⟩
  rwa [UInt8.ofNat_toNat] at h
theorem tx_kd (c : UInt8) : (c.toNat = 34) ↔ kd c.toNat = 12 := by
  have : ∀ (n : Fin 256), (n.val = 34) ↔ kd n.val = 12 := by decide +kernel
  exact this ⟨c.toNat, UInt8.toNat_lt c⟩
theorem sg_at (j : Nat) (hj : j < 6) (h : j < (⟨#[123, 125, 91, 93, 44, 58]⟩ : ByteArray).size) : (⟨#[123, 125, 91, 93, 44, 58]⟩ : ByteArray)[j]'h = sgL.getD j 0 := by
  rcases (show j = 0 ∨ j = 1 ∨ j = 2 ∨ j = 3 ∨ j = 4 ∨ j = 5 by omega) with rfl | rfl | rfl | rfl | rfl | rfl <;> rfl
theorem number_any (s : ByteArray) (l : List UInt8) (k : Nat) (w : World) (hl : s.data.toList = l) (hs : s.size ≤ 549755813888) (hk : k ≤ s.size) :
    Calls Tryz.prog 27 #[.string s, .int .i64 k] w (TKE w (tokR k (num (l.drop k)))) :=
  number_at s l k w hl hs hk _ _ _ _ _ _ _ _ _ _ rfl rfl rfl rfl rfl rfl rfl
theorem one_kd (c : UInt8) (h1 : 1 ≤ kd c.toNat) (h6 : kd c.toNat ≤ 6) : wordL (kd c.toNat) = [c] := by
  have : ∀ (n : Fin 256), 1 ≤ kd n.val → kd n.val ≤ 6 → wordL (kd n.val) = [UInt8.ofNat n.val] := by decide +kernel
  have h := this ⟨c.toNat, UInt8.toNat_lt c⟩ h1 h6
  rwa [UInt8.ofNat_toNat] at h
theorem rd_sign (c : UInt8) (r : List UInt8) (h1 : 1 ≤ kd c.toNat) (h6 : kd c.toNat ≤ 6) : rd (c :: r) = ok0 (kd c.toNat) 1 := by
  rw [rd_cons, if_neg (by omega), if_neg (by omega), if_neg (by omega)]
  unfold wrd
  rw [one_kd c h1 h6]
  have e : com (c :: r) [c] = 1 := by simp [com]
  rw [e]; rfl
theorem rd_word (c : UInt8) (r : List UInt8) (h1 : 7 ≤ kd c.toNat) (h6 : kd c.toNat ≤ 9) : rd (c :: r) = wrd (kd c.toNat) (c :: r) := by
  rw [rd_cons, if_neg (by omega), if_neg (by omega), if_neg (by omega)]
theorem rd_num (c : UInt8) (r : List UInt8) (h : kd c.toNat = 10) : rd (c :: r) = num (c :: r) := by rw [rd_cons, if_neg (by omega), if_pos h]
theorem rd_txt (c : UInt8) (r : List UInt8) (h : kd c.toNat = 12) : rd (c :: r) = Lx.txt (c :: r) := by rw [rd_cons, if_neg (by omega), if_neg (by omega), if_pos h]
theorem rd_no (c : UInt8) (r : List UInt8) (h : kd c.toNat = 0) : rd (c :: r) = bad 0 100 := by rw [rd_cons, if_pos h]
def ARR : Array Value := #[.string ⟨#[110, 117, 108, 108]⟩, .string ⟨#[102, 97, 108, 115, 101]⟩, .string ⟨#[116, 114, 117, 101]⟩]
theorem arr_cell (w : World) (o : Obj) (n i : Nat) (hi : i < 3) (y : ByteArray) (hy : str (wordL (7 + i)) = y) :
    (((w.alloc o).alloc (.cells #[.string ⟨#[110, 117, 108, 108]⟩, .string ⟨#[102, 97, 108, 115, 101]⟩, .string ⟨#[116, 114, 117, 101]⟩] 9)).drewN n).cell? ⟨w.heap.size + 1, i, none⟩ = some (.string y) := by
  have hb := (Blk.new (w.alloc o) 9 #[.string ⟨#[110, 117, 108, 108]⟩, .string ⟨#[102, 97, 108, 115, 101]⟩, .string ⟨#[116, 114, 117, 101]⟩]).cell i
  rw [show (w.alloc o).heap.size = w.heap.size + 1 by simp] at hb
  show ((w.alloc o).alloc _).cell? _ = _
  rw [hb, ← hy]
  rcases (show i = 0 ∨ i = 1 ∨ i = 2 by omega) with rfl | rfl | rfl <;> rfl
theorem com_word {m wd : List UInt8} {q : Nat} (hq : q ≤ com m wd) (hw : q < wd.length) : (st [wd.getD q 0] (m.drop q) = true → q + 1 ≤ com m wd) ∧ (st [wd.getD q 0] (m.drop q) = false → com m wd = q) := by
  have hg : wd[q]? = some (wd.getD q 0) := by rw [List.getD_eq_getElem?_getD, List.getElem?_eq_getElem hw]; rfl
  constructor
  · intro h
    have hl := st_pos h
    obtain ⟨c, hc⟩ := lx_some m hl
    rw [st_at hc] at h
    have : c = wd.getD q 0 := by simpa [isin] using h
    exact com_step hq hl hw (by rw [hc, hg, this])
  · intro h
    rcases Nat.lt_or_ge q (com m wd) with h1 | h1
    · obtain ⟨h2, h3, h4⟩ := com_go h1
      obtain ⟨c, hc⟩ := lx_some m h3
      rw [st_at hc] at h
      rw [hc, hg] at h2
      injection h2 with h2
      rw [h2] at h
      simp [isin] at h
    · omega
theorem z6 (w : World) (o : Obj) (n : Nat) {w1 : World} (hb : Below (((w.alloc (.cells #[.int .i64 0, .int .i64 0, .int .i64 0, .int .i64 0, .int .u64 0, .string ⟨#[]⟩] 39)).alloc o).drewN n).heap.size (((w.alloc (.cells #[.int .i64 0, .int .i64 0, .int .i64 0, .int .i64 0, .int .u64 0, .string ⟨#[]⟩] 39)).alloc o).drewN n) w1) :
    w1.cell? ⟨w.heap.size, 0, none⟩ = some (.int .i64 0) ∧ w1.cell? ⟨w.heap.size, 1, none⟩ = some (.int .i64 0) ∧ w1.cell? ⟨w.heap.size, 2, none⟩ = some (.int .i64 0) ∧
    w1.cell? ⟨w.heap.size, 3, none⟩ = some (.int .i64 0) ∧ w1.cell? ⟨w.heap.size, 4, none⟩ = some (.int .u64 0) ∧ w1.cell? ⟨w.heap.size, 5, none⟩ = some (.string ⟨#[]⟩) := by
  have hlt : w.heap.size < (((w.alloc (.cells #[.int .i64 0, .int .i64 0, .int .i64 0, .int .i64 0, .int .u64 0, .string ⟨#[]⟩] 39)).alloc o).drewN n).heap.size := by show w.heap.size < ((w.alloc (.cells #[.int .i64 0, .int .i64 0, .int .i64 0, .int .i64 0, .int .u64 0, .string ⟨#[]⟩] 39)).alloc o).heap.size; simp; omega
  have hB := ((Blk.new w 39 #[.int .i64 0, .int .i64 0, .int .i64 0, .int .i64 0, .int .u64 0, .string ⟨#[]⟩]).alloc o)
  have hB2 : Blk w1 w.heap.size 39 #[.int .i64 0, .int .i64 0, .int .i64 0, .int .i64 0, .int .u64 0, .string ⟨#[]⟩] := Blk.below (w := ((w.alloc (.cells #[.int .i64 0, .int .i64 0, .int .i64 0, .int .i64 0, .int .u64 0, .string ⟨#[]⟩] 39)).alloc o).drewN n) hB hb hlt
  exact ⟨hB2.cell 0, hB2.cell 1, hB2.cell 2, hB2.cell 3, hB2.cell 4, hB2.cell 5⟩
set_option maxHeartbeats 4000000 in
set_option maxRecDepth 100000 in
theorem refNextT_any (s : ByteArray) (l : List UInt8) (k : Nat) (w : World) (hl : s.data.toList = l) (hk : k ≤ s.size) (hs : s.size ≤ 549755813888) (hq : s.size ≤ 60000 ∨ s.size ≤ k + cnt wsL (l.drop k)) :
    Calls Tryz.prog 12 #[.string s, .int .i64 k] w (TKE w (tok l k)) := by
  have HB0 := tok2 w
  have hsz : s.size = l.length := by rw [Lib.size_eq, hl]
  have hle := cnt_le wsL (l.drop k)
  rw [List.length_drop, ← hsz] at hle
  obtain ⟨t, ht⟩ : ∃ t, tok l k = t := ⟨_, rfl⟩
  rw [ht]
  unfold tok at ht
  obtain ⟨f, hf⟩ : ∃ f, k + cnt wsL (l.drop k) = f := ⟨_, rfl⟩
  rw [hf] at ht hq
  have hkf : k ≤ f := by omega
  have hfs : f ≤ s.size := by omega
  have IS := Lib.hid (fun (j : Nat) (a : ByteArray) (b : Bool) (h : st a.data.toList (l.drop j) = b) (hj : j ≤ s.size + 10) (ha : a.size ≤ 1000) (W : World) => (show Calls Tryz.prog 26 #[.string s, .int .i64 j, .string a] W fun e w' => e = .returned (.bool b) ∧ ∃ n, w' = W.drewN n by
    have := is_any s a l a.data.toList j W hl rfl (by omega) (by omega) ha
    rw [h] at this
    exact this))
  have HWS := Lib.hid (show ∀ j, k ≤ j → j < f → st wsL (l.drop j) = true from fun j h1 h2 => by
    have := cnt_go (a := wsL) (l := l.drop k) (k := j - k) (by omega)
    rw [List.drop_drop, show k + (j - k) = j by omega] at this
    exact this)
  have HWE := Lib.hid (show st wsL (l.drop f) = false from by
    have := cnt_stop wsL (l.drop k)
    rw [List.drop_drop, hf] at this
    exact this)
  have HL := Lib.hid hl
  have HSZ := Lib.hid hsz
  have HT := Lib.hid ht
  have HQ := Lib.hid hq
  have WR := Lib.hid (fun (j : Nat) (x : Int) (W : World) => wrong_ref j x W)
  have d1 : decide ((k : Int) < 0) = false := decide_eq_false (by omega)
  have d2 : decide ((s.size : Int) < (k : Int)) = false := decide_eq_false (by omega)
  have d3 : decide (s.size < k) = false := decide_eq_false (by omega)
  have HF := Lib.hid hf
  clear ht hf hq hl hsz hle
  go_enter Tryz.func12, Tryz.ntmps12
  go_wp2
  clear d1 d2 d3
  go_loopw [1] (fun v wr => ∃ j n : Nat, k ≤ j ∧ j ≤ f ∧ v = .int .i64 j ∧ wr = (w.alloc (.cells #[.int .i64 0, .int .i64 0, .int .i64 0, .int .i64 0, .int .u64 0, .string ⟨#[]⟩] 39)).drewN n) (fun v _ => f + 1 - (RowKit.intOf v).toNat)
  case atStart => exact ⟨k, 0, Nat.le_refl _, hkf, rfl, rfl⟩
  case round =>
    obtain ⟨j, n, hkj, hjf, rfl, rfl⟩ := hrel
    by_cases hlt : j < f
    · have HI := Lib.hid (IS.out j ⟨#[32, 9, 10, 13]⟩ true (HWS.out j hkj hlt) (by omega) (by decide))
      go_wp2_with (go_at_call 26; (with_reducible refine (HI.out _).mono ?_); rintro e w1 ⟨rfl, n1, rfl⟩)
      go_roundw
      case rel => exact ⟨j + 1, _, by omega, hlt, by go_num, by first | rfl | rw [World.drewN_drewN]⟩
      case measure => simp [RowKit.intOf]; omega
    · obtain rfl : j = f := by omega
      have HI := Lib.hid (IS.out j ⟨#[32, 9, 10, 13]⟩ false HWE.out (by omega) (by decide))
      clear hlt hjf HWS
      by_cases hend : j = s.size
      · have q : ((j : Int) == (s.size : Int)) = true := by simp; omega
        have HR := Lib.hid (show (⟨0, j, j, 0, 0, [], 0⟩ : TK) = t by rw [← HT.out, if_pos (by rw [← HSZ.out]; omega)])
        clear hend
        go_wp2_with (go_at_call 26; (with_reducible refine (HI.out _).mono ?_); rintro e w1 ⟨rfl, n1, rfl⟩)
        exact bodyPost_ret (v := tV ⟨0, j, j, 0, 0, [], 0⟩) (by simp [results, Tryz.results12, go_sem, tV, tkV, str]) rfl ⟨by rw [HR.out], by with_reducible exact six (below_drewN HB0.out _) (Nat.le_refl _) _ _ _ _ _ _⟩
      · have q : ((j : Int) == (s.size : Int)) = false := by simp; omega
        have hjs : j < s.size := by omega
        have j0 : (0 : Int) ≤ (j : Int) := by omega
        have j1 : (j : Int) < (s.size : Int) := by omega
        obtain ⟨c, hc⟩ := lx_some l (k := j) (by rw [← HSZ.out]; exact hjs)
        have sx : s[j] = c := lx_at HL.out hc hjs
        obtain ⟨K, hK⟩ : ∃ K, kd c.toNat = K := ⟨_, rfl⟩
        have HR := Lib.hid (show tokR j (rd (l.drop j)) = t by rw [← HT.out, if_neg (by rw [← HSZ.out]; omega)])
        have HC := Lib.hid hc
        have HK := Lib.hid hK
        clear hc hK hend
        go_wp2_with (go_at_call 26; (with_reducible refine (HI.out _).mono ?_); rintro e w1 ⟨rfl, n1, rfl⟩)
        go_loopw [6] (fun v wr => ∃ i n : Nat, i ≤ 6 ∧ (1 ≤ K → K ≤ 6 → i < K) ∧ v = .int .i64 i ∧ wr = (w.alloc (.cells #[.int .i64 0, .int .i64 0, .int .i64 0, .int .i64 0, .int .u64 0, .string ⟨#[]⟩] 39)).drewN n) (fun v _ => 7 - (RowKit.intOf v).toNat)
        case atStart => exact ⟨0, _, by omega, by omega, rfl, rfl⟩
        case round =>
          clear HI
          obtain ⟨i, n, hi, hiK, rfl, rfl⟩ := hrel
          by_cases hi6 : i < 6
          · have e1 : decide ((i : Int) < 6) = true := decide_eq_true (by omega)
            have i1 : (0 : Int) ≤ (i : Int) := by omega
            have i2 : (i : Int) < 6 := by omega
            obtain ⟨M, hM⟩ : ∃ M, sgL.getD i 0 = M := ⟨_, rfl⟩
            have hm : ∀ h, (⟨#[123, 125, 91, 93, 44, 58]⟩ : ByteArray)[i]'h = M := fun h => (sg_at i hi6 h).trans hM
            have hsg := sg_kd c i hi6
            rw [hM, HK.out] at hsg
            by_cases hcm : c = M
            · have q1 : ((c.toNat : Int) == (M.toNat : Int)) = true := by rw [hcm]; simp
              have hKi : K = i + 1 := hsg.1 hcm
              clear hcm hsg hM
              have HR2 := Lib.hid (show (⟨i + 1, j, j + 1, 0, 0, [], 0⟩ : TK) = t by rw [← HR.out, lx_drop1 HC.out, rd_sign c _ (by rw [HK.out]; omega) (by rw [HK.out]; omega), HK.out, hKi]; rfl)
              go_wp2
              go_quiet (fail)
              go_wp2
              exact bodyPost_ret (v := tV ⟨i + 1, j, j + 1, 0, 0, [], 0⟩) (by simp [results, Tryz.results12, go_sem, tV, tkV, str]) rfl ⟨by rw [HR2.out], by with_reducible exact six (below_drewN HB0.out _) (Nat.le_refl _) _ _ _ _ _ _⟩
            · have q1 : ((c.toNat : Int) == (M.toNat : Int)) = false := by
                have : c.toNat ≠ M.toNat := fun h => hcm (UInt8.toNat_inj.1 h)
                simp; omega
              have hKi : ¬ K = i + 1 := fun h => hcm (hsg.2 h)
              clear hcm hsg hM
              go_wp2
              go_quiet (fail)
              go_wp2
              go_roundw
              case rel => exact ⟨i + 1, _, by omega, by omega, by go_num, by first | rfl | rw [World.drewN_drewN]⟩
              case measure => simp [RowKit.intOf]; omega
          · have e1 : decide ((i : Int) < 6) = false := decide_eq_false (by omega)
            have hK6 : ¬ (1 ≤ K ∧ K ≤ 6) := by omega
            clear hi6 hiK hi
            have HB2 := Lib.hid (show Below w.heap.size w ((w.alloc (.cells #[.int .i64 0, .int .i64 0, .int .i64 0, .int .i64 0, .int .u64 0, .string ⟨#[]⟩] 39)).alloc (.cells #[.string ⟨#[110, 117, 108, 108]⟩, .string ⟨#[102, 97, 108, 115, 101]⟩, .string ⟨#[116, 114, 117, 101]⟩] 9)) from HB0.out.alloc HB0.out.size _)
            go_wp2
            go_loopw [8] (fun v wr => ∃ i n : Nat, i ≤ 3 ∧ (7 ≤ K → K ≤ 9 → 7 + i ≤ K) ∧ v = .int .i64 i ∧ wr = ((w.alloc (.cells #[.int .i64 0, .int .i64 0, .int .i64 0, .int .i64 0, .int .u64 0, .string ⟨#[]⟩] 39)).alloc (.cells #[.string ⟨#[110, 117, 108, 108]⟩, .string ⟨#[102, 97, 108, 115, 101]⟩, .string ⟨#[116, 114, 117, 101]⟩] 9)).drewN n) (fun v _ => 4 - (RowKit.intOf v).toNat)
            case atStart => exact ⟨0, _, by omega, by omega, rfl, rfl⟩
            case round =>
              obtain ⟨i, n, hi, hiK, rfl, rfl⟩ := hrel
              by_cases hi3 : i < 3
              · have e1 : decide ((i : Int) < 3) = true := decide_eq_true (by omega)
                have i1 : (0 : Int) ≤ (i : Int) := by omega
                have i2 : (i : Int) < 3 := by omega
                obtain ⟨wd, hwd⟩ : ∃ wd, wordL (7 + i) = wd := ⟨_, rfl⟩
                obtain ⟨y, hy⟩ : ∃ y, str (wordL (7 + i)) = y := ⟨_, rfl⟩
                have hcell := arr_cell w (.cells #[.int .i64 0, .int .i64 0, .int .i64 0, .int .i64 0, .int .u64 0, .string ⟨#[]⟩] 39) n i hi3 y hy
                have HY := Lib.hid (show y.data.toList = wd by rw [← hy, hwd]; exact str_data _)
                have HYZ := Lib.hid (show y.size = wd.length by rw [Lib.size_eq, HY.out])
                have hwl := wordL_len (k := 7 + i) (by omega) (by omega)
                rw [hwd, ← HYZ.out] at hwl
                have y1 : 0 < y.size := by omega
                obtain ⟨d, hd⟩ := lx_some wd (k := 0) (by rw [← HYZ.out]; exact y1)
                have yx : y[0] = d := lx_at HY.out hd y1
                have hwk := wd_kd c i hi3
                rw [hwd, HK.out, List.getD_eq_getElem?_getD, hd] at hwk
                have hwk2 : c = d ↔ K = 7 + i := hwk
                have HWD := Lib.hid hwd
                clear hy hwk hwd hd
                by_cases hcd : c = d
                · have q1 : ((c.toNat : Int) != (d.toNat : Int)) = false := by rw [hcd]; simp
                  have hKi : K = 7 + i := hwk2.1 hcd
                  have HRW := Lib.hid (show tokR j (wrd K (l.drop j)) = t by rw [← HR.out, lx_drop1 HC.out, rd_word c _ (by rw [HK.out]; omega) (by rw [HK.out]; omega), HK.out])
                  have HWK := Lib.hid (show wordL K = wd by rw [hKi]; exact HWD.out)
                  obtain ⟨C, hC⟩ : ∃ C, com (l.drop j) wd = C := ⟨_, rfl⟩
                  have HCC := Lib.hid hC
                  clear hcd hwk2 hC
                  go_wp2
                  go_quiet (fail)
                  go_wp2
                  go_loopw [10] (fun v wr => ∃ q n : Nat, q ≤ C ∧ q ≤ y.size ∧ v = .int .i64 q ∧ wr = ((w.alloc (.cells #[.int .i64 0, .int .i64 0, .int .i64 0, .int .i64 0, .int .u64 0, .string ⟨#[]⟩] 39)).alloc (.cells #[.string ⟨#[110, 117, 108, 108]⟩, .string ⟨#[102, 97, 108, 115, 101]⟩, .string ⟨#[116, 114, 117, 101]⟩] 9)).drewN n) (fun v _ => y.size + 1 - (RowKit.intOf v).toNat)
                  case atStart => exact ⟨0, _, Nat.zero_le _, Nat.zero_le _, rfl, by first | rfl | exact World.drewN_drewN _ _ _⟩
                  case round =>
                    obtain ⟨q, n, hqC, hqy, rfl, rfl⟩ := hrel
                    have q0 : (0 : Int) ≤ (q : Int) := by omega
                    obtain ⟨p, hp⟩ : ∃ p, j + q = p := ⟨_, rfl⟩
                    have hpi : (j : Int) + (q : Int) = (p : Int) := by omega
                    by_cases hqs : q < y.size
                    · have e2 : decide ((q : Int) < (y.size : Int)) = true := decide_eq_true (by omega)
                      have e3 : decide (q < y.size) = true := decide_eq_true hqs
                      have z1 : (q : Int) + 1 ≤ (y.size : Int) := by omega
                      have z2 : (q : Int) ≤ (q : Int) + 1 := by omega
                      obtain ⟨z, hz⟩ : ∃ z, y.extract q (q + 1) = z := ⟨_, rfl⟩
                      have hzd : z.data.toList = [wd.getD q 0] := by
                        rw [← hz, lx_mid, HY.out, show q + 1 - q = 1 by omega, List.drop_eq_getElem_cons (by rw [← HYZ.out]; exact hqs), List.take_succ_cons, List.take_zero, List.getD_eq_getElem?_getD, List.getElem?_eq_getElem (by rw [← HYZ.out]; exact hqs)]
                        rfl
                      have hzs : z.size ≤ 1000 := by rw [Lib.size_eq, hzd]; simp
                      have HZ := Lib.hid hz
                      have hcw := com_word (m := l.drop j) (wd := wd) (q := q) (by rw [HCC.out]; exact hqC) (by rw [← HYZ.out]; exact hqs)
                      rw [List.drop_drop, hp, HCC.out] at hcw
                      rcases hb : st [wd.getD q 0] (l.drop p) with _ | _
                      · have HI := Lib.hid (IS.out p z false (by rw [hzd]; exact hb) (by omega) hzs)
                        have HR2 := Lib.hid (show (⟨0, p, p, 0, 0, [], 100⟩ : TK) = t by
                          rw [← HRW.out]
                          unfold wrd
                          rw [HWK.out, HCC.out, hcw.2 hb, if_neg (by rw [← HYZ.out]; omega), ← hp]
                          rfl)
                        clear hcw hb hzd hz hzs hp
                        go_wp2_with (first
                          | (go_at_call 26; rw [HZ.out]; (with_reducible refine (HI.out _).mono ?_); rintro e w1 ⟨rfl, n1, rfl⟩)
                          | (go_at_call 25; (with_reducible refine (WR.out _ _ _).mono ?_); rintro e w1 ⟨rfl, hb1⟩; have HBx := Lib.hid ((below_drewN HB2.out _).trans (hb1.mono (below_drewN HB2.out _).size)); have HZ6 := Lib.hid (z6 w _ _ hb1); obtain ⟨hc1, hf1⟩ := bcell hb1; clear hb1))
                        exact bodyPost_ret (v := tV ⟨0, p, p, 0, 0, [], 100⟩) (by simp [results, Tryz.results12, go_sem, tV, tkV, str, HZ6.out]) rfl ⟨by rw [HR2.out], by with_reducible exact six HBx.out (Nat.le_refl _) _ _ _ _ _ _⟩
                      · have HI := Lib.hid (IS.out p z true (by rw [hzd]; exact hb) (by omega) hzs)
                        have HG := Lib.hid (hcw.1 hb)
                        clear hcw hb hzd hz hzs hp
                        go_wp2_with (first
                          | (go_at_call 26; rw [HZ.out]; (with_reducible refine (HI.out _).mono ?_); rintro e w1 ⟨rfl, n1, rfl⟩))
                        go_roundw
                        case rel => exact ⟨q + 1, _, HG.out, hqs, by go_num, by first | rfl | exact World.drewN_drewN _ _ _⟩
                        case measure => simp [RowKit.intOf]; omega
                    · have e2 : decide ((q : Int) < (y.size : Int)) = false := decide_eq_false (by omega)
                      have e3 : decide (q < y.size) = false := decide_eq_false hqs
                      have hqe : q = y.size := by omega
                      obtain ⟨g, hg⟩ : ∃ g, j + y.size = g := ⟨_, rfl⟩
                      have hgi : (j : Int) + (y.size : Int) = (g : Int) := by omega
                      have hys : j + y.size ≤ s.size := by
                        have := (com_le (l.drop j) wd).1
                        rw [HCC.out, List.length_drop, ← HSZ.out] at this
                        omega
                      have HR2 := Lib.hid (show (⟨7 + i, j, g, 0, 0, [], 0⟩ : TK) = t by
                        have hCe : C = y.size := by
                          have := (com_le (l.drop j) wd).2
                          rw [HCC.out, ← HYZ.out] at this
                          omega
                        rw [← HRW.out]
                        unfold wrd
                        rw [HWK.out, HCC.out, hCe, if_pos HYZ.out, ← HYZ.out, ← hg, hKi]
                        rfl)
                      clear hqs hqe hg hp
                      go_wp2
                      exact bodyPost_ret (v := tV ⟨7 + i, j, g, 0, 0, [], 0⟩) (by simp [results, Tryz.results12, go_sem, tV, tkV, str]) rfl ⟨by rw [HR2.out], by with_reducible exact six (below_drewN HB2.out _) (Nat.le_refl _) _ _ _ _ _ _⟩
                · have q1 : ((c.toNat : Int) != (d.toNat : Int)) = true := by
                    have : c.toNat ≠ d.toNat := fun h => hcd (UInt8.toNat_inj.1 h)
                    simp; omega
                  have hKi : ¬ K = 7 + i := fun h => hcd (hwk2.2 h)
                  clear hcd hwk2
                  go_wp2
                  go_quiet (fail)
                  go_wp2
                  go_roundw
                  case rel => exact ⟨i + 1, _, by omega, by omega, by go_num, by first | rfl | rw [World.drewN_drewN]⟩
                  case measure => simp [RowKit.intOf]; omega
              · have e1 : decide ((i : Int) < 3) = false := decide_eq_false (by omega)
                have hK9 : ¬ (7 ≤ K ∧ K ≤ 9) := by omega
                have hkd := kd_le c.toNat
                rw [HK.out] at hkd
                have HNK := Lib.hid (show st [45, 48, 49, 50, 51, 52, 53, 54, 55, 56, 57] (l.drop j) = decide (K = 10) by rw [st_at HC.out, nm_kd, HK.out])
                have htx := tx_kd c
                rw [HK.out] at htx
                by_cases hK10 : K = 10
                · have HI := Lib.hid (IS.out j ⟨#[45, 48, 49, 50, 51, 52, 53, 54, 55, 56, 57]⟩ true (by rw [show (⟨#[45, 48, 49, 50, 51, 52, 53, 54, 55, 56, 57]⟩ : ByteArray).data.toList = [45, 48, 49, 50, 51, 52, 53, 54, 55, 56, 57] from rfl, HNK.out]; simpa using hK10) (by omega) (by decide))
                  have hRN : tokR j (num (l.drop j)) = t := by rw [← HR.out, lx_drop1 HC.out, rd_num c _ (by rw [HK.out]; exact hK10)]
                  obtain ⟨tk, tf, tt, tN, tU, tx, te⟩ := t
                  obtain ⟨y, hy⟩ : ∃ y, str tx = y := ⟨_, rfl⟩
                  have HV := Lib.hid (show tV ⟨tk, tf, tt, tN, tU, tx, te⟩ = .tuple #[.agg #[.int .i64 tk, .int .i64 tf, .int .i64 tt, .int .i64 tN, .int .u64 tU, .string y], .int .i64 te] by unfold tV tkV; rw [hy])
                  have HNB := Lib.hid (fun (W : World) => (show Calls Tryz.prog 27 #[.string s, .int .i64 j] W fun e w' => e = .returned (.tuple #[.agg #[.int .i64 tk, .int .i64 tf, .int .i64 tt, .int .i64 tN, .int .u64 tU, .string y], .int .i64 te]) ∧ Below W.heap.size W w' by
                    refine (number_any s l j W HL.out hs (by omega)).mono ?_
                    rintro e w' ⟨rfl, hb⟩
                    exact ⟨by rw [hRN, HV.out], hb⟩))
                  clear hRN hy hK10 hK9 hi3 hiK hi htx hkd
                  go_wp2_with (first
                    | (go_at_call 26; (with_reducible refine (HI.out _).mono ?_); rintro e w1 ⟨rfl, n1, rfl⟩)
                    | (go_at_call 27; (with_reducible refine (HNB.out _).mono ?_); rintro e w1 ⟨rfl, hb1⟩; have HBx := Lib.hid ((below_drewN HB2.out _).trans (hb1.mono (below_drewN HB2.out _).size)); have HZ6 := Lib.hid (z6 w _ _ hb1); obtain ⟨hc1, hf1⟩ := bcell hb1; clear hb1))
                  exact bodyPost_ret (v := .tuple #[.agg #[.int .i64 tk, .int .i64 tf, .int .i64 tt, .int .i64 tN, .int .u64 tU, .string y], .int .i64 te]) (by simp [results, Tryz.results12, go_sem, HZ6.out]) rfl ⟨by rw [HV.out], by with_reducible exact six HBx.out (Nat.le_refl _) _ _ _ _ _ _⟩
                · have HI := Lib.hid (IS.out j ⟨#[45, 48, 49, 50, 51, 52, 53, 54, 55, 56, 57]⟩ false (by rw [show (⟨#[45, 48, 49, 50, 51, 52, 53, 54, 55, 56, 57]⟩ : ByteArray).data.toList = [45, 48, 49, 50, 51, 52, 53, 54, 55, 56, 57] from rfl, HNK.out]; simpa using hK10) (by omega) (by decide))
                  by_cases hK12 : K = 12
                  · have q1 : ((c.toNat : Int) != 34) = false := by have := htx.2 hK12; simp; omega
                    have hs6 : s.size ≤ 60000 := by have := HQ.out; omega
                    obtain ⟨z, hz⟩ : ∃ z, s.extract j s.size = z := ⟨_, rfl⟩
                    have hzd : z.data.toList = l.drop j := by rw [← hz, lx_drop, HL.out]
                    obtain ⟨⟨x, n', k', e'⟩, hu⟩ : ∃ r, unq (l.drop j) = r := ⟨_, rfl⟩
                    obtain ⟨y, hy⟩ : ∃ y, str x = y := ⟨_, rfl⟩
                    have HU := Lib.hid (fun (W : World) => (show Calls Tryz.prog 28 #[.string z] W fun e w' => e = .returned (.tuple #[.string y, .int .i64 (n' : Int), .int .i64 (k' : Int), .int .i64 (e' : Int)]) ∧ Below W.heap.size W w' by
                      refine (refUnquote_any z _ hzd (by rw [← hz, ByteArray.size_extract]; omega) W).mono ?_
                      rintro e w' ⟨rfl, hb⟩
                      rw [hu]
                      exact ⟨by rw [← hy]; rfl, hb⟩))
                    have hRT : tokR j (Lx.txt (l.drop j)) = t := by rw [← HR.out, lx_drop1 HC.out, rd_txt c _ (by rw [HK.out]; exact hK12)]
                    have hgf := go_facts (l.drop j) q0 0
                    rw [show go q0 (l.drop j) 0 = unq (l.drop j) from rfl, hu, List.length_drop, ← HSZ.out] at hgf
                    unfold Lx.txt at hRT
                    rw [hu] at hRT
                    have HZ := Lib.hid hz
                    by_cases he : e' = 0
                    · subst he
                      obtain ⟨g, hg⟩ : ∃ g, j + n' = g := ⟨_, rfl⟩
                      have hgi : (j : Int) + (n' : Int) = (g : Int) := by omega
                      have hgs : g ≤ s.size := by
                        rcases hgf with ⟨_, _, h3, _⟩ | ⟨h, _⟩
                        · have h3' : n' ≤ 0 + (s.size - j) := h3; omega
                        · exact absurd rfl h
                      have HV := Lib.hid (show tV t = .tuple #[.agg #[.int .i64 12, .int .i64 j, .int .i64 g, .int .i64 0, .int .u64 0, .string y], .int .i64 0] by rw [← hRT, ← hy, ← hg]; rfl)
                      clear hRT hgf hu hy hz hzd hg hK12 hK10 hK9 htx hkd hi3 hiK hi
                      go_wp2_with (first
                        | (go_at_call 26; (with_reducible refine (HI.out _).mono ?_); rintro e w1 ⟨rfl, n1, rfl⟩)
                        | (go_at_call 28; rw [HZ.out]; (with_reducible refine (HU.out _).mono ?_); rintro e w1 ⟨rfl, hb1⟩; have HBx := Lib.hid ((below_drewN HB2.out _).trans (hb1.mono (below_drewN HB2.out _).size)); have HZ6 := Lib.hid (z6 w _ _ hb1); obtain ⟨hc1, hf1⟩ := bcell hb1; clear hb1))
                      exact bodyPost_ret (v := .tuple #[.agg #[.int .i64 12, .int .i64 j, .int .i64 g, .int .i64 0, .int .u64 0, .string y], .int .i64 0]) (by simp [results, Tryz.results12, go_sem, HZ6.out]) rfl ⟨by rw [HV.out], by with_reducible exact six HBx.out (Nat.le_refl _) _ _ _ _ _ _⟩
                    · obtain ⟨g, hg⟩ : ∃ g, j + k' = g := ⟨_, rfl⟩
                      have hgi : (j : Int) + (k' : Int) = (g : Int) := by omega
                      have hgs : g ≤ s.size := by
                        rcases hgf with ⟨h, _⟩ | ⟨_, _, _, h4, _⟩
                        · exact absurd h he
                        · have h4' : k' ≤ 0 + (s.size - j) := h4; omega
                      have HV := Lib.hid (show tV t = .tuple #[.agg #[.int .i64 0, .int .i64 g, .int .i64 g, .int .i64 0, .int .u64 0, .string ⟨#[]⟩], .int .i64 e'] by
                        rw [← hRT, ← hg]
                        dsimp only
                        rw [if_neg he]
                        unfold tokR
                        rw [if_neg (show (bad k' e').e ≠ 0 from he)]
                        rfl)
                      have q2 : ((e' : Int) != 0) = true := by simp; omega
                      clear hRT hgf hu hy hz hzd hg hK12 hK10 hK9 htx hkd hi3 hiK hi he
                      go_wp2_with (first
                        | (go_at_call 26; (with_reducible refine (HI.out _).mono ?_); rintro e w1 ⟨rfl, n1, rfl⟩)
                        | (go_at_call 28; rw [HZ.out]; (with_reducible refine (HU.out _).mono ?_); rintro e w1 ⟨rfl, hb1⟩; have HBy := Lib.hid ((below_drewN HB2.out _).trans (hb1.mono (below_drewN HB2.out _).size)); have hz1 : w.heap.size < w1.heap.size := (by have := hb1.size; simp at this; omega); have HZ6 := Lib.hid (z6 w _ _ hb1); obtain ⟨hc1, hf1⟩ := bcell hb1; clear hb1)
                        | (go_at_call 25; (with_reducible refine (WR.out _ _ _).mono ?_); rintro e w2 ⟨rfl, hb2⟩; have HBx := Lib.hid (HBy.out.trans (hb2.mono HBy.out.size)); obtain ⟨hc2, hf2⟩ := bcell hb2; clear hb2))
                      exact bodyPost_ret (v := .tuple #[.agg #[.int .i64 0, .int .i64 g, .int .i64 g, .int .i64 0, .int .u64 0, .string ⟨#[]⟩], .int .i64 e']) (by simp [results, Tryz.results12, go_sem, HZ6.out, hc2, hz1]) rfl ⟨by rw [HV.out], by with_reducible exact six HBx.out (Nat.le_refl _) _ _ _ _ _ _⟩
                  · have hK0 : K = 0 := by omega
                    have q1 : ((c.toNat : Int) != 34) = true := by
                      have : ¬ c.toNat = 34 := fun h => hK12 (htx.1 h)
                      simp; omega
                    have HR2 := Lib.hid (show (⟨0, j, j, 0, 0, [], 100⟩ : TK) = t by rw [← HR.out, lx_drop1 HC.out, rd_no c _ (by rw [HK.out]; exact hK0)]; rfl)
                    clear hK0 hK12 hK10 hK9 htx hkd hi3 hiK hi
                    go_wp2_with (first
                      | (go_at_call 26; (with_reducible refine (HI.out _).mono ?_); rintro e w1 ⟨rfl, n1, rfl⟩)
                      | (go_at_call 25; (with_reducible refine (WR.out _ _ _).mono ?_); rintro e w1 ⟨rfl, hb1⟩; have HBx := Lib.hid ((below_drewN HB2.out _).trans (hb1.mono (below_drewN HB2.out _).size)); have HZ6 := Lib.hid (z6 w _ _ hb1); obtain ⟨hc1, hf1⟩ := bcell hb1; clear hb1))
                    exact bodyPost_ret (v := tV ⟨0, j, j, 0, 0, [], 100⟩) (by simp [results, Tryz.results12, go_sem, tV, tkV, str, HZ6.out]) rfl ⟨by rw [HR2.out], by with_reducible exact six HBx.out (Nat.le_refl _) _ _ _ _ _ _⟩
set_option maxHeartbeats 2000000 in
set_option maxRecDepth 100000 in
theorem refNextT_out (s : ByteArray) (k : Int) (w : World) (hk : k < 0 ∨ (s.size : Int) < k) :
    Calls Tryz.prog 12 #[.string s, .int .i64 k] w (ErrT w) := by
  have HB0 := tok2 w
  have WR := Lib.hid (fun (j : Nat) (x : Int) (W : World) => wrong_ref j x W)
  have HW := Lib.hid (fun (W : World) => (show Calls Tryz.prog 25 #[.int .i64 0, .int .i64 6] W fun e w' => e = .returned (.tuple #[.agg #[.int .i64 0, .int .i64 0, .int .i64 0, .int .i64 0, .int .u64 0, .string ⟨#[]⟩], .int .i64 6]) ∧ Below W.heap.size W w' from WR.out 0 6 W))
  clear WR
  by_cases h0 : k < 0
  · have d1 : decide (k < 0) = true := decide_eq_true h0
    clear h0 hk
    go_enter Tryz.func12, Tryz.ntmps12
    go_wp2_with (go_at_call 25; (with_reducible refine (HW.out _).mono ?_); rintro e w1 ⟨rfl, hb1⟩; have HBx := Lib.hid (HB0.out.trans (hb1.mono HB0.out.size)); obtain ⟨hc1, hf1⟩ := bcell hb1; clear hb1)
    exact bodyPost_ret (v := tV ⟨0, 0, 0, 0, 0, [], 6⟩) (by simp [results, Tryz.results12, go_sem, tV, tkV, str, hc1]) rfl ⟨rfl, by with_reducible exact six HBx.out (Nat.le_refl _) _ _ _ _ _ _⟩
  · have d1 : decide (k < 0) = false := decide_eq_false h0
    have d2 : decide ((s.size : Int) < k) = true := decide_eq_true (by omega)
    clear h0 hk
    go_enter Tryz.func12, Tryz.ntmps12
    go_wp2_with (go_at_call 25; (with_reducible refine (HW.out _).mono ?_); rintro e w1 ⟨rfl, hb1⟩; have HBx := Lib.hid (HB0.out.trans (hb1.mono HB0.out.size)); obtain ⟨hc1, hf1⟩ := bcell hb1; clear hb1)
    exact bodyPost_ret (v := tV ⟨0, 0, 0, 0, 0, [], 6⟩) (by simp [results, Tryz.results12, go_sem, tV, tkV, str, hc1]) rfl ⟨rfl, by with_reducible exact six HBx.out (Nat.le_refl _) _ _ _ _ _ _⟩
end Go.Proofs.YtodmlgbomhmbpaaGreatDoor
