/-
  What is proved here: the contract of the reference's Valid; conditions: those that each fact states; and: the contract of the reference's Quote; condition: a string of at most 60000 bytes.
-/
import Derived.Test.YtjnfilbdokppiaaGreatDoorURefX
import Derived.BigQuiet
import Derived.Deep.QuietTactic
namespace Go.Proofs.YtjnfilbdokppiaaGreatDoor.U
open Go.RowKit Ut Go.Lib

theorem nx_valid {l : List UInt8} (hne : l ≠ []) : (nx l = (0, 0, false) ∧ validD l = false) ∨ (∃ r n : Nat, nx l = (r, n, true) ∧ 0 < n ∧ n ≤ l.length ∧ validD l = validD (l.drop n)) := by
  have hd : dec l = decodeL l := by unfold dec; rw [if_neg hne]
  have hw := decodeL_width l
  by_cases hv : (decodeL l).1 = 65533 ∧ (decodeL l).2 = 1
  · exact Or.inl ⟨by unfold nx; rw [hd, if_pos ⟨hv.1, by omega⟩], by rw [validD_step l hne, if_pos hv]⟩
  · obtain ⟨hsc, henc, hle, h1⟩ := valid_head hne hv
    refine Or.inr ⟨(decodeL l).1, (decodeL l).2, ?_, by omega, hle, by rw [validD_step l hne, if_neg hv]⟩
    have h5 : l = enc (decodeL l).1 ++ l.drop (decodeL l).2 := by rw [henc, List.take_append_drop]
    have hlen : (enc (decodeL l).1).length = (decodeL l).2 := by rw [henc, List.length_take]; omega
    have h8 := nx_enc hsc (l.drop (decodeL l).2)
    rw [← h5, hlen] at h8
    exact h8
theorem cut_at (l : List UInt8) (k n m : Nat) (hn : k + n ≤ l.length) (hm : (l.drop k).length = m) : (str (l.drop k)).extract n m = str (l.drop (k + n)) := by
  have h : l.drop k = (l.drop k).take n ++ l.drop (k + n) := by
    rw [← List.drop_drop, List.take_append_drop]
  have h2 := cut_from ((l.drop k).take n) (l.drop (k + n)) n m (by rw [List.length_take, List.length_drop]; omega) (by rw [← h]; exact hm)
  rw [← h] at h2
  exact h2
def VH (w : World) (l : List UInt8) (v : Value) (wr : World) : Prop := ∃ k, k ≤ l.length ∧ v = .string (str (l.drop k)) ∧ Hid (validD (l.drop k) = validD l) ∧ Hid (Below w.heap.size w wr)
set_option maxHeartbeats 2000000 in
set_option maxRecDepth 1000000 in
theorem refValid_any (s : ByteArray) (w : World) :
    Calls Tryz.prog 77 #[.string s] w fun e w' => e = .returned (.bool (validD s.data.toList)) ∧ Below w.heap.size w w' := by
  obtain ⟨l, hl⟩ : ∃ l, s.data.toList = l := ⟨_, rfl⟩
  have hs : s = str l := by subst hl; exact (str_list s).symm
  rw [hl]
  subst hs
  clear hl
  go_enter Tryz.func77, Tryz.ntmps77
  go_wp2
  go_loopw [0] (fun v wr => VH w l v wr) (fun v _ => match v with | .string t => t.size | _ => 0)
  case atStart => exact ⟨0, by omega, rfl, rfl, Below.refl _ _⟩
  case round =>
    obtain ⟨k, hk, rfl, HV, HB⟩ := hrel
    have hsz : (str (l.drop k)).size = l.length - k := by rw [str_size, List.length_drop]
    by_cases hend : k = l.length
    · subst hend
      have h0 : (str (l.drop l.length)).size = 0 := by rw [hsz]; omega
      have hv := HV.out
      rw [List.drop_length, validD_nil] at hv
      have HV2 := Lib.hid hv.symm
      clear hsz hv HV
      go_wp2
      go_ret
      exact ⟨by rw [HV2.out]; rfl, HB.out⟩
    · have hne : l.drop k ≠ [] := by intro h; have := congrArg List.length h; simp at this; omega
      obtain ⟨z, hz⟩ : ∃ z, str (l.drop k) = z := ⟨_, rfl⟩
      have hzs : z.size = l.length - k := by rw [← hz]; exact hsz
      have C : ∀ W, _ := fun W => refNext_any z W
      have hzd : z.data.toList = l.drop k := by rw [← hz, str_data]
      have hzp : 0 < z.size := by omega
      rcases nx_valid hne with ⟨hx, hf⟩ | ⟨r, n, hx, hn0, hn, hf⟩
      · simp only [hzd, hx, nxR] at C
        have HC := Lib.hid C
        have hv := HV.out
        rw [hf] at hv
        have HV2 := Lib.hid hv.symm
        rw [hz]
        clear C hx hf hne hsz hk hend hzd hz hzs HV hv
        go_wp2_with (go_at_call 106; (with_reducible refine (HC.out _).mono ?_); rintro e w1 ⟨rfl, hb⟩; have HB1 := Lib.hid hb; clear hb)
        go_ret
        exact ⟨by rw [HV2.out]; rfl, HB.out.trans (HB1.out.mono HB.out.size)⟩
      · simp only [hzd, hx, nxR] at C
        have HC := Lib.hid C
        have hv := HV.out
        rw [hf, List.drop_drop] at hv
        have HV2 := Lib.hid hv
        rw [List.length_drop] at hn
        have hcut : z.extract n z.size = str (l.drop (k + n)) := by rw [← hz]; exact cut_at l k n _ (by omega) (by rw [str_size])
        have HCUT := Lib.hid hcut
        have HN := Lib.hid (show k + n ≤ l.length by omega)
        have hnz : n ≤ z.size := by omega
        rw [hz]
        have HZS := Lib.hid hzs
        have HN0 := Lib.hid hn0
        clear C hx hf hne hsz hk hend hzd hz hzs HV hv hcut hn hn0
        go_wp2_with (go_at_call 106; (with_reducible refine (HC.out _).mono ?_); rintro e w1 ⟨rfl, hb⟩; have HB1 := Lib.hid hb; clear hb)
        go_round
        case rel =>
          rw [HCUT.out]
          exact ⟨k + n, HN.out, rfl, HV2.out, HB.out.trans (HB1.out.mono HB.out.size)⟩
        case measure =>
          have := HN.out
          have := HZS.out
          have := HN0.out
          rw [HCUT.out]
          simp [str_size]
          omega
  all_goals trace_state
end Go.Proofs.YtjnfilbdokppiaaGreatDoor.U
namespace Go.Proofs.YtjnfilbdokppiaaGreatDoor.U
open Go.RowKit Ut Go.Lib

def mtS : ByteArray := ⟨#[34, 92, 47, 8, 12, 10, 13, 9]⟩
def mkS : ByteArray := ⟨#[34, 92, 47, 98, 102, 110, 114, 116]⟩
def hxS : ByteArray := ⟨#[48, 49, 50, 51, 52, 53, 54, 55, 56, 57, 97, 98, 99, 100, 101, 102]⟩
def mtL : List UInt8 := [34, 92, 47, 8, 12, 10, 13, 9]
def mkL : List UInt8 := [34, 92, 47, 98, 102, 110, 114, 116]
theorem mt_at (j : Nat) (h8 : j < 8) (h : j < mtS.size) : mtS[j]'h = mtL.getD j 0 := by
  rw [List.getD_eq_getElem?_getD, List.getElem?_eq_getElem (by exact h8)]
  rfl
theorem mk_at (j : Nat) (h8 : j < 8) (h : j < mkS.size) : mkS[j]'h = mkL.getD j 0 := by
  rw [List.getD_eq_getElem?_getD, List.getElem?_eq_getElem (by exact h8)]
  rfl
theorem mk_cut : ∀ m : Fin 8, mkS.extract m.val (m.val + 1) = str [mkL.getD m.val 0] := by decide +kernel
theorem hx_cut : ∀ m : Fin 16, hxS.extract m.val (m.val + 1) = str [hexB m.val] := by decide +kernel
/-- The last short spelling of the byte among the first j. -/
def shV (c : UInt8) : Nat → Int
  | 0 => -1
  | j + 1 => if mtL.getD j 0 = c ∧ mkL.getD j 0 ≠ 47 then (j : Int) else shV c j
def itB (c : UInt8) : Bool :=
  (decide (0 ≤ shV c 8) && decide (shV c 8 < 8) && (itemN c.toNat == [92, mkL.getD (shV c 8).toNat 0])) ||
  (shV c 8 == -1 && decide (c.toNat < 32) && itemN c.toNat == [92, 117, 48, 48, hexB (c.toNat / 16), hexB (c.toNat % 16)]) ||
  (shV c 8 == -1 && decide (32 ≤ c.toNat) && itemN c.toNat == [c])
theorem itB_all : ∀ n : Fin 256, itB (UInt8.ofNat n.val) = true := by decide +kernel
theorem itB_any (c : UInt8) : (∃ m : Nat, m < 8 ∧ shV c 8 = (m : Int) ∧ itemN c.toNat = [92, mkL.getD m 0]) ∨
    (shV c 8 = -1 ∧ c.toNat < 32 ∧ itemN c.toNat = [92, 117, 48, 48, hexB (c.toNat / 16), hexB (c.toNat % 16)]) ∨ (shV c 8 = -1 ∧ 32 ≤ c.toNat ∧ itemN c.toNat = [c]) := by
  have h := itB_all ⟨c.toNat, c.toNat_lt⟩
  rw [UInt8.ofNat_toNat] at h
  unfold itB at h
  simp only [Bool.or_eq_true, Bool.and_eq_true, decide_eq_true_eq, beq_iff_eq] at h
  rcases h with (⟨⟨h1, h2⟩, h3⟩ | ⟨⟨h1, h2⟩, h3⟩) | ⟨⟨h1, h2⟩, h3⟩
  · refine .inl ⟨(shV c 8).toNat, by omega, by omega, h3⟩
  · exact .inr (.inl ⟨h1, h2, h3⟩)
  · exact .inr (.inr ⟨h1, h2, h3⟩)
theorem str_cat (a b : List UInt8) : str a ++ str b = str (a ++ b) := by
  unfold str
  apply ByteArray.ext
  simp
theorem take_item {l : List UInt8} {k : Nat} {c : UInt8} (h : l[k]? = some c) : (l.take (k + 1)).flatMap (fun b => itemN b.toNat) = (l.take k).flatMap (fun b => itemN b.toNat) ++ itemN c.toNat := by
  rw [List.take_add_one, h]
  simp
theorem byteQ {s : ByteArray} {l : List UInt8} {k : Nat} {c : UInt8} (hl : s.data.toList = l) (hc : l[k]? = some c) (hk : k < s.size) : s[k]'hk = c := by
  subst hl
  rw [List.getElem?_eq_some_iff] at hc
  obtain ⟨_, h⟩ := hc
  exact h
theorem cut_one {s : ByteArray} {l : List UInt8} {k : Nat} {c : UInt8} (hl : s.data.toList = l) (hc : l[k]? = some c) : s.extract k (k + 1) = str [c] := by
  subst hl
  have h : (s.extract k (k + 1)).data.toList = [c] := by
    rw [ByteArray.data_extract, Array.toList_extract, List.extract_eq_take_drop, show k + 1 - k = 1 by omega]
    rw [List.getElem?_eq_some_iff] at hc
    obtain ⟨hk, h⟩ := hc
    rw [List.drop_eq_getElem_cons hk, h]
    rfl
  rw [← str_list (s.extract k (k + 1)), h]
theorem u8B {a b : UInt8} (h : a ≠ b) : ((a.toNat : Int) == (b.toNat : Int)) = false := by
  rw [Bool.eq_false_iff, ne_eq, beq_iff_eq]
  intro h2
  exact h (UInt8.toNat_inj.1 (by omega))
theorem u8K {a : UInt8} {n : Nat} (h : a.toNat ≠ n) : ((a.toNat : Int) == (n : Int)) = false ∧ ((a.toNat : Int) != (n : Int)) = true := by
  have : (a.toNat : Int) ≠ (n : Int) := by omega
  simp [this]
theorem u8Y {a : UInt8} {n : Nat} (h : a.toNat = n) : ((a.toNat : Int) == (n : Int)) = true ∧ ((a.toNat : Int) != (n : Int)) = false := by
  have : (a.toNat : Int) = (n : Int) := by omega
  simp [this]
def quS (l : List UInt8) (k : Nat) : List UInt8 := 34 :: (l.take k).flatMap fun b => itemN b.toNat
theorem quS_len (l : List UInt8) (k : Nat) : (quS l k).length ≤ 6 * k + 1 := by
  unfold quS
  have := items_len (l.take k)
  have h2 := List.length_take_le k l
  rw [List.length_cons]
  omega
set_option maxHeartbeats 4000000 in
set_option maxRecDepth 1000000 in
theorem refQuote_no (s : ByteArray) (l : List UInt8) (hl : s.data.toList = l) (hv : validD l = false) (w : World) :
    Calls Tryz.prog 43 #[.string s] w fun e w' => e = .returned (quR l) ∧ Below w.heap.size w w' := by
  have C := refValid_any s w
  rw [hl, hv] at C
  have HC := Lib.hid C
  have HQ := Lib.hid (show quR l = .tuple #[.string ⟨#[]⟩, .int .i64 40] by unfold quR; rw [if_neg (by rw [hv]; decide)])
  clear C hv hl
  go_enter Tryz.func43, Tryz.ntmps43
  go_wp2_with (go_at_call 77; (with_reducible refine HC.out.mono ?_); rintro e w1 ⟨rfl, hb⟩; have HB1 := Lib.hid hb; clear hb)
  go_ret2
  exact ⟨by rw [HQ.out]; rfl, HB1.out⟩
set_option maxHeartbeats 8000000 in
set_option maxRecDepth 1000000 in
theorem refQuote_yes (s : ByteArray) (l : List UInt8) (hl : s.data.toList = l) (hs : s.size ≤ 60000) (hv : validD l = true) (w : World) :
    Calls Tryz.prog 43 #[.string s] w fun e w' => e = .returned (quR l) ∧ Below w.heap.size w w' := by
  have C := refValid_any s w
  rw [hl, hv] at C
  have HC := Lib.hid C
  have HQ := Lib.hid (show quR l = .tuple #[.string (str (quo l)), .int .i64 0] by unfold quR; rw [if_pos hv])
  have HSZ := Lib.hid (show s.size = l.length by rw [Lib.size_eq, hl])
  have HL := Lib.hid hl
  clear C hv hl
  go_enter Tryz.func43, Tryz.ntmps43
  go_wp2_with (go_at_call 77; (with_reducible refine HC.out.mono ?_); rintro e w1 ⟨rfl, hb⟩; have HB1 := Lib.hid hb; clear hb)
  go_loopw [4, 5] (fun o i wr => ∃ (k : Nat) (u : ByteArray), k ≤ s.size ∧ i = .int .i64 k ∧ o = .string u ∧ u.size ≤ 6 * k + 1 ∧ Hid (u = str (quS l k)) ∧ Hid (Below w.heap.size w wr)) (fun _ i _ => s.size + 1 - (RowKit.intOf i).toNat)
  case atStart => exact ⟨0, _, Nat.zero_le _, rfl, rfl, by decide, rfl, HB1⟩
  case round =>
    clear HB1 HC
    obtain ⟨k, u, hk, rfl, rfl, hu, HU, HB⟩ := hrel
    by_cases hlt : k < s.size
    · obtain ⟨c, hc⟩ : ∃ c, l[k]? = some c := ⟨_, List.getElem?_eq_getElem (by rw [← HSZ.out]; exact hlt)⟩
      have hx : s[k] = c := byteQ HL.out hc hlt
      have HCC := Lib.hid hc
      have d1 : decide ((k : Int) < (s.size : Int)) = true := decide_eq_true (by omega)
      have d2 : decide (k < s.size) = true := decide_eq_true (by omega)
      clear hc
      go_wp2
      go_loopw [6, 7] (fun a i wq => ∃ j : Nat, j ≤ 8 ∧ i = .int .i64 j ∧ a = .int .i64 (shV c j) ∧ Hid (Below w.heap.size w wq)) (fun _ i _ => 9 - (RowKit.intOf i).toNat)
      case atStart => exact ⟨0, by omega, rfl, rfl, HB⟩
      case round =>
        clear HB
        obtain ⟨j, hj, rfl, rfl, HB⟩ := hrel
        obtain ⟨S, hS⟩ : ∃ S, shV c j = S := ⟨_, rfl⟩
        have HS := Lib.hid hS
        rw [hS]
        by_cases hj8 : j < 8
        · have e1 : decide ((j : Int) < 8) = true := decide_eq_true (by omega)
          have i1 : (0 : Int) ≤ (j : Int) := by omega
          have i2 : (j : Int) < 8 := by omega
          have i3 : (0 : Int) ≤ (k : Int) := by omega
          have i4 : (k : Int) < (s.size : Int) := by omega
          obtain ⟨M, hM⟩ : ∃ M, mtL.getD j 0 = M := ⟨_, rfl⟩
          obtain ⟨K, hK⟩ : ∃ K, mkL.getD j 0 = K := ⟨_, rfl⟩
          have hm : ∀ h, (⟨#[34, 92, 47, 8, 12, 10, 13, 9]⟩ : ByteArray)[j]'h = M := fun h => (mt_at j hj8 h).trans hM
          have hk2 : ∀ h, (⟨#[34, 92, 47, 98, 102, 110, 114, 116]⟩ : ByteArray)[j]'h = K := fun h => (mk_at j hj8 h).trans hK
          have HST := Lib.hid (show shV c (j + 1) = if M = c ∧ K ≠ 47 then (j : Int) else S by rw [← hM, ← hK, ← hS]; rfl)
          clear hM hK hS
          by_cases hMc : M = c
          · have q1 : ((M.toNat : Int) == (c.toNat : Int)) = true := by rw [hMc]; exact beq_self_eq_true _
            by_cases hK47 : K = 47
            · obtain ⟨q2, q3⟩ := u8Y (a := K) (n := 47) (by rw [hK47]; rfl)
              have HR := Lib.hid (show shV c (j + 1) = S by rw [HST.out, if_neg (fun h => h.2 hK47)])
              clear hMc hK47
              go_wp2
              go_quiet (fail)
              go_wp2
              go_roundw
              case rel => exact ⟨j + 1, by omega, by go_num, by rw [HR.out], below_drewN HB.out _⟩
              case measure => simp [RowKit.intOf]; omega
            · obtain ⟨q2, q3⟩ := u8K (a := K) (n := 47) (fun h => hK47 (UInt8.toNat_inj.1 h))
              have HR := Lib.hid (show shV c (j + 1) = (j : Int) by rw [HST.out, if_pos ⟨hMc, hK47⟩])
              clear hMc hK47
              go_wp2
              go_quiet (fail)
              go_wp2
              go_roundw
              case rel => exact ⟨j + 1, by omega, by go_num, by rw [HR.out], below_drewN HB.out _⟩
              case measure => simp [RowKit.intOf]; omega
          · have q1 := u8B hMc
            have HR := Lib.hid (show shV c (j + 1) = S by rw [HST.out, if_neg (fun h => hMc h.1)])
            clear hMc
            go_wp2
            go_quiet (fail)
            go_wp2
            go_roundw
            case rel => exact ⟨j + 1, by omega, by go_num, by rw [HR.out], below_drewN HB.out _⟩
            case measure => simp [RowKit.intOf]; omega
        · have hj' : j = 8 := by omega
          have e1 : decide ((j : Int) < 8) = false := decide_eq_false (by omega)
          have hS8 := HS.out
          rw [hj'] at hS8
          clear hj8 hj' hj HS
          have hk1 : (0 : Int) ≤ (k : Int) := by omega
          have hk2 : (k : Int) < (s.size : Int) := by omega
          have hk3 : k + 1 ≤ s.size := hlt
          have hk4 : (k : Int) + 1 ≤ (s.size : Int) := by omega
          have hc256 := c.toNat_lt
          rcases itB_any c with ⟨m, hm8, hm, hit⟩ | ⟨hm, h32, hit⟩ | ⟨hm, h32, hit⟩
          · rw [hm] at hS8
            subst hS8
            have f1 : decide ((0 : Int) ≤ (m : Int)) = true := decide_eq_true (by omega)
            have f2 : (m : Int) + 1 ≤ 8 := by omega
            have f3 : (0 : Int) ≤ (m : Int) := by omega
            have HMK := Lib.hid (show (⟨#[34, 92, 47, 98, 102, 110, 114, 116]⟩ : ByteArray).extract m (m + 1) = str [mkL.getD m 0] from mk_cut ⟨m, hm8⟩)
            have HIT := Lib.hid hit
            have hmz : ((⟨#[34, 92, 47, 98, 102, 110, 114, 116]⟩ : ByteArray).extract m (m + 1)).size ≤ 1 := by rw [HMK.out, str_size]; simp
            clear hm hit
            go_wp2
            go_roundw
            case rel => 
              have hU := HU.out
              refine ⟨k + 1, _, by omega, by go_num, rfl, ?_, ?_, HB.out⟩
              · rw [ByteArray.size_append, ByteArray.size_append]
                have : (⟨#[92]⟩ : ByteArray).size = 1 := rfl
                omega
              · show u ++ str [92] ++ (⟨#[34, 92, 47, 98, 102, 110, 114, 116]⟩ : ByteArray).extract m (m + 1) = str (quS l (k + 1))
                rw [HMK.out, hU, str_cat, str_cat]
                unfold quS
                rw [take_item HCC.out, HIT.out]
                simp
            case measure => simp [RowKit.intOf]; omega
          · rw [hm] at hS8
            subst hS8
            have f1 : decide ((32 : Int) ≤ (c.toNat : Int)) = false := decide_eq_false (by omega)
            have f2 : decide ((c.toNat : Int) < 32) = true := decide_eq_true (by omega)
            have HIT := Lib.hid hit
            clear hm hit
            go_wp2
            go_quiet (fail)
            go_wp2
            have hU := HU.out
            have h1 : (⟨#[48, 49, 50, 51, 52, 53, 54, 55, 56, 57, 97, 98, 99, 100, 101, 102]⟩ : ByteArray).extract (c.toNat / 16) (c.toNat / 16 + 1) = str [hexB (c.toNat / 16)] := hx_cut ⟨c.toNat / 16, by omega⟩
            have h2 : (⟨#[48, 49, 50, 51, 52, 53, 54, 55, 56, 57, 97, 98, 99, 100, 101, 102]⟩ : ByteArray).extract (c.toNat % 16) (c.toNat % 16 + 1) = str [hexB (c.toNat % 16)] := hx_cut ⟨c.toNat % 16, by omega⟩
            refine ⟨⟨k + 1, _, by omega, by go_num, rfl, ?_, ?_, below_drewN HB.out _⟩, ?_⟩
            · rw [h1, h2, ByteArray.size_append, ByteArray.size_append, ByteArray.size_append, str_size, str_size]
              have : (⟨#[92, 117, 48, 48]⟩ : ByteArray).size = 4 := rfl
              simp only [List.length_cons, List.length_nil]
              omega
            · show u ++ str [92, 117, 48, 48] ++ (⟨#[48, 49, 50, 51, 52, 53, 54, 55, 56, 57, 97, 98, 99, 100, 101, 102]⟩ : ByteArray).extract (c.toNat / 16) (c.toNat / 16 + 1) ++ (⟨#[48, 49, 50, 51, 52, 53, 54, 55, 56, 57, 97, 98, 99, 100, 101, 102]⟩ : ByteArray).extract (c.toNat % 16) (c.toNat % 16 + 1) = str (quS l (k + 1))
              rw [h1, h2, hU, str_cat, str_cat, str_cat]
              unfold quS
              rw [take_item HCC.out, HIT.out]
              simp
            · simp [RowKit.intOf]; omega
          · rw [hm] at hS8
            subst hS8
            have f2 : decide ((c.toNat : Int) < 32) = false := decide_eq_false (by omega)
            have HIT := Lib.hid hit
            have hex : s.extract k (k + 1) = str [c] := cut_one HL.out HCC.out
            have HEX := Lib.hid hex
            have hez : (s.extract k (k + 1)).size ≤ 1 := by rw [hex, str_size]; simp
            clear hm hit hex
            go_wp2
            go_roundw
            case rel => 
              have hU := HU.out
              refine ⟨k + 1, _, by omega, by go_num, rfl, ?_, ?_, HB.out⟩
              · rw [ByteArray.size_append]
                omega
              · show u ++ s.extract k (k + 1) = str (quS l (k + 1))
                rw [HEX.out, hU, str_cat]
                unfold quS
                rw [take_item HCC.out, HIT.out]
                simp
            case measure => simp [RowKit.intOf]; omega
    · have hks : k = s.size := by omega
      have d1 : decide ((k : Int) < (s.size : Int)) = false := decide_eq_false (by omega)
      have d2 : decide (k < s.size) = false := decide_eq_false (by omega)
      have hU := HU.out
      unfold quS at hU
      rw [List.take_of_length_le (by rw [hks, HSZ.out]; exact Nat.le_refl _)] at hU
      have HU2 := Lib.hid hU
      clear hU hks hlt
      go_wp2
      go_ret2
      refine ⟨?_, HB.out⟩
      rw [HQ.out]
      have : str (quo l) = u ++ (⟨#[34]⟩ : ByteArray) := by
        rw [HU2.out]
        show _ = _ ++ str [34]
        rw [str_cat]
        rfl
      rw [this]
      rfl
theorem refQuote_any (s : ByteArray) (l : List UInt8) (hl : s.data.toList = l) (hs : s.size ≤ 60000) (w : World) :
    Calls Tryz.prog 43 #[.string s] w fun e w' => e = .returned (quR l) ∧ Below w.heap.size w w' := by
  rcases hv : validD l with _ | _
  · exact refQuote_no s l hl hv w
  · exact refQuote_yes s l hl hs hv w
end Go.Proofs.YtjnfilbdokppiaaGreatDoor.U
