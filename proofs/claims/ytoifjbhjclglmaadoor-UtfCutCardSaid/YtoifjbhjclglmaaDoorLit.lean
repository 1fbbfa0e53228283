/-
  What is proved here: the contract of the laws' helper literal; conditions: a cell of the library's own holds a number, and those that each fact states.
-/
import Derived.Test.YtoifjbhjclglmaaDoorUnit
import Derived.Test.YtoifjbhjclglmaaDoorRuneOf
namespace Go.Proofs.YtoifjbhjclglmaaDoor
open Go.RowKit Ut Go.Lib

theorem bring_small (t n : Int) (w : World) (hn : 1 ≤ n) (hn2 : n ≤ 100000) :
    Calls Tryd.prog 26 #[.int .i64 t, .int .i64 n] w fun e w' => e = .returned (.int .i64 (t % n)) ∧ w = w' := by
  have d0 : (n == 0) = false := by simp; omega
  by_cases h : t < 0
  · obtain ⟨r, hr⟩ : ∃ r, t.tmod n = r := ⟨_, rfl⟩
    obtain ⟨k, rfl⟩ : ∃ k : Int, t = -k := ⟨-t, by omega⟩
    have e1 : r = -(k % n) := by rw [← hr, Int.neg_tmod, Int.tmod_eq_emod_of_nonneg (by omega)]
    have b0 := Int.emod_nonneg k (show n ≠ 0 by omega)
    have b1 := Int.emod_lt_of_pos k (show 0 < n by omega)
    by_cases hz : r = 0
    · have hz' : k % n = 0 := by omega
      have e2 : -k % n = 0 := Int.emod_eq_zero_of_dvd (Int.dvd_neg.2 (Int.dvd_of_emod_eq_zero hz'))
      rw [e2]
      rw [hz] at hr
      clear e1 b0 b1 hz hz' e2
      go_enter Tryd.func26, Tryd.ntmps26
      go_wp2
      go_ret
      exact ⟨rfl, rfl⟩
    · have hneg : r < 0 := by omega
      have e2 : -k % n = r + n := by
        have e3 : -k = (r + n) + n * (-(k / n) - 1) := by
          have := Int.mul_ediv_add_emod k n
          rw [e1, Int.mul_sub, Int.mul_neg]
          omega
        rw [e3, Int.add_mul_emod_self_left, Int.emod_eq_of_lt (by omega) (by omega)]
      rw [e2]
      have g0 : -100000 ≤ r := by omega
      clear e1 b0 b1 hz e2 h
      go_enter Tryd.func26, Tryd.ntmps26
      go_wp2
      go_ret
      exact ⟨rfl, rfl⟩
  · have h' : 0 ≤ t := by omega
    have b0 := Int.emod_nonneg t (show n ≠ 0 by omega)
    have d1 : decide (t % n < 0) = false := by simp; omega
    have e1 : t.tmod n = t % n := Int.tmod_eq_emod_of_nonneg h'
    clear h
    go_enter Tryd.func26, Tryd.ntmps26
    go_wp2
    go_ret
    exact ⟨rfl, rfl⟩
theorem ix_all : ∀ n : Fin 256, ((Lib.indexByte mtL (UInt8.ofNat n.val) == -1) && (List.range 8).all (fun j => mtL.getD j 0 != UInt8.ofNat n.val)) ||
    (decide (0 ≤ Lib.indexByte mtL (UInt8.ofNat n.val)) && decide (Lib.indexByte mtL (UInt8.ofNat n.val) < 8) && (mtL.getD (Lib.indexByte mtL (UInt8.ofNat n.val)).toNat 0 == UInt8.ofNat n.val)) = true := by decide +kernel
theorem ix_any (c : UInt8) : (Lib.indexByte mtL c = -1 ∧ ∀ j, j < 8 → mtL.getD j 0 ≠ c) ∨ (∃ j : Nat, j < 8 ∧ Lib.indexByte mtL c = (j : Int) ∧ mtL.getD j 0 = c) := by
  have h := ix_all ⟨c.toNat, c.toNat_lt⟩
  rw [UInt8.ofNat_toNat] at h
  simp only [Bool.or_eq_true, Bool.and_eq_true, beq_iff_eq, List.all_eq_true, List.mem_range, bne_iff_ne, decide_eq_true_eq] at h
  rcases h with ⟨h1, h2⟩ | ⟨⟨h1, h2⟩, h3⟩
  · exact .inl ⟨h1, h2⟩
  · exact .inr ⟨(Lib.indexByte mtL c).toNat, by omega, by omega, h3⟩
/-- Between two spellings. -/
def LI (w0 : World) (xs : List Int) (k : Nat) (u : ByteArray) (w : World) : Prop := ∃ X, u = str (34 :: X) ∧ LitP (xs.take k) X ∧ Below w0.heap.size w0 w
theorem LI.next {w0 w w' : World} {xs : List Int} {k : Nat} {u v : ByteArray} {x : List UInt8} {i : Int} (h : LI w0 xs k u w) (hi : xs[k]? = some i) (hv : v = u ++ str x) (hx : Sp (rn i) x) (h1 : (itemR (rn i)).length ≤ x.length) (h2 : x.length ≤ 12) (hb : Below w.heap.size w w') :
    LI w0 xs (k + 1) v w' := by
  obtain ⟨X, rfl, hp, hB⟩ := h
  refine ⟨X ++ x, ?_, ?_, hB.trans (hb.mono hB.size)⟩
  · rw [hv, str_cat]
    rfl
  · rw [List.take_add_one, hi]
    exact hp.snoc hx h1 h2
/-- What literal answers. -/
def LitE (xs : List Int) (w : World) (e : Ending) (w' : World) : Prop := ∃ X, e = .returned (.string (str (34 :: X ++ [34]))) ∧ LitP (xs.take 60) X ∧ Below w.heap.size w w'
theorem LI.done {w0 w : World} {xs : List Int} {k : Nat} {u v : ByteArray} (h : LI w0 xs k u w) (hk : xs.take k = xs.take 60) (hv : v = u ++ (⟨#[34]⟩ : ByteArray)) : LitE xs w0 (.returned (.string v)) w := by
  obtain ⟨X, rfl, hp, hB⟩ := h
  rw [hk] at hp
  refine ⟨X, ?_, hp, hB⟩
  rw [hv]
  show Ending.returned (.string (str (34 :: X) ++ str [34])) = _
  rw [str_cat]
theorem enc_one {r : Nat} (h : (enc r).length = 1) : r < 128 := by
  unfold enc encN at h
  by_cases h1 : r < 128
  · exact h1
  · rw [if_neg h1] at h
    repeat' split at h
    all_goals simp at h
theorem hi_val {r : Nat} (h1 : 65536 ≤ r) (h2 : r ≤ 1114111) : wrap64 (55296 + wrap64 ((r : Int) - 65536) / 1024) = ((55296 + (r - 65536) / 1024 : Nat) : Int) := by
  have e : wrap64 ((r : Int) - 65536) = ((r - 65536 : Nat) : Int) := by unfold wrap64; omega
  rw [e]
  unfold wrap64
  omega
theorem lo_val {r : Nat} (_h : r ≤ 1114111) : wrap64 (56320 + bits BinOp.and IntKind.i64 (r : Int) 1023) = ((56320 + r % 1024 : Nat) : Int) := by
  rw [and1023]
  unfold wrap64
  omega
set_option maxHeartbeats 8000000 in
set_option maxRecDepth 1000000 in
theorem literal_any (v1 v2 : Value) (xs ys : List Int) (w : World) (m : Int) (hm : w.cell? ⟨2, 0, none⟩ = some (.int .i64 m)) (h1 : RdI w v1 xs) (h2 : RdI w v2 ys) :
    Calls Tryd.prog 25 #[v1, v2] w (LitE xs w) := by
  have h2b := World.block_lt_of_cell? w _ hm
  have HM := Lib.hid (show ∀ W, Below w.heap.size w W → W.cell? ⟨2, 0, none⟩ = some (.int .i64 m) from fun W h => (h.cell (p := ⟨2, 0, none⟩) h2b).trans hm)
  have HR1 := Lib.hid h1
  have HR2 := Lib.hid h2
  obtain ⟨A, n, c, rfl, hn, hn2, -⟩ := h1
  obtain ⟨A2, n2, c2, rfl, hm1, hm2, -⟩ := h2
  have HN := Lib.hid hn
  have HM1 := Lib.hid hm1
  clear hm hn hm1 h2b
  go_enter Tryd.func25, Tryd.ntmps25
  go_wp2
  go_loopw [5, 6] (fun o i wr => ∃ (k : Nat) (u : ByteArray), i = .int .i64 k ∧ o = .string u ∧ k ≤ n ∧ k ≤ 60 ∧ u.size ≤ 12 * k + 1 ∧ Hid (LI w xs k u wr)) (fun _ i _ => 61 - (RowKit.intOf i).toNat)
  case atStart => exact ⟨0, _, rfl, rfl, Nat.zero_le _, Nat.zero_le _, by decide, ⟨[], rfl, LitP.nil, Below.refl _ _⟩⟩
  case round =>
    obtain ⟨k, u, rfl, rfl, hk, hk60, hu, HI⟩ := hrel
    by_cases hlt : k < n
    · have d1 : decide ((k : Int) < (n : Int)) = true := decide_eq_true (by omega)
      have d1' : decide (k < n) = true := decide_eq_true hlt
      by_cases h60 : k < 60
      · have d2 : decide ((k : Int) < 60) = true := decide_eq_true (by omega)
        have HBW := Lib.hid HI.out.choose_spec.2.2
        obtain ⟨x, hx⟩ : ∃ x, xs[k]? = some x := ⟨_, List.getElem?_eq_getElem (by rw [HN.out]; exact hlt)⟩
        obtain ⟨A', n', c', hv', hln', _, hcl⟩ := HR1.out.below HBW.out
        injection hv' with e1 e2 e3
        subst e1 e2 e3
        obtain ⟨b, off, rfl, hb, hc⟩ := hcl (by omega)
        have hck := hc k x hx
        have HX := Lib.hid hx
        have HSC := Lib.hid (rn_scal x)
        obtain ⟨r, hr⟩ : ∃ r, rn x = r := ⟨_, rfl⟩
        have HRX := Lib.hid hr
        have hsc : scal r := by rw [← hr]; exact rn_scal x
        have HRO := Lib.hid (show ∀ W, Calls Tryd.prog 28 #[.int .i64 x] W fun e w' => e = .returned (.int .i32 (r : Nat)) ∧ W = w' from fun W => by rw [← hr]; exact runeOf_any x W)
        have HPU := Lib.hid (fun W => put_yes r W hsc)
        have HSP := Lib.hid hsc
        have hw32 : wrap32 (r : Int) = (r : Int) := by unfold scal at hsc; unfold wrap32; omega
        have HW32 := Lib.hid hw32
        have hw64 : wrap64 (r : Int) = (r : Int) := by unfold scal at hsc; unfold wrap64; omega
        obtain ⟨E, hE⟩ : ∃ E, str (enc r) = E := ⟨_, rfl⟩
        have hes : 1 ≤ E.size ∧ E.size ≤ 4 := by rw [← hE, str_size]; exact enc_len r
        rw [hE] at HPU
        have HE := Lib.hid hE
        have HIX := Lib.hid (fun W h => Tryd.strings_Index mtS E m W (by decide) (HM.out W h))
        clear hx hr hsc hE hc hcl hln'
        obtain ⟨hes1, hes2⟩ := hes
        by_cases hw0 : n2 = 0
        · have f1 : decide ((0 : Int) < (n2 : Int)) = false := decide_eq_false (by omega)
          have f1' : decide (0 < n2) = false := decide_eq_false (by omega)
          clear hw0
          by_cases hr16 : r < 65536
          · have p1 : decide ((r : Int) < 65536) = true := decide_eq_true (by omega)
            have HUN := Lib.hid (fun W => unit_any smS smL r sm_size sm_cut hr16 W)
            have HSPX := Lib.hid (sp_unit base_sm HSP.out hr16)
            obtain ⟨Z, hZ⟩ : ∃ Z, str (un smL r) = Z := ⟨_, rfl⟩
            have hzs : Z.size ≤ 6 := by rw [← hZ, str_size]; exact Nat.le_refl _
            rw [hZ] at HUN
            have HZ := Lib.hid hZ
            clear hr16 hZ

            go_wp2_with fail
            refine (HRO.out _).mono ?_
            rintro e w2 ⟨rfl, rfl⟩

            go_wp2_with fail
            try rw [HW32.out]
            refine (HPU.out _).mono ?_
            rintro e w4 ⟨rfl, rfl⟩
            go_wp2_with fail

            refine (HIX.out _ (HBW.out.alloc HBW.out.size _)).mono ?_
            rintro e w5 ⟨rfl, hw5⟩
            subst hw5

            go_wp2_with fail
            refine (HUN.out _).mono ?_

            rintro e w6 ⟨rfl, hb6⟩
            have HB6 := Lib.hid (((Below.refl wr.heap.size wr).alloc (Nat.le_refl _) (.cells #[.string ⟨#[48, 49, 50, 51, 52, 53, 54, 55, 56, 57, 97, 98, 99, 100, 101, 102]⟩, .string ⟨#[48, 49, 50, 51, 52, 53, 54, 55, 56, 57, 65, 66, 67, 68, 69, 70]⟩] 9)).trans (hb6.mono (by simp)))
            clear hb6

            go_wp2_with fail
            go_roundw
            case rel =>
              refine ⟨k + 1, u ++ Z, by go_num, rfl, by omega, by omega, by rw [ByteArray.size_append]; omega, ?_⟩
              exact HI.out.next (x := un smL r) HX.out (by rw [HZ.out]) (by rw [HRX.out]; exact HSPX.out) (itemR_len _) (by show 6 ≤ 12; decide) HB6.out
            case measure => simp [RowKit.intOf]; omega
          · have p1 : decide ((r : Int) < 65536) = false := decide_eq_false (by omega)
            have hrm : r ≤ 1114111 := by have := HSP.out; unfold scal at this; exact this.1
            have HV1 := Lib.hid (hi_val (r := r) (by omega) hrm)
            have HV2 := Lib.hid (lo_val hrm)
            have HSPX := Lib.hid (sp_pair base_sm HSP.out (by omega))
            obtain ⟨hi, hhi⟩ : ∃ hi, 55296 + (r - 65536) / 1024 = hi := ⟨_, rfl⟩
            obtain ⟨lo, hlo⟩ : ∃ lo, 56320 + r % 1024 = lo := ⟨_, rfl⟩
            have HUN := Lib.hid (fun W => unit_any smS smL hi sm_size sm_cut (by omega) W)
            have HUN2 := Lib.hid (fun W => unit_any smS smL lo sm_size sm_cut (by omega) W)
            rw [hhi] at HV1 HSPX
            rw [hlo] at HV2 HSPX
            obtain ⟨Z, hZ⟩ : ∃ Z, str (un smL hi) = Z := ⟨_, rfl⟩
            obtain ⟨Y, hY⟩ : ∃ Y, str (un smL lo) = Y := ⟨_, rfl⟩
            have hzs : Z.size ≤ 6 := by rw [← hZ, str_size]; exact Nat.le_refl _
            have hys : Y.size ≤ 6 := by rw [← hY, str_size]; exact Nat.le_refl _
            rw [hZ] at HUN
            rw [hY] at HUN2
            have HZ := Lib.hid hZ
            have HY := Lib.hid hY
            clear hr16 hZ hY hhi hlo hrm

            go_wp2_with fail
            refine (HRO.out _).mono ?_
            rintro e w2 ⟨rfl, rfl⟩

            go_wp2_with fail
            try rw [HW32.out]
            refine (HPU.out _).mono ?_
            rintro e w4 ⟨rfl, rfl⟩
            go_wp2_with fail

            refine (HIX.out _ (HBW.out.alloc HBW.out.size _)).mono ?_
            rintro e w5 ⟨rfl, hw5⟩
            subst hw5

            go_wp2_with fail
            rw [HV1.out]
            refine (HUN.out _).mono ?_

            rintro e w6 ⟨rfl, hb6⟩
            have HB6 := Lib.hid (((Below.refl wr.heap.size wr).alloc (Nat.le_refl _) (.cells #[.string ⟨#[48, 49, 50, 51, 52, 53, 54, 55, 56, 57, 97, 98, 99, 100, 101, 102]⟩, .string ⟨#[48, 49, 50, 51, 52, 53, 54, 55, 56, 57, 65, 66, 67, 68, 69, 70]⟩] 9)).trans (hb6.mono (by simp)))
            clear hb6

            go_wp2_with fail
            rw [HV2.out]
            refine (HUN2.out _).mono ?_
            rintro e w7 ⟨rfl, hb7⟩
            have HB7 := Lib.hid (HB6.out.trans (hb7.mono HB6.out.size))
            clear hb7
            go_wp2_with fail
            go_roundw
            case rel =>
              refine ⟨k + 1, u ++ Z ++ Y, by go_num, rfl, by omega, by omega, by rw [ByteArray.size_append, ByteArray.size_append]; omega, ?_⟩
              exact HI.out.next (x := un smL hi ++ un smL lo) HX.out (by rw [← HZ.out, ← HY.out, ByteArray.append_assoc, str_cat]) (by rw [HRX.out]; exact HSPX.out) (Nat.le_trans (itemR_len _) (by rw [List.length_append]; exact Nat.le_add_right 6 6)) (by rw [List.length_append]; exact Nat.le_refl 12) HB7.out
            case measure => simp [RowKit.intOf]; omega
        · have f1 : decide ((0 : Int) < (n2 : Int)) = true := decide_eq_true (by omega)
          have f1' : decide (0 < n2) = true := decide_eq_true (by omega)
          obtain ⟨mm, hmm⟩ : ∃ mm, k % n2 = mm := ⟨_, rfl⟩
          have hml : mm < n2 := by rw [← hmm]; exact Nat.mod_lt _ (by omega)
          have g1 : (k : Int) % (n2 : Int) = (mm : Int) := by rw [← hmm]; rfl
          have g2 : (k : Int).tmod (n2 : Int) = (mm : Int) := by rw [Int.tmod_eq_emod_of_nonneg (by omega)]; exact g1
          have g3 : ((n2 : Int) == 0) = false := by simp; omega
          obtain ⟨y, hy⟩ : ∃ y, ys[mm]? = some y := ⟨_, List.getElem?_eq_getElem (by rw [HM1.out]; exact hml)⟩
          obtain ⟨A', n', c', hv', hln', _, hcl⟩ := HR2.out.below HBW.out
          injection hv' with e1 e2 e3
          subst e1 e2 e3
          obtain ⟨b2, off2, rfl, hb2, hc2⟩ := hcl (by omega)
          have hck2 := hc2 mm y hy
          have hb3 := Int.emod_nonneg y (show (3 : Int) ≠ 0 by decide)
          have hb4 := Int.emod_lt_of_pos y (show (0 : Int) < 3 by decide)
          have HBR := Lib.hid (fun W => bring_small y 3 W (by decide) (by decide))
          clear hmm hy hc2 hcl hln' hw0
          rcases (show y % 3 = 0 ∨ y % 3 = 1 ∨ y % 3 = 2 by omega) with hw | hw | hw
          · rw [hw] at HBR
            clear hw hb3 hb4
            by_cases hr16 : r < 65536
            · have p1 : decide ((r : Int) < 65536) = true := decide_eq_true (by omega)
              have HUN := Lib.hid (fun W => unit_any smS smL r sm_size sm_cut hr16 W)
              have HSPX := Lib.hid (sp_unit base_sm HSP.out hr16)
              obtain ⟨Z, hZ⟩ : ∃ Z, str (un smL r) = Z := ⟨_, rfl⟩
              have hzs : Z.size ≤ 6 := by rw [← hZ, str_size]; exact Nat.le_refl _
              rw [hZ] at HUN
              have HZ := Lib.hid hZ
              clear hr16 hZ

              go_wp2_with fail
              refine (HRO.out _).mono ?_
              rintro e w2 ⟨rfl, rfl⟩

              go_wp2_with fail
              refine (HBR.out _).mono ?_
              rintro e w3 ⟨rfl, rfl⟩

              go_wp2_with fail
              try rw [HW32.out]
              refine (HPU.out _).mono ?_
              rintro e w4 ⟨rfl, rfl⟩
              go_wp2_with fail

              refine (HIX.out _ (HBW.out.alloc HBW.out.size _)).mono ?_
              rintro e w5 ⟨rfl, hw5⟩
              subst hw5

              go_wp2_with fail
              refine (HUN.out _).mono ?_

              rintro e w6 ⟨rfl, hb6⟩
              have HB6 := Lib.hid (((Below.refl wr.heap.size wr).alloc (Nat.le_refl _) (.cells #[.string ⟨#[48, 49, 50, 51, 52, 53, 54, 55, 56, 57, 97, 98, 99, 100, 101, 102]⟩, .string ⟨#[48, 49, 50, 51, 52, 53, 54, 55, 56, 57, 65, 66, 67, 68, 69, 70]⟩] 9)).trans (hb6.mono (by simp)))
              clear hb6

              go_wp2_with fail
              go_roundw
              case rel =>
                refine ⟨k + 1, u ++ Z, by go_num, rfl, by omega, by omega, by rw [ByteArray.size_append]; omega, ?_⟩
                exact HI.out.next (x := un smL r) HX.out (by rw [HZ.out]) (by rw [HRX.out]; exact HSPX.out) (itemR_len _) (by show 6 ≤ 12; decide) HB6.out
              case measure => simp [RowKit.intOf]; omega
            · have p1 : decide ((r : Int) < 65536) = false := decide_eq_false (by omega)
              have hrm : r ≤ 1114111 := by have := HSP.out; unfold scal at this; exact this.1
              have HV1 := Lib.hid (hi_val (r := r) (by omega) hrm)
              have HV2 := Lib.hid (lo_val hrm)
              have HSPX := Lib.hid (sp_pair base_sm HSP.out (by omega))
              obtain ⟨hi, hhi⟩ : ∃ hi, 55296 + (r - 65536) / 1024 = hi := ⟨_, rfl⟩
              obtain ⟨lo, hlo⟩ : ∃ lo, 56320 + r % 1024 = lo := ⟨_, rfl⟩
              have HUN := Lib.hid (fun W => unit_any smS smL hi sm_size sm_cut (by omega) W)
              have HUN2 := Lib.hid (fun W => unit_any smS smL lo sm_size sm_cut (by omega) W)
              rw [hhi] at HV1 HSPX
              rw [hlo] at HV2 HSPX
              obtain ⟨Z, hZ⟩ : ∃ Z, str (un smL hi) = Z := ⟨_, rfl⟩
              obtain ⟨Y, hY⟩ : ∃ Y, str (un smL lo) = Y := ⟨_, rfl⟩
              have hzs : Z.size ≤ 6 := by rw [← hZ, str_size]; exact Nat.le_refl _
              have hys : Y.size ≤ 6 := by rw [← hY, str_size]; exact Nat.le_refl _
              rw [hZ] at HUN
              rw [hY] at HUN2
              have HZ := Lib.hid hZ
              have HY := Lib.hid hY
              clear hr16 hZ hY hhi hlo hrm

              go_wp2_with fail
              refine (HRO.out _).mono ?_
              rintro e w2 ⟨rfl, rfl⟩

              go_wp2_with fail
              refine (HBR.out _).mono ?_
              rintro e w3 ⟨rfl, rfl⟩

              go_wp2_with fail
              try rw [HW32.out]
              refine (HPU.out _).mono ?_
              rintro e w4 ⟨rfl, rfl⟩
              go_wp2_with fail

              refine (HIX.out _ (HBW.out.alloc HBW.out.size _)).mono ?_
              rintro e w5 ⟨rfl, hw5⟩
              subst hw5

              go_wp2_with fail
              rw [HV1.out]
              refine (HUN.out _).mono ?_

              rintro e w6 ⟨rfl, hb6⟩
              have HB6 := Lib.hid (((Below.refl wr.heap.size wr).alloc (Nat.le_refl _) (.cells #[.string ⟨#[48, 49, 50, 51, 52, 53, 54, 55, 56, 57, 97, 98, 99, 100, 101, 102]⟩, .string ⟨#[48, 49, 50, 51, 52, 53, 54, 55, 56, 57, 65, 66, 67, 68, 69, 70]⟩] 9)).trans (hb6.mono (by simp)))
              clear hb6

              go_wp2_with fail
              rw [HV2.out]
              refine (HUN2.out _).mono ?_
              rintro e w7 ⟨rfl, hb7⟩
              have HB7 := Lib.hid (HB6.out.trans (hb7.mono HB6.out.size))
              clear hb7
              go_wp2_with fail
              go_roundw
              case rel =>
                refine ⟨k + 1, u ++ Z ++ Y, by go_num, rfl, by omega, by omega, by rw [ByteArray.size_append, ByteArray.size_append]; omega, ?_⟩
                exact HI.out.next (x := un smL hi ++ un smL lo) HX.out (by rw [← HZ.out, ← HY.out, ByteArray.append_assoc, str_cat]) (by rw [HRX.out]; exact HSPX.out) (Nat.le_trans (itemR_len _) (by rw [List.length_append]; exact Nat.le_add_right 6 6)) (by rw [List.length_append]; exact Nat.le_refl 12) HB7.out
              case measure => simp [RowKit.intOf]; omega
          · rw [hw] at HBR
            clear hw hb3 hb4
            by_cases hr16 : r < 65536
            · have p1 : decide ((r : Int) < 65536) = true := decide_eq_true (by omega)
              have HUN := Lib.hid (fun W => unit_any grS grL r gr_size gr_cut hr16 W)
              have HSPX := Lib.hid (sp_unit base_gr HSP.out hr16)
              obtain ⟨Z, hZ⟩ : ∃ Z, str (un grL r) = Z := ⟨_, rfl⟩
              have hzs : Z.size ≤ 6 := by rw [← hZ, str_size]; exact Nat.le_refl _
              rw [hZ] at HUN
              have HZ := Lib.hid hZ
              clear hr16 hZ

              go_wp2_with fail
              refine (HRO.out _).mono ?_
              rintro e w2 ⟨rfl, rfl⟩

              go_wp2_with fail
              refine (HBR.out _).mono ?_
              rintro e w3 ⟨rfl, rfl⟩

              go_wp2_with fail
              try rw [HW32.out]
              refine (HPU.out _).mono ?_
              rintro e w4 ⟨rfl, rfl⟩
              go_wp2_with fail

              refine (HIX.out _ (HBW.out.alloc HBW.out.size _)).mono ?_
              rintro e w5 ⟨rfl, hw5⟩
              subst hw5

              go_wp2_with fail
              refine (HUN.out _).mono ?_

              rintro e w6 ⟨rfl, hb6⟩
              have HB6 := Lib.hid (((Below.refl wr.heap.size wr).alloc (Nat.le_refl _) (.cells #[.string ⟨#[48, 49, 50, 51, 52, 53, 54, 55, 56, 57, 97, 98, 99, 100, 101, 102]⟩, .string ⟨#[48, 49, 50, 51, 52, 53, 54, 55, 56, 57, 65, 66, 67, 68, 69, 70]⟩] 9)).trans (hb6.mono (by simp)))
              clear hb6

              go_wp2_with fail
              go_roundw
              case rel =>
                refine ⟨k + 1, u ++ Z, by go_num, rfl, by omega, by omega, by rw [ByteArray.size_append]; omega, ?_⟩
                exact HI.out.next (x := un grL r) HX.out (by rw [HZ.out]) (by rw [HRX.out]; exact HSPX.out) (itemR_len _) (by show 6 ≤ 12; decide) HB6.out
              case measure => simp [RowKit.intOf]; omega
            · have p1 : decide ((r : Int) < 65536) = false := decide_eq_false (by omega)
              have hrm : r ≤ 1114111 := by have := HSP.out; unfold scal at this; exact this.1
              have HV1 := Lib.hid (hi_val (r := r) (by omega) hrm)
              have HV2 := Lib.hid (lo_val hrm)
              have HSPX := Lib.hid (sp_pair base_gr HSP.out (by omega))
              obtain ⟨hi, hhi⟩ : ∃ hi, 55296 + (r - 65536) / 1024 = hi := ⟨_, rfl⟩
              obtain ⟨lo, hlo⟩ : ∃ lo, 56320 + r % 1024 = lo := ⟨_, rfl⟩
              have HUN := Lib.hid (fun W => unit_any grS grL hi gr_size gr_cut (by omega) W)
              have HUN2 := Lib.hid (fun W => unit_any grS grL lo gr_size gr_cut (by omega) W)
              rw [hhi] at HV1 HSPX
              rw [hlo] at HV2 HSPX
              obtain ⟨Z, hZ⟩ : ∃ Z, str (un grL hi) = Z := ⟨_, rfl⟩
              obtain ⟨Y, hY⟩ : ∃ Y, str (un grL lo) = Y := ⟨_, rfl⟩
              have hzs : Z.size ≤ 6 := by rw [← hZ, str_size]; exact Nat.le_refl _
              have hys : Y.size ≤ 6 := by rw [← hY, str_size]; exact Nat.le_refl _
              rw [hZ] at HUN
              rw [hY] at HUN2
              have HZ := Lib.hid hZ
              have HY := Lib.hid hY
              clear hr16 hZ hY hhi hlo hrm

              go_wp2_with fail
              refine (HRO.out _).mono ?_
              rintro e w2 ⟨rfl, rfl⟩

              go_wp2_with fail
              refine (HBR.out _).mono ?_
              rintro e w3 ⟨rfl, rfl⟩

              go_wp2_with fail
              try rw [HW32.out]
              refine (HPU.out _).mono ?_
              rintro e w4 ⟨rfl, rfl⟩
              go_wp2_with fail

              refine (HIX.out _ (HBW.out.alloc HBW.out.size _)).mono ?_
              rintro e w5 ⟨rfl, hw5⟩
              subst hw5

              go_wp2_with fail
              rw [HV1.out]
              refine (HUN.out _).mono ?_

              rintro e w6 ⟨rfl, hb6⟩
              have HB6 := Lib.hid (((Below.refl wr.heap.size wr).alloc (Nat.le_refl _) (.cells #[.string ⟨#[48, 49, 50, 51, 52, 53, 54, 55, 56, 57, 97, 98, 99, 100, 101, 102]⟩, .string ⟨#[48, 49, 50, 51, 52, 53, 54, 55, 56, 57, 65, 66, 67, 68, 69, 70]⟩] 9)).trans (hb6.mono (by simp)))
              clear hb6

              go_wp2_with fail
              rw [HV2.out]
              refine (HUN2.out _).mono ?_
              rintro e w7 ⟨rfl, hb7⟩
              have HB7 := Lib.hid (HB6.out.trans (hb7.mono HB6.out.size))
              clear hb7
              go_wp2_with fail
              go_roundw
              case rel =>
                refine ⟨k + 1, u ++ Z ++ Y, by go_num, rfl, by omega, by omega, by rw [ByteArray.size_append, ByteArray.size_append]; omega, ?_⟩
                exact HI.out.next (x := un grL hi ++ un grL lo) HX.out (by rw [← HZ.out, ← HY.out, ByteArray.append_assoc, str_cat]) (by rw [HRX.out]; exact HSPX.out) (Nat.le_trans (itemR_len _) (by rw [List.length_append]; exact Nat.le_add_right 6 6)) (by rw [List.length_append]; exact Nat.le_refl 12) HB7.out
              case measure => simp [RowKit.intOf]; omega
          · rw [hw] at HBR
            clear hw hb3 hb4
            by_cases hr128 : r < 128
            · obtain ⟨c, hce⟩ : ∃ c, UInt8.ofNat r = c := ⟨_, rfl⟩
              have hcn : c.toNat = r := by rw [← hce]; exact ofNat_toNat (by omega)
              have hEc : E = ⟨#[c]⟩ := by rw [← HE.out, ← hce]; unfold enc encN; rw [if_pos hr128]; rfl
              have hsz : E.size = 1 := by rw [hEc]; rfl
              have z1 : ((E.size : Int) == 1) = true := by rw [hsz]; rfl
              have z1' : (E.size == 1) = true := by rw [hsz]; rfl
              have HIX1 := Lib.hid (show ∀ W, Calls Tryd.prog 42 #[.string mtS, .string E] W fun e w' => e = .returned (.int .i64 (Lib.indexByte mtL c)) ∧ w' = W from fun W => by rw [hEc]; exact Tryd.strings_Index_one mtS c W)
              rcases ix_any c with ⟨hK, hno⟩ | ⟨j, hj8, hK, hmt⟩
              · rw [hK] at HIX1
                by_cases h32 : 32 ≤ r
                · have p2 : decide ((32 : Int) ≤ (r : Int)) = true := decide_eq_true (by omega)
                  have h34 : r ≠ 34 := by rintro rfl; exact hno 0 (by decide) (by rw [← hce]; rfl)
                  have h92 : r ≠ 92 := by rintro rfl; exact hno 1 (by decide) (by rw [← hce]; rfl)
                  have HSPX := Lib.hid (sp_self HSP.out h32 h34 h92)
                  have HLEN := Lib.hid (itemR_self h32 h34 h92)
                  clear hce hcn hEc hsz hK hno h32 h34 h92 hr128
                  go_wp2_with fail
                  refine (HRO.out _).mono ?_
                  rintro e w2 ⟨rfl, rfl⟩

                  go_wp2_with fail
                  refine (HBR.out _).mono ?_
                  rintro e w3 ⟨rfl, rfl⟩

                  go_wp2_with fail
                  try rw [HW32.out]
                  refine (HPU.out _).mono ?_
                  rintro e w4 ⟨rfl, rfl⟩
                  go_wp2_with fail

                  refine (HIX1.out _).mono ?_
                  rintro e w5 ⟨rfl, hw5⟩
                  subst hw5

                  go_wp2_with fail
                  go_roundw
                  case rel =>
                    refine ⟨k + 1, u ++ E, by go_num, rfl, by omega, by omega, by rw [ByteArray.size_append]; omega, ?_⟩
                    exact HI.out.next (x := enc r) HX.out (by rw [HE.out]) (by rw [HRX.out]; exact HSPX.out) (by rw [HRX.out]; exact HLEN.out) (by have := (enc_len r).2; omega) ((Below.refl wr.heap.size wr).alloc (Nat.le_refl _) (.cells #[.string ⟨#[48, 49, 50, 51, 52, 53, 54, 55, 56, 57, 97, 98, 99, 100, 101, 102]⟩, .string ⟨#[48, 49, 50, 51, 52, 53, 54, 55, 56, 57, 65, 66, 67, 68, 69, 70]⟩] 9))
                  case measure => simp [RowKit.intOf]; omega
                · have p2 : decide ((32 : Int) ≤ (r : Int)) = false := decide_eq_false (by omega)
                  have hr16 : r < 65536 := by omega
                  clear hce hcn hEc hsz hK hno h32 hr128
                  have p1 : decide ((r : Int) < 65536) = true := decide_eq_true (by omega)
                  have HUN := Lib.hid (fun W => unit_any smS smL r sm_size sm_cut hr16 W)
                  have HSPX := Lib.hid (sp_unit base_sm HSP.out hr16)
                  obtain ⟨Z, hZ⟩ : ∃ Z, str (un smL r) = Z := ⟨_, rfl⟩
                  have hzs : Z.size ≤ 6 := by rw [← hZ, str_size]; exact Nat.le_refl _
                  rw [hZ] at HUN
                  have HZ := Lib.hid hZ
                  clear hr16 hZ

                  go_wp2_with fail
                  refine (HRO.out _).mono ?_
                  rintro e w2 ⟨rfl, rfl⟩

                  go_wp2_with fail
                  refine (HBR.out _).mono ?_
                  rintro e w3 ⟨rfl, rfl⟩

                  go_wp2_with fail
                  try rw [HW32.out]
                  refine (HPU.out _).mono ?_
                  rintro e w4 ⟨rfl, rfl⟩
                  go_wp2_with fail

                  refine (HIX1.out _).mono ?_
                  rintro e w5 ⟨rfl, hw5⟩
                  subst hw5

                  go_wp2_with fail
                  refine (HUN.out _).mono ?_

                  rintro e w6 ⟨rfl, hb6⟩
                  have HB6 := Lib.hid (((Below.refl wr.heap.size wr).alloc (Nat.le_refl _) (.cells #[.string ⟨#[48, 49, 50, 51, 52, 53, 54, 55, 56, 57, 97, 98, 99, 100, 101, 102]⟩, .string ⟨#[48, 49, 50, 51, 52, 53, 54, 55, 56, 57, 65, 66, 67, 68, 69, 70]⟩] 9)).trans (hb6.mono (by simp)))
                  clear hb6

                  go_wp2_with fail
                  go_roundw
                  case rel =>
                    refine ⟨k + 1, u ++ Z, by go_num, rfl, by omega, by omega, by rw [ByteArray.size_append]; omega, ?_⟩
                    exact HI.out.next (x := un smL r) HX.out (by rw [HZ.out]) (by rw [HRX.out]; exact HSPX.out) (itemR_len _) (by show 6 ≤ 12; decide) HB6.out
                  case measure => simp [RowKit.intOf]; omega
              · rw [hK] at HIX1
                have hrj : r = (mtL.getD j 0).toNat := by rw [hmt, hcn]
                have HSPX := Lib.hid (show Sp r [92, mkL.getD j 0] by rw [hrj]; exact sp_esc hj8)
                have HLEN := Lib.hid (show (itemR r).length ≤ 2 by rw [hrj]; exact itemR_esc hj8)
                have p2 : decide ((0 : Int) ≤ (j : Int)) = true := decide_eq_true (by omega)
                have p3 : (j : Int) + 1 ≤ 8 := by omega
                have p4 : (0 : Int) ≤ (j : Int) := by omega
                have HMK := Lib.hid (show (⟨#[34, 92, 47, 98, 102, 110, 114, 116]⟩ : ByteArray).extract j (j + 1) = str [mkL.getD j 0] from mk_cut ⟨j, hj8⟩)
                have hmz : ((⟨#[34, 92, 47, 98, 102, 110, 114, 116]⟩ : ByteArray).extract j (j + 1)).size ≤ 1 := by rw [HMK.out, str_size]; exact Nat.le_refl _
                clear hce hcn hEc hsz hK hmt hrj hr128
                go_wp2_with fail
                refine (HRO.out _).mono ?_
                rintro e w2 ⟨rfl, rfl⟩

                go_wp2_with fail
                refine (HBR.out _).mono ?_
                rintro e w3 ⟨rfl, rfl⟩

                go_wp2_with fail
                try rw [HW32.out]
                refine (HPU.out _).mono ?_
                rintro e w4 ⟨rfl, rfl⟩
                go_wp2_with fail

                refine (HIX1.out _).mono ?_
                rintro e w5 ⟨rfl, hw5⟩
                subst hw5

                go_wp2_with fail
                go_roundw
                case rel =>
                  refine ⟨k + 1, u ++ (⟨#[92]⟩ : ByteArray) ++ (⟨#[34, 92, 47, 98, 102, 110, 114, 116]⟩ : ByteArray).extract j (j + 1), by go_num, rfl, by omega, by omega, ?_, ?_⟩
                  · rw [ByteArray.size_append, ByteArray.size_append]
                    have : (⟨#[92]⟩ : ByteArray).size = 1 := rfl
                    omega
                  · refine HI.out.next (x := [92, mkL.getD j 0]) HX.out ?_ (by rw [HRX.out]; exact HSPX.out) (by rw [HRX.out]; exact HLEN.out) (by show 2 ≤ 12; decide) ((Below.refl wr.heap.size wr).alloc (Nat.le_refl _) (.cells #[.string ⟨#[48, 49, 50, 51, 52, 53, 54, 55, 56, 57, 97, 98, 99, 100, 101, 102]⟩, .string ⟨#[48, 49, 50, 51, 52, 53, 54, 55, 56, 57, 65, 66, 67, 68, 69, 70]⟩] 9))
                    rw [HMK.out, ByteArray.append_assoc]
                    show u ++ (str [92] ++ str [mkL.getD j 0]) = _
                    rw [str_cat]
                    rfl
                case measure => simp [RowKit.intOf]; omega
            · have hsz : E.size ≠ 1 := by
                intro h
                rw [← HE.out, str_size] at h
                exact hr128 (enc_one h)
              have z1 : ((E.size : Int) == 1) = false := by rw [Bool.eq_false_iff, ne_eq, beq_iff_eq]; omega
              have z1' : (E.size == 1) = false := by rw [Bool.eq_false_iff, ne_eq, beq_iff_eq]; exact hsz
              have p2 : decide ((32 : Int) ≤ (r : Int)) = true := decide_eq_true (by omega)
              have HSPX := Lib.hid (sp_self HSP.out (by omega) (by omega) (by omega))
              have HLEN := Lib.hid (itemR_self (r := r) (by omega) (by omega) (by omega))
              clear hsz hr128
              go_wp2_with fail
              refine (HRO.out _).mono ?_
              rintro e w2 ⟨rfl, rfl⟩

              go_wp2_with fail
              refine (HBR.out _).mono ?_
              rintro e w3 ⟨rfl, rfl⟩

              go_wp2_with fail
              try rw [HW32.out]
              refine (HPU.out _).mono ?_
              rintro e w4 ⟨rfl, rfl⟩
              go_wp2_with fail

              refine (HIX.out _ (HBW.out.alloc HBW.out.size _)).mono ?_
              rintro e w5 ⟨rfl, hw5⟩
              subst hw5

              go_wp2_with fail
              go_roundw
              case rel =>
                refine ⟨k + 1, u ++ E, by go_num, rfl, by omega, by omega, by rw [ByteArray.size_append]; omega, ?_⟩
                exact HI.out.next (x := enc r) HX.out (by rw [HE.out]) (by rw [HRX.out]; exact HSPX.out) (by rw [HRX.out]; exact HLEN.out) (by have := (enc_len r).2; omega) ((Below.refl wr.heap.size wr).alloc (Nat.le_refl _) (.cells #[.string ⟨#[48, 49, 50, 51, 52, 53, 54, 55, 56, 57, 97, 98, 99, 100, 101, 102]⟩, .string ⟨#[48, 49, 50, 51, 52, 53, 54, 55, 56, 57, 65, 66, 67, 68, 69, 70]⟩] 9))
              case measure => simp [RowKit.intOf]; omega
      · have hk' : k = 60 := by omega
        have d2 : decide ((k : Int) < 60) = false := decide_eq_false (by omega)
        have HK := Lib.hid (show xs.take k = xs.take 60 by rw [hk'])
        clear h60 hk'
        go_wp2
        go_ret
        exact HI.out.done HK.out rfl
    · have hkn : k = n := by omega
      have d1 : decide ((k : Int) < (n : Int)) = false := decide_eq_false (by omega)
      have d1' : decide (k < n) = false := decide_eq_false hlt
      have HK := Lib.hid (show xs.take k = xs.take 60 by rw [List.take_of_length_le (by rw [HN.out]; omega), List.take_of_length_le (by rw [HN.out]; omega)])
      clear hlt hkn
      go_wp2
      go_ret
      exact HI.out.done HK.out rfl
end Go.Proofs.YtoifjbhjclglmaaDoor
