/-
  What is proved here: StackWhole returns true and leaves all memory that was there as it was; condition: the arguments read as a list of values and a list of calls.
-/
import Derived.Test.YtefgehjkankigaaBackW
namespace Go.Proofs.Ytefgehjkankigaa
open Go.RowKit

set_option maxRecDepth 20000 in
set_option maxHeartbeats 1000000 in
theorem stackWhole_walk (l0 : List V3) (v0 : Value) (l : List Dv) (v : Value) (w : World) (h0 : Rd w v0 l0) (h : RdD w v l) :
    Calls Try.prog 7 #[v0, v] w fun e w' => e = .returned (.bool true) ∧ Below w.heap.size w w' := by
  obtain ⟨A, n, c, rfl, hn, hnc, hcm, hok, hA⟩ := h
  unfold maxLen at hcm
  have HB0 := Lib.hid (Below.refl w.heap.size w)
  have HA := Lib.hid hA
  have HOK := Lib.hid hok
  have HN := Lib.hid hn
  obtain ⟨ys, hys⟩ : ∃ ys, l0.take 30 = ys := ⟨_, rfl⟩
  have hy30 : ys.length ≤ 30 := by rw [← hys, List.length_take]; omega
  have HFEW : Hid (∀ p W, Hid (Fm w p true [] none [] W) → Calls Try.prog 16 #[v0] W fun e w' => ∃ A m c, e = .returned (.slice A m c) ∧ Fm w p true [] none [(.slice A m c, ys)] w') := Lib.hid fun p W H => by
    have := few_F H.out (h0.below H.out.2)
    rw [hys] at this; exact this
  have HY30 := Lib.hid hy30
  clear hA hok hn h0 hys hy30
  go_enter Try.func7, Try.ntmps7
  go_upto_region 2 with (go_at_call 9; (with_reducible refine (newF_any HB0.out).mono ?_); rintro e w1 ⟨p, rfl, hs⟩; have HS := Lib.hid hs; clear hs)
  go_upto_region 3 with (go_at_call 16; (with_reducible refine (HFEW.out _ _ HS).mono ?_); rintro e w2 ⟨B, m, bc, rfl, hs⟩; obtain ⟨hm, hmc, hbm⟩ := (hs.rd (by simp) : Rd w2 (.slice B m bc) ys).len; have HM := Lib.hid hm; have hm30 : m ≤ 30 := (by rw [← hm]; exact HY30.out); clear hm HS; have HS := Lib.hid hs; clear hs)
  clear HFEW
  have HPU : Hid (∀ W, Hid (Fm w p true [] none [(.slice B m bc, ys)] W) → Calls Try.prog 17 #[.pointer (some ⟨p, 0, none⟩), .slice B m bc] W fun e w' => e = .returned (.int .i64 0) ∧ Fm w p true ys none [(.slice B m bc, ys)] w') :=
    Lib.hid fun W H => pushB_F H.out (H.out.rd (by simp)) (by have := HY30.out; simp; omega)
  go_wp2_with (go_at_call 17; (with_reducible refine (HPU.out _ HS).mono ?_); rintro e w3 ⟨rfl, hs⟩; clear HS; have HS := Lib.hid hs; clear hs)
  clear HPU
  go_loopw [7] (fun i wr => ∃ (k : Nat) (us : List V3), k ≤ n ∧ k ≤ 60 ∧ i = .int .i64 k ∧ Hid (us.length ≤ 30 * k) ∧ Hid (Fm w p true (ys ++ us) none [(.slice B m bc, ys)] wr)) (fun i _ => 60 - (intOf i).toNat)
  case atStart => exact ⟨0, [], Nat.zero_le _, Nat.zero_le _, rfl, Nat.le_refl _, by rw [List.append_nil]; exact HS⟩
  case round =>
    obtain ⟨k, us, hk, hk6, rfl, HU, H⟩ := hrel
    by_cases hlt : k < n
    · by_cases hlt6 : k < 60
      · obtain ⟨d, hd⟩ : ∃ d, l[k]? = some d := ⟨_, List.getElem?_eq_getElem (by have := HN.out; omega)⟩
        obtain ⟨b, off, rfl, hbl, hcell⟩ := HA.out (by omega)
        have hdk := HOK.out d (List.mem_of_getElem? hd)
        obtain ⟨dk, dn, dv⟩ := d
        obtain ⟨zs, hz⟩ := hdk.rd
        obtain ⟨A1, n1, c1, e1, _⟩ := id hz
        have e1' : dv = .slice A1 n1 c1 := e1
        subst e1'
        have HCE : Hid (∀ W, Below w.heap.size w W → W.cell? ⟨b, off + k * 3, none⟩ = some (.int .i64 dk) ∧ W.cell? ⟨b, off + k * 3 + 1, none⟩ = some (.int .i64 dn) ∧ W.cell? ⟨b, off + k * 3 + 2, none⟩ = some (.slice A1 n1 c1)) := Lib.hid fun W hW => by
          obtain ⟨g0, g1, g2⟩ := (hcell k _ hd).below hW hbl
          exact ⟨g0, g1, g2⟩
        obtain ⟨g0, g1, g2⟩ := HCE.out wr H.out.2
        have HZ := Lib.hid hz
        have hb0 := Int.emod_nonneg dk (show (4 : Int) ≠ 0 by omega)
        have hb1 := Int.emod_lt_of_pos dk (show (0 : Int) < 4 by omega)
        have HBR : Hid (∀ W, Calls Try.prog 11 #[.int .i64 dk, .int .i64 4] W fun e w' => e = .returned (.int .i64 (dk % 4)) ∧ W = w') := Lib.hid fun W => bring_any dk 4 W hdk.k0 hdk.k1 (by omega) (by omega)
        have hd0 := hdk.n0
        have hd1 := hdk.n1
        obtain ⟨f, hf⟩ : ∃ f, dk % 4 = f := ⟨_, rfl⟩
        rw [hf] at HBR hb0 hb1
        clear hd hcell hdk hz e1 hf
        have HTAIL : Hid (∀ W us' R, us'.length ≤ 30 * (k + 1) → Hid (Fm w p true (ys ++ us') none ((.slice B m bc, ys) :: R) W) → Calls Try.prog 14 #[.pointer (some ⟨p, 0, none⟩), .int .i64 0] W fun e w' => ∃ A' c' t, e = .returned (.tuple #[.slice A' (m + t) c', .int .i64 0]) ∧ m ≤ c' ∧ c' ≤ 9223372036854775807 ∧ t ≤ 30 * (k + 1) ∧ Hid (Rd w' (.slice A' m c') ys) ∧ Hid (Fm w p true (ys ++ us') none [(.slice B m bc, ys)] w')) := Lib.hid fun W us' R hul hW => by
          have hi : inR 0 (ys ++ us') := ⟨by omega, by omega⟩
          refine (fromE_F hW.out 0 (rng_in hi).2.2.2 (rng_in hi).2.2.1).mono ?_
          rintro e w' ⟨A', m', c', rfl, hs⟩
          have hrd := hs.rd (a := .slice A' m' c') (zs := (ys ++ us').drop (0 : Int).toNat) (by simp)
          have hlen := hrd.len
          rw [show (0 : Int).toNat = 0 from rfl, List.drop_zero, List.length_append, HM.out] at hlen
          obtain ⟨h1, h2, h3⟩ := hlen
          have hpre := hrd.rs.pre (m := m) (by omega)
          rw [show (0 : Int).toNat = 0 from rfl, List.drop_zero, List.take_append_of_le_length (by have := HM.out; omega), List.take_of_length_le (by have := HM.out; omega)] at hpre
          exact ⟨A', c', us'.length, by rw [h1], by omega, h3, hul, Lib.hid hpre.rd, Lib.hid (hs.sub (by simp))⟩
        by_cases hf2 : f = 2
        · subst hf2
          obtain ⟨u, hu⟩ : ∃ u, u = us.length := ⟨_, rfl⟩
          have hl1 : (ys ++ us).length = m + u := by rw [List.length_append, HM.out, hu]
          have hub : u ≤ 1800 := by have := HU.out; omega
          have HLE : Hid (∀ W, Hid (Fm w p true (ys ++ us) none [(.slice B m bc, ys)] W) → Calls Try.prog 21 #[.pointer (some ⟨p, 0, none⟩)] W fun e w' => e = .returned (.int .i64 ((m + u : Nat) : Int)) ∧ w' = W) := Lib.hid fun W hW => (lenE_F hW.out hl1).mono fun _ _ ⟨h1, h2⟩ => ⟨h1, h2.symm⟩
          have hs1 : IntKind.i64.wrap ((m : Int) + (u : Int) - (m : Int)) = (u : Int) := by rw [show ((m : Int) + (u : Int) - (m : Int)) = (u : Int) by omega]; exact IntWalk.i64_in _ ⟨by omega, by omega⟩
          have hs2 : IntKind.i64.wrap ((u : Int) + 1) = (u : Int) + 1 := IntWalk.i64_in _ ⟨by omega, by omega⟩
          have hs3 : (if (1 : Int) < (u : Int) + 1 then (u : Int) + 1 else 1) = (u : Int) + 1 := by split <;> omega
          have HBN : Hid (∀ W, Calls Try.prog 11 #[.int .i64 dn, .int .i64 ((u : Int) + 1)] W fun e w' => e = .returned (.int .i64 (dn % ((u : Int) + 1))) ∧ w' = W) := Lib.hid fun W => (bring_any dn ((u : Int) + 1) W hd0 hd1 (by omega) (by omega)).mono fun _ _ ⟨h1, h2⟩ => ⟨h1, h2.symm⟩
          have hk0 := Int.emod_nonneg dn (show (u : Int) + 1 ≠ 0 by omega)
          have hk1 := Int.emod_lt_of_pos dn (show 0 < (u : Int) + 1 by omega)
          obtain ⟨a, hka⟩ := Int.eq_ofNat_of_zero_le hk0
          rw [hka] at HBN hk1
          have hau : a ≤ u := by omega
          have hi : inR (a : Int) (ys ++ us) := ⟨by omega, by rw [hl1]; omega⟩
          have HPO : Hid (∀ W, Hid (Fm w p true (ys ++ us) none [(.slice B m bc, ys)] W) → Calls Try.prog 12 #[.pointer (some ⟨p, 0, none⟩), .int .i64 (a : Int)] W fun e w' => ∃ A m' c, e = .returned (.tuple #[.slice A m' c, .int .i64 0]) ∧ ∃ r, Hid (Fm w p true (ys ++ us.take (u - a)) none ((.slice B m bc, ys) :: [r]) w')) := Lib.hid fun W hW => by
            refine (popE_F hW.out _ (rng_in hi).2.2.2 (rng_in hi).2.1 rfl).mono ?_
            rintro e w' ⟨A', m', c', rfl, hs⟩
            rw [hl1, Int.toNat_natCast, show m + u - a = m + (u - a) by omega, ← HM.out, List.take_length_add_append, HM.out] at hs
            exact ⟨A', m', c', rfl, _, Lib.hid (hs.sub (by intro r hr; simp only [List.mem_cons, List.not_mem_nil, or_false] at hr ⊢; exact hr.symm))⟩
          have HTL : Hid ((us.take (u - a)).length ≤ 30 * (k + 1)) := Lib.hid (by rw [List.length_take]; have := HU.out; omega)
          have HWD := Lib.hid (H.out.below (w' := wr.drew) ⟨rfl, rfl, rfl, Nat.le_refl _, fun _ _ => rfl⟩)
          clear hk0 hk1 hka hau hi hl1 hub hu hd0 hd1
          go_upto_region 11 with (go_at_call 11; (with_reducible refine (HBR.out _).mono ?_); rintro e w4 ⟨rfl, rfl⟩)
          go_still_tail 14, (by kernel_rfl)
          still_call (HLE.out _ HWD)
          still_step
          still_step
          still_step
          still_step
          still_step
          try rw [hs1]
          try rw [hs2]
          try rw [hs3]
          still_call (HBN.out _)
          refine wpStill_nil ?_
          change wpList _ _ _ _ _ wr.drew
          have HPW := Lib.hid (HPO.out wr.drew HWD)
          clear HWD HPO
          go_wp2_with (first
            | (go_at_call 12; (with_reducible refine HPW.out.mono ?_); rintro e w5 ⟨A5, n5, c5, rfl, r5, HS5⟩; have HT := Lib.hid (HTAIL.out _ _ _ HTL.out HS5))
            | (go_at_call 14; (with_reducible refine HT.out.mono ?_); rintro e w6 ⟨A6, c6, t6, rfl, hc6, hc6', ht6, HR6, HS6⟩)
            | (go_at_call 23; (with_reducible refine (are_F HS6.out HR6.out (HS6.out.rd (by simp)) (by have := HY30.out; omega)).mono ?_); rintro e w7 ⟨rfl, hs⟩; have HS7 := Lib.hid hs; clear hs))
          go_roundw
          case rel => exact ⟨k + 1, _, by omega, by omega, by go_num, HTL, HS7⟩
          case measure => simp [intOf]; omega
        · by_cases hf3 : f = 3
          · subst hf3
            have HF1 : Hid (∀ W, Hid (Fm w p true (ys ++ us) none [(.slice B m bc, ys)] W) → Calls Try.prog 14 #[.pointer (some ⟨p, 0, none⟩), .int .i64 dn] W fun e w' => ∃ A m' c er, e = .returned (.tuple #[.slice A m' c, .int .i64 er]) ∧ ∃ r, Hid (Fm w p true (ys ++ us) none ((.slice B m bc, ys) :: [r]) w')) := Lib.hid fun W hW => by
              refine (from_F hW.out dn).mono ?_
              rintro e w' ⟨A', m', c', rfl, hs⟩
              exact ⟨A', m', c', _, rfl, _, Lib.hid (hs.sub (by intro r hr; simp only [List.mem_cons, List.not_mem_nil, or_false] at hr ⊢; exact hr.symm))⟩
            have HTL : Hid (us.length ≤ 30 * (k + 1)) := Lib.hid (by have := HU.out; omega)
            clear hd0 hd1
            go_upto_region 13 with (go_at_call 11; (with_reducible refine (HBR.out _).mono ?_); rintro e w4 ⟨rfl, rfl⟩)
            go_upto_region 14 with (go_at_call 14; (with_reducible refine (HF1.out _ H).mono ?_); rintro e w5 ⟨A5, n5, c5, e5, rfl, r5, HS5⟩; have HT := Lib.hid (HTAIL.out _ _ _ HTL.out HS5))
            go_wp2_with (first
              | (go_at_call 14; (with_reducible refine HT.out.mono ?_); rintro e w6 ⟨A6, c6, t6, rfl, hc6, hc6', ht6, HR6, HS6⟩)
              | (go_at_call 23; (with_reducible refine (are_F HS6.out HR6.out (HS6.out.rd (by simp)) (by have := HY30.out; omega)).mono ?_); rintro e w7 ⟨rfl, hs⟩; have HS7 := Lib.hid hs; clear hs))
            go_roundw
            case rel => exact ⟨k + 1, us, by omega, by omega, by go_num, HTL, HS7⟩
            case measure => simp [intOf]; omega
          · have hb2 : (f == (2 : Int)) = false := by simpa using hf2
            have hb3 : (f == (3 : Int)) = false := by simpa using hf3
            obtain ⟨is, his⟩ : ∃ is, zs.take 30 = is := ⟨_, rfl⟩
            have hi30 : is.length ≤ 30 := by rw [← his, List.length_take]; omega
            have HFE : Hid (∀ W, Hid (Fm w p true (ys ++ us) none [(.slice B m bc, ys)] W) → Calls Try.prog 16 #[.slice A1 n1 c1] W fun e w' => ∃ A m' c, e = .returned (.slice A m' c) ∧ Hid (Fm w p true (ys ++ us) none ((.slice A m' c, is) :: [(.slice B m bc, ys)]) w')) := Lib.hid fun W hW => by
              have := few_F hW.out (HZ.out.below hW.out.2)
              rw [his] at this; exact this
            have HP1 : Hid (∀ W a, Hid (Fm w p true (ys ++ us) none ((a, is) :: [(.slice B m bc, ys)]) W) → Calls Try.prog 17 #[.pointer (some ⟨p, 0, none⟩), a] W fun e w' => e = .returned (.int .i64 0) ∧ Hid (Fm w p true (ys ++ (us ++ is)) none ((.slice B m bc, ys) :: []) w')) := Lib.hid fun W a hW => by
              refine (pushB_F hW.out (hW.out.rd (zs := is) (by simp)) (by rw [List.length_append]; have := HU.out; have := HY30.out; omega)).mono ?_
              rintro e w' ⟨rfl, hs⟩
              rw [List.append_assoc] at hs
              exact ⟨rfl, Lib.hid (hs.sub (by simp))⟩
            have HTL : Hid ((us ++ is).length ≤ 30 * (k + 1)) := Lib.hid (by rw [List.length_append]; have := HU.out; omega)
            clear his hi30 HZ hd0 hd1
            go_upto_region 9 with (go_at_call 11; (with_reducible refine (HBR.out _).mono ?_); rintro e w4 ⟨rfl, rfl⟩)
            go_upto_region 14 with (first
              | (go_at_call 16; (with_reducible refine (HFE.out _ H).mono ?_); rintro e w5 ⟨A5, n5, c5, rfl, HS5⟩)
              | (go_at_call 17; (with_reducible refine (HP1.out _ _ HS5).mono ?_); rintro e w6 ⟨rfl, HS6'⟩; have HT := Lib.hid (HTAIL.out _ _ _ HTL.out HS6')))
            go_wp2_with (first
              | (go_at_call 14; (with_reducible refine HT.out.mono ?_); rintro e w6 ⟨A6, c6, t6, rfl, hc6, hc6', ht6, HR6, HS6⟩)
              | (go_at_call 23; (with_reducible refine (are_F HS6.out HR6.out (HS6.out.rd (by simp)) (by have := HY30.out; omega)).mono ?_); rintro e w7 ⟨rfl, hs⟩; have HS7 := Lib.hid hs; clear hs))
            go_roundw
            case rel => exact ⟨k + 1, _, by omega, by omega, by go_num, HTL, HS7⟩
            case measure => simp [intOf]; omega
      · obtain rfl : k = 60 := by omega
        go_wp2_with (go_at_call 22; (with_reducible refine (works_F H.out).mono ?_); rintro e w8 ⟨rfl, h8⟩; have H8 := Lib.hid h8; clear h8)
        go_ret
        exact ⟨rfl, H8.out.2⟩
    · go_wp2_with (go_at_call 22; (with_reducible refine (works_F H.out).mono ?_); rintro e w8 ⟨rfl, h8⟩; have H8 := Lib.hid h8; clear h8)
      go_ret
      exact ⟨rfl, H8.out.2⟩
end Go.Proofs.Ytefgehjkankigaa
