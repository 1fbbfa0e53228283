/-
  What is proved here: the law KeyHalves returns true; condition: the table of package tree holds what is laid.
-/
import Derived.Test.YtjbmghfgbdnjjaaDoorKRisen
namespace Go.Proofs.YtjbmghfgbdnjjaaDoor
open Go.RowKit Go.Sort

theorem has_step {U : List ByteArray} {j : Nat} {u x : ByteArray} (h : U[j]? = some u) {β : Bool} (hb : β = true ↔ x ∈ U.take j) : ((β || (u.toList == x.toList)) = true ↔ x ∈ U.take (j + 1)) := by
  rw [List.take_add_one, h]
  simp only [Option.toList_some, List.mem_append, List.mem_singleton, Bool.or_eq_true]
  constructor
  · rintro (h1 | h1)
    · exact .inl (hb.1 h1)
    · refine .inr ?_
      have h2 : u.toList = x.toList := by simpa using h1
      exact (toList_inj h2).symm
  · rintro (h1 | rfl)
    · exact .inl (hb.2 h1)
    · exact .inr (by simp)

set_option maxRecDepth 100000 in
set_option maxHeartbeats 2000000 in
theorem keyHalves_walk (ks : List ByteArray) (v : Value) (k : ByteArray) (w : World) (hT : Tab w) (hl : RdS w v ks) (hk : k.size ≤ maxLen) :
    Calls Tryd.prog 8 #[v, .string k] w fun e w' => e = .returned (.bool true) ∧ Below w.heap.size w w' := by
  have HL := Lib.hid hl
  have HWK := Lib.hid (works_true w hT)
  have HS : Hid (∀ W, Calls Tryd.prog 12 #[.string k, .int .i64 40] W fun e w' => e = .returned (.string (shN 40 k)) ∧ Below W.heap.size W w') := Lib.hid fun W => shortN_any 40 k W hk (by omega)
  obtain ⟨x, hx⟩ : ∃ x, shN 40 k = x := ⟨_, rfl⟩
  rw [hx] at HS
  obtain ⟨l, hl1⟩ : ∃ l, cutN 60 40 ks = l := ⟨_, rfl⟩
  have hln : Hid (l.length ≤ 60) := Lib.hid (by rw [← hl1]; exact cutN_len _ _ _)
  have HE1 := Lib.hid hl1
  obtain ⟨A0, n0, c0, rfl, _⟩ := hl
  clear hT hk hx hl1
  go_enter Tryd.func8, Tryd.ntmps8
  go_wp2_with fail
  with_reducible refine HWK.out.mono ?_
  rintro e w1 ⟨rfl, hb1⟩
  have HB1 := Lib.hid hb1
  clear hb1
  go_wp2_with fail
  with_reducible refine (HS.out _).mono ?_
  rintro e w2 ⟨rfl, hb2⟩
  have HB2 := Lib.hid (tr HB1.out hb2)
  clear hb2 HB1
  go_wp2_with fail
  refine (few_any ks _ w2 (HL.out.below HB2.out)).mono ?_
  rintro e w3 ⟨v3, rfl, HR, hb3⟩
  have HB3 := Lib.hid (tr HB2.out hb3.out)
  rw [HE1.out] at HR
  clear hb3 HB2
  by_cases hnd : l.Nodup
  · obtain ⟨q, hq⟩ := sq_exists hnd l.length (Nat.le_refl _)
    have HSQ := Lib.hid hq
    obtain ⟨A3, n3, c3, rfl, _⟩ := HR.out
    go_wp2_with fail
    refine (risen_ok l _ q w3 HR.out hln.out HSQ.out).mono ?_
    rintro e w4 ⟨v4, rfl, HR4, hb4⟩
    have HB4 := Lib.hid (tr HB3.out hb4.out)
    obtain ⟨U, hU⟩ : ∃ U, q.map (ky l) = U := ⟨_, rfl⟩
    have HU : Hid (Incr U) := Lib.hid (by rw [← hU]; exact HSQ.out.incr)
    have HUL : Hid (U.length ≤ 60) := Lib.hid (by rw [← hU, List.length_map, HSQ.out.length]; exact hln.out)
    rw [hU] at HR4
    clear hb4 hnd hq hU HB3 HSQ
    obtain ⟨A, n, c, rfl, hn, hnc, hc, hsz, hA⟩ := HR4.out.at
    have HN := Lib.hid hn
    have HA := Lib.hid hA
    have HSZ := Lib.hid hsz
    have hn60 : n ≤ 60 := by have := HUL.out; omega
    clear hn hA hsz
    go_wp2_with fail
    go_loopw [7, 8] (fun vh vi wr => ∃ (j : Nat) (β : Bool), j ≤ n ∧ vi = .int .i64 (j : Int) ∧ vh = .bool β ∧ Hid (β = true ↔ x ∈ U.take j) ∧ Hid (Below w4.heap.size w4 wr)) (fun _ vi _ => n - (intOf vi).toNat)
    case atStart => exact ⟨0, false, Nat.zero_le _, rfl, rfl, Lib.hid (by simp), Lib.hid (Below.refl _ _)⟩
    case round =>
      obtain ⟨j, β, hj, rfl, rfl, HM, HW⟩ := hrel
      by_cases hjn : j < n
      · obtain ⟨u, hu⟩ : ∃ u, U[j]? = some u := ⟨_, List.getElem?_eq_getElem (by rw [HN.out]; exact hjn)⟩
        obtain ⟨b, off, rfl, _, hcl⟩ := HA.out (by omega)
        have hcell := hcl wr HW.out j u hu
        have hfd := fd_hit HU.out hu
        have HST := Lib.hid (has_step hu HM.out)
        have HF : Hid (∀ W, Below w4.heap.size w4 W → Calls Tryd.prog 31 #[.slice (some ⟨b, off, none⟩) n c, .string u, .int .i64 (j : Int), .bool true] W fun e w' => e = .returned (.bool true) ∧ Below W.heap.size W w') := Lib.hid fun W hb => found_any U _ u j true W (HR4.out.below hb) (by have := HUL.out; omega) hfd.1 hfd.2
        clear hcl hu hfd
        cases β with
        | true =>
          go_wp2_with (first | (go_at_call 31; with_reducible refine (HF.out _ HW.out).mono ?_; rintro e w5 ⟨rfl, hb5⟩; have HW5 := Lib.hid (tr HW.out hb5); clear hb5))
          go_roundw
          case rel => exact ⟨j + 1, true, by omega, by simp, rfl, Lib.hid (by have := HST.out; simpa using this), HW5⟩
          case measure => simp [intOf]; omega
        | false =>
          by_cases hux : u = x
          · have m1 := strEq_true hux
            have HST2 : Hid (x ∈ U.take (j + 1)) := Lib.hid (by have := HST.out; rw [m1] at this; simpa using this)
            clear hux
            go_wp2_with (first | (go_at_call 31; with_reducible refine (HF.out _ HW.out).mono ?_; rintro e w5 ⟨rfl, hb5⟩; have HW5 := Lib.hid (tr HW.out hb5); clear hb5))
            go_roundw
            case rel => exact ⟨j + 1, true, by omega, by simp, rfl, Lib.hid ⟨fun _ => HST2.out, fun _ => rfl⟩, HW5⟩
            case measure => simp [intOf]; omega
          · have m1 := strEq_false hux
            have HST2 : Hid (¬ x ∈ U.take (j + 1)) := Lib.hid (by have := HST.out; rw [m1] at this; simpa using this)
            clear hux
            go_wp2_with (first | (go_at_call 31; with_reducible refine (HF.out _ HW.out).mono ?_; rintro e w5 ⟨rfl, hb5⟩; have HW5 := Lib.hid (tr HW.out hb5); clear hb5))
            go_roundw
            case rel => exact ⟨j + 1, false, by omega, by simp, rfl, Lib.hid ⟨(fun h => by cases h), fun h => absurd h HST2.out⟩, HW5⟩
            case measure => simp [intOf]; omega
      · obtain rfl : j = n := by omega
        have hm : fdB U x = β := by
          have h1 := HM.out
          rw [List.take_of_length_le (by rw [HN.out]; exact Nat.le_refl _)] at h1
          have h2 := fd_mem (k := x) HU.out
          cases h3 : fdB U x <;> cases β <;> simp_all
        have HF := find_any U _ x wr (HR4.out.below HW.out) (by have := HUL.out; omega)
        rw [hm] at HF
        have HF := Lib.hid HF
        have HB5 := Lib.hid (tr HB4.out HW.out)
        clear hm
        cases β <;>
        · go_wp2_with (first | (go_at_call 23; with_reducible refine HF.out.mono ?_; rintro e w5 ⟨rfl, hb5⟩; have HB6 := Lib.hid (tr HB5.out hb5); clear hb5))
          go_ret
          exact ⟨rfl, HB6.out⟩
  · have HND := Lib.hid hnd
    obtain ⟨A3, n3, c3, rfl, _⟩ := HR.out
    clear hnd
    go_wp2_with fail
    refine (risen_twice l _ w3 HR.out hln.out HND.out).mono ?_
    rintro e w4 ⟨rfl, hb4⟩
    have HB4 := Lib.hid (tr HB3.out hb4)
    clear hb4
    go_wp2_with fail
    go_ret
    exact ⟨rfl, HB4.out⟩
end Go.Proofs.YtjbmghfgbdnjjaaDoor
