/-
  What is proved here: BufRoom returns true and leaves all memory that was there as it was; condition: the argument reads as a list of calls.
-/
import Derived.Test.YtkcmpakcahemcaaLaw
namespace Go.Proofs.Ytkcmpakcahemcaa
open Go.RowKit Le

theorem doS_err {m : Nat} {s : St} {K W N U : Int} {S : ByteArray} (h : s.2 ≠ 0) : doS m s K W N U S = s := by
  unfold doS
  split
  · exact if_neg h
  · split
    · exact if_neg h
    · split
      · exact if_neg h
      · split
        · exact if_neg h
        · exact if_neg h

theorem Bu.fit {w0 w : World} {p m : Nat} {s : St} (h : Bu w0 p m s w) : s.1.length ≤ m := by
  obtain ⟨⟨v, hv⟩, _⟩ := h
  exact hv.fit

set_option maxRecDepth 20000 in
set_option maxHeartbeats 1000000 in
theorem bufRoom_walk (a : Int) (l : List Dv) (v : Value) (w : World) (ha : -9223372036854775808 ≤ a) (ha2 : a ≤ 9223372036854775807) (h : RdD w v l) :
    Calls Try.prog 6 #[.int .i64 a, v] w fun e w' => e = .returned (.bool true) ∧ Below w.heap.size w w' := by
  obtain ⟨A, n, c, rfl, hn, hnc, hcm, hok, hA⟩ := h
  unfold maxLen at hcm
  have HA := Lib.hid hA
  have HOK := Lib.hid hok
  have HN := Lib.hid hn
  have r0 := Int.emod_nonneg a (show (201 : Int) ≠ 0 by decide)
  have r1 := Int.emod_lt_of_pos a (show (0 : Int) < 201 by decide)
  have HBR := Lib.hid (bring_any a 201 w ha ha2 (by omega) (by omega))
  obtain ⟨r, hr⟩ : ∃ r, a % 201 = r := ⟨_, rfl⟩
  rw [hr] at HBR r0 r1
  obtain ⟨m, rfl⟩ := Int.eq_ofNat_of_zero_le r0
  have hcp : cp (m : Int) = m := by have := cp_in (t := (m : Int)) (by omega) (by omega); omega
  have HNEW := Lib.hid (new_U (Below.refl w.heap.size w) (m : Int))
  rw [hcp] at HNEW
  have m2 : m ≤ 200 := by omega
  clear hA hok hn ha ha2 hr hcp r0 r1
  go_enter Try.func6, Try.ntmps6
  go_wp2_with (first
    | (go_at_call 21; (with_reducible refine HBR.out.mono ?_); rintro e w1 ⟨rfl, rfl⟩)
    | (go_at_call 9; (with_reducible refine HNEW.out.mono ?_); rintro e w2 ⟨p, rfl, h2⟩; have HB0 := Lib.hid h2; clear h2))
  clear HNEW HBR
  go_loopw [6] (fun i wr => ∃ (k : Nat) (s : St), k ≤ n ∧ k ≤ 60 ∧ i = .int .i64 k ∧ Hid (Bu w p m s wr)) (fun i _ => 60 - (intOf i).toNat)
  case atStart => exact ⟨0, ([], 0), Nat.zero_le _, Nat.zero_le _, rfl, HB0⟩
  case round =>
    obtain ⟨k, s, hk, hk6, rfl, HS⟩ := hrel
    by_cases hlt : k < n
    · by_cases hlt6 : k < 60
      · obtain ⟨d, hd⟩ : ∃ d, l[k]? = some d := ⟨_, List.getElem?_eq_getElem (by have := HN.out; omega)⟩
        obtain ⟨b, off, rfl, hbl, hcell⟩ := HA.out (by omega)
        have h5 := (hcell k d hd).below HS.out.2 hbl
        obtain ⟨c0, c1, c2, c3, c4⟩ := h5
        have hdk := HOK.out d (List.mem_of_getElem? hd)
        obtain ⟨t, ht⟩ : ∃ t, doS m s d.k d.w d.n (d.u : Int) d.s = t := ⟨_, rfl⟩
        have HDO : Hid (Calls Try.prog 11 #[.pointer (some ⟨p, 0, none⟩), .agg #[.int .i64 d.k, .int .i64 d.w, .int .i64 d.n, .int .u64 (d.u : Int), .string d.s]] wr fun e w' => e = .returned (.tuple #[]) ∧ Bu w p m t w') :=
          Lib.hid (by
            obtain ⟨⟨v, hv⟩, hb⟩ := HS.out
            rw [← ht]
            exact (does_any hv d.k d.w d.n d.u d.s hdk.k0 hdk.k1 hdk.s1).mono fun e w' hh => Bu.of hv hb hh)
        have HL := Lib.hid (len_U HS.out)
        have HE := Lib.hid (err_U HS.out)
        have HLT : Hid (∀ W, Hid (Bu w p m t W) → Calls Try.prog 16 #[.pointer (some ⟨p, 0, none⟩)] W fun e w' => e = .returned (.int .i64 (t.1.length : Int)) ∧ W = w') := Lib.hid fun W hW => len_U hW.out
        have HET : Hid (∀ W, Hid (Bu w p m t W) → Calls Try.prog 17 #[.pointer (some ⟨p, 0, none⟩)] W fun e w' => e = .returned (.int .i64 t.2) ∧ W = w') := Lib.hid fun W hW => err_U hW.out
        by_cases he : s.2 = 0
        · clear hd hcell hdk ht
          rw [he] at HE
          have HF : Hid (∀ W, Hid (Bu w p m t W) → ¬ (m : Int) < (t.1.length : Int)) := Lib.hid fun W hW => by have := hW.out.fit; omega
          obtain ⟨tl, htl⟩ : ∃ tl, tl = t.1.length := ⟨_, rfl⟩
          obtain ⟨sl, hsl⟩ : ∃ sl, sl = s.1.length := ⟨_, rfl⟩
          rw [← htl] at HLT HF
          rw [← hsl] at HL
          clear htl hsl he
          go_wp2_with (first
            | (go_at_call 16; (with_reducible refine HL.out.mono ?_); rintro e w3 ⟨rfl, rfl⟩)
            | (go_at_call 17; (with_reducible refine HE.out.mono ?_); rintro e w3 ⟨rfl, rfl⟩)
            | (go_at_call 11; (with_reducible refine HDO.out.mono ?_); rintro e w4 ⟨rfl, h4⟩; have H4 := Lib.hid h4; have hf4 := HF.out _ H4; clear h4)
            | (go_at_call 16; (with_reducible refine (HLT.out _ H4).mono ?_); rintro e w5 ⟨rfl, rfl⟩))
          all_goals exact ⟨⟨k + 1, t, by omega, by omega, by simp, H4⟩, by simp [intOf]; omega⟩
        · have hts : t = s := by rw [← ht]; exact doS_err he
          clear hd hcell hdk ht
          subst hts
          have d0 : (t.2 == 0) = false := by simpa using he
          have HF : Hid (∀ W, Hid (Bu w p m t W) → ¬ (m : Int) < (t.1.length : Int)) := Lib.hid fun W hW => by have := hW.out.fit; omega
          obtain ⟨tl, htl⟩ : ∃ tl, tl = t.1.length := ⟨_, rfl⟩
          obtain ⟨te, hte⟩ : ∃ te, te = t.2 := ⟨_, rfl⟩
          rw [← htl] at HLT HF HL
          rw [← hte] at HET HE d0
          clear htl hte he
          go_wp2_with (first
            | (go_at_call 16; (with_reducible refine HL.out.mono ?_); rintro e w3 ⟨rfl, rfl⟩)
            | (go_at_call 17; (with_reducible refine HE.out.mono ?_); rintro e w3 ⟨rfl, rfl⟩)
            | (go_at_call 11; (with_reducible refine HDO.out.mono ?_); rintro e w4 ⟨rfl, h4⟩; have H4 := Lib.hid h4; have hf4 := HF.out _ H4; clear h4)
            | (go_at_call 16; (with_reducible refine (HLT.out _ H4).mono ?_); rintro e w5 ⟨rfl, rfl⟩)
            | (go_at_call 17; (with_reducible refine (HET.out _ H4).mono ?_); rintro e w5 ⟨rfl, rfl⟩))
          all_goals exact ⟨⟨k + 1, t, by omega, by omega, by simp, H4⟩, by simp [intOf]; omega⟩
      · obtain rfl : k = 60 := by omega
        have HWK := Lib.hid (works_true wr)
        go_wp2_with (go_at_call 19; (with_reducible refine HWK.out.mono ?_); rintro e w8 ⟨rfl, h8⟩; have H8 := Lib.hid h8; clear h8)
        go_ret
        exact ⟨rfl, HS.out.2.trans (H8.out.mono HS.out.2.size)⟩
    · have HWK := Lib.hid (works_true wr)
      go_wp2_with (go_at_call 19; (with_reducible refine HWK.out.mono ?_); rintro e w8 ⟨rfl, h8⟩; have H8 := Lib.hid h8; clear h8)
      go_ret
      exact ⟨rfl, HS.out.2.trans (H8.out.mono HS.out.2.size)⟩
end Go.Proofs.Ytkcmpakcahemcaa
