/-
  What is proved here: PoolRefuses returns true and leaves all memory that was there as it was; condition: the arguments are ones that the form reads.
-/
import Derived.Test.YtoenigbfcbillaaTwoW
namespace Go.Proofs.Ytoenigbfcbillaa
open Go.RowKit

def sx : ByteArray := ⟨#[120]⟩
theorem getD_key {y : List E} {j : Nat} {e : E} (h : y[j]? = some e) : (y.map E.k)[j]? = some e.k := by rw [List.getElem?_map, h]; rfl
set_option maxRecDepth 20000 in
set_option maxHeartbeats 1000000 in
theorem poolRefuses_walk (l : List ByteArray) (v : Value) (at' which : Int) (w : World) (h1 : RdS w v l) (ha0 : -9223372036854775808 ≤ at') (ha1 : at' ≤ 9223372036854775807) (hw0 : -9223372036854775808 ≤ which) (hw1 : which ≤ 9223372036854775807) :
    Calls Try.prog 6 #[v, .int .i64 at', .int .i64 which] w fun e w' => e = .returned (.bool true) ∧ Below w.heap.size w w' := by
  obtain ⟨K, hK⟩ : ∃ K, K = cutN 60 40 l := ⟨_, rfl⟩
  have HF1 := Lib.hid (filled_F (Fm.start (Below.refl w.heap.size w)) h1 K hK)
  have hKL : K.length ≤ 60 := by rw [hK, cutN_length]; omega
  obtain ⟨y, hy⟩ : ∃ y, fl K K.length = y := ⟨_, rfl⟩
  obtain ⟨ya, hya⟩ : ∃ ya, ag K K.length = ya := ⟨_, rfl⟩
  have HYL : Hid (y.length ≤ 60) := Lib.hid (by rw [← hy]; exact Nat.le_trans (fl_le K (by omega) (Nat.le_refl _)) hKL)
  have HSR : Hid (Srt y) := Lib.hid (by rw [← hy]; exact fl_srt K _)
  have HNS : Hid (∀ e ∈ y, 0 ≤ e.n ∧ e.n ≤ 60) := Lib.hid (by
    intro e he
    rw [← hy] at he
    exact fl_num (by omega) (Nat.le_refl _) he)
  have HKS : Hid (∀ e ∈ y, e.k.size ≤ 40) := Lib.hid (by
    intro e he
    rw [← hy] at he
    obtain ⟨i, hi, hk⟩ := fl_key he
    rw [hk]
    rw [hK] at hi ⊢
    exact cutN_size hi)
  rw [hy, hya] at HF1
  clear h1 hK hy hya hKL
  obtain ⟨n, hn⟩ : ∃ n, n = y.length := ⟨_, rfl⟩
  have HN := Lib.hid hn
  have hn60 : n ≤ 60 := by rw [hn]; exact HYL.out
  have HLF : Hid (∀ L R W p, Hid (Fm w ((p, true, y) :: L) R W) → Calls Try.prog 16 #[.pointer (some ⟨p, 0, none⟩)] W fun e w' => ∃ A c, e = .returned (.slice A n c) ∧ n ≤ c ∧ c ≤ 9223372036854775807 ∧ Fm w ((p, true, y) :: L) ((.slice A n c, y.map E.k) :: R) w') := Lib.hid fun L R W p H => by rw [hn]; exact list_F H.out
  have HEQ : Hid (∀ L (R : List RowS) W (a b : Value), Hid (Fm w L ((b, y.map E.k) :: R) W) → (a, y.map E.k) ∈ R → Calls Try.prog 18 #[b, a] W fun e w' => e = .returned (.bool true) ∧ Fm w L ((b, y.map E.k) :: R) w') := Lib.hid fun L R W a b H hm => by
    have := eq_F H.out (H.out.rd (List.mem_cons_self ..)) (H.out.rd (List.mem_cons_of_mem _ hm)) (by rw [List.length_map]; have := HYL.out; omega)
    simpa using this
  clear hn
  go_enter Try.func6, Try.ntmps6
  go_wp2_with (go_at_call 21; (with_reducible refine HF1.out.mono ?_); rintro e w1 ⟨p, rfl, hs⟩; have HS := Lib.hid hs; clear hs HF1)
  go_wp2_with (go_at_call 16; (with_reducible refine (HLF.out _ _ _ _ HS).mono ?_); rintro e w2 ⟨A1, c1, rfl, hc0, hc1, hs⟩; have HS2 := Lib.hid hs; clear hs HS)
  by_cases hok : putE y sx at' = 0
  · have HPU : Hid (Calls Try.prog 14 #[.pointer (some ⟨p, 0, none⟩), .string ⟨#[120]⟩, .int .i64 at'] w2 fun e w' => e = .returned (.int .i64 0) ∧ Fm w [(p, true, put true y sx at')] [(.slice A1 n c1, y.map E.k)] w') := Lib.hid (putE_F HS2.out sx at' (by have := HYL.out; omega) (by decide) hok rfl)
    have hin : 0 ≤ at' ∧ at' < 9007199254740992 ∧ inN at' = true ∧ has y sx = false := by
      rcases inN_cases at' with ⟨_, h⟩ | ⟨_, _, h⟩ | ⟨h0, h1, h⟩
      · unfold putE at hok; rw [h] at hok; cases hok
      · unfold putE at hok; rw [h] at hok; cases hok
      · refine ⟨by omega, by omega, h, ?_⟩
        unfold putE at hok; rw [h] at hok
        cases hc : has y sx with
        | false => rfl
        | true => rw [hc] at hok; cases hok
    obtain ⟨a0, a1, a2, a3⟩ := hin
    have e1 := (put_new (b := true) a2 a3).1
    rw [if_pos rfl] at e1
    have HLN : Hid ((put true y sx at').length = n + 1) := Lib.hid (by rw [e1, ins_length, ← HN.out])
    have HGT : Hid (gtN (put true y sx at') sx = at' ∧ has (put true y sx at') sx = true) := Lib.hid (by
      rw [e1]
      have hm : (⟨sx, at'⟩ : E) ∈ ins y sx at' := mem_ins.2 (.inl rfl)
      exact ⟨gtN_mem _ ⟨sx, at'⟩ (ins_srt HSR.out a3).nodup hm, has_iff.2 ⟨_, hm, rfl⟩⟩)
    obtain ⟨z, hz⟩ : ∃ z, put true y sx at' = z := ⟨_, rfl⟩
    rw [hz] at HPU HLN HGT
    clear hz e1 hok a2 a3
    have b0 : decide ((0 : Int) ≤ at') = true := by simpa using a0
    have b1 : decide (at' < (9007199254740992 : Int)) = true := by simpa using a1
    have HA1 := Lib.hid a1
    clear a1
    go_wp2_with (go_at_call 14; (with_reducible refine HPU.out.mono ?_); rintro e w3 ⟨rfl, hs⟩; have HS3 := Lib.hid hs; clear hs HPU HS2)
    have HGE : Hid (Calls Try.prog 12 #[.pointer (some ⟨p, 0, none⟩), .string ⟨#[120]⟩] w3 fun e w' => e = .returned (.tuple #[.int .i64 at', .bool true]) ∧ Fm w [(p, true, z)] [(.slice A1 n c1, y.map E.k)] w') := Lib.hid (by
      have := get_F HS3.out sx
      rw [HGT.out.1, HGT.out.2] at this
      exact this)
    go_wp2_with (go_at_call 12; (with_reducible refine HGE.out.mono ?_); rintro e w4 ⟨rfl, hs⟩; have HS4 := Lib.hid hs; clear hs HGE HS3)
    have HLE : Hid (Calls Try.prog 17 #[.pointer (some ⟨p, 0, none⟩)] w4 fun e w' => e = .returned (.int .i64 ((n : Int) + 1)) ∧ w4 = w') := Lib.hid (by
      have := len_F HS4.out
      rw [HLN.out] at this
      simpa using this)
    go_wp2_with (first
      | (go_at_call 17; (with_reducible refine HLE.out.mono ?_); rintro e w5 ⟨rfl, rfl⟩)
      | (go_at_call 20; (with_reducible refine (works_F HS4.out).mono ?_); rintro e w6 ⟨rfl, hs⟩; have HS5 := Lib.hid hs; clear hs))
    go_ret
    exact ⟨rfl, HS5.out.2⟩
  · obtain ⟨er, her⟩ : ∃ er, putE y sx at' = er := ⟨_, rfl⟩
    have hsame : put true y sx at' = y := by
      rcases inN_cases at' with ⟨_, h⟩ | ⟨_, _, h⟩ | ⟨h0, h1, h⟩
      · exact (put_no h).1
      · exact (put_no h).1
      · cases hc : has y sx with
        | true => exact (put_had h hc).1
        | false => exact absurd (put_new (b := true) h hc).2 hok
    have HPU : Hid (Calls Try.prog 14 #[.pointer (some ⟨p, 0, none⟩), .string ⟨#[120]⟩, .int .i64 at'] w2 fun e w' => e = .returned (.int .i64 er) ∧ Fm w [(p, true, y)] [(.slice A1 n c1, y.map E.k)] w') := Lib.hid (putE_F HS2.out sx at' (by have := HYL.out; omega) (by decide) her hsame)
    have b0 : (er == 0) = false := by rw [← her]; simpa using hok
    clear hok hsame her
    by_cases hn0 : 0 < n
    · have hn1 : (0 : Int) < (n : Int) := by omega
      go_wp2_with (go_at_call 14; (with_reducible refine HPU.out.mono ?_); rintro e w3 ⟨rfl, hs⟩; have HS3 := Lib.hid hs; clear hs HPU HS2)
      have HBR : Hid (∀ W, Calls Try.prog 24 #[.int .i64 which, .int .i64 (n : Int)] W fun e w' => e = .returned (.int .i64 (which % n)) ∧ W = w') := Lib.hid fun W => bring_any which n W hw0 hw1 (by omega) (by omega)
      have hk0 := Int.emod_nonneg which (show (n : Int) ≠ 0 by omega)
      have hk1 := Int.emod_lt_of_pos which (show (0 : Int) < n by omega)
      obtain ⟨r, hr⟩ := Int.eq_ofNat_of_zero_le hk0
      rw [hr] at HBR hk1
      have hrn : r < n := by omega
      obtain ⟨d, hd⟩ : ∃ d, y[r]? = some d := ⟨_, List.getElem?_eq_getElem (by have := HN.out; omega)⟩
      have hdm := List.mem_of_getElem? hd
      obtain ⟨A', n', c', hv, _, _, _, _, hA⟩ := (HS3.out.rd (a := .slice A1 n c1) (zs := y.map E.k) (by simp)).at
      obtain ⟨rfl, rfl, rfl⟩ : A1 = A' ∧ n = n' ∧ c1 = c' := by injection hv with a1 a2 a3; exact ⟨a1, a2, a3⟩
      obtain ⟨b, off, rfl, _, hcell⟩ := hA hn0
      have y0 := hcell w3 (Below.refl _ _) r d.k (getD_key hd)
      have hh : has y d.k = true := has_iff.2 ⟨d, hdm, rfl⟩
      have hg : gtN y d.k = d.n := gtN_mem y d HSR.out.nodup hdm
      have hdn := HNS.out d hdm
      have hinN : inN d.n = true := by unfold inN; rw [decide_eq_true hdn.1, decide_eq_true (by omega)]; rfl
      have hdk := HKS.out d hdm
      have HGE : Hid (∀ W R, Hid (Fm w [(p, true, y)] R W) → Calls Try.prog 12 #[.pointer (some ⟨p, 0, none⟩), .string d.k] W fun e w' => e = .returned (.tuple #[.int .i64 d.n, .bool true]) ∧ Fm w [(p, true, y)] R w') := Lib.hid fun W R H => by
        have := get_F H.out d.k
        rw [hg, hh] at this
        exact this
      have HP1 : Hid (∀ W R, Hid (Fm w [(p, true, y)] R W) → Calls Try.prog 14 #[.pointer (some ⟨p, 0, none⟩), .string d.k, .int .i64 d.n] W fun e w' => e = .returned (.int .i64 71) ∧ Fm w [(p, true, y)] R w') := Lib.hid fun W R H => putE_F H.out d.k d.n (by have := HYL.out; omega) (by omega) (put_had (b := true) hinN hh).2 (put_had hinN hh).1
      have HP2 : Hid (∀ W R, Hid (Fm w [(p, true, y)] R W) → Calls Try.prog 14 #[.pointer (some ⟨p, 0, none⟩), .string d.k, .int .i64 (-1)] W fun e w' => e = .returned (.int .i64 2) ∧ Fm w [(p, true, y)] R w') := Lib.hid fun W R H => putE_F H.out d.k (-1) (by have := HYL.out; omega) (by omega) (put_no (b := true) (by decide)).2 (put_no (by decide)).1
      have HGS : Hid (∀ W R, Hid (Fm w [(p, true, y)] R W) → Calls Try.prog 22 #[.pointer (some ⟨p, 0, none⟩), .string d.k, .int .i64 d.n, .bool true] W fun e w' => e = .returned (.bool true) ∧ Fm w [(p, true, y)] R w') := Lib.hid fun W R H => getsE_F H.out d.k d.n true hg hh
      obtain ⟨dk, dn⟩ := d
      simp only at HGE HP1 HP2 HGS y0
      have i1 : (r : Int) < (n : Int) := by omega
      clear hk0 hk1 hr hd hdm hv hA hcell hh hg hdn hinN hdk hw0 hw1
      go_wp2_with (go_at_call 24; (with_reducible refine (HBR.out _).mono ?_); rintro e w4 ⟨rfl, rfl⟩)
      go_wp2_with (go_at_call 12; (with_reducible refine (HGE.out _ _ HS3).mono ?_); rintro e w4 ⟨rfl, hs⟩; have HS4 := Lib.hid hs; clear hs HS3)
      go_wp2_with (first
        | (go_at_call 14; (with_reducible refine (HP1.out _ _ HS4).mono ?_); rintro e w5 ⟨rfl, hs⟩; have HS5 := Lib.hid hs; clear hs HS4)
        | (go_at_call 14; (with_reducible refine (HP2.out _ _ HS5).mono ?_); rintro e w6 ⟨rfl, hs⟩; have HS6 := Lib.hid hs; clear hs HS5)
        | (go_at_call 22; (with_reducible refine (HGS.out _ _ HS6).mono ?_); rintro e w7 ⟨rfl, hs⟩; have HS7 := Lib.hid hs; clear hs HS6)
        | (go_at_call 16; (with_reducible refine (HLF.out _ _ _ _ HS7).mono ?_); rintro e w8 ⟨A2, c2, rfl, -, -, hs⟩; have HS8 := Lib.hid hs; clear hs HS7)
        | (go_at_call 18; (with_reducible refine (HEQ.out _ _ _ _ _ HS8 (List.mem_cons_self ..)).mono ?_); rintro e w9 ⟨rfl, hs⟩; have HS9 := Lib.hid hs; clear hs HS8)
        | (go_at_call 20; (with_reducible refine (works_F HS9.out).mono ?_); rintro e w10 ⟨rfl, hs⟩; have HS10 := Lib.hid hs; clear hs HS9))
      go_ret
      exact ⟨rfl, HS10.out.2⟩
    · have hn1 : ¬ (0 : Int) < (n : Int) := by omega
      go_wp2_with (first
        | (go_at_call 14; (with_reducible refine HPU.out.mono ?_); rintro e w3 ⟨rfl, hs⟩; have HS3 := Lib.hid hs; clear hs HPU HS2)
        | (go_at_call 16; (with_reducible refine (HLF.out _ _ _ _ HS3).mono ?_); rintro e w8 ⟨A2, c2, rfl, -, -, hs⟩; have HS8 := Lib.hid hs; clear hs HS3)
        | (go_at_call 18; (with_reducible refine (HEQ.out _ _ _ _ _ HS8 (List.mem_cons_self ..)).mono ?_); rintro e w9 ⟨rfl, hs⟩; have HS9 := Lib.hid hs; clear hs HS8)
        | (go_at_call 20; (with_reducible refine (works_F HS9.out).mono ?_); rintro e w10 ⟨rfl, hs⟩; have HS10 := Lib.hid hs; clear hs HS9))
      go_ret
      exact ⟨rfl, HS10.out.2⟩
end Go.Proofs.Ytoenigbfcbillaa
