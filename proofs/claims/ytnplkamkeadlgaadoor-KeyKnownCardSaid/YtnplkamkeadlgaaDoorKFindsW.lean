/-
  What is proved here: the law KeyFinds returns true; condition: the table of package tree holds what is laid.
-/
import Derived.Test.YtnplkamkeadlgaaDoorKFew
namespace Go.Proofs.YtnplkamkeadlgaaDoor
open Go.RowKit Go.Sort

set_option maxRecDepth 100000 in
set_option maxHeartbeats 1000000 in
theorem keyFinds_walk (ks : List ByteArray) (v : Value) (k : ByteArray) (w : World) (hT : Tab w) (hl : RdS w v ks) (hk : k.size ≤ maxLen) :
    Calls Tryd.prog 6 #[v, .string k] w fun e w' => e = .returned (.bool true) ∧ Below w.heap.size w w' := by
  have HT := Lib.hid hT
  have HL := Lib.hid hl
  have HF := Lib.hid (few_any ks v w hl)
  have HS : Hid (∀ W, Calls Tryd.prog 13 #[.string k, .int .i64 40] W fun e w' => e = .returned (.string (shN 40 k)) ∧ Below W.heap.size W w') := Lib.hid fun W => shortN_any 40 k W hk (by omega)
  obtain ⟨x, hx⟩ : ∃ x, shN 40 k = x := ⟨_, rfl⟩
  have hxs : Hid (x.size ≤ maxLen) := Lib.hid (by rw [← hx]; exact Nat.le_trans (shN_size 40 k) (by unfold maxLen; omega))
  rw [hx] at HS
  obtain ⟨l, hl1⟩ : ∃ l, cutN 60 40 ks = l := ⟨_, rfl⟩
  have hln : l.length ≤ 60 := by rw [← hl1]; exact cutN_len _ _ _
  rw [hl1] at HF
  have HL1 := Lib.hid hl1
  obtain ⟨A0, n0, c0, rfl, _⟩ := hl
  clear hT hk hx hl1
  go_enter Tryd.func6, Tryd.ntmps6
  go_wp2_with fail
  with_reducible refine HF.out.mono ?_
  rintro e w1 ⟨v1, rfl, HR, HB1⟩
  go_wp2_with fail
  with_reducible refine (HS.out _).mono ?_
  rintro e w2 ⟨rfl, hb2⟩
  obtain ⟨A, n, c, rfl, hn, hnc, hc, hsz, hA⟩ := (HR.out.below hb2).at
  have HR2 := Lib.hid (HR.out.below hb2)
  have HB2 : Hid (Below w.heap.size w w2) := Lib.hid (tr HB1.out hb2)
  have HN := Lib.hid hn
  have hn60 : n ≤ 60 := by omega
  have HA := Lib.hid hA
  have HSZ := Lib.hid hsz
  have HFD : Hid (∀ W s, Below w2.heap.size w2 W → Calls Tryd.prog 22 #[.slice A n c, .string s] W fun e w' => e = .returned (.tuple #[.int .i64 ((fdN l s : Nat) : Int), .bool (fdB l s)]) ∧ Below W.heap.size W w') := Lib.hid fun W s hb => find_any l _ s W (HR2.out.below hb) (by omega)
  have HRF : Hid (∀ W s, s.size ≤ maxLen → Below w2.heap.size w2 W → Calls Tryd.prog 23 #[.slice A n c, .string s] W fun e w' => e = .returned (.tuple #[.int .i64 ((fdN l s : Nat) : Int), .bool (fdB l s)]) ∧ Below W.heap.size W w') := Lib.hid fun W s hs hb => refFind_any l _ s W (HR2.out.below hb) (by omega) hs
  clear hn hA hsz hb2 HF HS HR HB1 hln
  go_wp2_with fail
  go_loopw [6] (fun i wr => ∃ t : Int, i = .int .i64 t ∧ -1 ≤ t ∧ t ≤ (n : Int) ∧ Hid (Below w2.heap.size w2 wr)) (fun i _ => ((n : Int) - intOf i).toNat)
  case atStart => exact ⟨-1, rfl, by omega, by omega, Lib.hid (Below.refl _ _)⟩
  case round =>
    obtain ⟨t, rfl, ht1, ht2, HW⟩ := hrel
    by_cases h1 : t < (n : Int)
    · have hround : ∀ s : ByteArray, s.size ≤ maxLen → True := fun _ _ => trivial
      clear hround
      by_cases h0 : 0 ≤ t
      · obtain ⟨j, rfl⟩ : ∃ j : Nat, t = (j : Int) := ⟨t.toNat, by omega⟩
        obtain ⟨s, hs⟩ : ∃ s, l[j]? = some s := ⟨_, List.getElem?_eq_getElem (by rw [HN.out]; omega)⟩
        have hss := HSZ.out s (List.mem_of_getElem? hs)
        obtain ⟨b, off, rfl, _, hcl⟩ := HA.out (by omega)
        have hcell := hcl wr HW.out j s hs
        have HSS := Lib.hid hss
        obtain ⟨F, hF⟩ : ∃ F, fdN l s = F := ⟨_, rfl⟩
        obtain ⟨β, hβ⟩ : ∃ β, fdB l s = β := ⟨_, rfl⟩
        have HFs := Lib.hid fun W hb => HFD.out W s hb
        have HRs := Lib.hid fun W hb => HRF.out W s hss hb
        rw [hF, hβ] at HFs HRs
        clear hcl hs hss hF hβ
        cases β <;>
        · go_wp2_with (first
            | (go_at_call 22; with_reducible refine (HFs.out _ HW.out).mono ?_; rintro e w3 ⟨rfl, hb3⟩; have HW3 := Lib.hid (tr HW.out hb3); clear hb3)
            | (go_at_call 23; with_reducible refine (HRs.out _ HW3.out).mono ?_; rintro e w4 ⟨rfl, hb4⟩; have HW4 := Lib.hid (tr HW3.out hb4); clear hb4))
          go_roundw
          case rel => exact ⟨(j : Int) + 1, by simp, by omega, by omega, HW4⟩
          case measure => simp [intOf] <;> omega
      · obtain rfl : t = -1 := by omega
        obtain ⟨F, hF⟩ : ∃ F, fdN l x = F := ⟨_, rfl⟩
        obtain ⟨β, hβ⟩ : ∃ β, fdB l x = β := ⟨_, rfl⟩
        have HFs := Lib.hid fun W hb => HFD.out W x hb
        have HRs := Lib.hid fun W hb => HRF.out W x hxs.out hb
        rw [hF, hβ] at HFs HRs
        clear hF hβ
        cases β <;>
        · go_wp2_with (first
            | (go_at_call 22; with_reducible refine (HFs.out _ HW.out).mono ?_; rintro e w3 ⟨rfl, hb3⟩; have HW3 := Lib.hid (tr HW.out hb3); clear hb3)
            | (go_at_call 23; with_reducible refine (HRs.out _ HW3.out).mono ?_; rintro e w4 ⟨rfl, hb4⟩; have HW4 := Lib.hid (tr HW3.out hb4); clear hb4))
          go_roundw
          case rel => exact ⟨0, by simp, by omega, by omega, HW4⟩
          case measure => simp [intOf] <;> omega
    · have HBW : Hid (Below w.heap.size w wr) := Lib.hid (tr HB2.out HW.out)
      have HF2 := Lib.hid (few_any ks _ wr (HL.out.below HBW.out))
      go_wp2_with fail
      with_reducible refine HF2.out.mono ?_
      rintro e w3 ⟨v3, rfl, HR3, HB3⟩
      have HE := Lib.hid (eqTexts_any l (cutN 60 40 ks) (.slice A n c) v3 w3 (HR2.out.below (tr HW.out HB3.out)) HR3.out (by have := HN.out; omega))
      have hd : decide (l = cutN 60 40 ks) = true := by rw [HL1.out]; simp
      rw [hd] at HE
      clear hd
      go_wp2_with fail
      with_reducible refine HE.out.mono ?_
      rintro e w4 ⟨rfl, hb4⟩
      have HB4 : Hid (Below w.heap.size w w4) := Lib.hid (tr HBW.out (tr HB3.out hb4))
      have HWK := Lib.hid (works_true w4 (HT.out.keep HB4.out))
      clear hb4
      go_wp2_with fail
      with_reducible refine HWK.out.mono ?_
      rintro e w5 ⟨rfl, hb5⟩
      have HB5 := Lib.hid (tr HB4.out hb5)
      clear hb5
      go_wp2_with fail
      go_ret
      exact ⟨rfl, HB5.out⟩
end Go.Proofs.YtnplkamkeadlgaaDoor
