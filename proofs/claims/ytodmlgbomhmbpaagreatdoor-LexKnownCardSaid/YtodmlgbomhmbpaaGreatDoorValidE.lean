/-
  What is proved here: utf8.Valid answers of one to four bytes of an own row as the plain function val says, where the bytes are no more than the first byte asks for; conditions: the library's two tables hold what is laid, and those that each fact states.
-/
import Derived.Test.YtodmlgbomhmbpaaGreatDoorValidB
import Derived.Test.YtodmlgbomhmbpaaGreatDoorValidC
import Derived.Test.YtodmlgbomhmbpaaGreatDoorValidD
import Derived.Test.YtodmlgbomhmbpaaGreatDoorValidF
namespace Go.Proofs.YtodmlgbomhmbpaaGreatDoor
open Go.RowKit Ut Go.Lib

def VE (w : World) (b : Bool) (e : Ending) (w' : World) : Prop := e = .returned (.bool b) ∧ Below w.heap.size w w'
theorem val_ascii {n b0 b1 b2 b3 : Nat} (h : b0 < 128) : valN n b0 b1 b2 b3 = true := by unfold valN; rw [decide_eq_true h]; rfl
theorem val_few {n b0 b1 b2 b3 : Nat} (h : 128 ≤ b0) (h1 : firstT b0 % 8 ≤ 1 ∨ n < firstT b0 % 8) : valN n b0 b1 b2 b3 = false := by
  unfold valN
  rw [decide_eq_false (show ¬ b0 < 128 by omega)]
  rcases h1 with h1 | h1
  · rw [decide_eq_false (show ¬ 1 < firstT b0 % 8 by omega)]; rfl
  · rw [decide_eq_false (show ¬ firstT b0 % 8 ≤ n by omega)]; simp
theorem val_2 {b0 b1 b2 b3 : Nat} (h : 128 ≤ b0) (hF : firstT b0 = 2) : valN 2 b0 b1 b2 b3 = (decide (128 ≤ b1) && decide (b1 ≤ 191)) := by
  unfold valN
  rw [decide_eq_false (show ¬ b0 < 128 by omega), hF]
  simp [accLo, accHi]
theorem val_19 {b0 b1 b2 b3 : Nat} (h : 128 ≤ b0) (hF : firstT b0 = 19) : valN 3 b0 b1 b2 b3 = (decide (160 ≤ b1) && decide (b1 ≤ 191) && decide (128 ≤ b2) && decide (b2 ≤ 191)) := by
  unfold valN
  rw [decide_eq_false (show ¬ b0 < 128 by omega), hF]
  simp [accLo, accHi, Bool.and_assoc]
theorem val_3 {b0 b1 b2 b3 : Nat} (h : 128 ≤ b0) (hF : firstT b0 = 3) : valN 3 b0 b1 b2 b3 = (decide (128 ≤ b1) && decide (b1 ≤ 191) && decide (128 ≤ b2) && decide (b2 ≤ 191)) := by
  unfold valN
  rw [decide_eq_false (show ¬ b0 < 128 by omega), hF]
  simp [accLo, accHi, Bool.and_assoc]
theorem val_35 {b0 b1 b2 b3 : Nat} (h : 128 ≤ b0) (hF : firstT b0 = 35) : valN 3 b0 b1 b2 b3 = (decide (128 ≤ b1) && decide (b1 ≤ 159) && decide (128 ≤ b2) && decide (b2 ≤ 191)) := by
  unfold valN
  rw [decide_eq_false (show ¬ b0 < 128 by omega), hF]
  simp [accLo, accHi, Bool.and_assoc]
theorem val_52 {b0 b1 b2 b3 : Nat} (h : 128 ≤ b0) (hF : firstT b0 = 52) : valN 4 b0 b1 b2 b3 = (decide (144 ≤ b1) && decide (b1 ≤ 191) && decide (128 ≤ b2) && decide (b2 ≤ 191) && decide (128 ≤ b3) && decide (b3 ≤ 191)) := by
  unfold valN
  rw [decide_eq_false (show ¬ b0 < 128 by omega), hF]
  simp [accLo, accHi, Bool.and_assoc]
theorem val_4 {b0 b1 b2 b3 : Nat} (h : 128 ≤ b0) (hF : firstT b0 = 4) : valN 4 b0 b1 b2 b3 = (decide (128 ≤ b1) && decide (b1 ≤ 191) && decide (128 ≤ b2) && decide (b2 ≤ 191) && decide (128 ≤ b3) && decide (b3 ≤ 191)) := by
  unfold valN
  rw [decide_eq_false (show ¬ b0 < 128 by omega), hF]
  simp [accLo, accHi, Bool.and_assoc]
theorem val_68 {b0 b1 b2 b3 : Nat} (h : 128 ≤ b0) (hF : firstT b0 = 68) : valN 4 b0 b1 b2 b3 = (decide (128 ≤ b1) && decide (b1 ≤ 143) && decide (128 ≤ b2) && decide (b2 ≤ 191) && decide (128 ≤ b3) && decide (b3 ≤ 191)) := by
  unfold valN
  rw [decide_eq_false (show ¬ b0 < 128 by omega), hF]
  simp [accLo, accHi, Bool.and_assoc]

theorem valid_n (g c n : Nat) (l : List UInt8) (w : World) (hn : l.length = n) (h1 : 0 < n) (h4 : n ≤ 4) (ha : (l.getD 0 0).toNat < 128 → n = 1) (hx : 1 < firstT (l.getD 0 0).toNat % 8 → n ≤ firstT (l.getD 0 0).toNat % 8)
    (hT : Utf8Tabs 4 5 w) (hc : ∀ j, j < l.length → w.cell? ⟨g, j, none⟩ = some (.int .u8 ((l.getD j 0).toNat : Int))) (hg : g < w.heap.size) (hnc : n ≤ c) :
    Calls Tryz.prog 82 #[.slice (some ⟨g, 0, none⟩) n c] w (VE w (val l)) := by
  have hb : ∀ j, (l.getD j 0).toNat < 256 := fun j => (l.getD j 0).toNat_lt
  have h0 := hc 0 (by omega)
  have hf := hT.1 _ (hb 0)
  have hv : val l = valN n (l.getD 0 0).toNat (l.getD 1 0).toNat (l.getD 2 0).toNat (l.getD 3 0).toNat := by unfold val; rw [hn]
  rw [hv]
  by_cases h128 : (l.getD 0 0).toNat < 128
  · obtain rfl : n = 1 := ha h128
    rw [val_ascii h128]
    exact valid_ascii g c w _ h128 h0 hnc
  · by_cases hge : firstT (l.getD 0 0).toNat % 8 ≤ 1 ∨ n < firstT (l.getD 0 0).toNat % 8
    · rw [val_few (by omega) hge]
      have hF := firstT_cases (l.getD 0 0).toNat
      have h240 : firstT (l.getD 0 0).toNat ≠ 240 := by
        intro he
        unfold firstT at he
        repeat' split at he
        all_goals omega
      rcases hF with h | h | h | h | h | h | h | h | h
      · exact absurd h h240
      · rw [h] at hf
        have hA := hT.2 15 (by omega)
        exact valid_xx g n c w _ (hb 0) (by omega) (by omega) h4 hf h0 hA.1 hA.2 hnc
      · rw [h] at hf hge
        have hA := hT.2 0 (by omega)
        exact short_2 g n c w _ (hb 0) (by omega) h1 (by omega) hf h0 hA.1 hA.2 hnc
      · rw [h] at hf hge
        have hA := hT.2 1 (by omega)
        exact short_19 g n c w _ (hb 0) (by omega) h1 (by omega) hf h0 hA.1 hA.2 hnc
      · rw [h] at hf hge
        have hA := hT.2 0 (by omega)
        exact short_3 g n c w _ (hb 0) (by omega) h1 (by omega) hf h0 hA.1 hA.2 hnc
      · rw [h] at hf hge
        have hA := hT.2 2 (by omega)
        exact short_35 g n c w _ (hb 0) (by omega) h1 (by omega) hf h0 hA.1 hA.2 hnc
      · rw [h] at hf hge
        have hA := hT.2 3 (by omega)
        exact short_52 g n c w _ (hb 0) (by omega) h1 (by omega) hf h0 hA.1 hA.2 hnc
      · rw [h] at hf hge
        have hA := hT.2 0 (by omega)
        exact short_4 g n c w _ (hb 0) (by omega) h1 (by omega) hf h0 hA.1 hA.2 hnc
      · rw [h] at hf hge
        have hA := hT.2 4 (by omega)
        exact short_68 g n c w _ (hb 0) (by omega) h1 (by omega) hf h0 hA.1 hA.2 hnc
    · have hF := firstT_cases (l.getD 0 0).toNat
      have hxx := hx (by omega)
      have hsz : n = firstT (l.getD 0 0).toNat % 8 := by omega
      rcases hF with h | h | h | h | h | h | h | h | h
      · exfalso; rw [h] at hge; omega
      · exfalso; rw [h] at hge; omega
      · obtain rfl : n = 2 := by rw [h] at hsz; omega
        rw [h] at hf
        have hA := hT.2 0 (by omega)
        rw [val_2 (by omega) h]
        exact valid_2 g c w _ _ (hb 0) (hb 1) (by omega) hf (hc 0 (by omega)) (hc 1 (by omega)) hA.1 hA.2 hnc hg
      · obtain rfl : n = 3 := by rw [h] at hsz; omega
        rw [h] at hf
        have hA := hT.2 1 (by omega)
        rw [val_19 (by omega) h]
        exact valid_19 g c w _ _ _ (hb 0) (hb 1) (hb 2) (by omega) hf (hc 0 (by omega)) (hc 1 (by omega)) (hc 2 (by omega)) hA.1 hA.2 hnc hg
      · obtain rfl : n = 3 := by rw [h] at hsz; omega
        rw [h] at hf
        have hA := hT.2 0 (by omega)
        rw [val_3 (by omega) h]
        exact valid_3 g c w _ _ _ (hb 0) (hb 1) (hb 2) (by omega) hf (hc 0 (by omega)) (hc 1 (by omega)) (hc 2 (by omega)) hA.1 hA.2 hnc hg
      · obtain rfl : n = 3 := by rw [h] at hsz; omega
        rw [h] at hf
        have hA := hT.2 2 (by omega)
        rw [val_35 (by omega) h]
        exact valid_35 g c w _ _ _ (hb 0) (hb 1) (hb 2) (by omega) hf (hc 0 (by omega)) (hc 1 (by omega)) (hc 2 (by omega)) hA.1 hA.2 hnc hg
      · obtain rfl : n = 4 := by rw [h] at hsz; omega
        rw [h] at hf
        have hA := hT.2 3 (by omega)
        rw [val_52 (by omega) h]
        exact valid_52 g c w _ _ _ _ (hb 0) (hb 1) (hb 2) (hb 3) (by omega) hf (hc 0 (by omega)) (hc 1 (by omega)) (hc 2 (by omega)) (hc 3 (by omega)) hA.1 hA.2 hnc hg
      · obtain rfl : n = 4 := by rw [h] at hsz; omega
        rw [h] at hf
        have hA := hT.2 0 (by omega)
        rw [val_4 (by omega) h]
        exact valid_4 g c w _ _ _ _ (hb 0) (hb 1) (hb 2) (hb 3) (by omega) hf (hc 0 (by omega)) (hc 1 (by omega)) (hc 2 (by omega)) (hc 3 (by omega)) hA.1 hA.2 hnc hg
      · obtain rfl : n = 4 := by rw [h] at hsz; omega
        rw [h] at hf
        have hA := hT.2 4 (by omega)
        rw [val_68 (by omega) h]
        exact valid_68 g c w _ _ _ _ (hb 0) (hb 1) (hb 2) (hb 3) (by omega) hf (hc 0 (by omega)) (hc 1 (by omega)) (hc 2 (by omega)) (hc 3 (by omega)) hA.1 hA.2 hnc hg
end Go.Proofs.YtodmlgbomhmbpaaGreatDoor
