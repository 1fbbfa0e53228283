/-
  What is proved here: the reference's such at a node of a kind out of 11, 12, 13; condition: at most 100000 children.
-/
import Derived.Test.YtnplkamkeadlgaaDoorRefC
namespace Go.Proofs.YtnplkamkeadlgaaDoor
open Go.RowKit

set_option maxRecDepth 100000 in
set_option maxHeartbeats 8000000 in
theorem refSuch_11 (nn uu : Int) (s : ByteArray) (ks : List ByteArray) (L : List T) (cs : List Value) (w : World) (hn : Nd w (.mk 11 nn uu s ks L) cs) (hsz : L.length ≤ 100000) :
    Calls Tryd.prog 74 #[.agg cs.toArray] w fun e w' => e = .returned (.bool (suchT (.mk 11 nn uu s ks L))) ∧ Below w.heap.size w w' := by
  rw [such_pre]
  obtain ⟨hr, hs, kv, A, m, c, rfl, ⟨B, d, e, rfl, hkl, _, _, _, _⟩, hl, hm, hmm, hL⟩ := hn
  rw [hl, hkl]
  rw [hl] at hsz
  have hE : partK 11 = 3 := rfl
  have HPT : Hid (∀ W, Calls Tryd.prog 87 #[.int .i64 11] W fun e w' => e = .returned (.int .i64 (3)) ∧ w' = W) := Lib.hid fun W => by rw [← hE]; exact part_any _ W
  have HLF : Hid (∀ W, Calls Tryd.prog 86 #[.int .i64 11] W fun e w' => e = .returned (.bool (decide ((11 : Int) ≤ 9))) ∧ w' = W) := Lib.hid fun W => (refLeaf_any _ W).mono fun e w' h => ⟨by
    rw [h.1]; rfl, h.2⟩
  rw [hE]
  obtain ⟨al, hal⟩ : ∃ al, (L.all fun x => decide (x.k = 3)) = al := ⟨_, rfl⟩
  have HAL := Lib.hid hal
  rw [hal]
  obtain ⟨P, hP⟩ : ∃ P : World → Prop, P = OB w (.int .i64 11) (.int .i64 nn) (.int .u64 uu) (.string s) (.slice B d e) (.slice A m c) := ⟨_, rfl⟩
  have HO0 : Hid (P (w.alloc (.cells #[.int .i64 11, .int .i64 nn, .int .u64 uu, .string s, .slice B d e, .slice A m c] 31))) := Lib.hid (by rw [hP]; exact OB.new w _ _ _ _ _ _)
  have HPB : Hid (∀ W, P W → Below w.heap.size w W) := Lib.hid fun W h => by rw [hP] at h; exact h.1
  have HPC : Hid (∀ W, P W → W.cell? ⟨w.heap.size, 0, none⟩ = some (.int .i64 11) ∧ W.cell? ⟨w.heap.size, 5, none⟩ = some (.slice A m c)) := Lib.hid fun W h => by rw [hP] at h; exact ⟨h.2.2.all.1, h.2.2.all.2.2.2.2.2⟩
  have HBW : Hid (Below w.heap.size w (w.alloc (.cells #[.int .i64 11, .int .i64 nn, .int .u64 uu, .string s, .slice B d e, .slice A m c] 31))) := Lib.hid ((Below.refl _ w).alloc (Nat.le_refl _) _)
  have HL := Lib.hid hL
  have HLN := Lib.hid hl
  clear hP
  have HS : Hid (s.toList = [] ↔ s.size = 0) := Lib.hid (by
    rw [ByteArray.toList_eq]
    constructor
    · intro h
      have : s.data.toList.length = 0 := by rw [h]; rfl
      simpa using this
    · intro h
      exact List.eq_nil_of_length_eq_zero (by simpa using h))
  clear hL hr hs hm hmm hal hE hl hkl
  rw [show decide ((11 : Int) ≤ 9) = false from rfl] at HLF
  go_enter Tryd.func74, Tryd.ntmps74
  go_wp2_with (go_at_call 86; refine (HLF.out _).mono ?_; rintro e w' ⟨rfl, rfl⟩)
  all_goals first
    | (go_ret
       refine ⟨?_, (Below.refl _ w).alloc (Nat.le_refl _) _⟩
       have hs := HS.out
       clear HPT HLF HO0 HL HAL HS HPB HPC HBW HLN
       simp_all [preS]
       done)
    | (go_ret
       refine ⟨?_, (Below.refl _ w).alloc (Nat.le_refl _) _⟩
       have hs := HS.out
       clear HPT HLF HO0 HL HAL HS HPB HPC HBW HLN
       simp_all [preS]
       omega)
    | (go_loopw [6] (fun i wr => ∃ j : Nat, j ≤ m ∧ i = .int .i64 (j : Int) ∧ Hid ((3 : Int) ≤ 0 ∨ (L.take j).all (fun t => decide (t.k = 3)) = true) ∧ Hid (P wr)) (fun i _ => m - (intOf i).toNat)
       case atStart => exact ⟨0, Nat.zero_le _, rfl, Lib.hid (.inr rfl), by clear HL HAL; subst_vars; exact HO0⟩
       case round =>
         obtain ⟨j, hj, rfl, HA, HO⟩ := hrel
         obtain ⟨c0, c5⟩ := HPC.out _ HO.out
         by_cases hjm : j < m
         · obtain ⟨b, off, rfl, hbw, hN⟩ := HL.out (by omega)
           obtain ⟨t0, ht0⟩ : ∃ t0, L[j]? = some t0 := ⟨_, List.getElem?_eq_getElem (by have := HLN.out; omega)⟩
           obtain ⟨v0, v1, v2, v3, v4, v5, d0, d1, d2, d3, d4, d5, hn0⟩ := hN.six (HPB.out _ HO.out) hbw ht0
           obtain rfl := hn0.kind
           clear d1 d2 d3 d4 d5 hn0
           obtain ⟨kt, hkt⟩ : ∃ kt, t0.k = kt := ⟨_, rfl⟩
           rw [hkt] at d0
           have HT0 := Lib.hid ht0
           have HKT := Lib.hid hkt
           clear ht0 hkt
           by_cases hk : kt = 3
           · have HA2 : Hid ((3 : Int) ≤ 0 ∨ (L.take (j + 1)).all (fun t => decide (t.k = 3)) = true) := Lib.hid (by
               rcases HA.out with h | h
               · exact .inl h
               · exact .inr (all_take HT0.out h (by rw [HKT.out, hk])))
             subst hk
             go_wp2_with (go_at_call 87; refine (HPT.out _).mono ?_; rintro e w' ⟨rfl, rfl⟩)
             go_roundw
             case rel => exact ⟨j + 1, by omega, by simp, HA2, HO⟩
             case measure => simp [intOf]; omega
           · have hne := neB hk
             have HF := Lib.hid (all_not HT0.out (by rw [HKT.out]; exact hk))
             go_wp2_with (go_at_call 87; refine (HPT.out _).mono ?_; rintro e w' ⟨rfl, rfl⟩)
             go_ret
             refine ⟨?_, HPB.out _ HO.out⟩
             have hal := HAL.out
             rw [HF.out] at hal
             subst hal
             refine Eq.trans (b := Ending.returned (Value.bool false)) rfl ?_
             simp
         · go_wp2_with fail
           go_ret
           refine ⟨?_, HPB.out _ HO.out⟩
           obtain rfl : j = m := by omega
           have hAA : (decide ((3 : Int) ≤ 0) || al) = true := by
             rcases HA.out with h | h
             · rw [decide_eq_true h]; rfl
             · rw [List.take_of_length_le (by have := HLN.out; omega)] at h
               rw [← HAL.out, h, Bool.or_true]
           rw [hAA]
           have hs := HS.out
           clear HPT HLF HO0 HL HAL HS HA HO hAA c0 c5 HPB HPC HBW HLN
           first | (simp_all [preS]; done) | (simp_all [preS]; omega))
set_option maxRecDepth 100000 in
set_option maxHeartbeats 8000000 in
theorem refSuch_12 (nn uu : Int) (s : ByteArray) (ks : List ByteArray) (L : List T) (cs : List Value) (w : World) (hn : Nd w (.mk 12 nn uu s ks L) cs) (hsz : L.length ≤ 100000) :
    Calls Tryd.prog 74 #[.agg cs.toArray] w fun e w' => e = .returned (.bool (suchT (.mk 12 nn uu s ks L))) ∧ Below w.heap.size w w' := by
  rw [such_pre]
  obtain ⟨hr, hs, kv, A, m, c, rfl, ⟨B, d, e, rfl, hkl, _, _, _, _⟩, hl, hm, hmm, hL⟩ := hn
  rw [hl, hkl]
  rw [hl] at hsz
  have hE : partK 12 = 4 := rfl
  have HPT : Hid (∀ W, Calls Tryd.prog 87 #[.int .i64 12] W fun e w' => e = .returned (.int .i64 (4)) ∧ w' = W) := Lib.hid fun W => by rw [← hE]; exact part_any _ W
  have HLF : Hid (∀ W, Calls Tryd.prog 86 #[.int .i64 12] W fun e w' => e = .returned (.bool (decide ((12 : Int) ≤ 9))) ∧ w' = W) := Lib.hid fun W => (refLeaf_any _ W).mono fun e w' h => ⟨by
    rw [h.1]; rfl, h.2⟩
  rw [hE]
  obtain ⟨al, hal⟩ : ∃ al, (L.all fun x => decide (x.k = 4)) = al := ⟨_, rfl⟩
  have HAL := Lib.hid hal
  rw [hal]
  obtain ⟨P, hP⟩ : ∃ P : World → Prop, P = OB w (.int .i64 12) (.int .i64 nn) (.int .u64 uu) (.string s) (.slice B d e) (.slice A m c) := ⟨_, rfl⟩
  have HO0 : Hid (P (w.alloc (.cells #[.int .i64 12, .int .i64 nn, .int .u64 uu, .string s, .slice B d e, .slice A m c] 31))) := Lib.hid (by rw [hP]; exact OB.new w _ _ _ _ _ _)
  have HPB : Hid (∀ W, P W → Below w.heap.size w W) := Lib.hid fun W h => by rw [hP] at h; exact h.1
  have HPC : Hid (∀ W, P W → W.cell? ⟨w.heap.size, 0, none⟩ = some (.int .i64 12) ∧ W.cell? ⟨w.heap.size, 5, none⟩ = some (.slice A m c)) := Lib.hid fun W h => by rw [hP] at h; exact ⟨h.2.2.all.1, h.2.2.all.2.2.2.2.2⟩
  have HBW : Hid (Below w.heap.size w (w.alloc (.cells #[.int .i64 12, .int .i64 nn, .int .u64 uu, .string s, .slice B d e, .slice A m c] 31))) := Lib.hid ((Below.refl _ w).alloc (Nat.le_refl _) _)
  have HL := Lib.hid hL
  have HLN := Lib.hid hl
  clear hP
  have HS : Hid (s.toList = [] ↔ s.size = 0) := Lib.hid (by
    rw [ByteArray.toList_eq]
    constructor
    · intro h
      have : s.data.toList.length = 0 := by rw [h]; rfl
      simpa using this
    · intro h
      exact List.eq_nil_of_length_eq_zero (by simpa using h))
  clear hL hr hs hm hmm hal hE hl hkl
  rw [show decide ((12 : Int) ≤ 9) = false from rfl] at HLF
  go_enter Tryd.func74, Tryd.ntmps74
  go_wp2_with (go_at_call 86; refine (HLF.out _).mono ?_; rintro e w' ⟨rfl, rfl⟩)
  all_goals first
    | (go_ret
       refine ⟨?_, (Below.refl _ w).alloc (Nat.le_refl _) _⟩
       have hs := HS.out
       clear HPT HLF HO0 HL HAL HS HPB HPC HBW HLN
       simp_all [preS]
       done)
    | (go_ret
       refine ⟨?_, (Below.refl _ w).alloc (Nat.le_refl _) _⟩
       have hs := HS.out
       clear HPT HLF HO0 HL HAL HS HPB HPC HBW HLN
       simp_all [preS]
       omega)
    | (go_loopw [6] (fun i wr => ∃ j : Nat, j ≤ m ∧ i = .int .i64 (j : Int) ∧ Hid ((4 : Int) ≤ 0 ∨ (L.take j).all (fun t => decide (t.k = 4)) = true) ∧ Hid (P wr)) (fun i _ => m - (intOf i).toNat)
       case atStart => exact ⟨0, Nat.zero_le _, rfl, Lib.hid (.inr rfl), by clear HL HAL; subst_vars; exact HO0⟩
       case round =>
         obtain ⟨j, hj, rfl, HA, HO⟩ := hrel
         obtain ⟨c0, c5⟩ := HPC.out _ HO.out
         by_cases hjm : j < m
         · obtain ⟨b, off, rfl, hbw, hN⟩ := HL.out (by omega)
           obtain ⟨t0, ht0⟩ : ∃ t0, L[j]? = some t0 := ⟨_, List.getElem?_eq_getElem (by have := HLN.out; omega)⟩
           obtain ⟨v0, v1, v2, v3, v4, v5, d0, d1, d2, d3, d4, d5, hn0⟩ := hN.six (HPB.out _ HO.out) hbw ht0
           obtain rfl := hn0.kind
           clear d1 d2 d3 d4 d5 hn0
           obtain ⟨kt, hkt⟩ : ∃ kt, t0.k = kt := ⟨_, rfl⟩
           rw [hkt] at d0
           have HT0 := Lib.hid ht0
           have HKT := Lib.hid hkt
           clear ht0 hkt
           by_cases hk : kt = 4
           · have HA2 : Hid ((4 : Int) ≤ 0 ∨ (L.take (j + 1)).all (fun t => decide (t.k = 4)) = true) := Lib.hid (by
               rcases HA.out with h | h
               · exact .inl h
               · exact .inr (all_take HT0.out h (by rw [HKT.out, hk])))
             subst hk
             go_wp2_with (go_at_call 87; refine (HPT.out _).mono ?_; rintro e w' ⟨rfl, rfl⟩)
             go_roundw
             case rel => exact ⟨j + 1, by omega, by simp, HA2, HO⟩
             case measure => simp [intOf]; omega
           · have hne := neB hk
             have HF := Lib.hid (all_not HT0.out (by rw [HKT.out]; exact hk))
             go_wp2_with (go_at_call 87; refine (HPT.out _).mono ?_; rintro e w' ⟨rfl, rfl⟩)
             go_ret
             refine ⟨?_, HPB.out _ HO.out⟩
             have hal := HAL.out
             rw [HF.out] at hal
             subst hal
             refine Eq.trans (b := Ending.returned (Value.bool false)) rfl ?_
             simp
         · go_wp2_with fail
           go_ret
           refine ⟨?_, HPB.out _ HO.out⟩
           obtain rfl : j = m := by omega
           have hAA : (decide ((4 : Int) ≤ 0) || al) = true := by
             rcases HA.out with h | h
             · rw [decide_eq_true h]; rfl
             · rw [List.take_of_length_le (by have := HLN.out; omega)] at h
               rw [← HAL.out, h, Bool.or_true]
           rw [hAA]
           have hs := HS.out
           clear HPT HLF HO0 HL HAL HS HA HO hAA c0 c5 HPB HPC HBW HLN
           first | (simp_all [preS]; done) | (simp_all [preS]; omega))
set_option maxRecDepth 100000 in
set_option maxHeartbeats 8000000 in
theorem refSuch_13 (nn uu : Int) (s : ByteArray) (ks : List ByteArray) (L : List T) (cs : List Value) (w : World) (hn : Nd w (.mk 13 nn uu s ks L) cs) (hsz : L.length ≤ 100000) :
    Calls Tryd.prog 74 #[.agg cs.toArray] w fun e w' => e = .returned (.bool (suchT (.mk 13 nn uu s ks L))) ∧ Below w.heap.size w w' := by
  rw [such_pre]
  obtain ⟨hr, hs, kv, A, m, c, rfl, ⟨B, d, e, rfl, hkl, _, _, _, _⟩, hl, hm, hmm, hL⟩ := hn
  rw [hl, hkl]
  rw [hl] at hsz
  have hE : partK 13 = 5 := rfl
  have HPT : Hid (∀ W, Calls Tryd.prog 87 #[.int .i64 13] W fun e w' => e = .returned (.int .i64 (5)) ∧ w' = W) := Lib.hid fun W => by rw [← hE]; exact part_any _ W
  have HLF : Hid (∀ W, Calls Tryd.prog 86 #[.int .i64 13] W fun e w' => e = .returned (.bool (decide ((13 : Int) ≤ 9))) ∧ w' = W) := Lib.hid fun W => (refLeaf_any _ W).mono fun e w' h => ⟨by
    rw [h.1]; rfl, h.2⟩
  rw [hE]
  obtain ⟨al, hal⟩ : ∃ al, (L.all fun x => decide (x.k = 5)) = al := ⟨_, rfl⟩
  have HAL := Lib.hid hal
  rw [hal]
  obtain ⟨P, hP⟩ : ∃ P : World → Prop, P = OB w (.int .i64 13) (.int .i64 nn) (.int .u64 uu) (.string s) (.slice B d e) (.slice A m c) := ⟨_, rfl⟩
  have HO0 : Hid (P (w.alloc (.cells #[.int .i64 13, .int .i64 nn, .int .u64 uu, .string s, .slice B d e, .slice A m c] 31))) := Lib.hid (by rw [hP]; exact OB.new w _ _ _ _ _ _)
  have HPB : Hid (∀ W, P W → Below w.heap.size w W) := Lib.hid fun W h => by rw [hP] at h; exact h.1
  have HPC : Hid (∀ W, P W → W.cell? ⟨w.heap.size, 0, none⟩ = some (.int .i64 13) ∧ W.cell? ⟨w.heap.size, 5, none⟩ = some (.slice A m c)) := Lib.hid fun W h => by rw [hP] at h; exact ⟨h.2.2.all.1, h.2.2.all.2.2.2.2.2⟩
  have HBW : Hid (Below w.heap.size w (w.alloc (.cells #[.int .i64 13, .int .i64 nn, .int .u64 uu, .string s, .slice B d e, .slice A m c] 31))) := Lib.hid ((Below.refl _ w).alloc (Nat.le_refl _) _)
  have HL := Lib.hid hL
  have HLN := Lib.hid hl
  clear hP
  have HS : Hid (s.toList = [] ↔ s.size = 0) := Lib.hid (by
    rw [ByteArray.toList_eq]
    constructor
    · intro h
      have : s.data.toList.length = 0 := by rw [h]; rfl
      simpa using this
    · intro h
      exact List.eq_nil_of_length_eq_zero (by simpa using h))
  clear hL hr hs hm hmm hal hE hl hkl
  rw [show decide ((13 : Int) ≤ 9) = false from rfl] at HLF
  go_enter Tryd.func74, Tryd.ntmps74
  go_wp2_with (go_at_call 86; refine (HLF.out _).mono ?_; rintro e w' ⟨rfl, rfl⟩)
  all_goals first
    | (go_ret
       refine ⟨?_, (Below.refl _ w).alloc (Nat.le_refl _) _⟩
       have hs := HS.out
       clear HPT HLF HO0 HL HAL HS HPB HPC HBW HLN
       simp_all [preS]
       done)
    | (go_ret
       refine ⟨?_, (Below.refl _ w).alloc (Nat.le_refl _) _⟩
       have hs := HS.out
       clear HPT HLF HO0 HL HAL HS HPB HPC HBW HLN
       simp_all [preS]
       omega)
    | (go_loopw [6] (fun i wr => ∃ j : Nat, j ≤ m ∧ i = .int .i64 (j : Int) ∧ Hid ((5 : Int) ≤ 0 ∨ (L.take j).all (fun t => decide (t.k = 5)) = true) ∧ Hid (P wr)) (fun i _ => m - (intOf i).toNat)
       case atStart => exact ⟨0, Nat.zero_le _, rfl, Lib.hid (.inr rfl), by clear HL HAL; subst_vars; exact HO0⟩
       case round =>
         obtain ⟨j, hj, rfl, HA, HO⟩ := hrel
         obtain ⟨c0, c5⟩ := HPC.out _ HO.out
         by_cases hjm : j < m
         · obtain ⟨b, off, rfl, hbw, hN⟩ := HL.out (by omega)
           obtain ⟨t0, ht0⟩ : ∃ t0, L[j]? = some t0 := ⟨_, List.getElem?_eq_getElem (by have := HLN.out; omega)⟩
           obtain ⟨v0, v1, v2, v3, v4, v5, d0, d1, d2, d3, d4, d5, hn0⟩ := hN.six (HPB.out _ HO.out) hbw ht0
           obtain rfl := hn0.kind
           clear d1 d2 d3 d4 d5 hn0
           obtain ⟨kt, hkt⟩ : ∃ kt, t0.k = kt := ⟨_, rfl⟩
           rw [hkt] at d0
           have HT0 := Lib.hid ht0
           have HKT := Lib.hid hkt
           clear ht0 hkt
           by_cases hk : kt = 5
           · have HA2 : Hid ((5 : Int) ≤ 0 ∨ (L.take (j + 1)).all (fun t => decide (t.k = 5)) = true) := Lib.hid (by
               rcases HA.out with h | h
               · exact .inl h
               · exact .inr (all_take HT0.out h (by rw [HKT.out, hk])))
             subst hk
             go_wp2_with (go_at_call 87; refine (HPT.out _).mono ?_; rintro e w' ⟨rfl, rfl⟩)
             go_roundw
             case rel => exact ⟨j + 1, by omega, by simp, HA2, HO⟩
             case measure => simp [intOf]; omega
           · have hne := neB hk
             have HF := Lib.hid (all_not HT0.out (by rw [HKT.out]; exact hk))
             go_wp2_with (go_at_call 87; refine (HPT.out _).mono ?_; rintro e w' ⟨rfl, rfl⟩)
             go_ret
             refine ⟨?_, HPB.out _ HO.out⟩
             have hal := HAL.out
             rw [HF.out] at hal
             subst hal
             refine Eq.trans (b := Ending.returned (Value.bool false)) rfl ?_
             simp
         · go_wp2_with fail
           go_ret
           refine ⟨?_, HPB.out _ HO.out⟩
           obtain rfl : j = m := by omega
           have hAA : (decide ((5 : Int) ≤ 0) || al) = true := by
             rcases HA.out with h | h
             · rw [decide_eq_true h]; rfl
             · rw [List.take_of_length_le (by have := HLN.out; omega)] at h
               rw [← HAL.out, h, Bool.or_true]
           rw [hAA]
           have hs := HS.out
           clear HPT HLF HO0 HL HAL HS HA HO hAA c0 c5 HPB HPC HBW HLN
           first | (simp_all [preS]; done) | (simp_all [preS]; omega))
end Go.Proofs.YtnplkamkeadlgaaDoor
