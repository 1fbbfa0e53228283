/-
  What is proved here: the contract of List of the reference of layer 15; condition: no string twice.
-/
import Derived.Test.YtoenigbfcbillaaRef
namespace Go.Proofs.Ytoenigbfcbillaa
open Go.RowKit

theorem own_len {w : World} {B n : Nat} {v : Value} {xs : List Value} (h : w.ownsRow B 9 1 v n xs) : ∃ A c, v = .slice A n c ∧ n ≤ c ∧ c ≤ maxLen := by
  rcases h.2 with ⟨rfl, rfl⟩ | ⟨g, cap, cur, rfl, _, _, hnc, hcm, _⟩
  · exact ⟨none, 0, rfl, Nat.le_refl _, Nat.zero_le _⟩
  · exact ⟨_, _, rfl, hnc, hcm⟩
theorem SQ.keys {l : List ByteArray} {q : List Nat} (h : SQ l q l.length) : (q.map (ky l)).Pairwise (fun x y => Go.Proofs.Ytoenigbfcbillaa.lt x y = true) ∧ (q.map (ky l)).Perm l := by
  refine ⟨by rw [List.pairwise_map]; exact h.inc, (h.perm.map (ky l)).trans ?_⟩
  have : (List.range l.length).map (ky l) = l := by
    apply List.ext_getElem
    · simp
    · intro i h1 h2
      simp [ky, h2]
  rw [this]
section
variable {B p : Nat} {v : Value} {xs : List E} {w : World}
set_option maxRecDepth 100000 in
set_option maxHeartbeats 2000000 in
theorem rList_any (h : Pk B w p false v xs) (hnd : (xs.map E.k).Nodup) : Calls Try.prog 19 #[.pointer (some ⟨p, 0, none⟩)] w fun e w' => ∃ u ks, e = .returned u ∧ OS w' w.heap.size u ks ∧ (ks.Pairwise (fun x y => lt x y = true) ∧ ks.Perm (xs.map E.k)) ∧ Below w.heap.size w w' := by
  have hf := h.fit
  obtain ⟨ks, hks⟩ : ∃ ks, ks = xs.map E.k := ⟨_, rfl⟩
  obtain ⟨n, hn⟩ : ∃ n, n = xs.length := ⟨_, rfl⟩
  have HKL : Hid (ks.length = n) := Lib.hid (by rw [hks, hn, List.length_map])
  have HKS : Hid (∀ s ∈ ks, s.size ≤ 1000) := Lib.hid (by
    intro s hs
    rw [hks] at hs
    obtain ⟨e, he, rfl⟩ := List.mem_map.1 hs
    exact h.sz e he)
  have HND : Hid ks.Nodup := Lib.hid (by rw [hks]; exact hnd)
  have HKE : Hid (∀ j e, xs[j]? = some e → ks.take (j + 1) = ks.take j ++ [e.k]) := Lib.hid fun j e he => by rw [List.take_add_one, hks, List.getElem?_map, he]; rfl
  obtain ⟨A, c, rfl, -⟩ := h.own.at
  have HP := Lib.hid h
  have c1 : ∀ W, Hid (Below w.heap.size w W) → W.cell? ⟨p, 0, none⟩ = some (.slice A n c) := fun W hW => by rw [hn]; exact (h.below hW.out).cell
  have HN := Lib.hid hn
  have HC1 := Lib.hid c1
  rw [← hn] at hf
  rw [← hks]
  clear h hn hks hnd c1
  go_enter Try.func19, Try.ntmps19
  go_wp2_with fail
  go_loopw [3, 5] (fun l i wr => ∃ j : Nat, j ≤ n ∧ i = .int .i64 (j : Int) ∧ Hid (wr.ownsRow w.heap.size 9 1 l (ks.take j).length ((ks.take j).map Value.string)) ∧ Hid (Below w.heap.size w wr)) (fun _ i _ => n - (intOf i).toNat)
  case atStart => exact ⟨0, Nat.zero_le _, rfl, Lib.hid (World.ownsRow_nil _ _ _ _), Lib.hid (Below.refl _ _)⟩
  case round =>
    obtain ⟨j, hj, rfl, HO, HB⟩ := hrel
    have d1 := HC1.out _ HB
    by_cases hlt : j < n
    · obtain ⟨e, he⟩ : ∃ e, xs[j]? = some e := ⟨_, List.getElem?_eq_getElem (by have := HN.out; omega)⟩
      obtain ⟨g, c', hv, hnc, hcm, hgB, hgl, hcell⟩ := row_someF (HP.out.below HB.out).own (by have := HN.out; omega)
      obtain ⟨rfl, -, rfl⟩ : A = some ⟨g, 0, none⟩ ∧ True ∧ c = c' := by injection hv with a1 a2 a3; exact ⟨a1, trivial, a3⟩
      obtain ⟨x0, -⟩ := hcell j e he
      have i1 : (j : Int) < (n : Int) := by omega
      have HKE1 := Lib.hid (HKE.out j e he)
      have HTL : Hid ((ks.take j).length ≤ 1000) := Lib.hid (by rw [List.length_take]; omega)
      have HSZ1 : Hid (w.heap.size ≤ wr.heap.size) := Lib.hid HB.out.size
      clear hcell he hv hnc hcm hgB hgl
      go_wp2_with (at_builtin; refine app_str rfl (.tmp 18) (.tmp 27) rfl rfl rfl HO.out HTL.out HSZ1.out ?_; intro v2 w2 ho2 hb2; have HO2 := Lib.hid ho2; have HB2 := Lib.hid (hb2 _ HB.out); clear ho2 hb2)
      rw [← HKE1.out] at HO2
      go_roundw
      case rel => exact ⟨j + 1, by omega, by go_num, HO2, HB2⟩
      case measure => simp [intOf]; omega
    · have HO1 : Hid (wr.ownsRow w.heap.size 9 1 u3 n (ks.map Value.string)) := Lib.hid (by
        have := HO.out
        rw [List.take_of_length_le (by have := HKL.out; omega), HKL.out] at this
        exact this)
      obtain ⟨AL, cL, rfl, hnl, hcl⟩ := own_len HO1.out
      have HR1 : Hid (RdS wr (.slice AL n cL) ks) := Lib.hid (by
        have h1 := HO1.out
        rw [← HKL.out] at h1
        exact OS.rd (B := w.heap.size) ⟨by rw [← HKL.out]; exact h1, HKS.out, by have := HKL.out; omega⟩)
      have HOR : Hid (Calls Try.prog 33 #[.slice AL n cL] wr fun e w' => ∃ A1 c1 q, e = .returned (.tuple #[.slice A1 n c1, .int .i64 0]) ∧ n ≤ c1 ∧ (SQ ks q n ∧ w'.ownsRow wr.heap.size 3 1 (.slice A1 n c1) n (nb q)) ∧ Below wr.heap.size wr w') := Lib.hid (by
        refine (refOrder_any ks _ wr HR1.out (by have := HKL.out; omega)).mono ?_
        rintro e w' ⟨hb, ⟨-, hn⟩ | ⟨v', q, rfl, hq, ho⟩⟩
        · exact absurd HND.out hn
        · rw [HKL.out] at hq ho
          rcases ho.2 with ⟨rfl, h0⟩ | ⟨g, cap, cur, rfl, _, _, hnc, _⟩
          · subst h0
            exact ⟨none, 0, q, rfl, Nat.le_refl _, ⟨hq, ho⟩, hb⟩
          · exact ⟨_, cap, q, rfl, hnc, ⟨hq, ho⟩, hb⟩)
      clear hnl hcl HO HO1
      go_wp2_with (go_at_call 33; (with_reducible refine HOR.out.mono ?_); rintro e w2 ⟨A1, c1, q, rfl, hnc1, hq, hb⟩; have HQ := Lib.hid hq; have HB2 := Lib.hid (HB.out.trans (hb.mono HB.out.size)); have HR2 := Lib.hid (HR1.out.below hb); clear hq hb)
      clear HOR HR1 d1
      go_loopw [4, 8] (fun o i wx => ∃ j : Nat, j ≤ n ∧ i = .int .i64 (j : Int) ∧ Hid (wx.ownsRow w2.heap.size 9 1 o ((q.map (ky ks)).take j).length (((q.map (ky ks)).take j).map Value.string)) ∧ Hid (Below w2.heap.size w2 wx)) (fun _ i _ => n - (intOf i).toNat)
      case atStart => exact ⟨0, Nat.zero_le _, rfl, Lib.hid (World.ownsRow_nil _ _ _ _), Lib.hid (Below.refl _ _)⟩
      case round =>
        obtain ⟨i, hi, rfl, HO, HX⟩ := hrel
        by_cases hlt2 : i < n
        · obtain ⟨a, ha⟩ : ∃ a, q[i]? = some a := ⟨_, List.getElem?_eq_getElem (by have := HQ.out.1.length; omega)⟩
          have hal := HQ.out.1.lt ha
          obtain ⟨s, hs⟩ : ∃ s, ks[a]? = some s := ⟨_, List.getElem?_eq_getElem (by have := HKL.out; omega)⟩
          obtain ⟨A', n', c', hv, _, _, _, _, hA⟩ := HR2.out.at
          obtain ⟨rfl, rfl, rfl⟩ : AL = A' ∧ n = n' ∧ cL = c' := by injection hv with a1 a2 a3; exact ⟨a1, a2, a3⟩
          obtain ⟨b, off, rfl, _, hcell⟩ := hA (by omega)
          have y0 := hcell wr HX.out a s hs
          obtain ⟨g2, hp2⟩ : ∃ g2, A1 = some ⟨g2, 0, none⟩ := by
            rcases HQ.out.2.2 with ⟨h0, h1⟩ | ⟨g, cap, cur, h0, _⟩
            · omega
            · injection h0 with h0; exact ⟨g, h0⟩
          subst hp2
          have y1 : wr.cell? ⟨g2, i, none⟩ = some (.int .i64 (a : Int)) := by
            have h1 := (own_keep HQ.out.2 HX.out).cellAt i (by omega)
            exact h1.trans (bv_at (nb_at ha))
          have HT : Hid ((q.map (ky ks)).take (i + 1) = (q.map (ky ks)).take i ++ [s]) := Lib.hid (by
            rw [List.take_add_one, List.getElem?_map, ha]
            have : ky ks a = s := by unfold ky; rw [List.getD_eq_getElem?_getD, hs]; rfl
            simp [this])
          have HTL : Hid (((q.map (ky ks)).take i).length ≤ 1000) := Lib.hid (by rw [List.length_take]; omega)
          have HSZ1 : Hid (w2.heap.size ≤ wr.heap.size) := Lib.hid HX.out.size
          have i1 : (i : Int) < (n : Int) := by omega
          have i2 : (0 : Int) ≤ (a : Int) := by omega
          have i3 : (a : Int) < (n : Int) := by omega
          clear hcell hA hv ha hs
          go_wp2_with (at_builtin; refine app_str rfl (.tmp 40) (.tmp 48) rfl rfl rfl HO.out HTL.out HSZ1.out ?_; intro v3 w3 ho3 hb3; have HO3 := Lib.hid ho3; have HB3 := Lib.hid (hb3 _ HX.out); clear ho3 hb3)
          rw [← HT.out] at HO3
          go_roundw
          case rel => exact ⟨i + 1, by omega, by go_num, HO3, HB3⟩
          case measure => simp [intOf]; omega
        · obtain rfl : i = n := by omega
          have HK := Lib.hid (SQ.keys (l := ks) (q := q) (by rw [HKL.out]; exact HQ.out.1))
          have HQL : Hid ((q.map (ky ks)).length = i) := Lib.hid (by rw [List.length_map]; exact HQ.out.1.length)
          go_wp2_with fail
          go_ret
          refine ⟨_, q.map (ky ks), rfl, ⟨?_, ?_, ?_⟩, HK.out, HB2.out.trans (HX.out.mono HB2.out.size)⟩
          · have := own_base_le HO.out HB2.out.size
            rw [List.take_of_length_le (by rw [HQL.out]; exact Nat.le_refl _)] at this
            exact this
          · intro s hs
            exact HKS.out s (HK.out.2.mem_iff.1 hs)
          · rw [HQL.out]; omega
end
end Go.Proofs.Ytoenigbfcbillaa
