/-
  What is proved here: contract of the law's own risen; a list without a key twice has an increasing order; the binary search in an increasing list finds each element at its index, and no other key; condition: at most 60 keys; and: the law KeyHalves returns true; condition: the table of package tree holds what is laid.
-/
import Derived.Test.YtnplkamkeadlgaaDoorKFew
namespace Go.Proofs.YtnplkamkeadlgaaDoor
open Go.RowKit Go.Sort

theorem infoSR : (Tryd.prog.info? 9).map (fun i => (i.zero, i.size, i.bytes)) = some (some (.string ⟨#[]⟩), 1, 16) := by kernel_rfl
theorem risen_twice (l : List ByteArray) (v : Value) (w : World) (hl : RdS w v l) (hn : l.length ≤ 60) (hq : ¬ l.Nodup) :
    Calls Tryd.prog 24 #[v] w fun e w' => e = .returned (.tuple #[.slice none 0 0, .bool false]) ∧ Below w.heap.size w w' := by
  have HO := Lib.hid (order_twice l v w hl (by omega) hq)
  obtain ⟨A0, n0, c0, rfl, _⟩ := hl
  go_enter Tryd.func24, Tryd.ntmps24
  go_wp2_with (first | (go_at_call 15; with_reducible refine HO.out.mono ?_; rintro e w1 ⟨rfl, HB⟩))
  go_ret2
  exact ⟨rfl, HB.out⟩
set_option maxRecDepth 100000 in
set_option maxHeartbeats 2000000 in
theorem risen_ok (l : List ByteArray) (v : Value) (q : List Nat) (w : World) (hl : RdS w v l) (hn : l.length ≤ 60) (hq : SQ l q l.length) :
    Calls Tryd.prog 24 #[v] w fun e w' => ∃ v', e = .returned (.tuple #[v', .bool true]) ∧ Hid (RdS w' v' (q.map (ky l))) ∧ Hid (Below w.heap.size w w') := by
  have HO := Lib.hid (order_ok l v q w hl (by omega) hq)
  obtain ⟨A, n, c, rfl, hln, hnc, hc, hsz, hA⟩ := hl.at
  obtain ⟨i0, hi, hz0, hz1, hz2⟩ := info_parts infoSR
  have HSQ := Lib.hid hq
  have HLN := Lib.hid hln
  have HA := Lib.hid hA
  have HSZ := Lib.hid hsz
  have hn60 : n ≤ 60 := by omega
  clear hl hn hq hA hsz
  go_enter Tryd.func24, Tryd.ntmps24
  go_wp2_with fail
  with_reducible refine HO.out.mono ?_
  rintro e w1 ⟨v1, rfl, HR, HB⟩
  have hR := HR.out
  rw [hln] at hR
  obtain ⟨P, p, d, rfl, hrd⟩ := Rd.of_own hR
  have hqn : Hid (q.length = n) := Lib.hid (by rw [HSQ.out.length, hln])
  have hpn : p = n := by
    have := hrd.1
    rw [List.length_map, hqn.out] at this
    exact this.symm
  subst hpn
  have HRD := Lib.hid hrd
  clear hR hrd HR HO hln
  go_wp2_with fail
  go_loopw [6, 7] (fun vo vi wr => ∃ j : Nat, j ≤ p ∧ vi = .int .i64 (j : Int) ∧ Hid (wr.ownsRow w1.heap.size 9 1 vo j ((q.take j).map (kyv l))) ∧ Hid (Below w1.heap.size w1 wr)) (fun _ vi _ => p - (intOf vi).toNat)
  case atStart => exact ⟨0, Nat.zero_le _, rfl, Lib.hid (World.ownsRow_nil _ _ _ _), Lib.hid (Below.refl _ _)⟩
  case round =>
    obtain ⟨j, hj, rfl, HO, HW⟩ := hrel
    by_cases hjn : j < p
    · obtain ⟨i, hiq⟩ : ∃ i, q[j]? = some i := ⟨_, List.getElem?_eq_getElem (by rw [hqn.out]; exact hjn)⟩
      have hil : i < p := by have := HSQ.out.lt hiq; rw [HLN.out] at this; exact this
      obtain ⟨g, off1, rfl, _, hcq⟩ := (HRD.out.below HW.out).2.2 (by omega)
      have hcell1 := hcq j (i : Int) (by simp [hiq])
      obtain ⟨b, off, rfl, _, hcl⟩ := HA.out (by omega)
      have hx : l[i]? = some (ky l i) := by unfold ky; rw [List.getD_eq_getElem?_getD, List.getElem?_eq_getElem (by rw [HLN.out]; exact hil)]; rfl
      obtain ⟨x, hxx⟩ : ∃ x, ky l i = x := ⟨_, rfl⟩
      rw [hxx] at hx
      have hcell2 := hcl wr (HB.out.trans (HW.out.mono HB.out.size)) i x hx
      have HT : Hid ((q.take (j + 1)).map (kyv l) = (q.take j).map (kyv l) ++ [Value.string x]) := Lib.hid (by rw [List.take_add_one, hiq, ← hxx]; simp [kyv])
      have HSZ2 : Hid (w.heap.size ≤ wr.heap.size) := Lib.hid (Nat.le_trans HB.out.size HW.out.size)
      have i1 : (0 : Int) ≤ (i : Int) := by omega
      have i2 : ¬ (i : Int) < 0 := by omega
      have i3 : (i : Int) < (p : Int) := by omega
      have i4 : ¬ (p : Int) ≤ (i : Int) := by omega
      clear hcq hcl hx hxx hiq
      go_wp2_with (first
        | (at_builtin; refine wpList_append_own _ rfl _ _ 22 rfl w1.heap.size 9 i0 (.string ⟨#[]⟩) 1 16 Tryd.underlying22 hi hz0 hz1 hz2 rfl (by decide) _ _ _ rfl (HO.out.alloc _) ⟨wr.heap.size, 0, none⟩ 1 1 [.string x] rfl rfl (cell_one_new _ _ _) ?q2 ?q3 ?q4 ?q5 ?_; rotate_left 4; intro v' w3 hown3 hgrow3 hnil3))
      · have HB3 : Below w1.heap.size w1 w3 := (HW.out.alloc HW.out.size _).grown hgrow3 (by rw [World.size_alloc]; have := HW.out.size; omega) (fun k hk => (HO.out.lt k hk).1)
        have HO3 : Hid (w3.ownsRow w1.heap.size 9 1 v' (j + 1) ((q.take (j + 1)).map (kyv l))) := Lib.hid (by rw [HT.out]; exact hown3)
        go_roundw
        case rel => exact ⟨j + 1, by omega, by simp, HO3, Lib.hid HB3⟩
        case measure => simp [intOf]; omega
      all_goals first
        | rfl
        | (intro u hu; simp only [List.mem_cons, List.not_mem_nil, or_false] at hu; subst hu; rfl)
        | (unfold maxLen; omega)
        | omega
        | (rw [World.size_alloc]; have := HW.out.size; omega)
        | (have := HW.out.size; omega)
    · obtain rfl : j = p := by omega
      go_wp2_with fail
      go_ret2
      have e : (q.take j).map (kyv l) = (q.map (ky l)).map Value.string := by rw [List.take_of_length_le (by rw [hqn.out]; exact Nat.le_refl _), List.map_map]; rfl
      have ho := HO.out
      rw [e] at ho
      refine ⟨_, rfl, Lib.hid (rds_own (U := fun _ => True) ⟨own_base_le ho (Nat.zero_le _), fun _ _ => trivial⟩ (by rw [List.length_map, hqn.out]) ?_), Lib.hid (HB.out.trans (HW.out.mono HB.out.size))⟩
      intro x hx
      obtain ⟨i, hi, rfl⟩ := List.mem_map.1 hx
      have hil : i < l.length := List.mem_range.1 (HSQ.out.perm.mem_iff.1 hi)
      unfold ky
      rw [List.getD_eq_getElem?_getD, List.getElem?_eq_getElem hil]
      exact HSZ.out _ (List.getElem_mem _)
theorem bs_inv {U : List ByteArray} {k : ByteArray} (hU : Incr U) : ∀ (f lo hi : Nat), hi - lo ≤ f → lo ≤ hi → hi ≤ U.length → (∀ j, j < lo → lt (ky U j) k = true) → (∀ j, hi ≤ j → j < U.length → lt (ky U j) k = false) →
    (∀ j, j < bs U k f lo hi → lt (ky U j) k = true) ∧ (∀ j, bs U k f lo hi ≤ j → j < U.length → lt (ky U j) k = false)
  | 0, lo, hi, h, h1, _, h3, h4 => by
    have : lo = hi := by omega
    subst this
    exact ⟨h3, h4⟩
  | f + 1, lo, hi, h, h1, h2, h3, h4 => by
    unfold bs
    by_cases hl : lo < hi
    · rw [if_pos hl]
      have hm : lo + (hi - lo) / 2 < hi := by omega
      obtain ⟨m, hme⟩ : ∃ m, lo + (hi - lo) / 2 = m := ⟨_, rfl⟩
      rw [hme] at hm ⊢
      have hml : lo ≤ m := by omega
      by_cases ht : lt (U.getD m ⟨#[]⟩) k = true
      · rw [if_pos ht]
        refine bs_inv hU f (m + 1) hi (by omega) (by omega) h2 (fun j hj => ?_) h4
        by_cases e : j = m
        · subst e; exact ht
        · exact lt_trans (hU j m (by omega) (by omega)) ht
      · rw [if_neg ht]
        refine bs_inv hU f lo m (by omega) hml (by omega) h3 (fun j hj hjl => ?_)
        by_cases e : j = m
        · subst e; simpa [ky] using ht
        · cases hc : lt (ky U j) k with
          | false => rfl
          | true => exact absurd (lt_trans (hU m j (by omega) hjl) hc) ht
    · rw [if_neg hl]
      have : lo = hi := by omega
      subst this
      exact ⟨h3, h4⟩
theorem bsE_inv {U : List ByteArray} {k : ByteArray} (hU : Incr U) : (∀ j, j < bsE U k → lt (ky U j) k = true) ∧ (∀ j, bsE U k ≤ j → j < U.length → lt (ky U j) k = false) :=
  bs_inv hU _ 0 U.length (by omega) (Nat.zero_le _) (Nat.le_refl _) (fun j h => absurd h (by omega)) (fun j h1 h2 => absurd h2 (by omega))
theorem bsE_at {U : List ByteArray} {k : ByteArray} (hU : Incr U) {i : Nat} (h : U[i]? = some k) : bsE U k = i := by
  obtain ⟨h1, h2⟩ := bsE_inv (k := k) hU
  have hil : i < U.length := (List.getElem?_eq_some_iff.1 h).1
  have hk : ky U i = k := by unfold ky; rw [List.getD_eq_getElem?_getD, h]; rfl
  rcases Nat.lt_trichotomy (bsE U k) i with hlt | he | hgt
  · have h3 := h2 _ (Nat.le_refl _) (by omega)
    have h4 := hU _ i hlt hil
    rw [hk, h3] at h4
    cases h4
  · exact he
  · have h3 := h1 i hgt
    rw [hk, lt_irrefl] at h3
    cases h3
theorem fd_hit {U : List ByteArray} {k : ByteArray} (hU : Incr U) {i : Nat} (h : U[i]? = some k) : fdN U k = i ∧ fdB U k = true := by
  unfold fdN fdB
  rw [bsE_at hU h, if_pos h]
  exact ⟨rfl, decide_eq_true h⟩
theorem fd_mem {U : List ByteArray} {k : ByteArray} (hU : Incr U) : fdB U k = true ↔ k ∈ U := by
  constructor
  · intro h
    unfold fdB at h
    exact List.mem_of_getElem? (of_decide_eq_true h)
  · intro h
    obtain ⟨i, hi, rfl⟩ := List.getElem_of_mem h
    exact (fd_hit hU (List.getElem?_eq_getElem hi)).2
end Go.Proofs.YtnplkamkeadlgaaDoor
namespace Go.Proofs.YtnplkamkeadlgaaDoor
open Go.RowKit Go.Sort

theorem has_step {U : List ByteArray} {j : Nat} {u x : ByteArray} (h : U[j]? = some u) {β : Bool} (hb : β = true ↔ x ∈ U.take j) : ((β || (u.toList == x.toList)) = true ↔ x ∈ U.take (j + 1)) := by
  rw [List.take_add_one, h]
  simp only [Option.toList_some, List.mem_append, List.mem_singleton, Bool.or_eq_true]
  constructor
  · rintro (h1 | h1)
    · exact .inl (hb.1 h1)
    · refine .inr ?_
      have h2 : u.toList = x.toList := by simpa using h1
      exact (toList_inj h2).symm
  · rintro (h1 | rfl)
    · exact .inl (hb.2 h1)
    · exact .inr (by simp)

set_option maxRecDepth 100000 in
set_option maxHeartbeats 2000000 in
theorem keyHalves_walk (ks : List ByteArray) (v : Value) (k : ByteArray) (w : World) (hT : Tab w) (hl : RdS w v ks) (hk : k.size ≤ maxLen) :
    Calls Tryd.prog 7 #[v, .string k] w fun e w' => e = .returned (.bool true) ∧ Below w.heap.size w w' := by
  have HL := Lib.hid hl
  have HWK := Lib.hid (works_true w hT)
  have HS : Hid (∀ W, Calls Tryd.prog 13 #[.string k, .int .i64 40] W fun e w' => e = .returned (.string (shN 40 k)) ∧ Below W.heap.size W w') := Lib.hid fun W => shortN_any 40 k W hk (by omega)
  obtain ⟨x, hx⟩ : ∃ x, shN 40 k = x := ⟨_, rfl⟩
  rw [hx] at HS
  obtain ⟨l, hl1⟩ : ∃ l, cutN 60 40 ks = l := ⟨_, rfl⟩
  have hln : Hid (l.length ≤ 60) := Lib.hid (by rw [← hl1]; exact cutN_len _ _ _)
  have HE1 := Lib.hid hl1
  obtain ⟨A0, n0, c0, rfl, _⟩ := hl
  clear hT hk hx hl1
  go_enter Tryd.func7, Tryd.ntmps7
  go_wp2_with fail
  with_reducible refine HWK.out.mono ?_
  rintro e w1 ⟨rfl, hb1⟩
  have HB1 := Lib.hid hb1
  clear hb1
  go_wp2_with fail
  with_reducible refine (HS.out _).mono ?_
  rintro e w2 ⟨rfl, hb2⟩
  have HB2 := Lib.hid (tr HB1.out hb2)
  clear hb2 HB1
  go_wp2_with fail
  refine (few_any ks _ w2 (HL.out.below HB2.out)).mono ?_
  rintro e w3 ⟨v3, rfl, HR, hb3⟩
  have HB3 := Lib.hid (tr HB2.out hb3.out)
  rw [HE1.out] at HR
  clear hb3 HB2
  by_cases hnd : l.Nodup
  · obtain ⟨q, hq⟩ := sq_exists hnd l.length (Nat.le_refl _)
    have HSQ := Lib.hid hq
    obtain ⟨A3, n3, c3, rfl, _⟩ := HR.out
    go_wp2_with fail
    refine (risen_ok l _ q w3 HR.out hln.out HSQ.out).mono ?_
    rintro e w4 ⟨v4, rfl, HR4, hb4⟩
    have HB4 := Lib.hid (tr HB3.out hb4.out)
    obtain ⟨U, hU⟩ : ∃ U, q.map (ky l) = U := ⟨_, rfl⟩
    have HU : Hid (Incr U) := Lib.hid (by rw [← hU]; exact HSQ.out.incr)
    have HUL : Hid (U.length ≤ 60) := Lib.hid (by rw [← hU, List.length_map, HSQ.out.length]; exact hln.out)
    rw [hU] at HR4
    clear hb4 hnd hq hU HB3 HSQ
    obtain ⟨A, n, c, rfl, hn, hnc, hc, hsz, hA⟩ := HR4.out.at
    have HN := Lib.hid hn
    have HA := Lib.hid hA
    have HSZ := Lib.hid hsz
    have hn60 : n ≤ 60 := by have := HUL.out; omega
    clear hn hA hsz
    go_wp2_with fail
    go_loopw [7, 8] (fun vh vi wr => ∃ (j : Nat) (β : Bool), j ≤ n ∧ vi = .int .i64 (j : Int) ∧ vh = .bool β ∧ Hid (β = true ↔ x ∈ U.take j) ∧ Hid (Below w4.heap.size w4 wr)) (fun _ vi _ => n - (intOf vi).toNat)
    case atStart => exact ⟨0, false, Nat.zero_le _, rfl, rfl, Lib.hid (by simp), Lib.hid (Below.refl _ _)⟩
    case round =>
      obtain ⟨j, β, hj, rfl, rfl, HM, HW⟩ := hrel
      by_cases hjn : j < n
      · obtain ⟨u, hu⟩ : ∃ u, U[j]? = some u := ⟨_, List.getElem?_eq_getElem (by rw [HN.out]; exact hjn)⟩
        obtain ⟨b, off, rfl, _, hcl⟩ := HA.out (by omega)
        have hcell := hcl wr HW.out j u hu
        have hfd := fd_hit HU.out hu
        have HST := Lib.hid (has_step hu HM.out)
        have HF : Hid (∀ W, Below w4.heap.size w4 W → Calls Tryd.prog 25 #[.slice (some ⟨b, off, none⟩) n c, .string u, .int .i64 (j : Int), .bool true] W fun e w' => e = .returned (.bool true) ∧ Below W.heap.size W w') := Lib.hid fun W hb => found_any U _ u j true W (HR4.out.below hb) (by have := HUL.out; omega) hfd.1 hfd.2
        clear hcl hu hfd
        cases β with
        | true =>
          go_wp2_with (first | (go_at_call 25; with_reducible refine (HF.out _ HW.out).mono ?_; rintro e w5 ⟨rfl, hb5⟩; have HW5 := Lib.hid (tr HW.out hb5); clear hb5))
          go_roundw
          case rel => exact ⟨j + 1, true, by omega, by simp, rfl, Lib.hid (by have := HST.out; simpa using this), HW5⟩
          case measure => simp [intOf]; omega
        | false =>
          by_cases hux : u = x
          · have m1 := strEq_true hux
            have HST2 : Hid (x ∈ U.take (j + 1)) := Lib.hid (by have := HST.out; rw [m1] at this; simpa using this)
            clear hux
            go_wp2_with (first | (go_at_call 25; with_reducible refine (HF.out _ HW.out).mono ?_; rintro e w5 ⟨rfl, hb5⟩; have HW5 := Lib.hid (tr HW.out hb5); clear hb5))
            go_roundw
            case rel => exact ⟨j + 1, true, by omega, by simp, rfl, Lib.hid ⟨fun _ => HST2.out, fun _ => rfl⟩, HW5⟩
            case measure => simp [intOf]; omega
          · have m1 := strEq_false hux
            have HST2 : Hid (¬ x ∈ U.take (j + 1)) := Lib.hid (by have := HST.out; rw [m1] at this; simpa using this)
            clear hux
            go_wp2_with (first | (go_at_call 25; with_reducible refine (HF.out _ HW.out).mono ?_; rintro e w5 ⟨rfl, hb5⟩; have HW5 := Lib.hid (tr HW.out hb5); clear hb5))
            go_roundw
            case rel => exact ⟨j + 1, false, by omega, by simp, rfl, Lib.hid ⟨(fun h => by cases h), fun h => absurd h HST2.out⟩, HW5⟩
            case measure => simp [intOf]; omega
      · obtain rfl : j = n := by omega
        have hm : fdB U x = β := by
          have h1 := HM.out
          rw [List.take_of_length_le (by rw [HN.out]; exact Nat.le_refl _)] at h1
          have h2 := fd_mem (k := x) HU.out
          cases h3 : fdB U x <;> cases β <;> simp_all
        have HF := find_any U _ x wr (HR4.out.below HW.out) (by have := HUL.out; omega)
        rw [hm] at HF
        have HF := Lib.hid HF
        have HB5 := Lib.hid (tr HB4.out HW.out)
        clear hm
        cases β <;>
        · go_wp2_with (first | (go_at_call 22; with_reducible refine HF.out.mono ?_; rintro e w5 ⟨rfl, hb5⟩; have HB6 := Lib.hid (tr HB5.out hb5); clear hb5))
          go_ret
          exact ⟨rfl, HB6.out⟩
  · have HND := Lib.hid hnd
    obtain ⟨A3, n3, c3, rfl, _⟩ := HR.out
    clear hnd
    go_wp2_with fail
    refine (risen_twice l _ w3 HR.out hln.out HND.out).mono ?_
    rintro e w4 ⟨rfl, hb4⟩
    have HB4 := Lib.hid (tr HB3.out hb4)
    clear hb4
    go_wp2_with fail
    go_ret
    exact ⟨rfl, HB4.out⟩
end Go.Proofs.YtnplkamkeadlgaaDoor
