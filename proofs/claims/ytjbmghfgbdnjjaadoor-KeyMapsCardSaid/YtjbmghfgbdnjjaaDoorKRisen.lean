/-
  What is proved here: contract of the law's own risen; a list without a key twice has an increasing order; the binary search in an increasing list finds each element at its index, and no other key; condition: at most 60 keys.
-/
import Derived.Test.YtjbmghfgbdnjjaaDoorKFew
namespace Go.Proofs.YtjbmghfgbdnjjaaDoor
open Go.RowKit Go.Sort

theorem infoSR : (Tryd.prog.info? 9).map (fun i => (i.zero, i.size, i.bytes)) = some (some (.string ⟨#[]⟩), 1, 16) := by kernel_rfl
theorem risen_twice (l : List ByteArray) (v : Value) (w : World) (hl : RdS w v l) (hn : l.length ≤ 60) (hq : ¬ l.Nodup) :
    Calls Tryd.prog 30 #[v] w fun e w' => e = .returned (.tuple #[.slice none 0 0, .bool false]) ∧ Below w.heap.size w w' := by
  have HO := Lib.hid (order_twice l v w hl (by omega) hq)
  obtain ⟨A0, n0, c0, rfl, _⟩ := hl
  go_enter Tryd.func30, Tryd.ntmps30
  go_wp2_with (first | (go_at_call 14; with_reducible refine HO.out.mono ?_; rintro e w1 ⟨rfl, HB⟩))
  go_ret2
  exact ⟨rfl, HB.out⟩
set_option maxRecDepth 100000 in
set_option maxHeartbeats 2000000 in
theorem risen_ok (l : List ByteArray) (v : Value) (q : List Nat) (w : World) (hl : RdS w v l) (hn : l.length ≤ 60) (hq : SQ l q l.length) :
    Calls Tryd.prog 30 #[v] w fun e w' => ∃ v', e = .returned (.tuple #[v', .bool true]) ∧ Hid (RdS w' v' (q.map (ky l))) ∧ Hid (Below w.heap.size w w') := by
  have HO := Lib.hid (order_ok l v q w hl (by omega) hq)
  obtain ⟨A, n, c, rfl, hln, hnc, hc, hsz, hA⟩ := hl.at
  obtain ⟨i0, hi, hz0, hz1, hz2⟩ := info_parts infoSR
  have HSQ := Lib.hid hq
  have HLN := Lib.hid hln
  have HA := Lib.hid hA
  have HSZ := Lib.hid hsz
  have hn60 : n ≤ 60 := by omega
  clear hl hn hq hA hsz
  go_enter Tryd.func30, Tryd.ntmps30
  go_wp2_with fail
  with_reducible refine HO.out.mono ?_
  rintro e w1 ⟨v1, rfl, HR, HB⟩
  have hR := HR.out
  rw [hln] at hR
  obtain ⟨P, p, d, rfl, hrd⟩ := Rd.of_own hR
  have hqn : Hid (q.length = n) := Lib.hid (by rw [HSQ.out.length, hln])
  have hpn : p = n := by
    have := hrd.1
    rw [List.length_map, hqn.out] at this
    exact this.symm
  subst hpn
  have HRD := Lib.hid hrd
  clear hR hrd HR HO hln
  go_wp2_with fail
  go_loopw [6, 7] (fun vo vi wr => ∃ j : Nat, j ≤ p ∧ vi = .int .i64 (j : Int) ∧ Hid (wr.ownsRow w1.heap.size 9 1 vo j ((q.take j).map (kyv l))) ∧ Hid (Below w1.heap.size w1 wr)) (fun _ vi _ => p - (intOf vi).toNat)
  case atStart => exact ⟨0, Nat.zero_le _, rfl, Lib.hid (World.ownsRow_nil _ _ _ _), Lib.hid (Below.refl _ _)⟩
  case round =>
    obtain ⟨j, hj, rfl, HO, HW⟩ := hrel
    by_cases hjn : j < p
    · obtain ⟨i, hiq⟩ : ∃ i, q[j]? = some i := ⟨_, List.getElem?_eq_getElem (by rw [hqn.out]; exact hjn)⟩
      have hil : i < p := by have := HSQ.out.lt hiq; rw [HLN.out] at this; exact this
      obtain ⟨g, off1, rfl, _, hcq⟩ := (HRD.out.below HW.out).2.2 (by omega)
      have hcell1 := hcq j (i : Int) (by simp [hiq])
      obtain ⟨b, off, rfl, _, hcl⟩ := HA.out (by omega)
      have hx : l[i]? = some (ky l i) := by unfold ky; rw [List.getD_eq_getElem?_getD, List.getElem?_eq_getElem (by rw [HLN.out]; exact hil)]; rfl
      obtain ⟨x, hxx⟩ : ∃ x, ky l i = x := ⟨_, rfl⟩
      rw [hxx] at hx
      have hcell2 := hcl wr (HB.out.trans (HW.out.mono HB.out.size)) i x hx
      have HT : Hid ((q.take (j + 1)).map (kyv l) = (q.take j).map (kyv l) ++ [Value.string x]) := Lib.hid (by rw [List.take_add_one, hiq, ← hxx]; simp [kyv])
      have HSZ2 : Hid (w.heap.size ≤ wr.heap.size) := Lib.hid (Nat.le_trans HB.out.size HW.out.size)
      have i1 : (0 : Int) ≤ (i : Int) := by omega
      have i2 : ¬ (i : Int) < 0 := by omega
      have i3 : (i : Int) < (p : Int) := by omega
      have i4 : ¬ (p : Int) ≤ (i : Int) := by omega
      clear hcq hcl hx hxx hiq
      go_wp2_with (first
        | (at_builtin; refine wpList_append_own _ rfl _ _ 22 rfl w1.heap.size 9 i0 (.string ⟨#[]⟩) 1 16 Tryd.underlying22 hi hz0 hz1 hz2 rfl (by decide) _ _ _ rfl (HO.out.alloc _) ⟨wr.heap.size, 0, none⟩ 1 1 [.string x] rfl rfl (cell_one_new _ _ _) ?q2 ?q3 ?q4 ?q5 ?_; rotate_left 4; intro v' w3 hown3 hgrow3 hnil3))
      · have HB3 : Below w1.heap.size w1 w3 := (HW.out.alloc HW.out.size _).grown hgrow3 (by rw [World.size_alloc]; have := HW.out.size; omega) (fun k hk => (HO.out.lt k hk).1)
        have HO3 : Hid (w3.ownsRow w1.heap.size 9 1 v' (j + 1) ((q.take (j + 1)).map (kyv l))) := Lib.hid (by rw [HT.out]; exact hown3)
        go_roundw
        case rel => exact ⟨j + 1, by omega, by simp, HO3, Lib.hid HB3⟩
        case measure => simp [intOf]; omega
      all_goals first
        | rfl
        | (intro u hu; simp only [List.mem_cons, List.not_mem_nil, or_false] at hu; subst hu; rfl)
        | (unfold maxLen; omega)
        | omega
        | (rw [World.size_alloc]; have := HW.out.size; omega)
        | (have := HW.out.size; omega)
    · obtain rfl : j = p := by omega
      go_wp2_with fail
      go_ret2
      have e : (q.take j).map (kyv l) = (q.map (ky l)).map Value.string := by rw [List.take_of_length_le (by rw [hqn.out]; exact Nat.le_refl _), List.map_map]; rfl
      have ho := HO.out
      rw [e] at ho
      refine ⟨_, rfl, Lib.hid (rds_own (U := fun _ => True) ⟨own_base_le ho (Nat.zero_le _), fun _ _ => trivial⟩ (by rw [List.length_map, hqn.out]) ?_), Lib.hid (HB.out.trans (HW.out.mono HB.out.size))⟩
      intro x hx
      obtain ⟨i, hi, rfl⟩ := List.mem_map.1 hx
      have hil : i < l.length := List.mem_range.1 (HSQ.out.perm.mem_iff.1 hi)
      unfold ky
      rw [List.getD_eq_getElem?_getD, List.getElem?_eq_getElem hil]
      exact HSZ.out _ (List.getElem_mem _)
theorem split_at (p : Nat → Bool) : ∀ q : List Nat, ∃ m : Nat, (∀ j : Nat, j < m → ∀ a, q[j]? = some a → p a = true) ∧ ∀ a, q[m]? = some a → p a = false
  | [] => ⟨0, fun j h => absurd h (by omega), fun a h => by simp at h⟩
  | a :: q => by
    by_cases h : p a = true
    · obtain ⟨m, h1, h2⟩ := split_at p q
      refine ⟨m + 1, fun j hj b hb => ?_, fun b hb => h2 b (by simpa using hb)⟩
      match j, hb with
      | 0, hb => simp at hb; rw [← hb]; exact h
      | j + 1, hb => exact h1 j (by omega) b (by simpa using hb)
    · exact ⟨0, fun j h => absurd h (by omega), fun b hb => by simp at hb; rw [← hb]; simpa using h⟩
theorem sq_exists {l : List ByteArray} (hn : l.Nodup) : ∀ i, i ≤ l.length → ∃ q, SQ l q i
  | 0, _ => ⟨[], SQ.nil l⟩
  | i + 1, hi => by
    obtain ⟨q, hq⟩ := sq_exists hn i (by omega)
    obtain ⟨m, h1, h2⟩ := split_at (fun a => lt (ky l a) (ky l i)) q
    refine ⟨_, hq.ins h1 fun a ha => ?_⟩
    have hai := hq.lt ha
    rcases lt_tri (ky l a) (ky l i) with e | ⟨e, _⟩ | ⟨e, _⟩
    · unfold ky at e
      rw [getD_at _ _ (by omega), getD_at _ _ (by omega)] at e
      have := (List.getElem_inj hn).1 e
      omega
    · have h3 : lt (ky l a) (ky l i) = false := h2 a ha
      rw [h3] at e; cases e
    · exact e
def Incr (U : List ByteArray) : Prop := ∀ i j, i < j → j < U.length → lt (ky U i) (ky U j) = true
theorem SQ.incr {l : List ByteArray} {q : List Nat} {i : Nat} (h : SQ l q i) : Incr (q.map (ky l)) := by
  intro i j hij hj
  rw [List.length_map] at hj
  have := List.pairwise_iff_getElem.1 h.inc i j (by omega) hj hij
  unfold ky
  rw [List.getD_eq_getElem?_getD, List.getD_eq_getElem?_getD, List.getElem?_map, List.getElem?_map, List.getElem?_eq_getElem (by omega), List.getElem?_eq_getElem hj]
  exact this
theorem bs_inv {U : List ByteArray} {k : ByteArray} (hU : Incr U) : ∀ (f lo hi : Nat), hi - lo ≤ f → lo ≤ hi → hi ≤ U.length → (∀ j, j < lo → lt (ky U j) k = true) → (∀ j, hi ≤ j → j < U.length → lt (ky U j) k = false) →
    (∀ j, j < bs U k f lo hi → lt (ky U j) k = true) ∧ (∀ j, bs U k f lo hi ≤ j → j < U.length → lt (ky U j) k = false)
  | 0, lo, hi, h, h1, _, h3, h4 => by
    have : lo = hi := by omega
    subst this
    exact ⟨h3, h4⟩
  | f + 1, lo, hi, h, h1, h2, h3, h4 => by
    unfold bs
    by_cases hl : lo < hi
    · rw [if_pos hl]
      have hm : lo + (hi - lo) / 2 < hi := by omega
      obtain ⟨m, hme⟩ : ∃ m, lo + (hi - lo) / 2 = m := ⟨_, rfl⟩
      rw [hme] at hm ⊢
      have hml : lo ≤ m := by omega
      by_cases ht : lt (U.getD m ⟨#[]⟩) k = true
      · rw [if_pos ht]
        refine bs_inv hU f (m + 1) hi (by omega) (by omega) h2 (fun j hj => ?_) h4
        by_cases e : j = m
        · subst e; exact ht
        · exact lt_trans (hU j m (by omega) (by omega)) ht
      · rw [if_neg ht]
        refine bs_inv hU f lo m (by omega) hml (by omega) h3 (fun j hj hjl => ?_)
        by_cases e : j = m
        · subst e; simpa [ky] using ht
        · cases hc : lt (ky U j) k with
          | false => rfl
          | true => exact absurd (lt_trans (hU m j (by omega) hjl) hc) ht
    · rw [if_neg hl]
      have : lo = hi := by omega
      subst this
      exact ⟨h3, h4⟩
theorem bsE_inv {U : List ByteArray} {k : ByteArray} (hU : Incr U) : (∀ j, j < bsE U k → lt (ky U j) k = true) ∧ (∀ j, bsE U k ≤ j → j < U.length → lt (ky U j) k = false) :=
  bs_inv hU _ 0 U.length (by omega) (Nat.zero_le _) (Nat.le_refl _) (fun j h => absurd h (by omega)) (fun j h1 h2 => absurd h2 (by omega))
theorem bsE_at {U : List ByteArray} {k : ByteArray} (hU : Incr U) {i : Nat} (h : U[i]? = some k) : bsE U k = i := by
  obtain ⟨h1, h2⟩ := bsE_inv (k := k) hU
  have hil : i < U.length := (List.getElem?_eq_some_iff.1 h).1
  have hk : ky U i = k := by unfold ky; rw [List.getD_eq_getElem?_getD, h]; rfl
  rcases Nat.lt_trichotomy (bsE U k) i with hlt | he | hgt
  · have h3 := h2 _ (Nat.le_refl _) (by omega)
    have h4 := hU _ i hlt hil
    rw [hk, h3] at h4
    cases h4
  · exact he
  · have h3 := h1 i hgt
    rw [hk, lt_irrefl] at h3
    cases h3
theorem fd_hit {U : List ByteArray} {k : ByteArray} (hU : Incr U) {i : Nat} (h : U[i]? = some k) : fdN U k = i ∧ fdB U k = true := by
  unfold fdN fdB
  rw [bsE_at hU h, if_pos h]
  exact ⟨rfl, decide_eq_true h⟩
theorem fd_mem {U : List ByteArray} {k : ByteArray} (hU : Incr U) : fdB U k = true ↔ k ∈ U := by
  constructor
  · intro h
    unfold fdB at h
    exact List.mem_of_getElem? (of_decide_eq_true h)
  · intro h
    obtain ⟨i, hi, rfl⟩ := List.getElem_of_mem h
    exact (fd_hit hU (List.getElem?_eq_getElem hi)).2
end Go.Proofs.YtjbmghfgbdnjjaaDoor
