/-
  What is proved here: contracts of Short and Texts at any limits; no condition but those that each fact states; and: contract of the law's own few; what the last line of a law with a list compares; condition: the table of package tree holds what is laid.
-/
import Derived.Test.YtnplkamkeadlgaaDoorMake
import Derived.Test.YtnplkamkeadlgaaDoorKWorks
namespace Go.Proofs.YtnplkamkeadlgaaDoor
open Go.RowKit

def shN (k : Nat) (s : ByteArray) : ByteArray := s.extract 0 (min s.size k)
theorem shN_size (k : Nat) (s : ByteArray) : (shN k s).size ≤ k := by
  unfold shN
  rw [ByteArray.size_extract]
  omega
theorem shortN_any (k : Nat) (s : ByteArray) (w : World) (hs : s.size ≤ maxLen) (hk : k ≤ 100000) : Calls Tryd.prog 13 #[.string s, .int .i64 (k : Int)] w fun e w' => e = .returned (.string (shN k s)) ∧ Below w.heap.size w w' := by
  have hm : s.size ≤ 9223372036854775807 := hs
  by_cases h : k < s.size
  · have h1 : (k : Int) < (s.size : Int) := by omega
    have HE : Hid (min s.size k = k) := Lib.hid (by omega)
    go_enter Tryd.func13, Tryd.ntmps13
    go_wp2
    go_ret
    exact ⟨by unfold shN; rw [HE.out]; simp [Int.min_eq_right (Int.le_of_lt h1)], Below.refl _ _⟩
  · have h1 : (s.size : Int) ≤ (k : Int) := by omega
    have h2 : ¬ (k : Int) < (s.size : Int) := by omega
    have HE : Hid (min s.size k = s.size) := Lib.hid (by omega)
    go_enter Tryd.func13, Tryd.ntmps13
    go_wp2
    go_ret
    exact ⟨by unfold shN; rw [HE.out]; simp [Int.min_eq_left h1], Below.refl _ _⟩

theorem own_belN {w w' : World} {B : Nat} {e : TypeId} {size n : Nat} {v : Value} {xs : List Value} (h : w.ownsRow B e size v n xs) (hb : Below w.heap.size w w') : w'.ownsRow B e size v n xs :=
  h.kept (row := none) ⟨hb.os, hb.tape, hb.output, hb.size, fun k hk _ => hb.block k hk⟩ (by by_cases h : v.ownBlock = none; (· exact .inl h); (· exact .inr h))
def cutN (M K : Nat) (ks : List ByteArray) : List ByteArray := (ks.take M).map (shN K)
theorem infoSN : (Tryd.prog.info? 9).map (fun i => (i.zero, i.size, i.bytes)) = some (some (.string ⟨#[]⟩), 1, 16) := by kernel_rfl
set_option maxRecDepth 100000 in
set_option maxHeartbeats 4000000 in
theorem textsN_any (M K : Nat) (hM : M ≤ 1000) (hK : K ≤ 1000) (ks : List ByteArray) (kv : Value) (w : World) (h : RdS w kv ks) :
    Calls Tryd.prog 38 #[kv, .int .i64 (M : Int), .int .i64 (K : Int)] w fun e w' => (∃ v', e = .returned v' ∧ Ow (fun b => w.heap.size ≤ b) w' 9 1 v' (cutN M K ks).length ((cutN M K ks).map Value.string)) ∧ Below w.heap.size w w' := by
  obtain ⟨A, n, c, rfl, hn, hnc, hc, hsz, hA⟩ := h.at
  have hmx : n ≤ 9223372036854775807 := Nat.le_trans hnc hc
  obtain ⟨i0, hi, hz0, hz1, hz2⟩ := info_parts infoSN
  go_enter Tryd.func38, Tryd.ntmps38
  go_wp2
  go_loopw [7, 8] (fun v i wr => ∃ j : Nat, j ≤ n ∧ j ≤ M ∧ i = .int .i64 (j : Int) ∧ Hid (wr.ownsRow w.heap.size 9 1 v j ((ks.take j).map fun s => Value.string (shN K s))) ∧ Hid (Below w.heap.size w wr)) (fun v i _ => M - (intOf i).toNat)
  case atStart => exact ⟨0, Nat.zero_le _, Nat.zero_le _, rfl, World.ownsRow_nil _ _ _ _, Below.refl _ _⟩
  case round =>
    obtain ⟨j, hj, hj64, rfl, HO, HB⟩ := hrel
    by_cases hjn : j < n
    · by_cases hj6 : j < M
      · obtain ⟨x, hx⟩ : ∃ x, ks[j]? = some x := ⟨_, List.getElem?_eq_getElem (by omega)⟩
        obtain ⟨b1, off1, rfl, _, hc1⟩ := hA (by omega)
        have hcell := hc1 wr HB.out j x hx
        have hxs := hsz x (List.mem_of_getElem? hx)
        have HT : Hid ((ks.take (j + 1)).map (fun s => Value.string (shN K s)) = (ks.take j).map (fun s => Value.string (shN K s)) ++ [Value.string (shN K x)]) := Lib.hid (by rw [List.take_add_one, hx]; simp)
        have HSZ : Hid (w.heap.size ≤ wr.heap.size) := Lib.hid HB.out.size
        clear hc1 hx
        go_wp2_with (first
          | (go_at_call 13; refine (shortN_any K x _ hxs (by omega)).mono ?_; rintro e w2 ⟨rfl, hb2⟩; have HB2 := Lib.hid hb2; have HO2 := Lib.hid (own_belN HO.out hb2); have HS2 := Lib.hid (Nat.le_trans HSZ.out hb2.size); clear hb2)
          | (at_builtin; refine wpList_append_own _ rfl _ _ 22 rfl w.heap.size 9 i0 (.string ⟨#[]⟩) 1 16 Tryd.underlying22 hi hz0 hz1 hz2 rfl (by decide) _ _ _ rfl (HO2.out.alloc _) ⟨w2.heap.size, 0, none⟩ 1 1 [.string (shN K x)] rfl rfl (cell_one_new _ _ _) ?q2 ?q3 ?q4 ?q5 ?_; rotate_left 4; intro v' w3 hown3 hgrow3 hnil3))
        · have HB3 : Below w.heap.size w w3 := ((HB.out.trans (HB2.out.mono HSZ.out)).alloc HS2.out _).grown hgrow3 (by rw [World.size_alloc]; have := HS2.out; omega) (fun k hk => (HO2.out.lt k hk).1)
          have HO3 : Hid (w3.ownsRow w.heap.size 9 1 v' (j + 1) ((ks.take (j + 1)).map fun s => Value.string (shN K s))) := Lib.hid (by rw [HT.out]; exact hown3)
          go_roundw
          case rel => exact ⟨j + 1, by omega, by omega, by simp, HO3, Lib.hid HB3⟩
          case measure => simp [intOf]; omega
        case q2 => intro u hu; simp only [List.mem_cons, List.not_mem_nil, or_false] at hu; subst hu; rfl
        case q3 => unfold maxLen; omega
        case q4 => omega
        case q5 => rw [World.size_alloc]; have := HS2.out; omega
      · go_wp2
        go_ret
        obtain rfl : j = M := by omega
        have e : (cutN j K ks).length = j := by unfold cutN; rw [List.length_map, List.length_take]; omega
        refine ⟨⟨_, rfl, ?_⟩, HB.out⟩
        rw [e]
        have := Ow.of HO.out
        unfold cutN
        rw [List.map_map]
        exact this
    · go_wp2
      go_ret
      obtain rfl : j = n := by omega
      have e : (cutN M K ks).length = j := by unfold cutN; rw [List.length_map, List.length_take]; omega
      refine ⟨⟨_, rfl, ?_⟩, HB.out⟩
      rw [e]
      have := Ow.of HO.out
      unfold cutN
      rw [List.map_map, List.take_of_length_le (i := M) (by omega)]
      rw [List.take_of_length_le (i := j) (by omega)] at this
      exact this
end Go.Proofs.YtnplkamkeadlgaaDoor
namespace Go.Proofs.YtnplkamkeadlgaaDoor
open Go.RowKit Go.Sort

theorem cutN_len (M K : Nat) (ks : List ByteArray) : (cutN M K ks).length ≤ M := by unfold cutN; rw [List.length_map, List.length_take]; omega
theorem cutN_small {M K : Nat} {ks : List ByteArray} : ∀ x ∈ cutN M K ks, x.size ≤ K := by
  intro x hx
  unfold cutN at hx
  obtain ⟨y, _, rfl⟩ := List.mem_map.1 hx
  exact shN_size K y
theorem few_any (ks : List ByteArray) (v : Value) (w : World) (h : RdS w v ks) : Calls Tryd.prog 14 #[v] w fun e w' => ∃ v', e = .returned v' ∧ Hid (RdS w' v' (cutN 60 40 ks)) ∧ Hid (Below w.heap.size w w') := by
  have HT : Hid (∀ W, Below w.heap.size w W → Calls Tryd.prog 38 #[v, .int .i64 60, .int .i64 40] W fun e w' => ∃ v', e = .returned v' ∧ Hid (RdS w' v' (cutN 60 40 ks)) ∧ Hid (Below W.heap.size W w')) := Lib.hid fun W hb => by
    refine (textsN_any 60 40 (by omega) (by omega) ks v W (h.below hb)).mono ?_
    rintro e w' ⟨⟨v', rfl, h1⟩, h2⟩
    exact ⟨v', rfl, Lib.hid (rds_own h1 rfl fun x hx => Nat.le_trans (cutN_small x hx) (by unfold maxLen; omega)), Lib.hid h2⟩
  obtain ⟨A, n, c, rfl, _⟩ := h
  go_enter Tryd.func14, Tryd.ntmps14
  go_wp2_with fail
  refine (HT.out w (Below.refl _ _)).mono ?_
  rintro e w1 ⟨v', rfl, h1, h2⟩
  go_wp2_with fail
  go_ret
  exact ⟨v', rfl, h1, h2⟩
end Go.Proofs.YtnplkamkeadlgaaDoor
