/-
  What is proved here: contracts of Short and Texts as the law calls them, and of Cut; no condition but those that each fact states.
-/
import Derived.Test.YtjbmghfgbdnjjaaDoorMake
namespace Go.Proofs.YtjbmghfgbdnjjaaDoor
open Go.RowKit

def shortS (s : ByteArray) : ByteArray := s.extract 0 (min s.size 60)
theorem shortS_size (s : ByteArray) : (shortS s).size ≤ 60 := by
  unfold shortS
  rw [ByteArray.size_extract]
  omega
theorem short_any (s : ByteArray) (w : World) (hs : s.size ≤ maxLen) : Calls Tryd.prog 12 #[.string s, .int .i64 60] w fun e w' => e = .returned (.string (shortS s)) ∧ Below w.heap.size w w' := by
  have hm : s.size ≤ 9223372036854775807 := hs
  have HE : Hid ((min (s.size : Int) 60).toNat = min s.size 60) := Lib.hid (by omega)
  go_enter Tryd.func12, Tryd.ntmps12
  go_wp2
  go_ret
  exact ⟨by unfold shortS; rw [← HE.out]; rfl, Below.refl _ _⟩

theorem own_bel {w w' : World} {B : Nat} {e : TypeId} {size n : Nat} {v : Value} {xs : List Value} (h : w.ownsRow B e size v n xs) (hb : Below w.heap.size w w') : w'.ownsRow B e size v n xs :=
  h.kept (row := none) ⟨hb.os, hb.tape, hb.output, hb.size, fun k hk _ => hb.block k hk⟩ (by by_cases h : v.ownBlock = none; (· exact .inl h); (· exact .inr h))
def cutK (ks : List ByteArray) : List ByteArray := (ks.take 64).map shortS
theorem infoS : (Tryd.prog.info? 9).map (fun i => (i.zero, i.size, i.bytes)) = some (some (.string ⟨#[]⟩), 1, 16) := by kernel_rfl
set_option maxRecDepth 100000 in
set_option maxHeartbeats 4000000 in
theorem texts_any (ks : List ByteArray) (kv : Value) (w : World) (h : RdS w kv ks) :
    Calls Tryd.prog 41 #[kv, .int .i64 64, .int .i64 60] w fun e w' => (∃ v', e = .returned v' ∧ Ow (fun b => w.heap.size ≤ b) w' 9 1 v' (cutK ks).length ((cutK ks).map Value.string)) ∧ Below w.heap.size w w' := by
  obtain ⟨A, n, c, rfl, hn, hnc, hc, hsz, hA⟩ := h.at
  have hmx : n ≤ 9223372036854775807 := Nat.le_trans hnc hc
  obtain ⟨i0, hi, hz0, hz1, hz2⟩ := info_parts infoS
  go_enter Tryd.func41, Tryd.ntmps41
  go_wp2
  go_loopw [7, 8] (fun v i wr => ∃ j : Nat, j ≤ n ∧ j ≤ 64 ∧ i = .int .i64 (j : Int) ∧ Hid (wr.ownsRow w.heap.size 9 1 v j ((ks.take j).map fun s => Value.string (shortS s))) ∧ Hid (Below w.heap.size w wr)) (fun v i _ => 64 - (intOf i).toNat)
  case atStart => exact ⟨0, Nat.zero_le _, Nat.zero_le _, rfl, World.ownsRow_nil _ _ _ _, Below.refl _ _⟩
  case round =>
    obtain ⟨j, hj, hj64, rfl, HO, HB⟩ := hrel
    by_cases hjn : j < n
    · by_cases hj6 : j < 64
      · obtain ⟨x, hx⟩ : ∃ x, ks[j]? = some x := ⟨_, List.getElem?_eq_getElem (by omega)⟩
        obtain ⟨b1, off1, rfl, _, hc1⟩ := hA (by omega)
        have hcell := hc1 wr HB.out j x hx
        have hxs := hsz x (List.mem_of_getElem? hx)
        have HT : Hid ((ks.take (j + 1)).map (fun s => Value.string (shortS s)) = (ks.take j).map (fun s => Value.string (shortS s)) ++ [Value.string (shortS x)]) := Lib.hid (by rw [List.take_add_one, hx]; simp)
        have HSZ : Hid (w.heap.size ≤ wr.heap.size) := Lib.hid HB.out.size
        clear hc1 hx
        go_wp2_with (first
          | (go_at_call 12; refine (short_any x _ hxs).mono ?_; rintro e w2 ⟨rfl, hb2⟩; have HB2 := Lib.hid hb2; have HO2 := Lib.hid (own_bel HO.out hb2); have HS2 := Lib.hid (Nat.le_trans HSZ.out hb2.size); clear hb2)
          | (at_builtin; refine wpList_append_own _ rfl _ _ 22 rfl w.heap.size 9 i0 (.string ⟨#[]⟩) 1 16 Tryd.underlying22 hi hz0 hz1 hz2 rfl (by decide) _ _ _ rfl (HO2.out.alloc _) ⟨w2.heap.size, 0, none⟩ 1 1 [.string (shortS x)] rfl rfl (cell_one_new _ _ _) ?q2 ?q3 ?q4 ?q5 ?_; rotate_left 4; intro v' w3 hown3 hgrow3 hnil3))
        · have HB3 : Below w.heap.size w w3 := ((HB.out.trans (HB2.out.mono HSZ.out)).alloc HS2.out _).grown hgrow3 (by rw [World.size_alloc]; have := HS2.out; omega) (fun k hk => (HO2.out.lt k hk).1)
          have HO3 : Hid (w3.ownsRow w.heap.size 9 1 v' (j + 1) ((ks.take (j + 1)).map fun s => Value.string (shortS s))) := Lib.hid (by rw [HT.out]; exact hown3)
          go_roundw
          case rel => exact ⟨j + 1, by omega, by omega, by simp, HO3, Lib.hid HB3⟩
          case measure => simp [intOf]; omega
        case q2 => intro u hu; simp only [List.mem_cons, List.not_mem_nil, or_false] at hu; subst hu; rfl
        case q3 => unfold maxLen; omega
        case q4 => omega
        case q5 => rw [World.size_alloc]; have := HS2.out; omega
      · go_wp2
        go_ret
        obtain rfl : j = 64 := by omega
        have e : (cutK ks).length = 64 := by unfold cutK; rw [List.length_map, List.length_take]; omega
        refine ⟨⟨_, rfl, ?_⟩, HB.out⟩
        rw [e]
        have := Ow.of HO.out
        unfold cutK
        rw [List.map_map]
        exact this
    · go_wp2
      go_ret
      obtain rfl : j = n := by omega
      have e : (cutK ks).length = j := by unfold cutK; rw [List.length_map, List.length_take]; omega
      refine ⟨⟨_, rfl, ?_⟩, HB.out⟩
      rw [e]
      have := Ow.of HO.out
      unfold cutK
      rw [List.map_map, List.take_of_length_le (i := 64) (by omega)]
      rw [List.take_of_length_le (i := j) (by omega)] at this
      exact this
end Go.Proofs.YtjbmghfgbdnjjaaDoor
