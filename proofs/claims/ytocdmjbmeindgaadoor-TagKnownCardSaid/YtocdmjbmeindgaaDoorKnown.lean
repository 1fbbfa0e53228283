/-
  What is proved here: accordionlaw02.TagKnown returns true and leaves all memory that was there as it was; condition: the tables hold what is laid.
-/
import Derived.Test.YtocdmjbmeindgaaDoorLaws
import Derived.Deep.RegionHeld3
import Derived.StillTailTactics
namespace Go.Proofs.YtocdmjbmeindgaaDoor
open Go.RowKit Tg

/-- How many of the bytes below n are tags. -/
def cnt : Nat → Nat
  | 0 => 0
  | n + 1 => cnt n + if legal ((n : Int) / 4) then 1 else 0
theorem cnt_256 : cnt 256 = 84 := by decide +kernel
theorem cnt_le (n : Nat) : cnt n ≤ n := by
  induction n with
  | zero => exact Nat.le_refl _
  | succ n ih => rw [cnt]; split <;> omega
theorem cnt_yes {n : Nat} (h : legal ((n : Int) / 4) = true) : cnt (n + 1) = cnt n + 1 := by rw [cnt, if_pos h]
theorem cnt_no {n : Nat} (h : legal ((n : Int) / 4) = false) : cnt (n + 1) = cnt n := by rw [cnt, if_neg (by rw [h]; simp)]; rfl
theorem u8_of {n : Nat} (h : n < 256) : IntKind.u8.wrap (n : Int) = n := by
  simp only [IntKind.wrap, IntKind.signed, IntKind.bits]; simp; omega

theorem bring_any (t : Int) (w : World) (h0 : -7 < t) (h1 : t < 100) :
    Calls Tryd.prog 23 #[.int .i64 t, .int .i64 7] w fun e w' => e = .returned (.int .i64 (t % 7)) ∧ w = w' := by
  by_cases h : t < 0
  · obtain ⟨k, rfl, h2⟩ : ∃ k : Int, t = k - 7 ∧ 0 < k := ⟨t + 7, by omega, by omega⟩
    have e1 : (k - 7).tmod 7 = k - 7 := by
      have e : k - 7 = -(7 - k) := by omega
      rw [e, Int.neg_tmod, Int.tmod_eq_of_lt (by omega) (by omega)]
    have e2 : (k - 7) % 7 = k := by omega
    rw [e2]
    go_enter Tryd.func23, Tryd.ntmps23
    go_wp2
    go_ret
    exact ⟨rfl, rfl⟩
  · go_enter Tryd.func23, Tryd.ntmps23
    go_wp2
    go_ret
    exact ⟨rfl, rfl⟩

def kends : List Int := [-9223372036854775808, -1, 9223372036854775807, 4294967296, 256, 64, 37]
/-- The list of the law, as it lies in memory. -/
def Good (B : Nat) (w0 wr : World) : Prop :=
  St w0 wr ∧ w0.heap.size ≤ B ∧ B < wr.heap.size ∧ ∀ i, i < 7 → ∃ p : Int, (Lit.int .i64 p).wf = true ∧ wr.cell? ⟨B, i, none⟩ = some (.int .i64 p)
theorem Good.below {B : Nat} {w0 wr w' : World} (h : Good B w0 wr) (hb : Below wr.heap.size wr w') : Good B w0 w' := by
  obtain ⟨h1, h2, h3, h4⟩ := h
  refine ⟨h1.step hb, h2, Nat.lt_of_lt_of_le h3 hb.size, fun i hi => ?_⟩
  obtain ⟨p, hp, hc⟩ := h4 i hi
  exact ⟨p, hp, (hb.cell (p := ⟨B, i, none⟩) h3).trans hc⟩

theorem good_start {w0 wr : World} (h : St w0 wr) (c : Array Value) (ty : TypeId) (hc : c = (kends.map (Value.int .i64)).toArray) : Hid (Good wr.heap.size w0 (wr.alloc (.cells c ty))) := by
  refine Lib.hid ⟨h.step (bel _ _), h.2.size, by simp, fun i hi => ?_⟩
  have hlen : kends.length = 7 := rfl
  refine ⟨kends[i], ?_, ?_⟩
  · have hall : ∀ n ∈ kends, (Lit.int .i64 n).wf = true := by decide +kernel
    exact hall _ (List.getElem_mem _)
  · have := World.cell?_alloc_new wr c ty i
    rw [this, hc, List.getElem?_toArray, List.getElem?_map, List.getElem?_eq_getElem (by omega)]
    rfl
theorem bring_is (t : Int) (k : Nat) (w : World) (h0 : -7 < t) (h1 : t < 100) (hk : t % 7 = k) :
    Calls Tryd.prog 23 #[.int .i64 t, .int .i64 7] w fun e w' => e = .returned (.int .i64 k) ∧ w = w' := hk ▸ bring_any t w h0 h1
theorem wf_k {x : Int} (h0 : -100 ≤ x) (h1 : x ≤ 255) : (Lit.int .i64 x).wf = true := by
  simp [Lit.wf, IntKind.min, IntKind.max, IntKind.signed, IntKind.bits]; omega

set_option maxHeartbeats 4000000 in
set_option maxRecDepth 20000 in
theorem tagKnown_walk (w : World) (hT : Tab w) : Calls Tryd.prog 9 #[] w fun e w' => e = .returned (.bool true) ∧ Below w.heap.size w w' := by
  have HS := Lib.hid (St.start hT)
  clear hT
  go_enter Tryd.func9, Tryd.ntmps9
  go_wp2_with fail
  go_loopw [1, 2] (fun m c wr => ∃ j n : Nat, j ≤ 256 ∧ m = .int .i64 n ∧ c = .int .i64 j ∧ Hid (n = cnt j ∧ St w wr)) (fun _ c _ => 256 - (intOf c).toNat)
  case atStart => exact ⟨0, 0, by omega, rfl, rfl, Lib.hid ⟨rfl, HS.out⟩⟩
  case round =>
    clear HS
    obtain ⟨j, n, hj, rfl, rfl, HS⟩ := hrel
    replace HS := HS
    by_cases hlt : j < 256
    · have hu := u8_of hlt
      go_wp2_with fail
      refine (tagPacks_walk _ _ _ _ HS.out.2.1 (by omega) (by omega)).mono ?_
      rintro e w1 ⟨rfl, hb⟩
      have H1 := Lib.hid (HS.out.2.step hb)
      clear hb
      go_wp2_with fail
      refine (tagOnly_walk _ _ H1.out.1 (by omega) (by omega)).mono ?_
      rintro e w2 ⟨rfl, hb⟩
      have H2 := Lib.hid (H1.out.step hb)
      clear hb H1
      cases hl : legal ((j : Int) / 4)
      · have hn := un_no hl
        have HC := Lib.hid (HS.out.1.trans (cnt_no hl).symm)
        have HL := Lib.hid hn
        clear hn hl HS
        go_wp2_with fail
        refine (unpack_is j 0 0 20 _ H2.out.1 (by omega) (by omega) HL.out.1 HL.out.2.1 HL.out.2.2).mono ?_
        rintro e w3 ⟨rfl, hb⟩
        have H3 := Lib.hid (H2.out.step hb)
        clear hb H2 HL
        go_wp2_with fail
        go_roundw
        case rel => exact ⟨j + 1, n, by omega, rfl, by go_num, Lib.hid ⟨HC.out, H3.out⟩⟩
        case measure => simp [intOf]; omega
      · have hn := un_yes hl
        have HC := Lib.hid ((congrArg (· + 1) HS.out.1).trans (cnt_yes hl).symm)
        have hle := HS.out.1.symm ▸ cnt_le j
        have HL := Lib.hid hn
        clear hn hl HS
        go_wp2_with fail
        refine (unpack_is j (j / 4) (wid (j % 4)) 0 _ H2.out.1 (by omega) (by omega) HL.out.1 HL.out.2.1 HL.out.2.2).mono ?_
        rintro e w3 ⟨rfl, hb⟩
        have H3 := Lib.hid (H2.out.step hb)
        clear hb H2 HL
        go_wp2_with fail
        go_roundw
        case rel => exact ⟨j + 1, n + 1, by omega, by go_num, by go_num, Lib.hid ⟨HC.out, H3.out⟩⟩
        case measure => simp [intOf]; omega
    · have HN : Hid (n = 84) := by
        obtain rfl : j = 256 := by omega
        exact Lib.hid (HS.out.1.trans cnt_256)
      replace HS := Lib.hid HS.out.2
      obtain ⟨wa, rfl⟩ : ∃ wa, wa = wr := ⟨_, rfl⟩
      go_wp2_with fail
      go_loopw [7] (fun v wq => ∃ t : Int, -2 ≤ t ∧ t ≤ 70 ∧ v = .int .i64 t ∧ Hid (Good wa.heap.size w wq)) (fun v _ => (70 - intOf v).toNat)
      case atStart => exact ⟨-2, by omega, by omega, rfl, good_start HS.out _ _ rfl⟩
      case round =>
        clear HS
        obtain ⟨t, ht0, ht1, rfl, HG⟩ := hrel
        by_cases hlt : t < 70
        · go_wp2_with fail
          go_loopw [8] (fun v wq => ∃ x : Int, -1 ≤ x ∧ x ≤ 10 ∧ v = .int .i64 x ∧ Hid (Good wa.heap.size w wq)) (fun v _ => (10 - intOf v).toNat)
          case atStart => exact ⟨-1, by omega, by omega, rfl, HG⟩
          case round =>
            clear HG
            obtain ⟨x, hx0, hx1, rfl, HG⟩ := hrel
            by_cases hlt2 : x < 10
            · go_wp2_with fail
              refine (tagPacks_walk _ _ _ _ HG.out.1.1 (by omega) (by omega)).mono ?_
              rintro e w1 ⟨rfl, hb⟩
              replace HG := Lib.hid (HG.out.below hb)
              clear hb
              go_wp2_with fail
              refine (tagTells_walk _ _ _ HG.out.1.1 (wf_k (by omega) (by omega)) (wf_k (by omega) (by omega))).mono ?_
              rintro e w2 ⟨rfl, hb⟩
              replace HG := Lib.hid (HG.out.below hb)
              clear hb
              go_wp2_with fail
              refine (tagVectors_walk _ _ _ HG.out.1.1 (wf_k (by omega) (by omega)) (wf_k (by omega) (by omega))).mono ?_
              rintro e w3 ⟨rfl, hb⟩
              replace HG := Lib.hid (HG.out.below hb)
              clear hb
              go_wp2_with fail
              refine (tagBack_walk _ _ _ HG.out.1.1).mono ?_
              rintro e w4 ⟨rfl, hb⟩
              replace HG := Lib.hid (HG.out.below hb)
              clear hb
              go_wp2_with fail
              obtain ⟨i, hi⟩ : ∃ i : Nat, t % 7 = i := ⟨(t % 7).toNat, by omega⟩
              have hi7 : i < 7 := by omega
              obtain ⟨m, hm⟩ : ∃ m : Nat, x % 7 = m := ⟨(x % 7).toNat, by omega⟩
              have hm7 : m < 7 := by omega
              refine (bring_is t i _ (by omega) (by omega) hi).mono ?_
              rintro e w' ⟨rfl, rfl⟩
              obtain ⟨p, hp, hcell⟩ := HG.out.2.2.2 i hi7
              go_wp2_with fail
              refine (tagPacks_walk _ _ _ _ HG.out.1.1 (by omega) (by omega)).mono ?_
              rintro e w5 ⟨rfl, hb⟩
              replace HG := Lib.hid (HG.out.below hb)
              clear hb hcell hp
              go_wp2_with fail
              refine (bring_is t i _ (by omega) (by omega) hi).mono ?_
              rintro e w' ⟨rfl, rfl⟩
              obtain ⟨p, hp, hcell⟩ := HG.out.2.2.2 i hi7
              have HP := Lib.hid hp
              clear hp
              go_wp2_with fail
              refine (tagTells_walk _ _ _ HG.out.1.1 HP.out (wf_k (by omega) (by omega))).mono ?_
              rintro e w6 ⟨rfl, hb⟩
              replace HG := Lib.hid (HG.out.below hb)
              clear hb hcell HP
              go_wp2_with fail
              refine (bring_is x m _ (by omega) (by omega) hm).mono ?_
              rintro e w' ⟨rfl, rfl⟩
              obtain ⟨p, hp, hcell⟩ := HG.out.2.2.2 m hm7
              have HP := Lib.hid hp
              clear hp
              go_wp2_with fail
              refine (tagTells_walk _ _ _ HG.out.1.1 (wf_k (by omega) (by omega)) HP.out).mono ?_
              rintro e w7 ⟨rfl, hb⟩
              replace HG := Lib.hid (HG.out.below hb)
              clear hb hcell HP
              go_wp2_with fail
              go_roundw
              case rel => exact ⟨x + 1, by omega, by omega, by go_num, HG⟩
              case measure => simp [intOf]; omega
            · go_wp2
              go_roundw
              case rel => exact ⟨t + 1, by omega, by omega, by go_num, HG⟩
              case measure => simp [intOf]; omega
        · have h84 : ((n : Int) == 84) = true := by rw [HN.out]; rfl
          go_wp2_with fail
          refine (works_true _ HG.out.1.1).mono ?_
          rintro e w4 ⟨rfl, hb⟩
          have HB := Lib.hid ((HG.out.1.step hb).2)
          clear hb
          go_wp2_with fail
          go_ret
          exact ⟨rfl, HB.out⟩
end Go.Proofs.YtocdmjbmeindgaaDoor
