/-
  What is proved here: accordionlaw01.LeKnown returns true; no condition.
-/
import Derived.Test.YtfodocahneoipaaLoads
import Derived.Test.YtfodocahneoipaaPuts
import Derived.Deep.RegionHeld3
import Derived.StillTailTactics
namespace Go.Proofs.Ytfodocahneoipaa
open Go.ChangeShapes Go.WideShapes Go.ChangeAt Go.RowKit Le

def kx : List UInt8 := [0, 255, 127, 128, 1, 0, 0, 128, 255, 255]

/-- The four lists of the law, as they lie in memory. -/
def Good (B : Nat) (w wr : World) : Prop :=
  Below B w wr ∧ B + 4 ≤ wr.heap.size ∧ Rds wr (some ⟨B, 0, none⟩) 10 10 kx ∧
  (∀ i, i < 23 → ∃ U : Nat, (U : Int) ≤ 18446744073709551615 ∧ wr.cell? ⟨B + 1, i, none⟩ = some (.int .u64 (U : Int))) ∧
  (∀ i, i < 14 → ∃ p : Int, wr.cell? ⟨B + 1 + 1, i, none⟩ = some (.int .i64 p)) ∧
  (∀ i, i < 13 → ∃ p : Int, wr.cell? ⟨B + 1 + 1 + 1, i, none⟩ = some (.int .i64 p))

theorem Good.below {B : Nat} {w wr w' : World} (h : Good B w wr) (hb : Below wr.heap.size wr w') : Good B w w' := by
  obtain ⟨h1, h2, h3, h4, h5, h6⟩ := h
  refine ⟨h1.trans (hb.mono (by omega)), Nat.le_trans h2 hb.size, h3.below hb, fun i hi => ?_, fun i hi => ?_, fun i hi => ?_⟩
  · obtain ⟨U, hU, hc⟩ := h4 i hi
    exact ⟨U, hU, (hb.cell (p := ⟨B + 1, i, none⟩) (by show B + 1 < _; omega)).trans hc⟩
  · obtain ⟨U, hc⟩ := h5 i hi
    exact ⟨U, (hb.cell (p := ⟨B + 1 + 1, i, none⟩) (by show B + 1 + 1 < _; omega)).trans hc⟩
  · obtain ⟨U, hc⟩ := h6 i hi
    exact ⟨U, (hb.cell (p := ⟨B + 1 + 1 + 1, i, none⟩) (by show B + 1 + 1 + 1 < _; omega)).trans hc⟩

def kends : List Nat := [0, 1, 127, 128, 255, 256, 32767, 32768, 65535, 65536, 2147483647, 2147483648, 4294967295, 4294967296, 9223372036854775807, 9223372036854775808, 18446744073709551615, 18446744073709551488, 18446744073709551487, 18446744073709518848, 18446744073709518847, 18446744071562067968, 18446744071562067967]
def kplaces : List Int := [-9223372036854775808, -8, -1, 0, 1, 2, 3, 6, 8, 9, 10, 11, 9223372036854775800, 9223372036854775807]
def kwidths : List Int := [-9223372036854775808, -1, 0, 1, 2, 3, 4, 5, 7, 8, 9, 16, 9223372036854775807]

theorem good_start (w : World) (c1 c2 c3 c4 : Array Value) (t2 t3 t4 : TypeId) (h1 : c1 = (bv kx).toArray) (h2 : c2 = (kends.map fun n : Nat => Value.int .u64 (n : Int)).toArray)
    (h3 : c3 = (kplaces.map (Value.int .i64)).toArray) (h4 : c4 = (kwidths.map (Value.int .i64)).toArray) :
    Good w.heap.size w ((((w.alloc (.cells c1 5)).alloc (.cells c2 t2)).alloc (.cells c3 t3)).alloc (.cells c4 t4)) := by
  have b4 : Below w.heap.size w ((((w.alloc (.cells c1 5)).alloc (.cells c2 t2)).alloc (.cells c3 t3)).alloc (.cells c4 t4)) :=
    ((((Below.refl _ _).alloc (Nat.le_refl _) _).alloc (by simp) _).alloc (by simp; omega) _).alloc (by simp; omega) _
  refine ⟨b4, by simp, ?_, fun i hi => ?_, fun i hi => ?_, fun i hi => ?_⟩
  · exact (((rds_lit w _ c1 10 kx rfl h1 rfl).alloc _).alloc _).alloc _
  · have hlen : kends.length = 23 := rfl
    refine ⟨kends[i], ?_, ?_⟩
    · have hall : ∀ n ∈ kends, (n : Int) ≤ 18446744073709551615 := by decide
      exact hall _ (List.getElem_mem _)
    · rw [World.cell?_alloc_lt _ _ _ (by simp), World.cell?_alloc_lt _ _ _ (by simp)]
      have := World.cell?_alloc_new (w.alloc (.cells c1 5)) c2 t2 i
      simp only [World.size_alloc] at this
      rw [this, h2, List.getElem?_toArray, List.getElem?_map, List.getElem?_eq_getElem (by omega)]
      rfl
  · have hlen : kplaces.length = 14 := rfl
    refine ⟨kplaces[i], ?_⟩
    rw [World.cell?_alloc_lt _ _ _ (by simp)]
    have := World.cell?_alloc_new ((w.alloc (.cells c1 5)).alloc (.cells c2 t2)) c3 t3 i
    simp only [World.size_alloc] at this
    rw [this, h3, List.getElem?_toArray, List.getElem?_map, List.getElem?_eq_getElem (by omega)]
    rfl
  · have hlen : kwidths.length = 13 := rfl
    refine ⟨kwidths[i], ?_⟩
    have := World.cell?_alloc_new (((w.alloc (.cells c1 5)).alloc (.cells c2 t2)).alloc (.cells c3 t3)) c4 t4 i
    simp only [World.size_alloc] at this
    rw [this, h4, List.getElem?_toArray, List.getElem?_map, List.getElem?_eq_getElem (by omega)]
    rfl

theorem nil_rds (w : World) : Rds w none 0 0 [] := ⟨rfl, Nat.le_refl _, fun h => absurd h (by omega)⟩

theorem cap10 : (10 : Nat) ≤ maxLen := by simp only [maxLen]; omega
theorem cap0 : (0 : Nat) ≤ maxLen := by simp only [maxLen]; omega

set_option maxHeartbeats 4000000 in
theorem known_walk (w : World) : Calls Try.prog 9 #[] w fun e w' => e = .returned (.bool true) ∧ Below w.heap.size w w' := by
  go_enter Try.func9, Try.ntmps9
  go_wp2
  go_loopw [5] (fun i wr => ∃ j : Nat, j ≤ 14 ∧ i = .int .i64 j ∧ Hid (Good w.heap.size w wr)) (fun i _ => 14 - (intOf i).toNat)
  case atStart => exact ⟨0, by omega, rfl, good_start w _ _ _ _ _ _ _ rfl rfl rfl rfl⟩
  case round =>
    obtain ⟨i, hi, rfl, HG⟩ := hrel
    by_cases hlt : i < 14
    · have d1 : decide ((i : Int) < 14) = true := by simp; omega
      go_wp2
      go_loopw [6] (fun k wr => ∃ j : Nat, j ≤ 13 ∧ k = .int .i64 j ∧ Hid (Good w.heap.size w wr)) (fun k _ => 13 - (intOf k).toNat)
      case atStart => exact ⟨0, by omega, rfl, HG⟩
      case round =>
        obtain ⟨k, hk, rfl, HG⟩ := hrel
        by_cases hlt2 : k < 13
        · obtain ⟨p, hp⟩ := HG.out.2.2.2.2.1 i hlt
          obtain ⟨q, hq⟩ := HG.out.2.2.2.2.2 k hlt2
          have HX := Lib.hid (HG.out.2.2.1.below ((Below.refl wr.heap.size wr).drew))
          have hz := HG.out.2.1
          have d2 : decide ((k : Int) < 13) = true := by simp; omega
          go_wp2
          have b1 : (i : Int) < 14 := by omega
          have b2 : (k : Int) < 13 := by omega
          go_region_held3 (fun w' => w'.cell? ⟨w.heap.size + 1 + 1, i, none⟩ = some (.int .i64 p) ∧ w'.cell? ⟨w.heap.size + 1 + 1 + 1, k, none⟩ = some (.int .i64 q)) (go_keep)
            (first
              | (go_at_call 3; (with_reducible refine (loads_walk (some ⟨w.heap.size, 0, none⟩) 10 10 kx p q _ HX.out cap10).mono ?_); rintro e w1 ⟨rfl, hb⟩; have HG1 := Lib.hid (HG.out.below ((Below.refl _ _).drew.trans hb)); have hp1 := (hb.cell (p := ⟨w.heap.size + 1 + 1, i, none⟩) (by show w.heap.size + 1 + 1 < wr.heap.size; omega)).trans hp; have hq1 := (hb.cell (p := ⟨w.heap.size + 1 + 1 + 1, k, none⟩) (by show w.heap.size + 1 + 1 + 1 < wr.heap.size; omega)).trans hq; clear hb)
              | (go_at_call 3; (with_reducible refine (loads_walk none 0 0 [] p q _ (nil_rds _) cap0).mono ?_); rintro e w2 ⟨rfl, hb⟩; have HG2 := Lib.hid (HG1.out.below hb); have hp2 := (hb.cell (p := ⟨w.heap.size + 1 + 1, i, none⟩) (by have := HG1.out.2.1; show w.heap.size + 1 + 1 < w1.heap.size; omega)).trans hp1; have hq2 := (hb.cell (p := ⟨w.heap.size + 1 + 1 + 1, k, none⟩) (by have := HG1.out.2.1; show w.heap.size + 1 + 1 + 1 < w1.heap.size; omega)).trans hq1; clear hb))
          clear HX hp hq hp1 hq1 hp2 hq2 HG HG1 hz b1 b2
          go_wp2
          go_loopw [7] (fun n wr => ∃ j : Nat, j ≤ 23 ∧ n = .int .i64 j ∧ Hid (Good w.heap.size w wr)) (fun n _ => 23 - (intOf n).toNat)
          case atStart => exact ⟨0, by omega, rfl, HG2⟩
          case round =>
            clear HG2
            obtain ⟨n, hn, rfl, HG⟩ := hrel
            by_cases hlt3 : n < 23
            · obtain ⟨p2, hp⟩ := HG.out.2.2.2.2.1 i hlt
              obtain ⟨q2, hq⟩ := HG.out.2.2.2.2.2 k hlt2
              obtain ⟨U, hU, hu⟩ := HG.out.2.2.2.1 n hlt3
              have HX := Lib.hid (HG.out.2.2.1.below ((Below.refl wr.heap.size wr).drew))
              have HU := Lib.hid hU
              clear hU
              have d3 : decide ((n : Int) < 23) = true := by simp; omega
              go_wp2
              have b1 : (i : Int) < 14 := by omega
              have b2 : (k : Int) < 13 := by omega
              have b3 : (n : Int) < 23 := by omega
              go_still_tail 14, (by kernel_rfl)
              change wpList _ _ _ _ _ wr.drew
              go_wp2_with fail
              refine (puts_walk (some ⟨w.heap.size, 0, none⟩) 10 10 kx p2 q2 (U : Int) _ HX.out cap10 (by omega) HU.out).mono ?_
              rintro e w3 ⟨rfl, hb⟩
              have HG3 := Lib.hid (HG.out.below ((Below.refl _ _).drew.trans hb))
              clear hb hp hq hu HX
              go_wp2
              go_roundw
              case rel => exact ⟨n + 1, by omega, by go_num, HG3⟩
              case measure => simp [intOf]; omega
            · go_wp2
              go_roundw
              case rel => exact ⟨k + 1, by omega, by go_num, HG⟩
              case measure => simp [intOf]; omega
        · go_wp2
          go_roundw
          case rel => exact ⟨i + 1, by omega, by go_num, HG⟩
          case measure => simp [intOf]; omega
    · go_wp2_with fail
      refine (works_true _).mono ?_
      rintro e w4 ⟨rfl, hb⟩
      have HB := Lib.hid (HG.out.1.trans (hb.mono HG.out.1.size))
      clear hb
      go_wp2_with fail
      go_ret
      exact ⟨rfl, HB.out⟩

set_option maxRecDepth 100000 in
theorem leKnown_lifted (os : Os) (started : os.Started) (H : Type) (enc : TypeId × Value → H) :
    ReturnsInHanded {} Try.checked os 9 .any (Rows.leKnownSpec.pre6 enc Try.prog Try.f9 Rows.leKnownRow.domain false) (Rows.leKnownSpec.post enc Try.prog Try.f9 false true false false) := by
  refine returnsInHanded_of_change (C := Try.checked) ownK started (by kernel_rfl) Try.func9
    (ChangeSpec.witness6 (enc := enc) (C := Try.checked) false ⟨#[], #[], []⟩ 8 (by kernel_rfl) (by kernel_rfl) (by kernel_rfl) (by kernel_rfl)) ?_
  intro W base args ds gs before hval0 hW hcnd _
  have hval : ∀ (j : Nat) t v, Try.f9.params[j]? = some t → args[j]? = some v → Value.okWide Try.prog W .any base t v := hval0
  have hW' := hW
  obtain ⟨p, q, hA0, hV, rfl, hfz, hnd⟩ := hW
  have hA : DataW.TrodAll enc Try.prog W 0 (fun _ => true) true Try.f9.params.toList args.toList ds p := hA0
  rw [Try.params9] at hA hval
  obtain ⟨hargs, rfl, rfl⟩ := trodAll_nil hA
  obtain rfl : args = #[] := by cases args; simp_all
  obtain ⟨rfl, rfl⟩ := trodVars_none hV
  refine (known_walk  W ).mono fun e W' ⟨he, hb⟩ => ?_
  subst he
  exact ⟨_, rfl, law_post (by rw [Try.params9]; decide +kernel) rfl rfl rfl rfl rfl hW' hb⟩

theorem leKnown_over : Rows.leKnownRow.holds Try.pinned (OpenSpec.ofChange Rows.leKnownSpec) :=
  OpenClaim.holds_of_wide 9 Try.f9 rfl rfl rfl rfl rfl rfl rfl ⟨rfl, rfl, rfl, rfl, rfl⟩ rfl rfl rfl rfl rfl (by kernel_rfl) Try.func9 (by kernel_rfl)
    (of_decide_eq_true (by kernel_rfl)) (by unfold Func.isWrapper; first | (rw [if_pos (by decide +kernel)]; kernel_rfl) | (rw [if_neg (by decide +kernel)]; exact ⟨rfl, rfl⟩))
    (fun os started H enc _ => leKnown_lifted os started H enc)

theorem leKnown_holds : Rows.LeKnownSaid := leKnown_over
end Go.Proofs.Ytfodocahneoipaa
