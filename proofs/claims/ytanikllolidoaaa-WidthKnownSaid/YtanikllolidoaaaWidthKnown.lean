/-
  What is proved here: accordionlaw03.WidthKnown returns true; no condition.
-/
import Derived.Test.YtanikllolidoaaaWidthTells
import Derived.Test.YtanikllolidoaaaWidthPlaces
import Derived.Test.YtanikllolidoaaaWidthLeast
import Derived.Test.YtanikllolidoaaaWidthUp
import Derived.Deep.RegionHeld3
namespace Go.Proofs.Ytanikllolidoaaa
open Go.ChangeShapes Go.WideShapes Go.ChangeAt Go.RowKit Wd

theorem u64_bd (x : Int) : 0 ≤ IntKind.u64.wrap x ∧ IntKind.u64.wrap x ≤ 18446744073709551615 := by rw [wrap_u64]; omega

/-- The list of the law, as it lies in memory. -/
def Good (B : Nat) (w wr : World) : Prop :=
  Below w.heap.size w wr ∧ w.heap.size ≤ B ∧ B < wr.heap.size ∧ (∀ i, i < 15 → ∃ p : Int, (-9223372036854775808 ≤ p ∧ p ≤ 9223372036854775807) ∧ wr.cell? ⟨B, i, none⟩ = some (.int .i64 p))

theorem Good.below {B : Nat} {w wr w' : World} (h : Good B w wr) (hb : Below wr.heap.size wr w') : Good B w w' := by
  obtain ⟨h1, h2, h3, h4⟩ := h
  refine ⟨h1.trans (hb.mono (by omega)), h2, Nat.lt_of_lt_of_le h3 hb.size, fun i hi => ?_⟩
  obtain ⟨p, hp, hc⟩ := h4 i hi
  exact ⟨p, hp, (hb.cell (p := ⟨B, i, none⟩) h3).trans hc⟩

def kplaces : List Int := [-9223372036854775808, -1, 0, 1, 2, 3, 7, 8, 9, 9007199254740984, 9007199254740985, 9007199254740991, 9007199254740992, 9007199254740993, 9223372036854775807]

theorem good_start {w wr : World} (h : Below w.heap.size w wr) (cs : Array Value) (ty : TypeId) (hc : cs = (kplaces.map (Value.int .i64)).toArray) : Good wr.heap.size w (wr.alloc (.cells cs ty)) := by
  refine ⟨h.alloc h.size _, h.size, by simp, fun i hi => ?_⟩
  have hlen : kplaces.length = 15 := rfl
  refine ⟨kplaces[i], ?_, ?_⟩
  · have hall : ∀ n ∈ kplaces, -9223372036854775808 ≤ n ∧ n ≤ 9223372036854775807 := by decide
    exact hall _ (List.getElem_mem _)
  · have := World.cell?_alloc_new wr cs ty i
    rw [this, hc, List.getElem?_toArray, List.getElem?_map, List.getElem?_eq_getElem (by omega)]
    rfl

theorem nil_rds (w : World) : Rds w none 0 0 [] := ⟨rfl, Nat.le_refl _, fun h => absurd h (by omega)⟩
theorem rds_lit (w : World) (g : Nat) (cs : Array Value) (n : Nat) (xs : List Int) (hg : g = w.heap.size) (h : cs = (bv xs).toArray) (hn : xs.length = n) : Rds (w.alloc (.cells cs 3)).drew (some ⟨g, 0, none⟩) n n xs := by
  subst h
  subst hg
  refine ⟨hn, Nat.le_refl _, fun _ => ⟨w.heap.size, 0, rfl, by simp, fun j x hx => ?_⟩⟩
  rw [Nat.zero_add, World.cell?_drew, World.cell?_alloc_new]
  simpa using bv_at hx
/-- A number of the list, in a later world. -/
theorem at_later {B k : Nat} {w1 w2 : World} {p : Value} (hb : Below w1.heap.size w1 w2) (hl : B < w1.heap.size) (hc : w1.cell? ⟨B, k, none⟩ = some p) : w2.cell? ⟨B, k, none⟩ = some p :=
  (hb.cell (p := ⟨B, k, none⟩) hl).trans hc
theorem cap2 : (2 : Nat) ≤ maxLen := by simp only [maxLen]; omega
theorem cap0 : (0 : Nat) ≤ maxLen := by simp only [maxLen]; omega

set_option maxRecDepth 100000 in
set_option maxHeartbeats 4000000 in
theorem widthKnown_walk (w : World) : Calls Try.prog 9 #[] w fun e w' => e = .returned (.bool true) ∧ Below w.heap.size w w' := by
  go_enter Try.func9, Try.ntmps9
  go_wp2
  go_loopw [1] (fun i wr => ∃ j : Nat, j ≤ 64 ∧ i = .int .i64 j ∧ Hid (Below w.heap.size w wr)) (fun i _ => 64 - (intOf i).toNat)
  case atStart => exact ⟨0, by omega, rfl, Below.refl _ _⟩
  case round =>
    obtain ⟨i, hi, rfl, HB⟩ := hrel
    by_cases hlt : i < 64
    · have d1 : decide ((i : Int) < 64) = true := by simp; omega
      go_wp2_with fail
      refine (widthTells_walk _ _ _ (u64_bd _).1 (u64_bd _).2).mono ?_
      rintro e w1 ⟨rfl, hb⟩
      replace HB := Lib.hid (HB.out.trans (hb.mono HB.out.size))
      clear hb
      go_wp2_with fail
      refine (widthTells_walk _ _ _ (u64_bd _).1 (u64_bd _).2).mono ?_
      rintro e w1 ⟨rfl, hb⟩
      replace HB := Lib.hid (HB.out.trans (hb.mono HB.out.size))
      clear hb
      go_wp2_with fail
      refine (widthTells_walk _ _ _ (u64_bd _).1 (u64_bd _).2).mono ?_
      rintro e w1 ⟨rfl, hb⟩
      replace HB := Lib.hid (HB.out.trans (hb.mono HB.out.size))
      clear hb
      go_wp2_with fail
      refine (widthTells_walk _ _ _ (u64_bd _).1 (u64_bd _).2).mono ?_
      rintro e w1 ⟨rfl, hb⟩
      replace HB := Lib.hid (HB.out.trans (hb.mono HB.out.size))
      clear hb
      go_wp2_with fail
      refine (widthLeast_walk _ _ (u64_bd _).1 (u64_bd _).2).mono ?_
      rintro e w1 ⟨rfl, hb⟩
      replace HB := Lib.hid (HB.out.trans (hb.mono HB.out.size))
      clear hb
      go_wp2_with fail
      refine (widthLeast_walk _ _ (u64_bd _).1 (u64_bd _).2).mono ?_
      rintro e w1 ⟨rfl, hb⟩
      replace HB := Lib.hid (HB.out.trans (hb.mono HB.out.size))
      clear hb
      go_wp2_with fail
      refine (widthLeast_walk _ _ (u64_bd _).1 (u64_bd _).2).mono ?_
      rintro e w1 ⟨rfl, hb⟩
      replace HB := Lib.hid (HB.out.trans (hb.mono HB.out.size))
      clear hb
      go_wp2_with fail
      refine (widthLeast_walk _ _ (u64_bd _).1 (u64_bd _).2).mono ?_
      rintro e w1 ⟨rfl, hb⟩
      replace HB := Lib.hid (HB.out.trans (hb.mono HB.out.size))
      clear hb
      go_wp2
      go_roundw
      case rel => exact ⟨i + 1, by omega, by go_num, HB⟩
      case measure => simp [intOf]; omega
    · go_wp2_with fail
      have HG := Lib.hid (good_start HB.out #[.int .i64 (-9223372036854775808), .int .i64 (-1), .int .i64 0, .int .i64 1, .int .i64 2, .int .i64 3, .int .i64 7, .int .i64 8, .int .i64 9, .int .i64 9007199254740984, .int .i64 9007199254740985, .int .i64 9007199254740991, .int .i64 9007199254740992, .int .i64 9007199254740993, .int .i64 9223372036854775807] 3 rfl)
      clear HB
      obtain ⟨wb, hwb⟩ : ∃ wb, wb = wr := ⟨_, rfl⟩
      subst hwb
      go_loopw [4] (fun j wx => ∃ k : Nat, k ≤ 15 ∧ j = .int .i64 k ∧ Hid (Good wb.heap.size w wx)) (fun j _ => 15 - (intOf j).toNat)
      case atStart => exact ⟨0, by omega, rfl, HG⟩
      case round =>
        clear HG
        obtain ⟨k, hk, rfl, HG⟩ := hrel
        by_cases hlt2 : k < 15
        · have d2 : decide ((k : Int) < 15) = true := by simp; omega
          go_wp2_with fail
          go_loopw [5] (fun v wx => ∃ q : Int, -1 ≤ q ∧ q ≤ 18 ∧ v = .int .i64 q ∧ Hid (Good wb.heap.size w wx)) (fun v _ => (18 - intOf v).toNat)
          case atStart => exact ⟨-1, by omega, by omega, rfl, HG⟩
          case round =>
            clear HG
            obtain ⟨q, hq0, hq1, rfl, HG⟩ := hrel
            by_cases hlt3 : q < 18
            · have d3 : decide (q < 18) = true := by simpa using hlt3
              obtain ⟨p, hp, hc0⟩ := HG.out.2.2.2 k hlt2
              have HP := Lib.hid hp
              have hqq : -9223372036854775808 ≤ q ∧ q ≤ 9223372036854775807 := by omega
              have HQ := Lib.hid hqq
              have HX := Lib.hid (rds_lit wr wr.heap.size #[.int .i64 p, .int .i64 q] 2 [p, q] rfl rfl rfl)
              have hbX : Below wr.heap.size wr (wr.alloc (.cells #[.int .i64 p, .int .i64 q] 3)).drew := ((Below.refl _ _).alloc (Nat.le_refl _) _).drew
              have hcX := at_later hbX HG.out.2.2.1 hc0
              have HGX := Lib.hid (HG.out.below hbX)
              clear hp hqq hbX HG
              go_wp2_with fail
              have b1 : (k : Int) < 15 := by omega
              go_region_held3 (fun w' => w'.cell? ⟨wb.heap.size, k, none⟩ = some (.int .i64 p)) (go_keep)
                (first
                  | (go_at_call 4; (with_reducible refine (widthPlaces_walk (some ⟨wr.heap.size, 0, none⟩) 2 2 [p, q] p q _ HX.out cap2).mono ?_); rintro e w1 ⟨rfl, hb⟩; have HG1 := Lib.hid (HGX.out.below hb); have hc1 := at_later hb HGX.out.2.2.1 hcX; clear hb)
                  | (go_at_call 7; (with_reducible refine (widthUp_walk p q _ HP.out.1 HP.out.2 HQ.out.1 HQ.out.2).mono ?_); rintro e w2 ⟨rfl, hb⟩; have HG2 := Lib.hid (HG1.out.below hb); have hc2 := at_later hb HG1.out.2.2.1 hc1; clear hb)
                  | (go_at_call 4; (with_reducible refine (widthPlaces_walk none 0 0 [] q p _ (nil_rds _) cap0).mono ?_); rintro e w3 ⟨rfl, hb⟩; have HG3 := Lib.hid (HG2.out.below hb); have hc3 := at_later hb HG2.out.2.2.1 hc2; clear hb)
                  | (go_at_call 3; (with_reducible refine (widthTells_walk (IntKind.u64.wrap q) p _ (u64_bd _).1 (u64_bd _).2).mono ?_); rintro e w4 ⟨rfl, hb⟩; have HG4 := Lib.hid (HG3.out.below hb); have hc4 := at_later hb HG3.out.2.2.1 hc3; clear hb))
              clear hc0 hcX hc1 hc2 hc3 hc4 b1
              go_wp2_with fail
              go_roundw
              case rel => exact ⟨q + 1, by omega, by omega, by go_num, HG4⟩
              case measure => simp [intOf]; omega
            · go_wp2_with fail
              go_roundw
              case rel => exact ⟨k + 1, by omega, by go_num, HG⟩
              case measure => simp [intOf]; omega
        · go_wp2_with fail
          refine (works_true _).mono ?_
          rintro e w4 ⟨rfl, hb⟩
          have HB := Lib.hid (HG.out.1.trans (hb.mono HG.out.1.size))
          clear hb
          go_wp2_with fail
          go_ret
          exact ⟨rfl, HB.out⟩
set_option maxRecDepth 100000 in
theorem widthKnown_lifted (os : Os) (started : os.Started) (H : Type) (enc : TypeId × Value → H) :
    ReturnsInHanded {} Try.checked os 9 .any (Rows.widthKnownSpec.pre6 enc Try.prog Try.f9 Rows.widthKnownRow.domain false) (Rows.widthKnownSpec.post enc Try.prog Try.f9 false true false false) := by
  refine returnsInHanded_of_change (C := Try.checked) ownK started (by kernel_rfl) Try.func9
    (ChangeSpec.witness6 (enc := enc) (C := Try.checked) false ⟨#[], #[], []⟩ 8 (by kernel_rfl) (by kernel_rfl) (by kernel_rfl) (by kernel_rfl)) ?_
  intro W base args ds gs before hval0 hW hcnd _
  have hval : ∀ (j : Nat) t v, Try.f9.params[j]? = some t → args[j]? = some v → Value.okWide Try.prog W .any base t v := hval0
  have hW' := hW
  obtain ⟨p, q, hA0, hV, rfl, hfz, hnd⟩ := hW
  have hA : DataW.TrodAll enc Try.prog W 0 (fun _ => true) true Try.f9.params.toList args.toList ds p := hA0
  rw [Try.params9] at hA hval
  obtain ⟨hargs, rfl, rfl⟩ := trodAll_nil hA
  obtain rfl : args = #[] := by cases args; simp_all
  obtain ⟨rfl, rfl⟩ := trodVars_none hV
  refine (widthKnown_walk  W ).mono fun e W' ⟨he, hb⟩ => ?_
  subst he
  exact ⟨_, rfl, law_post (by rw [Try.params9]; decide +kernel) rfl rfl rfl rfl rfl hW' hb⟩

theorem widthKnown_over : Rows.widthKnownRow.holds Try.pinned (OpenSpec.ofChange Rows.widthKnownSpec) :=
  OpenClaim.holds_of_wide 9 Try.f9 rfl rfl rfl rfl rfl rfl rfl ⟨rfl, rfl, rfl, rfl, rfl⟩ rfl rfl rfl rfl rfl (by kernel_rfl) Try.func9 (by kernel_rfl)
    (of_decide_eq_true (by kernel_rfl)) (by unfold Func.isWrapper; first | (rw [if_pos (by decide +kernel)]; kernel_rfl) | (rw [if_neg (by decide +kernel)]; exact ⟨rfl, rfl⟩))
    (fun os started H enc _ => widthKnown_lifted os started H enc)

theorem widthKnown_holds : Rows.WidthKnownSaid := widthKnown_over
end Go.Proofs.Ytanikllolidoaaa
