/-
  What is proved here: the law KeyRises returns true; condition: the table of package tree holds what is laid.
-/
import Derived.Test.YtjbmghfgbdnjjaaDoorKRisen
namespace Go.Proofs.YtjbmghfgbdnjjaaDoor
open Go.RowKit Go.Sort

theorem nodup_take {l : List ByteArray} {j : Nat} {u : ByteArray} (h : l[j]? = some u) : ¬ (l.take (j + 1)).Nodup ↔ (¬ (l.take j).Nodup ∨ u ∈ l.take j) := by
  rw [List.take_add_one, h]
  simp only [Option.toList_some, List.nodup_append, List.nodup_cons, List.not_mem_nil, not_false_eq_true, List.nodup_nil, and_self, true_and, List.mem_singleton]
  constructor
  · intro h1
    by_cases h2 : (l.take j).Nodup
    · refine .inr ?_
      by_cases h3 : u ∈ l.take j
      · exact h3
      · exact absurd ⟨h2, fun a ha b hb e => h3 (by rw [← hb, ← e]; exact ha)⟩ h1
    · exact .inl h2
  · rintro (h1 | h1) ⟨h2, h3⟩
    · exact h1 h2
    · exact h3 u h1 u rfl rfl
theorem quiet_add_s {P : Program} {f : FuncId} {args : Array Value} {w : World} {a n : Nat} {v : Value} (h : Calls P f args (w.drewN (a + n)) fun e w' => e = .returned v ∧ w' = w.drewN (a + n)) :
    Calls P f args (w.drewN (a + n)) fun e w'' => e = .returned v ∧ ∃ m, w'' = w.drewN (a + m) := by
  refine h.mono ?_
  rintro e w' ⟨h1, rfl⟩
  exact ⟨h1, n, rfl⟩
theorem mem_take {l : List ByteArray} {m : Nat} {y u : ByteArray} (h : l[m]? = some y) : u ∈ l.take (m + 1) ↔ (u ∈ l.take m ∨ u = y) := by
  rw [List.take_add_one, h]
  simp

set_option maxRecDepth 100000 in
set_option maxHeartbeats 2000000 in
theorem keyRises_walk (ks : List ByteArray) (v : Value) (w : World) (hT : Tab w) (hl : RdS w v ks) :
    Calls Tryd.prog 7 #[v] w fun e w' => e = .returned (.bool true) ∧ Below w.heap.size w w' := by
  have HT := Lib.hid hT
  have HF := Lib.hid (few_any ks v w hl)
  obtain ⟨l, hl1⟩ : ∃ l, cutN 60 40 ks = l := ⟨_, rfl⟩
  have hln : Hid (l.length ≤ 60) := Lib.hid (by rw [← hl1]; exact cutN_len _ _ _)
  rw [hl1] at HF
  obtain ⟨A0, n0, c0, rfl, _⟩ := hl
  clear hT hl1
  go_enter Tryd.func7, Tryd.ntmps7
  go_wp2_with fail
  with_reducible refine HF.out.mono ?_
  rintro e w1 ⟨v1, rfl, HR, HB1⟩
  obtain ⟨A, n, c, rfl, hn, hnc, hc, hsz, hA⟩ := HR.out.at
  have HN := Lib.hid hn
  have HA := Lib.hid hA
  have hn60 : n ≤ 60 := by have := hln.out; omega
  clear hn hA hsz HF
  go_wp2_with fail
  go_loopw [4, 5] (fun vt vi wr => ∃ (j q : Nat) (β : Bool), j ≤ n ∧ vi = .int .i64 (j : Int) ∧ vt = .bool β ∧ Hid (β = true ↔ ¬ (l.take j).Nodup) ∧ wr = w1.drewN q) (fun _ vi _ => n - (intOf vi).toNat)
  case atStart => exact ⟨0, 0, false, Nat.zero_le _, rfl, rfl, Lib.hid (by simp), rfl⟩
  case round =>
    obtain ⟨j, q, β, hj, rfl, rfl, HM, rfl⟩ := hrel
    by_cases hjn : j < n
    · obtain ⟨u, hu⟩ : ∃ u, l[j]? = some u := ⟨_, List.getElem?_eq_getElem (by rw [HN.out]; exact hjn)⟩
      have HU := Lib.hid hu
      obtain ⟨b, off, rfl, _, hcl⟩ := HA.out (by omega)
      have hcu := hcl w1 (Below.refl _ _) j u hu
      clear hu
      go_wp2_with fail
      go_loopw [4, 6] (fun vt vm wx => ∃ (m q' : Nat) (γ : Bool), m ≤ j ∧ vm = .int .i64 (m : Int) ∧ vt = .bool γ ∧ Hid (γ = true ↔ (¬ (l.take j).Nodup ∨ u ∈ l.take m)) ∧ wx = w1.drewN q') (fun _ vm _ => j - (intOf vm).toNat)
      case atStart => exact ⟨0, q, β, Nat.zero_le _, rfl, rfl, Lib.hid (by simp [HM.out]), rfl⟩
      case round =>
        obtain ⟨m, q', γ, hm, rfl, rfl, HG, rfl⟩ := hrel
        by_cases hmj : m < j
        · obtain ⟨y, hy⟩ : ∃ y, l[m]? = some y := ⟨_, List.getElem?_eq_getElem (by rw [HN.out]; omega)⟩
          have hcy := hcl w1 (Below.refl _ _) m y hy
          have HY := Lib.hid hy
          clear hy
          have i1 : (0 : Int) ≤ (j : Int) := by omega
          have i2 : (j : Int) < (n : Int) := by omega
          have i3 : (0 : Int) ≤ (m : Int) := by omega
          have i4 : (m : Int) < (n : Int) := by omega
          cases γ with
          | true =>
            have HS : Hid (¬ (l.take j).Nodup ∨ u ∈ l.take (m + 1)) := Lib.hid (by
              rcases HG.out.1 rfl with h | h
              · exact .inl h
              · exact .inr ((mem_take HY.out).2 (.inl h)))
            go_wp2_with fail
            go_quiet (fail)
            go_wp2_with fail
            go_roundw
            case rel => exact ⟨m + 1, _, true, by omega, by simp, rfl, Lib.hid ⟨fun _ => HS.out, fun _ => rfl⟩, rfl⟩
            case measure => simp [intOf]; omega
          | false =>
            by_cases huy : u = y
            · have m1 := strEq_true huy
              have HS : Hid (¬ (l.take j).Nodup ∨ u ∈ l.take (m + 1)) := Lib.hid (.inr ((mem_take HY.out).2 (.inr huy)))
              clear huy
              go_wp2_with fail
              go_quiet (fail)
              go_wp2_with fail
              go_roundw
              case rel => exact ⟨m + 1, _, true, by omega, by simp, rfl, Lib.hid ⟨fun _ => HS.out, fun _ => rfl⟩, rfl⟩
              case measure => simp [intOf]; omega
            · have m1 := strEq_false huy
              have HS : Hid (¬ (¬ (l.take j).Nodup ∨ u ∈ l.take (m + 1))) := Lib.hid (by
                rw [mem_take HY.out]
                intro h
                have h0 := HG.out.2
                rcases h with h | h | h
                · exact absurd (h0 (.inl h)) (by simp)
                · exact absurd (h0 (.inr h)) (by simp)
                · exact huy h)
              clear huy
              go_wp2_with fail
              go_quiet (fail)
              go_wp2_with fail
              go_roundw
              case rel => exact ⟨m + 1, _, false, by omega, by simp, rfl, Lib.hid ⟨(fun h => by cases h), fun h => absurd h HS.out⟩, rfl⟩
              case measure => simp [intOf]; omega
        · obtain rfl : m = j := by omega
          have HS : Hid (γ = true ↔ ¬ (l.take (m + 1)).Nodup) := Lib.hid (by rw [nodup_take HU.out]; exact HG.out)
          go_wp2_with fail
          go_roundw
          case rel => exact ⟨m + 1, q', γ, by omega, by simp, rfl, HS, rfl⟩
          case measure => simp [intOf]; omega
    · obtain rfl : j = n := by omega
      have hM := HM.out
      rw [List.take_of_length_le (by rw [HN.out]; exact Nat.le_refl _)] at hM
      have HBq : Hid (Below w1.heap.size w1 (w1.drewN q)) := Lib.hid (below_drewN (Below.refl _ _) q)
      have HB2 := Lib.hid (tr HB1.out HBq.out)
      by_cases hnd : l.Nodup
      · obtain ⟨p, hp⟩ := sq_exists hnd l.length (Nat.le_refl _)
        have hb : β = false := by
          cases β with
          | false => rfl
          | true => exact absurd hnd (hM.1 rfl)
        subst hb
        have HP := Lib.hid hp
        have HRI := Lib.hid (risen_ok l _ p (w1.drewN q) (HR.out.below HBq.out) hln.out hp)
        clear hM hnd hp
        go_wp2_with fail
        with_reducible refine HRI.out.mono ?_
        rintro e w4 ⟨v4, rfl, HR4, hb4⟩
        have HB4 := Lib.hid (tr HB2.out hb4.out)
        obtain ⟨U, hU⟩ : ∃ U, p.map (ky l) = U := ⟨_, rfl⟩
        have HU : Hid (Incr U) := Lib.hid (by rw [← hU]; exact HP.out.incr)
        have HUL : Hid (U.length ≤ 60) := Lib.hid (by rw [← hU, List.length_map, HP.out.length]; exact hln.out)
        rw [hU] at HR4
        clear hb4 hU
        obtain ⟨A4, n4, c4, rfl, hn4, _, _, _, hA4⟩ := HR4.out.at
        have HN4 := Lib.hid hn4
        have HA4 := Lib.hid hA4
        have hn60' : n4 ≤ 60 := by have := HUL.out; omega
        clear hn4 hA4
        go_wp2_with fail
        go_loopw [9] (fun vi wr => ∃ (m q' : Nat), vi = .int .i64 ((m : Int) + 1) ∧ (m + 1 ≤ n4 ∨ m = 0) ∧ wr = w4.drewN q') (fun vi _ => n4 - (intOf vi).toNat)
        case atStart => exact ⟨0, 0, rfl, .inr rfl, rfl⟩
        case round =>
          obtain ⟨m, q', rfl, hm, rfl⟩ := hrel
          by_cases hmn : m + 1 < n4
          · obtain ⟨y, hy⟩ : ∃ y, U[m]? = some y := ⟨_, List.getElem?_eq_getElem (by rw [HN4.out]; omega)⟩
            obtain ⟨z, hz⟩ : ∃ y, U[m + 1]? = some y := ⟨_, List.getElem?_eq_getElem (by rw [HN4.out]; omega)⟩
            obtain ⟨b4, off4, rfl, _, hcl⟩ := HA4.out (by omega)
            have hcy := hcl w4 (Below.refl _ _) m y hy
            have hcz := hcl w4 (Below.refl _ _) (m + 1) z hz
            have hlt : lt y z = true := by
              have := HU.out m (m + 1) (by omega) (by rw [HN4.out]; omega)
              unfold ky at this
              rw [List.getD_eq_getElem?_getD, List.getD_eq_getElem?_getD, hy, hz] at this
              exact this
            have HC : Hid (∀ W, Calls Tryd.prog 18 #[.string y, .string z] W fun e w' => e = .returned (.bool true) ∧ w' = W) := Lib.hid fun W => by rw [← hlt]; exact keyLess_any y z W
            clear hcl hy hz hlt
            have i1 : (m : Int) + 1 < (n4 : Int) := by omega
            have i2 : (0 : Int) ≤ (m : Int) := by omega
            have i3 : (m : Int) < (n4 : Int) := by omega
            have i4 : (0 : Int) ≤ (m : Int) + 1 := by omega
            have i9 : ((m : Int) + 1).toNat = m + 1 := by omega
            have i10 : IntKind.i64.wrap (m : Int) = (m : Int) := by
              simp [IntKind.wrap, IntKind.bits, IntKind.signed]
              omega
            have i11 : IntKind.i64.wrap ((m : Int) + 1 - 1) = (m : Int) := by rw [Int.add_sub_cancel]; exact i10
            go_wp2_with fail
            go_quiet ((go_at_call 18; first | exact Calls.quiet_of_same (HC.out _) | exact quiet_add_s (HC.out _)))
            go_wp2_with fail
            go_roundw
            case rel => exact ⟨m + 1, _, by simp, .inl (by omega), rfl⟩
            case measure => simp [intOf]; omega
          · have i1 : ¬ (m : Int) + 1 < (n4 : Int) := by omega
            have HB5 := Lib.hid (tr HB4.out (below_drewN (Below.refl _ w4) q'))
            have HWK := Lib.hid (works_true (w4.drewN q') (HT.out.keep HB5.out))
            go_wp2_with fail
            with_reducible refine HWK.out.mono ?_
            rintro e w5 ⟨rfl, hb5⟩
            have HB6 := Lib.hid (tr HB5.out hb5)
            clear hb5
            go_wp2_with fail
            go_ret
            exact ⟨rfl, HB6.out⟩
      · have hb : β = true := hM.2 hnd
        subst hb
        have HRI := Lib.hid (risen_twice l _ (w1.drewN q) (HR.out.below HBq.out) hln.out hnd)
        clear hM hnd
        go_wp2_with fail
        with_reducible refine HRI.out.mono ?_
        rintro e w4 ⟨rfl, hb4⟩
        have HB4 := Lib.hid (tr HB2.out hb4)
        have HWK := Lib.hid (works_true w4 (HT.out.keep HB4.out))
        clear hb4
        go_wp2_with fail
        refine wp_loop_rounds 1 ?_
        rw [rounds_succ]
        go_wp2_with (first | (go_at_call 22; with_reducible refine HWK.out.mono ?_; rintro e w5 ⟨rfl, hb5⟩))
        go_ret
        exact ⟨rfl, tr HB4.out hb5⟩
end Go.Proofs.YtjbmghfgbdnjjaaDoor
