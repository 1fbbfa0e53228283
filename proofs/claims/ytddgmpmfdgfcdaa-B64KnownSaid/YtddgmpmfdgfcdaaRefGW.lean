/-
  What is proved here: the contract of the reference's group; condition: a string of at most four bytes.
-/
import Derived.Test.YtddgmpmfdgfcdaaRefG
namespace Go.Proofs.Ytddgmpmfdgfcdaa
open Go.RowKit Bs

theorem ne61 {c : UInt8} (h : c ≠ 61) : ((c.toNat : Int) == 61) = false ∧ ((c.toNat : Int) != 61) = true := by
  have h1 : ((c.toNat : Int) == 61) = false := by
    rw [Bool.eq_false_iff, ne_eq, beq_iff_eq]
    intro h2
    exact h (UInt8.toNat_inj.1 (by simpa using (by omega : c.toNat = 61)))
  exact ⟨h1, by rw [bne, h1]; rfl⟩
theorem is61 {c : UInt8} (h : c = 61) : ((c.toNat : Int) == 61) = true ∧ ((c.toNat : Int) != 61) = false := by subst h; decide
theorem eqB {a b : Int} (h : a = b) : (a == b) = true ∧ (a != b) = false := by subst h; simp
theorem neB {a b : Int} (h : a ≠ b) : (a == b) = false ∧ (a != b) = true := by simp [h]
set_option maxHeartbeats 8000000 in
set_option maxRecDepth 100000 in
theorem group_any (s : ByteArray) (l : List UInt8) (hl : s.data.toList = l) (h4 : l.length ≤ 4) (w : World) : Calls Try.prog 28 #[.string s] w (GR w l) := by
  have hsz : s.size = l.length := by rw [Lib.size_eq, hl]
  have HSZ := Lib.hid hsz
  have HL := Lib.hid hl
  have H4 := Lib.hid h4
  have hs4 : s.size ≤ 4 := by omega
  clear hl h4 hsz
  go_enter Try.func28, Try.ntmps28
  go_wp2
  go_loop [4, 5] (fun n i => ∃ k N : Nat, i = .int .i64 k ∧ n = .int .i64 (N : Nat) ∧ Hid (GS l k N)) (fun _ i => 5 - (intOf i).toNat)
  case atStart => exact ⟨0, 0, rfl, rfl, GS.zero l⟩
  case round =>
    obtain ⟨k, N, rfl, rfl, HG⟩ := hrel
    obtain ⟨hk4, hkl, hN⟩ := HG.out.le
    by_cases hlt : k < s.size
    · obtain ⟨c, hc⟩ : ∃ c, l[k]? = some c := ⟨_, List.getElem?_eq_getElem (by rw [← HSZ.out]; exact hlt)⟩
      have hx : s[k] = c := byte_at HL.out hc hlt
      have HC := Lib.hid hc
      have d1 : decide ((k : Int) < (s.size : Int)) = true := decide_eq_true (by omega)
      have d2 : decide (k < s.size) = true := decide_eq_true (by omega)
      clear hc
      rcases hv : nu c with _ | v
      · have HV := Lib.hid hv
        have HNU := Lib.hid (show nuI c = -1 by unfold nuI; rw [hv]; rfl)
        have HNM := Lib.hid (number_any c w)
        rw [HNU.out] at HNM
        clear hv
        by_cases h61 : c = 61
        · obtain ⟨e0, e0'⟩ := is61 h61
          have HC61 := Lib.hid (show l[k]? = some 61 by rw [← h61]; exact HC.out)
          clear h61
          by_cases h2 : k < 2
          · have e1 : decide ((k : Int) < 2) = true := decide_eq_true (by omega)
            have HR := Lib.hid (HG.out.stop (by have := H4.out; omega) HC.out (.inl HV.out) (.inr (.inl h2)))
            clear h2
            go_wp2_with (go_at_call 33; (with_reducible refine HNM.out.mono ?_); rintro e w2 ⟨rfl, rfl⟩)
            go_ret2
            exact gr_none HR.out
          · have e1 : decide ((k : Int) < 2) = false := decide_eq_false (by omega)
            by_cases hk2 : k = 2
            · obtain ⟨e2, e2'⟩ := eqB (show (k : Int) = 2 by omega)
              obtain ⟨e3, e3'⟩ := neB (show (k : Int) ≠ 3 by omega)
              by_cases hz : N % 16 = 0
              · obtain ⟨e4, e4'⟩ := eqB (show (N : Int) % 16 = 0 by omega)
                have HP := Lib.hid ((show GS l 2 N by rw [← hk2]; exact HG.out).pad2 (by rw [← hk2]; exact HC61.out) hz)
                have HK := Lib.hid hk2
                clear h2 hk2 hz
                go_wp2_with (go_at_call 33; (with_reducible refine HNM.out.mono ?_); rintro e w2 ⟨rfl, rfl⟩)
                go_round
                case rel => exact ⟨k + 1, N, by go_num, rfl, by rw [HK.out]; exact HP.out⟩
                case measure => simp [intOf]; omega
              · obtain ⟨e4, e4'⟩ := neB (show (N : Int) % 16 ≠ 0 by omega)
                have HR := Lib.hid (HG.out.stop (by have := H4.out; omega) HC.out (.inl HV.out) (.inr (.inr (.inl ⟨hk2, hz⟩))))
                clear h2 hk2 hz
                go_wp2_with (go_at_call 33; (with_reducible refine HNM.out.mono ?_); rintro e w2 ⟨rfl, rfl⟩)
                go_ret2
                exact gr_none HR.out
            · have hk3 : k = 3 := by omega
              obtain ⟨e2, e2'⟩ := neB (show (k : Int) ≠ 2 by omega)
              obtain ⟨e3, e3'⟩ := eqB (show (k : Int) = 3 by omega)
              obtain ⟨c2, hc2⟩ : ∃ c2, l[2]? = some c2 := ⟨_, List.getElem?_eq_getElem (by rw [← HSZ.out]; omega)⟩
              have h2s : 2 < s.size := by omega
              have hx2 : s[2] = c2 := byte_at HL.out hc2 h2s
              have hg3 : GS l 3 N := by rw [← hk3]; exact HG.out
              have hc3 : l[3]? = some 61 := by rw [← hk3]; exact HC61.out
              by_cases h62 : c2 = 61
              · obtain ⟨e5, e5'⟩ := is61 h62
                obtain ⟨hN4, hR⟩ := hg3.done1 (by rw [hc2, h62]) hc3
                have HR := Lib.hid hR
                clear hR h62 h2 hk2 hk3 hc2 hg3 hc3
                go_wp2_with (go_at_call 33; (with_reducible refine HNM.out.mono ?_); rintro e w2 ⟨rfl, rfl⟩)
                go_ret2
                refine gr_some HR.out ?_ rfl (by simp)
                simp only [bv, List.map_cons, List.map_nil]
                rw [tn (by omega)]
                simp
              · obtain ⟨e5, e5'⟩ := ne61 h62
                have hc2' : l[2]? ≠ some 61 := by rw [hc2]; intro h; exact h62 (Option.some.inj h)
                by_cases hz : N % 4 = 0
                · obtain ⟨e4, e4'⟩ := eqB (show (N : Int) % 4 = 0 by omega)
                  obtain ⟨hN4, hR⟩ := hg3.done2 hc2' hc3 hz
                  have HR := Lib.hid hR
                  clear hR h2 hk2 hk3 hc2 hg3 hc3 hc2' h62 hz
                  go_wp2_with (go_at_call 33; (with_reducible refine HNM.out.mono ?_); rintro e w2 ⟨rfl, rfl⟩)
                  go_ret2
                  refine gr_some HR.out ?_ rfl (by simp)
                  simp only [bv, List.map_cons, List.map_nil]
                  rw [tn (by omega), tn (by omega)]
                  simp
                · obtain ⟨e4, e4'⟩ := neB (show (N : Int) % 4 ≠ 0 by omega)
                  have HR := Lib.hid (HG.out.stop (by have := H4.out; omega) HC.out (.inl HV.out) (.inr (.inr (.inr ⟨hk3, hc2', hz⟩))))
                  clear h2 hk2 hk3 hc2 hg3 hc3 hc2' h62 hz
                  go_wp2_with (go_at_call 33; (with_reducible refine HNM.out.mono ?_); rintro e w2 ⟨rfl, rfl⟩)
                  go_ret2
                  exact gr_none HR.out
        · obtain ⟨hne, hne'⟩ := ne61 h61
          have HR := Lib.hid (HG.out.stop (by have := H4.out; omega) HC.out (.inl HV.out) (.inl h61))
          clear h61
          go_wp2_with (go_at_call 33; (with_reducible refine HNM.out.mono ?_); rintro e w2 ⟨rfl, rfl⟩)
          go_ret2
          exact gr_none HR.out
      · have HV := Lib.hid hv
        have hv64 := nu_lt hv
        have h61 : c ≠ 61 := by rintro rfl; rw [nu_61] at hv; cases hv
        have HNU := Lib.hid (show nuI c = (v : Int) by unfold nuI; rw [hv]; rfl)
        have HNM := Lib.hid (number_any c w)
        rw [HNU.out] at HNM
        clear hv
        by_cases hk3 : k < 3
        · have e1 : decide ((k : Int) < 3) = true := decide_eq_true (by omega)
          have HP := Lib.hid (HG.out.next HC.out HV.out (.inl hk3))
          clear h61 hk3
          go_wp2_with (go_at_call 33; (with_reducible refine HNM.out.mono ?_); rintro e w2 ⟨rfl, rfl⟩)
          go_round
          case rel => exact ⟨k + 1, 64 * N + v, by go_num, by go_num, HP.out⟩
          case measure => simp [intOf]; omega
        · have hk3' : k = 3 := by omega
          have e1 : decide ((k : Int) < 3) = false := decide_eq_false (by omega)
          obtain ⟨c2, hc2⟩ : ∃ c2, l[2]? = some c2 := ⟨_, List.getElem?_eq_getElem (by rw [← HSZ.out]; omega)⟩
          have h2s : 2 < s.size := by omega
          have hx2 : s[2] = c2 := byte_at HL.out hc2 h2s
          by_cases h62 : c2 = 61
          · obtain ⟨e5, e5'⟩ := is61 h62
            obtain ⟨hne, hne'⟩ := ne61 h61
            have HR := Lib.hid (HG.out.stop (by have := H4.out; omega) HC.out (.inr ⟨hk3', by rw [hc2, h62]⟩) (.inl h61))
            clear h61 h62 hk3 hk3' hc2
            go_wp2_with (go_at_call 33; (with_reducible refine HNM.out.mono ?_); rintro e w2 ⟨rfl, rfl⟩)
            go_ret2
            exact gr_none HR.out
          · obtain ⟨e5, e5'⟩ := ne61 h62
            have HP := Lib.hid (HG.out.next HC.out HV.out (.inr ⟨hk3', by rw [hc2]; intro h; exact h62 (Option.some.inj h)⟩))
            clear h61 hk3 hk3' hc2 h62
            go_wp2_with (go_at_call 33; (with_reducible refine HNM.out.mono ?_); rintro e w2 ⟨rfl, rfl⟩)
            go_round
            case rel => exact ⟨k + 1, 64 * N + v, by go_num, by go_num, HP.out⟩
            case measure => simp [intOf]; omega
    · have hks : k = s.size := by have := HSZ.out; omega
      have d1 : decide ((k : Int) < (s.size : Int)) = false := decide_eq_false (by omega)
      have d2 : decide (k < s.size) = false := decide_eq_false (by omega)
      by_cases h4 : k < 4
      · have e1 : decide ((s.size : Int) < 4) = true := decide_eq_true (by omega)
        have e1' : decide (s.size < 4) = true := decide_eq_true (by omega)
        have hr := HG.out.short (by rw [hks, HSZ.out]) h4
        rw [hks] at hr
        have HR := Lib.hid hr
        clear hks h4 hr hlt
        go_wp2
        go_ret2
        exact gr_none HR.out
      · have hk : k = 4 := by omega
        have e1 : decide ((s.size : Int) < 4) = false := decide_eq_false (by omega)
        have e1' : decide (s.size < 4) = false := decide_eq_false (by omega)
        have HR := Lib.hid ((show GS l 4 N by rw [← hk]; exact HG.out).full)
        clear hks h4 hk hlt
        go_wp2
        go_ret2
        refine gr_some HR.out ?_ rfl (by simp)
        simp only [bv, List.map_cons, List.map_nil]
        rw [tn (by omega), tn (by omega), tn (by omega)]
        simp
end Go.Proofs.Ytddgmpmfdgfcdaa
