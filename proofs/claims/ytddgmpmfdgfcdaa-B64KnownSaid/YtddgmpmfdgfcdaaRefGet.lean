/-
  What is proved here: the contract of the reference's Get; condition: a string of at most 60000 bytes.
-/
import Derived.Test.YtddgmpmfdgfcdaaRefGW
namespace Go.Proofs.Ytddgmpmfdgfcdaa
open Go.RowKit Bs

theorem grp_take (r : List UInt8) : grp (r.take 4) = grp r := by
  rcases r with _ | ⟨c0, _ | ⟨c1, _ | ⟨c2, _ | ⟨c3, t⟩⟩⟩⟩
  · rfl
  · rfl
  · rfl
  · rfl
  · exact (grp_four c0 c1 c2 c3 t).symm
theorem grp_is4 {l p : List UInt8} {n : Nat} (h : grp l = (some p, n)) : n = 4 := by
  have hl := (grp_len h).1
  rcases l with _ | ⟨c0, _ | ⟨c1, _ | ⟨c2, _ | ⟨c3, t⟩⟩⟩⟩
  · simp at hl
  · simp at hl
  · simp at hl
  · simp at hl
  · exact (grp_some h).1
theorem ext_mid (s : ByteArray) (k m : Nat) : (s.extract k m).data.toList = (s.data.toList.drop k).take (m - k) := by
  rw [ByteArray.data_extract, Array.toList_extract, List.extract_eq_take_drop]
/-- Between two groups of the reference. -/
def RI (w0 : World) (l : List UInt8) (v : Value) (k : Nat) (acc : List UInt8) (w : World) : Prop :=
  k % 4 = 0 ∧ acc.length ≤ k / 4 * 3 ∧ (acc.length % 3 = 0 → acc.length = k / 4 * 3) ∧ fin acc k (l.drop k) = dec l ∧ Own w w0.heap.size v acc ∧ Below w0.heap.size w0 w
theorem ri_done {w0 w : World} {l acc : List UInt8} {v : Value} {k : Nat} (h : RI w0 l v k acc w) (hk : l.length ≤ k) : DR w0 l (.returned (.tuple #[v, .int .i64 0, .int .i64 0])) w := by
  obtain ⟨_, _, _, hf, ho, hb⟩ := h
  rw [List.drop_of_length_le hk, fin_nil] at hf
  refine ⟨v, ?_, ?_, hb⟩
  · rw [← hf]; rfl
  · rw [← hf]; exact ho
theorem ownU_len {w : World} {B n : Nat} {v : Value} {xs : List UInt8} (h : w.ownsRow B 5 1 v n (bv xs)) (hn : n = xs.length) : Own w B v xs := by subst hn; exact h
set_option maxHeartbeats 4000000 in
set_option maxRecDepth 100000 in
theorem refGet_any (s : ByteArray) (w : World) (hs : s.size ≤ 60000) :
    Calls Try.prog 18 #[.string s] w (DR w s.data.toList) := by
  obtain ⟨l, hl⟩ : ∃ l, s.data.toList = l := ⟨_, rfl⟩
  rw [hl]
  have HSZ := Lib.hid (show s.size = l.length by rw [Lib.size_eq, hl])
  have HL := Lib.hid hl
  clear hl
  go_enter Try.func18, Try.ntmps18
  go_wp2
  go_loopw [5, 6] (fun v i wr => ∃ (k : Nat) (acc : List UInt8) (A : Option Addr) (c : Nat), i = .int .i64 k ∧ v = .slice A acc.length c ∧ k ≤ s.size ∧ Hid (RI w l v k acc wr)) (fun _ i _ => s.size + 1 - (intOf i).toNat)
  case atStart => exact ⟨0, [], none, 0, rfl, rfl, Nat.zero_le _, ⟨rfl, by simp, fun _ => rfl, by rw [List.drop_zero]; exact dec_fin l, World.ownsRow_nil _ _ _ _, Below.refl _ _⟩⟩
  case round =>
    obtain ⟨k, acc, A, c, rfl, rfl, hks, HI⟩ := hrel
    obtain ⟨h4, hle, hmod, -⟩ := HI.out
    by_cases hlt : k < s.size
    · have d1 : decide ((k : Int) < (s.size : Int)) = true := decide_eq_true (by omega)
      have d2 : decide (k < s.size) = true := decide_eq_true (by omega)
      have hne : l.drop k ≠ [] := by
        intro h
        have := congrArg List.length h
        rw [List.length_drop, ← HSZ.out] at this
        simp at this
        omega
      have HNE := Lib.hid hne
      clear hne
      by_cases hm : acc.length % 3 = 0
      · have ha := hmod hm
        have d3 : decide ((acc.length : Int) < (k : Int) / 4 * 3) = false := decide_eq_false (by omega)
        obtain ⟨m, hmm⟩ : ∃ m, min (k + 4) s.size = m := ⟨_, rfl⟩
        have m1 : min ((k : Int) + 4) (s.size : Int) = (m : Int) := by omega
        have m2 : min (s.size : Int) ((k : Int) + 4) = (m : Int) := by omega
        have m3 : k ≤ m ∧ m ≤ s.size := by omega
        obtain ⟨m4, m5⟩ := m3
        have m6 : (k : Int) ≤ (m : Int) := by omega
        have m7 : (m : Int) ≤ (s.size : Int) := by omega
        have hlst : (s.extract k m).data.toList = (l.drop k).take 4 := by
          rw [ext_mid, HL.out]
          rcases Nat.le_total (k + 4) s.size with h | h
          · rw [show m - k = 4 by omega]
          · rw [List.take_of_length_le (by rw [List.length_drop, ← HSZ.out]; omega), List.take_of_length_le (by rw [List.length_drop, ← HSZ.out]; omega)]
        have HC := Lib.hid (group_any (s.extract k m) _ hlst (by rw [List.length_take]; omega) wr)
        unfold GR at HC
        rw [grp_take] at HC
        have HM := Lib.hid hm
        clear hm hlst hmm
        rcases hgr : grp (l.drop k) with ⟨_ | p, n⟩
        · have hn4 := grp_none_lt hgr
          have HGR := Lib.hid hgr
          rw [hgr] at HC
          have d4 : decide ((n : Int) < 4) = true := decide_eq_true (by omega)
          clear hgr ha hle hmod h4
          go_wp2_with (go_at_call 28; (with_reducible refine HC.out.mono ?_); rintro e w2 ⟨v2, rfl, hr2, hb2⟩; obtain ⟨A2, n2, c2, rfl, hr2⟩ := hr2; have HB2 := Lib.hid hb2; clear hr2 hb2)
          go_ret3
          have h := HI.out
          exact dr_err (by rw [← h.2.2.2.1, fin_err HM.out HNE.out HGR.out]) (h.2.2.2.2.2.trans (HB2.out.mono h.2.2.2.2.2.size))
        · have hpl := grp_len hgr
          rw [List.length_drop, ← HSZ.out] at hpl
          have hn4 : n = 4 := grp_is4 hgr
          subst hn4
          have HGR := Lib.hid hgr
          have HA := Lib.hid ha
          have H4 := Lib.hid h4
          have hp3 : p.length ≤ 3 := by omega
          rw [hgr] at HC
          clear hgr ha hmod h4
          go_wp2_with (first
            | (go_at_call 28; (with_reducible refine HC.out.mono ?_); rintro e w2 ⟨v2, rfl, hr2, hb2⟩; obtain ⟨A2, n2, c2, rfl, hr2⟩ := hr2; have hn2 : n2 = p.length := hr2.1.symm; subst hn2; have HB2 := Lib.hid hb2; have HR2 := Lib.hid hr2; have HO2 := Lib.hid (own_below HI.out.2.2.2.2.1 hb2 (Nat.le_refl _)); clear hr2 hb2)
            | (at_builtin; refine wpList_appR (xs := acc) (ys := p) rfl (.tmp 39) (.tmp 40) rfl rfl rfl HO2.out HR2.out (by omega) (Nat.le_trans HI.out.2.2.2.2.2.size HB2.out.size) ?_; intro v3 w3 hown3 hgr3; have HO3 := Lib.hid hown3; have HG3 := Lib.hid hgr3; clear hown3 hgr3))
          go_roundw
          case rel =>
            obtain ⟨A3, c3, hv3⟩ := own_shape (ownU_len (xs := acc ++ p) HO3.out (by rw [List.length_append]))
            have h := HI.out
            have hf := h.2.2.2.1
            rw [fin_ok HM.out HGR.out, List.drop_drop] at hf
            have ha := HA.out
            have h4 := H4.out
            refine ⟨k + 4, acc ++ p, A3, c3, by go_num, hv3, by omega, by omega, ?_, ?_, hf, ?_, ?_⟩
            · rw [List.length_append]; omega
            · rw [List.length_append]; omega
            · exact ownU_len HO3.out (by rw [List.length_append])
            · exact (h.2.2.2.2.2.trans (HB2.out.mono h.2.2.2.2.2.size)).grown HG3.out (Nat.le_trans h.2.2.2.2.2.size HB2.out.size) (fun j hj => (HO2.out.lt j hj).1)
          case measure => simp [intOf]; omega
      · have d3 : decide ((acc.length : Int) < (k : Int) / 4 * 3) = true := decide_eq_true (by omega)
        have HM := Lib.hid hm
        clear hm hle hmod h4
        go_wp2
        go_ret3
        have h := HI.out
        exact dr_err (by rw [← h.2.2.2.1, fin_pad HM.out HNE.out]) h.2.2.2.2.2
    · have hk : k = s.size := by omega
      have d1 : decide ((k : Int) < (s.size : Int)) = false := decide_eq_false (by omega)
      have d2 : decide (k < s.size) = false := decide_eq_false (by omega)
      have HK := Lib.hid hk
      clear hlt hk hle hmod h4
      go_wp2
      go_ret3
      exact ri_done HI.out (by rw [HK.out, HSZ.out]; exact Nat.le_refl _)
end Go.Proofs.Ytddgmpmfdgfcdaa
