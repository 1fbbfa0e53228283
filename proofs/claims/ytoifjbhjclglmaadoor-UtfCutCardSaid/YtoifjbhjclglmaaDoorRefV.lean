/-
  What is proved here: the contract of the reference's Valid; conditions: those that each fact states.
-/
import Derived.Test.YtoifjbhjclglmaaDoorRefX
namespace Go.Proofs.YtoifjbhjclglmaaDoor
open Go.RowKit Ut Go.Lib

theorem nx_valid {l : List UInt8} (hne : l ≠ []) : (nx l = (0, 0, false) ∧ validD l = false) ∨ (∃ r n : Nat, nx l = (r, n, true) ∧ 0 < n ∧ n ≤ l.length ∧ validD l = validD (l.drop n)) := by
  have hd : dec l = decodeL l := by unfold dec; rw [if_neg hne]
  have hw := decodeL_width l
  by_cases hv : (decodeL l).1 = 65533 ∧ (decodeL l).2 = 1
  · exact Or.inl ⟨by unfold nx; rw [hd, if_pos ⟨hv.1, by omega⟩], by rw [validD_step l hne, if_pos hv]⟩
  · obtain ⟨hsc, henc, hle, h1⟩ := valid_head hne hv
    refine Or.inr ⟨(decodeL l).1, (decodeL l).2, ?_, by omega, hle, by rw [validD_step l hne, if_neg hv]⟩
    have h5 : l = enc (decodeL l).1 ++ l.drop (decodeL l).2 := by rw [henc, List.take_append_drop]
    have hlen : (enc (decodeL l).1).length = (decodeL l).2 := by rw [henc, List.length_take]; omega
    have h8 := nx_enc hsc (l.drop (decodeL l).2)
    rw [← h5, hlen] at h8
    exact h8
theorem cut_at (l : List UInt8) (k n m : Nat) (hn : k + n ≤ l.length) (hm : (l.drop k).length = m) : (str (l.drop k)).extract n m = str (l.drop (k + n)) := by
  have h : l.drop k = (l.drop k).take n ++ l.drop (k + n) := by
    rw [← List.drop_drop, List.take_append_drop]
  have h2 := cut_from ((l.drop k).take n) (l.drop (k + n)) n m (by rw [List.length_take, List.length_drop]; omega) (by rw [← h]; exact hm)
  rw [← h] at h2
  exact h2
def VH (w : World) (l : List UInt8) (v : Value) (wr : World) : Prop := ∃ k, k ≤ l.length ∧ v = .string (str (l.drop k)) ∧ Hid (validD (l.drop k) = validD l) ∧ Hid (Below w.heap.size w wr)
set_option maxHeartbeats 2000000 in
set_option maxRecDepth 1000000 in
theorem refValid_any (s : ByteArray) (w : World) :
    Calls Tryd.prog 19 #[.string s] w fun e w' => e = .returned (.bool (validD s.data.toList)) ∧ Below w.heap.size w w' := by
  obtain ⟨l, hl⟩ : ∃ l, s.data.toList = l := ⟨_, rfl⟩
  have hs : s = str l := by subst hl; exact (str_list s).symm
  rw [hl]
  subst hs
  clear hl
  go_enter Tryd.func19, Tryd.ntmps19
  go_wp2
  go_loopw [0] (fun v wr => VH w l v wr) (fun v _ => match v with | .string t => t.size | _ => 0)
  case atStart => exact ⟨0, by omega, rfl, rfl, Below.refl _ _⟩
  case round =>
    obtain ⟨k, hk, rfl, HV, HB⟩ := hrel
    have hsz : (str (l.drop k)).size = l.length - k := by rw [str_size, List.length_drop]
    by_cases hend : k = l.length
    · subst hend
      have h0 : (str (l.drop l.length)).size = 0 := by rw [hsz]; omega
      have hv := HV.out
      rw [List.drop_length, validD_nil] at hv
      have HV2 := Lib.hid hv.symm
      clear hsz hv HV
      go_wp2
      go_ret
      exact ⟨by rw [HV2.out]; rfl, HB.out⟩
    · have hne : l.drop k ≠ [] := by intro h; have := congrArg List.length h; simp at this; omega
      obtain ⟨z, hz⟩ : ∃ z, str (l.drop k) = z := ⟨_, rfl⟩
      have hzs : z.size = l.length - k := by rw [← hz]; exact hsz
      have C : ∀ W, _ := fun W => refNext_any z W
      have hzd : z.data.toList = l.drop k := by rw [← hz, str_data]
      have hzp : 0 < z.size := by omega
      rcases nx_valid hne with ⟨hx, hf⟩ | ⟨r, n, hx, hn0, hn, hf⟩
      · simp only [hzd, hx, nxR] at C
        have HC := Lib.hid C
        have hv := HV.out
        rw [hf] at hv
        have HV2 := Lib.hid hv.symm
        rw [hz]
        clear C hx hf hne hsz hk hend hzd hz hzs HV hv
        go_wp2_with (go_at_call 13; (with_reducible refine (HC.out _).mono ?_); rintro e w1 ⟨rfl, hb⟩; have HB1 := Lib.hid hb; clear hb)
        go_ret
        exact ⟨by rw [HV2.out]; rfl, HB.out.trans (HB1.out.mono HB.out.size)⟩
      · simp only [hzd, hx, nxR] at C
        have HC := Lib.hid C
        have hv := HV.out
        rw [hf, List.drop_drop] at hv
        have HV2 := Lib.hid hv
        rw [List.length_drop] at hn
        have hcut : z.extract n z.size = str (l.drop (k + n)) := by rw [← hz]; exact cut_at l k n _ (by omega) (by rw [str_size])
        have HCUT := Lib.hid hcut
        have HN := Lib.hid (show k + n ≤ l.length by omega)
        have hnz : n ≤ z.size := by omega
        rw [hz]
        have HZS := Lib.hid hzs
        have HN0 := Lib.hid hn0
        clear C hx hf hne hsz hk hend hzd hz hzs HV hv hcut hn hn0
        go_wp2_with (go_at_call 13; (with_reducible refine (HC.out _).mono ?_); rintro e w1 ⟨rfl, hb⟩; have HB1 := Lib.hid hb; clear hb)
        go_round
        case rel =>
          rw [HCUT.out]
          exact ⟨k + n, HN.out, rfl, HV2.out, HB.out.trans (HB1.out.mono HB.out.size)⟩
        case measure =>
          have := HN.out
          have := HZS.out
          have := HN0.out
          rw [HCUT.out]
          simp [str_size]
          omega
  all_goals trace_state
end Go.Proofs.YtoifjbhjclglmaaDoor
