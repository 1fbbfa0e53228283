/-
  What is proved here: contracts of One and All of the reference of layer 16; condition: numbers in the ranges of their types.
-/
import Derived.Test.YtaeboneddndfkaaDoorFRef
namespace Go.Proofs.YtaeboneddndfkaaDoor
open Go.RowKit Tg

/-- Between two rounds: the widths before w will not do. -/
def PK (f : Int → Bool) (w : Int) : Prop := w = 1 ∨ (w = 2 ∧ f 1 = false) ∨ (w = 4 ∧ f 1 = false ∧ f 2 = false) ∨ (w = 8 ∧ f 1 = false ∧ f 2 = false ∧ f 4 = false) ∨ (w = 16 ∧ f 1 = false ∧ f 2 = false ∧ f 4 = false ∧ f 8 = false)
theorem PK.bd {f : Int → Bool} {w : Int} (h : PK f w) : 1 ≤ w ∧ w ≤ 16 := by unfold PK at h; omega
theorem PK.isW {f : Int → Bool} {w : Int} (h : PK f w) (h8 : w ≤ 8) : isW w := by unfold PK at h; unfold Go.Proofs.YtaeboneddndfkaaDoor.isW; omega
theorem PK.step {f : Int → Bool} {w : Int} (h : PK f w) (h8 : w ≤ 8) (hf : f w = false) : PK f (2 * w) := by
  rcases h with rfl | ⟨rfl, h1⟩ | ⟨rfl, h1, h2⟩ | ⟨rfl, h1, h2, h4⟩ | ⟨rfl, _⟩
  · exact .inr (.inl ⟨rfl, hf⟩)
  · exact .inr (.inr (.inl ⟨rfl, h1, hf⟩))
  · exact .inr (.inr (.inr (.inl ⟨rfl, h1, h2, hf⟩)))
  · exact .inr (.inr (.inr (.inr ⟨rfl, h1, h2, h4, hf⟩)))
  · omega
theorem PK.hit {f : Int → Bool} {w : Int} (h : PK f w) (h8 : w ≤ 8) (hf : f w = true) : pick f = w := by
  unfold pick
  rcases h with rfl | ⟨rfl, h1⟩ | ⟨rfl, h1, h2⟩ | ⟨rfl, h1, h2, h4⟩ | ⟨rfl, _⟩
  · rw [if_pos hf]
  · rw [if_neg (by simp [h1]), if_pos hf]
  · rw [if_neg (by simp [h1]), if_neg (by simp [h2]), if_pos hf]
  · rw [if_neg (by simp [h1]), if_neg (by simp [h2]), if_neg (by simp [h4]), if_pos hf]
  · omega
theorem PK.miss {f : Int → Bool} {w : Int} (h : PK f w) (h8 : ¬ w ≤ 8) : pick f = 0 := by
  unfold pick
  rcases h with rfl | ⟨rfl, h1⟩ | ⟨rfl, h1, h2⟩ | ⟨rfl, h1, h2, h4⟩ | ⟨rfl, h1, h2, h4, hh⟩
  · omega
  · omega
  · omega
  · omega
  · rw [if_neg (by simp [h1]), if_neg (by simp [h2]), if_neg (by simp [h4]), if_neg (by simp [hh])]
theorem okA_iff {x : Int} : okA x = true ↔ 0 ≤ x ∧ x ≤ 1073741824 := by unfold okA; simp
theorem rOne_any (v : V3) (at' idx : Int) (W : World) (hv : okV v) :
    Calls Tryd.prog 12 #[v.agg, .int .i64 at', .int .i64 idx] W fun e w' => e = .returned (.int .i64 (oneV v at' idx)) ∧ Below W.heap.size W w' := by
  have HV := Lib.hid hv
  obtain ⟨t, vw, n⟩ := v
  obtain ⟨c0, c1, c2⟩ := box3 W ⟨t, vw, n⟩
  simp only at c0 c1 c2
  obtain ⟨W1, hW1⟩ : ∃ W1, W1 = W.alloc (.cells #[.int .i64 t, .int .i64 vw, .int .u64 n] 24) := ⟨_, rfl⟩
  have HB : Hid (Below W.heap.size W W1) := Lib.hid (by rw [hW1]; exact al0 _ _)
  have hlt : W.heap.size < W1.heap.size := by rw [hW1]; simp
  have HLT := Lib.hid hlt
  rw [← hW1] at c0 c1 c2
  have HC := Lib.hid (show ∀ w, Below W1.heap.size W1 w → w.cell? ⟨W.heap.size, 0, none⟩ = some (.int .i64 t) ∧ w.cell? ⟨W.heap.size, 1, none⟩ = some (.int .i64 vw) ∧ w.cell? ⟨W.heap.size, 2, none⟩ = some (.int .u64 n) from
    fun w hb => ⟨(hb.cell (p := ⟨_, 0, none⟩) hlt).trans c0, (hb.cell (p := ⟨_, 1, none⟩) hlt).trans c1, (hb.cell (p := ⟨_, 2, none⟩) hlt).trans c2⟩)
  unfold oneV
  clear c0 c1 c2 hlt hv
  have out : ∀ r, (at' < 0 ∨ 1073741824 < at' ∨ idx < 0 ∨ 1073741824 < idx) → r = (0 : Int) → Calls Tryd.prog 12 #[(⟨t, vw, n⟩ : V3).agg, .int .i64 at', .int .i64 idx] W fun e w' => e = .returned (.int .i64 r) ∧ Below W.heap.size W w' := by
    intro r h hr
    subst hr
    by_cases h0 : at' < 0
    · go_enter Tryd.func12, Tryd.ntmps12
      go_upto_region 1 with fail
      simp only [← hW1]
      clear hW1 h
      go_wp2_with fail
      go_ret
      exact ⟨rfl, HB.out⟩
    · by_cases h1 : 1073741824 < at'
      · go_enter Tryd.func12, Tryd.ntmps12
        go_upto_region 1 with fail
        simp only [← hW1]
        clear hW1 h
        go_wp2_with fail
        go_ret
        exact ⟨rfl, HB.out⟩
      · by_cases h2 : idx < 0
        · go_enter Tryd.func12, Tryd.ntmps12
          go_upto_region 1 with fail
          simp only [← hW1]
          clear hW1 h
          go_wp2_with fail
          go_ret
          exact ⟨rfl, HB.out⟩
        · have h3 : 1073741824 < idx := by omega
          go_enter Tryd.func12, Tryd.ntmps12
          go_upto_region 1 with fail
          simp only [← hW1]
          clear hW1 h
          go_wp2_with fail
          go_ret
          exact ⟨rfl, HB.out⟩
  by_cases hA : okA at' = true ∧ okA idx = true
  · rw [if_pos hA]
    obtain ⟨ha, hi⟩ := hA
    rw [okA_iff] at ha hi
    obtain ⟨a0, a1⟩ := ha
    obtain ⟨i0, i1⟩ := hi
    have b0 : ¬ at' < 0 := by omega
    have b1 : ¬ 1073741824 < at' := by omega
    have b2 : ¬ idx < 0 := by omega
    have b3 : ¬ 1073741824 < idx := by omega
    obtain ⟨f, hf⟩ : ∃ f, fitV ⟨t, vw, n⟩ at' idx = f := ⟨_, rfl⟩
    have HF : Hid (∀ w W', isW w → Below W.heap.size W W' → Calls Tryd.prog 28 #[.agg #[.int .i64 t, .int .i64 vw, .int .u64 n], .int .i64 at', .int .i64 idx, .int .i64 w] W' fun e w' => e = .returned (.bool (f w)) ∧ Below W'.heap.size W' w') := Lib.hid fun w W' hw _ => by rw [← hf]; exact fits_any ⟨t, vw, n⟩ at' idx w W' HV.out a0 a1 i0 i1 hw
    rw [hf]
    clear out hf a0 a1 i0 i1
    go_enter Tryd.func12, Tryd.ntmps12
    go_upto_region 1 with fail
    simp only [← hW1]
    clear hW1
    go_wp2_with fail
    go_loopw [7] (fun x wr => ∃ w : Int, x = .int .i64 w ∧ Hid (PK f w) ∧ Hid (Below W1.heap.size W1 wr)) (fun x _ => (16 - intOf x).toNat)
    case atStart => exact ⟨1, rfl, Lib.hid (.inl rfl), Lib.hid (Below.refl _ _)⟩
    case round =>
      obtain ⟨w, rfl, HK, HR⟩ := hrel
      have hbd := HK.out.bd
      obtain ⟨w0, w1⟩ := hbd
      by_cases h8 : w ≤ 8
      · obtain ⟨z0, z1, z2⟩ := HC.out _ HR.out
        have HFW := Lib.hid (HF.out w wr (HK.out.isW h8) (HB.out.trans (HR.out.mono (by have := HB.out.size; omega))))
        cases hfw : f w with
        | true =>
          rw [hfw] at HFW
          have HP := Lib.hid (HK.out.hit h8 hfw)
          clear hfw
          go_wp2_with (go_at_call 28; (with_reducible refine HFW.out.mono ?_); rintro e w2 ⟨rfl, hb⟩; have HB2 := Lib.hid hb; clear hb)
          go_ret
          exact ⟨by rw [HP.out]; rfl, (HB.out.trans (HR.out.mono HB.out.size)).trans (HB2.out.mono (Nat.le_trans HB.out.size HR.out.size))⟩
        | false =>
          rw [hfw] at HFW
          have HP := Lib.hid (HK.out.step h8 hfw)
          clear hfw
          go_wp2_with (go_at_call 28; (with_reducible refine HFW.out.mono ?_); rintro e w2 ⟨rfl, hb⟩; have HB2 := Lib.hid hb; clear hb)
          go_roundw
          case rel => exact ⟨2 * w, rfl, HP, Lib.hid (HR.out.trans (HB2.out.mono HR.out.size))⟩
          case measure => simp [intOf]; omega
      · have HP := Lib.hid (HK.out.miss h8)
        go_wp2_with fail
        go_ret
        exact ⟨by rw [HP.out]; rfl, HB.out.trans (HR.out.mono HB.out.size)⟩
  · rw [if_neg hA]
    refine out _ ?_ rfl
    rw [okA_iff, okA_iff] at hA
    omega
end Go.Proofs.YtaeboneddndfkaaDoor
