/-
  What is proved here: what holds of the reader between two bytes stays so over each byte; its text grows by at most four bytes; no program in this text; no condition but those that each fact states; and: the contracts of the reader's methods readFirst, readSecond and read: each takes the reader from one state to that of the machine; conditions: the library's two tables hold what is laid, and those that each fact states.
-/
import Derived.Test.YtodmlgbomhmbpaaGreatDoorMach
import Derived.Test.YtodmlgbomhmbpaaGreatDoorReadM
import Derived.Test.YtodmlgbomhmbpaaGreatDoorReadF
import Derived.Test.YtodmlgbomhmbpaaGreatDoorReadG
namespace Go.Proofs.YtodmlgbomhmbpaaGreatDoor
namespace Ut
open Go.Lib

theorem pow_step {code dig d : Nat} (h : code < 16 ^ dig) (hd : d < 16) : code * 16 + d < 16 ^ (dig + 1) := by
  rw [Nat.pow_succ]; omega
theorem encS_len (q : Q) (c : UInt8) : (encS q c).1.text.length ≤ q.text.length + (q.part.length + 1) := by
  unfold encS
  repeat' split
  all_goals simp
theorem den_len (q : Q) (r : Nat) : (den q r).text.length ≤ q.text.length + 4 := by
  have := enc_len r
  simp [den]; omega
theorem step_len {q : Q} (hw : WF q) (c : UInt8) : (step q c).1.text.length ≤ q.text.length + 4 := by
  have hp : q.part.length ≤ 3 := by
    by_cases h : q.st = 2
    · exact full_len (hw.p2 h).2
    · rw [hw.pn h]; simp
  unfold step
  repeat' split
  · unfold expS; split <;> simp
  · unfold itemS
    repeat' split
    · simp
    · simp
    · simp
    · have := encS_len { q with st := 2 } c; simp at this; omega
  · have := encS_len q c; omega
  · unfold escS
    repeat' split
    · simp
    · simp
    · exact den_len q _
  · unfold firstS
    repeat' split
    all_goals first | exact den_len q _ | simp
  · unfold expS; split <;> simp
  · unfold expS; split <;> simp
  · unfold secondS
    repeat' split
    all_goals first | exact den_len q _ | simp

theorem WF.to {q : Q} (hw : WF q) (h2 : q.st ≠ 2) (s : Nat) (hs : s ≤ 8) (hs2 : s ≠ 2) (h6 : 5 ≤ s → s ≤ 7 → 55296 ≤ q.high) : WF { q with st := s } :=
  { st8 := hs, p2 := fun h => absurd h hs2, pn := fun _ => hw.pn h2, d4 := hw.d4, c4 := hw.c4, h5 := hw.h5, h6 := h6 }
theorem WF.done {q : Q} (hw : WF q) (t : List UInt8) : WF { q with st := 1, text := t, part := [] } :=
  { st8 := by show 1 ≤ 8; decide, p2 := fun h => absurd h (by show 1 ≠ 2; decide), pn := fun _ => rfl, d4 := hw.d4, c4 := hw.c4, h5 := hw.h5, h6 := fun h => absurd h (by show ¬ 5 ≤ 1; decide) }
theorem WF.inc {q : Q} (hw : WF q) (p : List UInt8) (h0 : 0 < p.length) (hf : full p = false) : WF { q with st := 2, part := p } :=
  { st8 := by show 2 ≤ 8; decide, p2 := fun _ => ⟨h0, hf⟩, pn := fun h => absurd rfl h, d4 := hw.d4, c4 := hw.c4, h5 := hw.h5, h6 := fun h => absurd h (by show ¬ 5 ≤ 2; decide) }
theorem encS_wf {q : Q} (hw : WF q) (h2 : q.st = 2) (c : UInt8) (he : (encS q c).2 = 0) : WF (encS q c).1 := by
  unfold encS at he ⊢
  split at he
  · rename_i hf
    rw [if_pos hf]
    have := hw.inc (q.part ++ [c]) (by simp) hf
    rw [← h2] at this
    exact this
  · rename_i hf
    split at he
    · cases he
    · rename_i hv
      rw [if_neg hf, if_neg hv]
      exact hw.done _
theorem den_wf {q : Q} (hw : WF q) (h2 : q.st ≠ 2) (r : Nat) : WF (den q r) :=
  { st8 := by show 1 ≤ 8; decide, p2 := fun h => absurd h (by show 1 ≠ 2; decide), pn := fun _ => hw.pn h2, d4 := by show 0 < 4; decide, c4 := by show 0 < 16 ^ 0; decide, h5 := hw.h5, h6 := fun h => absurd h (by show ¬ 5 ≤ 1; decide) }
theorem WF.more {q : Q} (hw : WF q) (h2 : q.st ≠ 2) (c d : Nat) (hd : d < 4) (hc : c < 16 ^ d) : WF { q with code := c, dig := d } :=
  { st8 := hw.st8, p2 := fun h => absurd h h2, pn := fun _ => hw.pn h2, d4 := hd, c4 := hc, h5 := hw.h5, h6 := hw.h6 }
theorem WF.high {q : Q} (hw : WF q) (h2 : q.st ≠ 2) (x : Nat) (h1 : 55296 ≤ x) (hx : x < 56320) : WF { q with st := 5, code := 0, dig := 0, high := x } :=
  { st8 := by show 5 ≤ 8; decide, p2 := fun h => absurd h (by show 5 ≠ 2; decide), pn := fun _ => hw.pn h2, d4 := by show 0 < 4; decide, c4 := by show 0 < 16 ^ 0; decide, h5 := hx, h6 := fun _ _ => h1 }
theorem expS_wf {q : Q} (hw : WF q) (h2 : q.st ≠ 2) (c o n : Nat) (hs : n ≤ 8) (hs2 : n ≠ 2) (h6 : 5 ≤ n → n ≤ 7 → 55296 ≤ q.high) (he : (expS q c o n).2 = 0) : WF (expS q c o n).1 := by
  unfold expS at he ⊢
  split at he
  · rename_i h; rw [if_pos h]
    exact hw.to h2 n hs hs2 h6
  · cases he
theorem step_wf {q : Q} (hw : WF q) (h8 : q.st ≠ 8) (c : UInt8) (he : (step q c).2 = 0) : WF (step q c).1 := by
  have hle := hw.st8
  unfold step at he ⊢
  rcases (show q.st = 0 ∨ q.st = 1 ∨ q.st = 2 ∨ q.st = 3 ∨ q.st = 4 ∨ q.st = 5 ∨ q.st = 6 ∨ q.st = 7 by omega) with hs | hs | hs | hs | hs | hs | hs | hs
  · rw [if_pos hs] at he ⊢
    exact expS_wf hw (by omega) _ _ _ (by decide) (by decide) (fun h => absurd h (by decide)) he
  · rw [if_neg (by omega), if_pos hs] at he ⊢
    unfold itemS at he ⊢
    by_cases h1 : c.toNat = 34
    · rw [if_pos h1]; exact hw.to (by omega) 8 (by decide) (by decide) (fun _ h => absurd h (by decide))
    · rw [if_neg h1] at he ⊢
      by_cases h2 : c.toNat = 92
      · rw [if_pos h2]; exact hw.to (by omega) 3 (by decide) (by decide) (fun h => absurd h (by decide))
      · rw [if_neg h2] at he ⊢
        by_cases h3 : c.toNat < 32
        · rw [if_pos h3] at he; cases he
        · rw [if_neg h3] at he ⊢
          unfold encS at he ⊢
          split at he
          · rename_i hf
            rw [if_pos hf]
            exact hw.inc _ (by simp) hf
          · rename_i hf
            split at he
            · cases he
            · rename_i hv
              rw [if_neg hf, if_neg hv]
              exact hw.done _
  · rw [if_neg (by omega), if_neg (by omega), if_pos hs] at he ⊢
    exact encS_wf hw hs c he
  · rw [if_neg (by omega), if_neg (by omega), if_neg (by omega), if_pos hs] at he ⊢
    unfold escS at he ⊢
    by_cases h1 : c.toNat = 117
    · rw [if_pos h1]; exact hw.to (by omega) 4 (by decide) (by decide) (fun h => absurd h (by decide))
    · rw [if_neg h1] at he ⊢
      cases hx : esc c.toNat with
      | none => rw [hx] at he; cases he
      | some d => exact den_wf hw (by omega) _
  · rw [if_neg (by omega), if_neg (by omega), if_neg (by omega), if_neg (by omega), if_pos hs] at he ⊢
    unfold firstS at he ⊢
    cases hx : dv c.toNat with
    | none => rw [hx] at he; cases he
    | some d =>
      rw [hx] at he
      dsimp only at he ⊢
      have hps := pow_step hw.c4 (dv_lt hx)
      have h4 := hw.d4
      split at he
      · cases he
      · rename_i h1; rw [if_neg h1]
        split
        · exact hw.more (by omega) _ _ (by omega) hps
        · split
          · rename_i h3
            exact hw.high (by omega) _ h3.1 h3.2
          · exact den_wf hw (by omega) _
  · rw [if_neg (by omega), if_neg (by omega), if_neg (by omega), if_neg (by omega), if_neg (by omega), if_pos hs] at he ⊢
    exact expS_wf hw (by omega) _ _ _ (by decide) (by decide) (fun _ _ => hw.h6 (by omega) (by omega)) he
  · rw [if_neg (by omega), if_neg (by omega), if_neg (by omega), if_neg (by omega), if_neg (by omega), if_neg (by omega), if_pos hs] at he ⊢
    exact expS_wf hw (by omega) _ _ _ (by decide) (by decide) (fun _ _ => hw.h6 (by omega) (by omega)) he
  · rw [if_neg (by omega), if_neg (by omega), if_neg (by omega), if_neg (by omega), if_neg (by omega), if_neg (by omega), if_neg (by omega)] at he ⊢
    unfold secondS at he ⊢
    cases hx : dv c.toNat with
    | none => rw [hx] at he; cases he
    | some d =>
      rw [hx] at he
      dsimp only at he ⊢
      have hps := pow_step hw.c4 (dv_lt hx)
      have h4 := hw.d4
      split at he
      · cases he
      · rename_i h1; rw [if_neg h1]
        split
        · exact hw.more (by omega) _ _ (by omega) hps
        · exact den_wf hw (by omega) _
end Ut
end Go.Proofs.YtodmlgbomhmbpaaGreatDoor
namespace Go.Proofs.YtodmlgbomhmbpaaGreatDoor
open Go.RowKit Ut Go.Lib

theorem lo_le {code dig : Nat} (h : code < 16 ^ dig) (hd : dig = 1 ∨ dig = 2 ∨ dig = 3 ∨ dig = 4) : lo code dig ≤ 65535 ∧ lo code dig ≤ hi code dig := by
  unfold lo hi
  rcases hd with rfl | rfl | rfl | rfl <;> simp at h ⊢ <;> omega

theorem readFirst_any (w : World) (B R c : Nat) (q : Q) (h : RS w B R q) (hc : c < 256) (hw : WF q) (hl : q.text.length ≤ 900000) :
    Calls Tryz.prog 76 #[.pointer (some ⟨R, 0, none⟩), .int .u8 (c : Int)] w (Got w B R (firstS q c)) := by
  cases hd : dv c with
  | none => exact readFirst_no w B R c q hc hd
  | some d =>
    have hp := pow_lt hw
    have h4 := hw.d4
    have hs := pow_step hw.c4 (dv_lt hd)
    have hlo := lo_le hs (show q.dig + 1 = 1 ∨ q.dig + 1 = 2 ∨ q.dig + 1 = 3 ∨ q.dig + 1 = 4 by omega)
    unfold firstS
    rw [hd]
    dsimp only
    by_cases hb : 56320 ≤ lo (q.code * 16 + d) (q.dig + 1) ∧ hi (q.code * 16 + d) (q.dig + 1) ≤ 57343
    · rw [if_pos hb]; exact readFirst_bad w B R c d q h hc hd hp h4 hs hb
    · rw [if_neg hb]
      by_cases h5 : q.dig + 1 ≠ 4
      · rw [if_pos h5]
        by_cases h6 : lo (q.code * 16 + d) (q.dig + 1) < 56320
        · exact readFirst_morea w B R c d q h hc hd hp h4 hs h6 h5
        · exact readFirst_moreb w B R c d q h hc hd hp h4 hs (by omega) h5
      · rw [if_neg h5]
        by_cases h6 : lo (q.code * 16 + d) (q.dig + 1) < 56320
        · by_cases h7 : 55296 ≤ lo (q.code * 16 + d) (q.dig + 1)
          · rw [if_pos ⟨h7, h6⟩]; exact readFirst_high w B R c d q h hc hd hp h4 hs h6 (by omega) h7
          · rw [if_neg (by omega)]; exact readFirst_dena w B R c d q h hc hd hp h4 hs h6 (by omega) (by omega) hl
        · rw [if_neg (by omega)]; exact readFirst_denb w B R c d q h hc hd hp h4 hs (by omega) (by omega) hl hlo.1
theorem readSecond_any (w : World) (B R c : Nat) (q : Q) (h : RS w B R q) (hc : c < 256) (hw : WF q) (hst : q.st = 7) (hl : q.text.length ≤ 900000) :
    Calls Tryz.prog 77 #[.pointer (some ⟨R, 0, none⟩), .int .u8 (c : Int)] w (Got w B R (secondS q c)) := by
  cases hd : dv c with
  | none => exact readSecond_no w B R c q hc hd
  | some d =>
    have hp := pow_lt hw
    have h4 := hw.d4
    have hs := pow_step hw.c4 (dv_lt hd)
    unfold secondS
    rw [hd]
    dsimp only
    by_cases hb : hi (q.code * 16 + d) (q.dig + 1) < 56320
    · rw [if_pos (Or.inl hb)]; exact readSecond_bada w B R c d q h hc hd hp h4 hs hb
    · by_cases hb2 : 57343 < lo (q.code * 16 + d) (q.dig + 1)
      · rw [if_pos (Or.inr hb2)]; exact readSecond_badb w B R c d q h hc hd hp h4 hs hb hb2
      · rw [if_neg (by omega)]
        by_cases h5 : q.dig + 1 ≠ 4
        · rw [if_pos h5]; exact readSecond_more w B R c d q h hc hd hp h4 hs hb hb2 h5
        · rw [if_neg h5]; exact readSecond_den w B R c d q h hc hd hp h4 hs hb hb2 (by omega) hl (hw.h6 (by omega) (by omega)) hw.h5

theorem read_any (w : World) (B R : Nat) (q : Q) (c : UInt8) (h : RS w B R q) (hT : TB B w) (hw : WF q) (h8 : q.st ≠ 8) (hl : q.text.length ≤ 900000) :
    Calls Tryz.prog 64 #[.pointer (some ⟨R, 0, none⟩), .int .u8 (c.toNat : Int)] w (Got w B R (Ut.step q c)) := by
  have hc := c.toNat_lt
  have h0 := h.c0
  have hle := hw.st8
  unfold Ut.step
  rcases (show q.st = 0 ∨ q.st = 1 ∨ q.st = 2 ∨ q.st = 3 ∨ q.st = 4 ∨ q.st = 5 ∨ q.st = 6 ∨ q.st = 7 by omega) with hs | hs | hs | hs | hs | hs | hs | hs
  · have HC := Lib.hid (expect_any w B R c.toNat 34 1 q h)
    rw [hs] at h0
    rw [if_pos hs]
    have HS := Lib.hid hs
    clear h hT hw hs hle h8
    go_enter Tryz.func64, Tryz.ntmps64
    go_wp2_with (go_at_call 72; refine HC.out.mono ?_; rintro e w1 ⟨rfl, hg, hb⟩; have HG := Lib.hid hg; have HB := Lib.hid hb; clear hg hb)
    go_ret
    exact ⟨rfl, HG.out, HB.out⟩
  · have HC := Lib.hid (readItem_any w B R q c h hT (hw.pn (by omega)) hl)
    rw [hs] at h0
    rw [if_neg (by omega), if_pos hs]
    have HS := Lib.hid hs
    clear h hT hw hs hle h8
    go_enter Tryz.func64, Tryz.ntmps64
    go_wp2_with (go_at_call 73; refine HC.out.mono ?_; rintro e w1 ⟨rfl, hg, hb⟩; have HG := Lib.hid hg; have HB := Lib.hid hb; clear hg hb)
    go_ret
    exact ⟨rfl, HG.out, HB.out⟩
  · have HC := Lib.hid (readEncoding_any w B R q c h hT (Or.inr (hw.p2 hs)) hl)
    rw [hs] at h0
    rw [if_neg (by omega), if_neg (by omega), if_pos hs]
    have HS := Lib.hid hs
    clear h hT hw hs hle h8
    go_enter Tryz.func64, Tryz.ntmps64
    go_wp2_with (go_at_call 74; refine HC.out.mono ?_; rintro e w1 ⟨rfl, hg, hb⟩; have HG := Lib.hid hg; have HB := Lib.hid hb; clear hg hb)
    go_ret
    exact ⟨rfl, HG.out, HB.out⟩
  · have HC := Lib.hid (readEscape_any w B R c.toNat q h hc hl)
    rw [hs] at h0
    rw [if_neg (by omega), if_neg (by omega), if_neg (by omega), if_pos hs]
    have HS := Lib.hid hs
    clear h hT hw hs hle h8
    go_enter Tryz.func64, Tryz.ntmps64
    go_wp2_with (go_at_call 75; refine HC.out.mono ?_; rintro e w1 ⟨rfl, hg, hb⟩; have HG := Lib.hid hg; have HB := Lib.hid hb; clear hg hb)
    go_ret
    exact ⟨rfl, HG.out, HB.out⟩
  · have HC := Lib.hid (readFirst_any w B R c.toNat q h hc hw hl)
    rw [hs] at h0
    rw [if_neg (by omega), if_neg (by omega), if_neg (by omega), if_neg (by omega), if_pos hs]
    have HS := Lib.hid hs
    clear h hT hw hs hle h8
    go_enter Tryz.func64, Tryz.ntmps64
    go_wp2_with (go_at_call 76; refine HC.out.mono ?_; rintro e w1 ⟨rfl, hg, hb⟩; have HG := Lib.hid hg; have HB := Lib.hid hb; clear hg hb)
    go_ret
    exact ⟨rfl, HG.out, HB.out⟩
  · have HC := Lib.hid (expect_any w B R c.toNat 92 6 q h)
    rw [hs] at h0
    rw [if_neg (by omega), if_neg (by omega), if_neg (by omega), if_neg (by omega), if_neg (by omega), if_pos hs]
    have HS := Lib.hid hs
    clear h hT hw hs hle h8
    go_enter Tryz.func64, Tryz.ntmps64
    go_wp2_with (go_at_call 72; refine HC.out.mono ?_; rintro e w1 ⟨rfl, hg, hb⟩; have HG := Lib.hid hg; have HB := Lib.hid hb; clear hg hb)
    go_ret
    exact ⟨rfl, HG.out, HB.out⟩
  · have HC := Lib.hid (expect_any w B R c.toNat 117 7 q h)
    rw [hs] at h0
    rw [if_neg (by omega), if_neg (by omega), if_neg (by omega), if_neg (by omega), if_neg (by omega), if_neg (by omega), if_pos hs]
    have HS := Lib.hid hs
    clear h hT hw hs hle h8
    go_enter Tryz.func64, Tryz.ntmps64
    go_wp2_with (go_at_call 72; refine HC.out.mono ?_; rintro e w1 ⟨rfl, hg, hb⟩; have HG := Lib.hid hg; have HB := Lib.hid hb; clear hg hb)
    go_ret
    exact ⟨rfl, HG.out, HB.out⟩
  · have HC := Lib.hid (readSecond_any w B R c.toNat q h hc hw hs hl)
    rw [hs] at h0
    rw [if_neg (by omega), if_neg (by omega), if_neg (by omega), if_neg (by omega), if_neg (by omega), if_neg (by omega), if_neg (by omega)]
    have HS := Lib.hid hs
    clear h hT hw hs hle h8
    go_enter Tryz.func64, Tryz.ntmps64
    go_wp2_with (go_at_call 77; refine HC.out.mono ?_; rintro e w1 ⟨rfl, hg, hb⟩; have HG := Lib.hid hg; have HB := Lib.hid hb; clear hg hb)
    go_ret
    exact ⟨rfl, HG.out, HB.out⟩
end Go.Proofs.YtodmlgbomhmbpaaGreatDoor
