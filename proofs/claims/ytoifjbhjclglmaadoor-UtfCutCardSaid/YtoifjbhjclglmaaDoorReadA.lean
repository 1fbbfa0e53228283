/-
  What is proved here: the contracts of the reader's methods readFirst, readSecond and read: each takes the reader from one state to that of the machine; conditions: the library's two tables hold what is laid, and those that each fact states.
-/
import Derived.Test.YtoifjbhjclglmaaDoorReadM
import Derived.Test.YtoifjbhjclglmaaDoorReadF
import Derived.Test.YtoifjbhjclglmaaDoorReadG
import Derived.Test.YtoifjbhjclglmaaDoorWf
namespace Go.Proofs.YtoifjbhjclglmaaDoor
open Go.RowKit Ut Go.Lib

theorem lo_le {code dig : Nat} (h : code < 16 ^ dig) (hd : dig = 1 ∨ dig = 2 ∨ dig = 3 ∨ dig = 4) : lo code dig ≤ 65535 ∧ lo code dig ≤ hi code dig := by
  unfold lo hi
  rcases hd with rfl | rfl | rfl | rfl <;> simp at h ⊢ <;> omega

theorem readFirst_any (w : World) (B R c : Nat) (q : Q) (h : RS w B R q) (hc : c < 256) (hw : WF q) (hl : q.text.length ≤ 900000) :
    Calls Tryd.prog 52 #[.pointer (some ⟨R, 0, none⟩), .int .u8 (c : Int)] w (Got w B R (firstS q c)) := by
  cases hd : dv c with
  | none => exact readFirst_no w B R c q hc hd
  | some d =>
    have hp := pow_lt hw
    have h4 := hw.d4
    have hs := pow_step hw.c4 (dv_lt hd)
    have hlo := lo_le hs (show q.dig + 1 = 1 ∨ q.dig + 1 = 2 ∨ q.dig + 1 = 3 ∨ q.dig + 1 = 4 by omega)
    unfold firstS
    rw [hd]
    dsimp only
    by_cases hb : 56320 ≤ lo (q.code * 16 + d) (q.dig + 1) ∧ hi (q.code * 16 + d) (q.dig + 1) ≤ 57343
    · rw [if_pos hb]; exact readFirst_bad w B R c d q h hc hd hp h4 hs hb
    · rw [if_neg hb]
      by_cases h5 : q.dig + 1 ≠ 4
      · rw [if_pos h5]
        by_cases h6 : lo (q.code * 16 + d) (q.dig + 1) < 56320
        · exact readFirst_morea w B R c d q h hc hd hp h4 hs h6 h5
        · exact readFirst_moreb w B R c d q h hc hd hp h4 hs (by omega) h5
      · rw [if_neg h5]
        by_cases h6 : lo (q.code * 16 + d) (q.dig + 1) < 56320
        · by_cases h7 : 55296 ≤ lo (q.code * 16 + d) (q.dig + 1)
          · rw [if_pos ⟨h7, h6⟩]; exact readFirst_high w B R c d q h hc hd hp h4 hs h6 (by omega) h7
          · rw [if_neg (by omega)]; exact readFirst_dena w B R c d q h hc hd hp h4 hs h6 (by omega) (by omega) hl
        · rw [if_neg (by omega)]; exact readFirst_denb w B R c d q h hc hd hp h4 hs (by omega) (by omega) hl hlo.1
theorem readSecond_any (w : World) (B R c : Nat) (q : Q) (h : RS w B R q) (hc : c < 256) (hw : WF q) (hst : q.st = 7) (hl : q.text.length ≤ 900000) :
    Calls Tryd.prog 53 #[.pointer (some ⟨R, 0, none⟩), .int .u8 (c : Int)] w (Got w B R (secondS q c)) := by
  cases hd : dv c with
  | none => exact readSecond_no w B R c q hc hd
  | some d =>
    have hp := pow_lt hw
    have h4 := hw.d4
    have hs := pow_step hw.c4 (dv_lt hd)
    unfold secondS
    rw [hd]
    dsimp only
    by_cases hb : hi (q.code * 16 + d) (q.dig + 1) < 56320
    · rw [if_pos (Or.inl hb)]; exact readSecond_bada w B R c d q h hc hd hp h4 hs hb
    · by_cases hb2 : 57343 < lo (q.code * 16 + d) (q.dig + 1)
      · rw [if_pos (Or.inr hb2)]; exact readSecond_badb w B R c d q h hc hd hp h4 hs hb hb2
      · rw [if_neg (by omega)]
        by_cases h5 : q.dig + 1 ≠ 4
        · rw [if_pos h5]; exact readSecond_more w B R c d q h hc hd hp h4 hs hb hb2 h5
        · rw [if_neg h5]; exact readSecond_den w B R c d q h hc hd hp h4 hs hb hb2 (by omega) hl (hw.h6 (by omega) (by omega)) hw.h5

theorem read_any (w : World) (B R : Nat) (q : Q) (c : UInt8) (h : RS w B R q) (hT : TB B w) (hw : WF q) (h8 : q.st ≠ 8) (hl : q.text.length ≤ 900000) :
    Calls Tryd.prog 38 #[.pointer (some ⟨R, 0, none⟩), .int .u8 (c.toNat : Int)] w (Got w B R (Ut.step q c)) := by
  have hc := c.toNat_lt
  have h0 := h.c0
  have hle := hw.st8
  unfold Ut.step
  rcases (show q.st = 0 ∨ q.st = 1 ∨ q.st = 2 ∨ q.st = 3 ∨ q.st = 4 ∨ q.st = 5 ∨ q.st = 6 ∨ q.st = 7 by omega) with hs | hs | hs | hs | hs | hs | hs | hs
  · have HC := Lib.hid (expect_any w B R c.toNat 34 1 q h)
    rw [hs] at h0
    rw [if_pos hs]
    have HS := Lib.hid hs
    clear h hT hw hs hle h8
    go_enter Tryd.func38, Tryd.ntmps38
    go_wp2_with (go_at_call 48; refine HC.out.mono ?_; rintro e w1 ⟨rfl, hg, hb⟩; have HG := Lib.hid hg; have HB := Lib.hid hb; clear hg hb)
    go_ret
    exact ⟨rfl, HG.out, HB.out⟩
  · have HC := Lib.hid (readItem_any w B R q c h hT (hw.pn (by omega)) hl)
    rw [hs] at h0
    rw [if_neg (by omega), if_pos hs]
    have HS := Lib.hid hs
    clear h hT hw hs hle h8
    go_enter Tryd.func38, Tryd.ntmps38
    go_wp2_with (go_at_call 49; refine HC.out.mono ?_; rintro e w1 ⟨rfl, hg, hb⟩; have HG := Lib.hid hg; have HB := Lib.hid hb; clear hg hb)
    go_ret
    exact ⟨rfl, HG.out, HB.out⟩
  · have HC := Lib.hid (readEncoding_any w B R q c h hT (Or.inr (hw.p2 hs)) hl)
    rw [hs] at h0
    rw [if_neg (by omega), if_neg (by omega), if_pos hs]
    have HS := Lib.hid hs
    clear h hT hw hs hle h8
    go_enter Tryd.func38, Tryd.ntmps38
    go_wp2_with (go_at_call 50; refine HC.out.mono ?_; rintro e w1 ⟨rfl, hg, hb⟩; have HG := Lib.hid hg; have HB := Lib.hid hb; clear hg hb)
    go_ret
    exact ⟨rfl, HG.out, HB.out⟩
  · have HC := Lib.hid (readEscape_any w B R c.toNat q h hc hl)
    rw [hs] at h0
    rw [if_neg (by omega), if_neg (by omega), if_neg (by omega), if_pos hs]
    have HS := Lib.hid hs
    clear h hT hw hs hle h8
    go_enter Tryd.func38, Tryd.ntmps38
    go_wp2_with (go_at_call 51; refine HC.out.mono ?_; rintro e w1 ⟨rfl, hg, hb⟩; have HG := Lib.hid hg; have HB := Lib.hid hb; clear hg hb)
    go_ret
    exact ⟨rfl, HG.out, HB.out⟩
  · have HC := Lib.hid (readFirst_any w B R c.toNat q h hc hw hl)
    rw [hs] at h0
    rw [if_neg (by omega), if_neg (by omega), if_neg (by omega), if_neg (by omega), if_pos hs]
    have HS := Lib.hid hs
    clear h hT hw hs hle h8
    go_enter Tryd.func38, Tryd.ntmps38
    go_wp2_with (go_at_call 52; refine HC.out.mono ?_; rintro e w1 ⟨rfl, hg, hb⟩; have HG := Lib.hid hg; have HB := Lib.hid hb; clear hg hb)
    go_ret
    exact ⟨rfl, HG.out, HB.out⟩
  · have HC := Lib.hid (expect_any w B R c.toNat 92 6 q h)
    rw [hs] at h0
    rw [if_neg (by omega), if_neg (by omega), if_neg (by omega), if_neg (by omega), if_neg (by omega), if_pos hs]
    have HS := Lib.hid hs
    clear h hT hw hs hle h8
    go_enter Tryd.func38, Tryd.ntmps38
    go_wp2_with (go_at_call 48; refine HC.out.mono ?_; rintro e w1 ⟨rfl, hg, hb⟩; have HG := Lib.hid hg; have HB := Lib.hid hb; clear hg hb)
    go_ret
    exact ⟨rfl, HG.out, HB.out⟩
  · have HC := Lib.hid (expect_any w B R c.toNat 117 7 q h)
    rw [hs] at h0
    rw [if_neg (by omega), if_neg (by omega), if_neg (by omega), if_neg (by omega), if_neg (by omega), if_neg (by omega), if_pos hs]
    have HS := Lib.hid hs
    clear h hT hw hs hle h8
    go_enter Tryd.func38, Tryd.ntmps38
    go_wp2_with (go_at_call 48; refine HC.out.mono ?_; rintro e w1 ⟨rfl, hg, hb⟩; have HG := Lib.hid hg; have HB := Lib.hid hb; clear hg hb)
    go_ret
    exact ⟨rfl, HG.out, HB.out⟩
  · have HC := Lib.hid (readSecond_any w B R c.toNat q h hc hw hs hl)
    rw [hs] at h0
    rw [if_neg (by omega), if_neg (by omega), if_neg (by omega), if_neg (by omega), if_neg (by omega), if_neg (by omega), if_neg (by omega)]
    have HS := Lib.hid hs
    clear h hT hw hs hle h8
    go_enter Tryd.func38, Tryd.ntmps38
    go_wp2_with (go_at_call 53; refine HC.out.mono ?_; rintro e w1 ⟨rfl, hg, hb⟩; have HG := Lib.hid hg; have HB := Lib.hid hb; clear hg hb)
    go_ret
    exact ⟨rfl, HG.out, HB.out⟩
end Go.Proofs.YtoifjbhjclglmaaDoor
