/-
  What is proved here: contracts of the reader's methods readEscape, readFirst and readSecond: each takes the reader from one state to that of the machine; conditions: those that each fact states.
-/
import Derived.Test.YtodmlgbomhmbpaaGreatDoorReadD
namespace Go.Proofs.YtodmlgbomhmbpaaGreatDoor
open Go.RowKit Ut Go.Lib

theorem add_yes_rs (w : World) (B R c d : Nat) (q : Q) (h : RS w B R q) (hc : c < 256) (hdv : dv c = some d) (hcode : q.code < 4096) (hdig : q.dig < 4) :
    Calls Tryz.prog 84 #[.pointer (some ⟨R, 3, none⟩), .int .u8 (c : Int)] w fun e w' => e = .returned (.bool true) ∧ RS w' B R { q with code := q.code * 16 + d, dig := q.dig + 1 } ∧ Below B w w' := by
  refine (add_yes R 3 c d q.code q.dig w hc hdv h.c3 h.c4 (h.fz 3) (h.fz 4) hcode hdig).mono ?_
  rintro e w' ⟨rfl, rfl⟩
  exact ⟨rfl, h.num _ _, ((Below.refl _ _).setCell h.rb _).setCell h.rb _⟩

theorem den_int {w : World} {B R r : Nat} {x : Int} {q : Q} (h : RS w B R q) (hs : scal r) (hl : q.text.length ≤ 900000) (hx : x = ((r : Nat) : Int)) :
    Calls Tryz.prog 83 #[.pointer (some ⟨R, 0, none⟩), .int .i32 x] w fun e w' => e = .returned (.tuple #[]) ∧ RS w' B R (den q r) ∧ Below B w w' := by
  rw [hx]
  exact denote_any w B R r q h hs hl

theorem readEscape_u (w : World) (B R : Nat) (q : Q) (h : RS w B R q) :
    Calls Tryz.prog 75 #[.pointer (some ⟨R, 0, none⟩), .int .u8 117] w (Got w B R (escS q 117)) := by
  have h0 := h.c0
  have hf := h.fz 0
  have HR := Lib.hid h
  clear h
  have hres : escS q 117 = ({ q with st := 4 }, 0) := by unfold escS; rw [if_pos rfl]
  rw [hres]
  go_enter Tryz.func75, Tryz.ntmps75
  go_wp2
  go_ret
  exact ⟨rfl, fun _ => HR.out.st 4, (Below.refl _ _).setCell HR.out.rb _⟩
theorem idx_none {c : Nat} (hc : c < 256) (h : esc c = none) : Lib.indexByte [34, 92, 98, 102, 110, 114, 116, 47] (c : Int).toNat.toUInt8 = -1 := by
  have key : ∀ x : Fin 256, esc x.val = none → Lib.indexByte [34, 92, 98, 102, 110, 114, 116, 47] (Nat.toUInt8 x.val) = -1 := by decide +kernel
  exact key ⟨c, hc⟩ h
theorem readEscape_none (w : World) (B R c : Nat) (q : Q) (hc : c < 256) (h117 : c ≠ 117) (he : esc c = none) :
    Calls Tryz.prog 75 #[.pointer (some ⟨R, 0, none⟩), .int .u8 (c : Int)] w (Got w B R (escS q c)) := by
  have hres : escS q c = (q, 41) := by unfold escS; rw [if_neg h117, he]
  rw [hres]
  have i0 : ((c : Int) == 117) = false := by simp; omega
  have C := Tryz.strings_IndexByte ⟨#[34, 92, 98, 102, 110, 114, 116, 47]⟩ (c : Int) w
  rw [show (⟨#[34, 92, 98, 102, 110, 114, 116, 47]⟩ : ByteArray).data.toList = [34, 92, 98, 102, 110, 114, 116, 47] from rfl, idx_none hc he] at C
  have HC := Lib.hid C
  clear C hres he
  go_enter Tryz.func75, Tryz.ntmps75
  go_wp2_with (go_at_call 51; refine HC.out.mono ?_; rintro e w1 ⟨rfl, hw⟩; subst hw)
  go_ret
  exact ⟨rfl, (fun h => by simp at h), Below.refl _ _⟩

theorem readEscape_34 (w : World) (B R : Nat) (q : Q) (h : RS w B R q) (hl : q.text.length ≤ 900000) :
    Calls Tryz.prog 75 #[.pointer (some ⟨R, 0, none⟩), .int .u8 34] w (Got w B R (escS q 34)) := by
  have hres : escS q 34 = (den q 34, 0) := rfl
  rw [hres]
  have C := Tryz.strings_IndexByte ⟨#[34, 92, 98, 102, 110, 114, 116, 47]⟩ 34 w
  rw [show Lib.indexByte (⟨#[34, 92, 98, 102, 110, 114, 116, 47]⟩ : ByteArray).data.toList ((34 : Int)).toNat.toUInt8 = 0 by decide] at C
  have HC := Lib.hid C
  have HD := Lib.hid h
  clear C hres h
  go_enter Tryz.func75, Tryz.ntmps75
  go_wp2_with (first
    | (go_at_call 51; refine HC.out.mono ?_; rintro e w1 ⟨rfl, hw⟩; subst hw)
    | (go_at_call 83; refine (den_int (r := 34) HD.out (by unfold scal; omega) hl (by first | rfl | decide | kernel_rfl)).mono ?_; rintro e w1 ⟨rfl, hr, hb⟩; have HG := Lib.hid hr; have HB := Lib.hid hb; clear hr hb))
  go_ret
  exact ⟨rfl, fun _ => HG.out, HB.out⟩

theorem readEscape_92 (w : World) (B R : Nat) (q : Q) (h : RS w B R q) (hl : q.text.length ≤ 900000) :
    Calls Tryz.prog 75 #[.pointer (some ⟨R, 0, none⟩), .int .u8 92] w (Got w B R (escS q 92)) := by
  have hres : escS q 92 = (den q 92, 0) := rfl
  rw [hres]
  have C := Tryz.strings_IndexByte ⟨#[34, 92, 98, 102, 110, 114, 116, 47]⟩ 92 w
  rw [show Lib.indexByte (⟨#[34, 92, 98, 102, 110, 114, 116, 47]⟩ : ByteArray).data.toList ((92 : Int)).toNat.toUInt8 = 1 by decide] at C
  have HC := Lib.hid C
  have HD := Lib.hid h
  clear C hres h
  go_enter Tryz.func75, Tryz.ntmps75
  go_wp2_with (first
    | (go_at_call 51; refine HC.out.mono ?_; rintro e w1 ⟨rfl, hw⟩; subst hw)
    | (go_at_call 83; refine (den_int (r := 92) HD.out (by unfold scal; omega) hl (by first | rfl | decide | kernel_rfl)).mono ?_; rintro e w1 ⟨rfl, hr, hb⟩; have HG := Lib.hid hr; have HB := Lib.hid hb; clear hr hb))
  go_ret
  exact ⟨rfl, fun _ => HG.out, HB.out⟩

theorem readEscape_98 (w : World) (B R : Nat) (q : Q) (h : RS w B R q) (hl : q.text.length ≤ 900000) :
    Calls Tryz.prog 75 #[.pointer (some ⟨R, 0, none⟩), .int .u8 98] w (Got w B R (escS q 98)) := by
  have hres : escS q 98 = (den q 8, 0) := rfl
  rw [hres]
  have C := Tryz.strings_IndexByte ⟨#[34, 92, 98, 102, 110, 114, 116, 47]⟩ 98 w
  rw [show Lib.indexByte (⟨#[34, 92, 98, 102, 110, 114, 116, 47]⟩ : ByteArray).data.toList ((98 : Int)).toNat.toUInt8 = 2 by decide] at C
  have HC := Lib.hid C
  have HD := Lib.hid h
  clear C hres h
  go_enter Tryz.func75, Tryz.ntmps75
  go_wp2_with (first
    | (go_at_call 51; refine HC.out.mono ?_; rintro e w1 ⟨rfl, hw⟩; subst hw)
    | (go_at_call 83; refine (den_int (r := 8) HD.out (by unfold scal; omega) hl (by first | rfl | decide | kernel_rfl)).mono ?_; rintro e w1 ⟨rfl, hr, hb⟩; have HG := Lib.hid hr; have HB := Lib.hid hb; clear hr hb))
  go_ret
  exact ⟨rfl, fun _ => HG.out, HB.out⟩

theorem readEscape_102 (w : World) (B R : Nat) (q : Q) (h : RS w B R q) (hl : q.text.length ≤ 900000) :
    Calls Tryz.prog 75 #[.pointer (some ⟨R, 0, none⟩), .int .u8 102] w (Got w B R (escS q 102)) := by
  have hres : escS q 102 = (den q 12, 0) := rfl
  rw [hres]
  have C := Tryz.strings_IndexByte ⟨#[34, 92, 98, 102, 110, 114, 116, 47]⟩ 102 w
  rw [show Lib.indexByte (⟨#[34, 92, 98, 102, 110, 114, 116, 47]⟩ : ByteArray).data.toList ((102 : Int)).toNat.toUInt8 = 3 by decide] at C
  have HC := Lib.hid C
  have HD := Lib.hid h
  clear C hres h
  go_enter Tryz.func75, Tryz.ntmps75
  go_wp2_with (first
    | (go_at_call 51; refine HC.out.mono ?_; rintro e w1 ⟨rfl, hw⟩; subst hw)
    | (go_at_call 83; refine (den_int (r := 12) HD.out (by unfold scal; omega) hl (by first | rfl | decide | kernel_rfl)).mono ?_; rintro e w1 ⟨rfl, hr, hb⟩; have HG := Lib.hid hr; have HB := Lib.hid hb; clear hr hb))
  go_ret
  exact ⟨rfl, fun _ => HG.out, HB.out⟩

theorem readEscape_110 (w : World) (B R : Nat) (q : Q) (h : RS w B R q) (hl : q.text.length ≤ 900000) :
    Calls Tryz.prog 75 #[.pointer (some ⟨R, 0, none⟩), .int .u8 110] w (Got w B R (escS q 110)) := by
  have hres : escS q 110 = (den q 10, 0) := rfl
  rw [hres]
  have C := Tryz.strings_IndexByte ⟨#[34, 92, 98, 102, 110, 114, 116, 47]⟩ 110 w
  rw [show Lib.indexByte (⟨#[34, 92, 98, 102, 110, 114, 116, 47]⟩ : ByteArray).data.toList ((110 : Int)).toNat.toUInt8 = 4 by decide] at C
  have HC := Lib.hid C
  have HD := Lib.hid h
  clear C hres h
  go_enter Tryz.func75, Tryz.ntmps75
  go_wp2_with (first
    | (go_at_call 51; refine HC.out.mono ?_; rintro e w1 ⟨rfl, hw⟩; subst hw)
    | (go_at_call 83; refine (den_int (r := 10) HD.out (by unfold scal; omega) hl (by first | rfl | decide | kernel_rfl)).mono ?_; rintro e w1 ⟨rfl, hr, hb⟩; have HG := Lib.hid hr; have HB := Lib.hid hb; clear hr hb))
  go_ret
  exact ⟨rfl, fun _ => HG.out, HB.out⟩

theorem readEscape_114 (w : World) (B R : Nat) (q : Q) (h : RS w B R q) (hl : q.text.length ≤ 900000) :
    Calls Tryz.prog 75 #[.pointer (some ⟨R, 0, none⟩), .int .u8 114] w (Got w B R (escS q 114)) := by
  have hres : escS q 114 = (den q 13, 0) := rfl
  rw [hres]
  have C := Tryz.strings_IndexByte ⟨#[34, 92, 98, 102, 110, 114, 116, 47]⟩ 114 w
  rw [show Lib.indexByte (⟨#[34, 92, 98, 102, 110, 114, 116, 47]⟩ : ByteArray).data.toList ((114 : Int)).toNat.toUInt8 = 5 by decide] at C
  have HC := Lib.hid C
  have HD := Lib.hid h
  clear C hres h
  go_enter Tryz.func75, Tryz.ntmps75
  go_wp2_with (first
    | (go_at_call 51; refine HC.out.mono ?_; rintro e w1 ⟨rfl, hw⟩; subst hw)
    | (go_at_call 83; refine (den_int (r := 13) HD.out (by unfold scal; omega) hl (by first | rfl | decide | kernel_rfl)).mono ?_; rintro e w1 ⟨rfl, hr, hb⟩; have HG := Lib.hid hr; have HB := Lib.hid hb; clear hr hb))
  go_ret
  exact ⟨rfl, fun _ => HG.out, HB.out⟩

theorem readEscape_116 (w : World) (B R : Nat) (q : Q) (h : RS w B R q) (hl : q.text.length ≤ 900000) :
    Calls Tryz.prog 75 #[.pointer (some ⟨R, 0, none⟩), .int .u8 116] w (Got w B R (escS q 116)) := by
  have hres : escS q 116 = (den q 9, 0) := rfl
  rw [hres]
  have C := Tryz.strings_IndexByte ⟨#[34, 92, 98, 102, 110, 114, 116, 47]⟩ 116 w
  rw [show Lib.indexByte (⟨#[34, 92, 98, 102, 110, 114, 116, 47]⟩ : ByteArray).data.toList ((116 : Int)).toNat.toUInt8 = 6 by decide] at C
  have HC := Lib.hid C
  have HD := Lib.hid h
  clear C hres h
  go_enter Tryz.func75, Tryz.ntmps75
  go_wp2_with (first
    | (go_at_call 51; refine HC.out.mono ?_; rintro e w1 ⟨rfl, hw⟩; subst hw)
    | (go_at_call 83; refine (den_int (r := 9) HD.out (by unfold scal; omega) hl (by first | rfl | decide | kernel_rfl)).mono ?_; rintro e w1 ⟨rfl, hr, hb⟩; have HG := Lib.hid hr; have HB := Lib.hid hb; clear hr hb))
  go_ret
  exact ⟨rfl, fun _ => HG.out, HB.out⟩

theorem readEscape_47 (w : World) (B R : Nat) (q : Q) (h : RS w B R q) (hl : q.text.length ≤ 900000) :
    Calls Tryz.prog 75 #[.pointer (some ⟨R, 0, none⟩), .int .u8 47] w (Got w B R (escS q 47)) := by
  have hres : escS q 47 = (den q 47, 0) := rfl
  rw [hres]
  have C := Tryz.strings_IndexByte ⟨#[34, 92, 98, 102, 110, 114, 116, 47]⟩ 47 w
  rw [show Lib.indexByte (⟨#[34, 92, 98, 102, 110, 114, 116, 47]⟩ : ByteArray).data.toList ((47 : Int)).toNat.toUInt8 = 7 by decide] at C
  have HC := Lib.hid C
  have HD := Lib.hid h
  clear C hres h
  go_enter Tryz.func75, Tryz.ntmps75
  go_wp2_with (first
    | (go_at_call 51; refine HC.out.mono ?_; rintro e w1 ⟨rfl, hw⟩; subst hw)
    | (go_at_call 83; refine (den_int (r := 47) HD.out (by unfold scal; omega) hl (by first | rfl | decide | kernel_rfl)).mono ?_; rintro e w1 ⟨rfl, hr, hb⟩; have HG := Lib.hid hr; have HB := Lib.hid hb; clear hr hb))
  go_ret
  exact ⟨rfl, fun _ => HG.out, HB.out⟩

theorem esc_cases {c d : Nat} (h : esc c = some d) : c = 34 ∨ c = 92 ∨ c = 98 ∨ c = 102 ∨ c = 110 ∨ c = 114 ∨ c = 116 ∨ c = 47 := by
  unfold esc at h
  repeat' split at h
  all_goals first | omega | cases h
theorem readEscape_any (w : World) (B R c : Nat) (q : Q) (h : RS w B R q) (hc : c < 256) (hl : q.text.length ≤ 900000) :
    Calls Tryz.prog 75 #[.pointer (some ⟨R, 0, none⟩), .int .u8 (c : Int)] w (Got w B R (escS q c)) := by
  by_cases h117 : c = 117
  · subst h117; exact readEscape_u w B R q h
  · cases he : esc c with
    | none => exact readEscape_none w B R c q hc h117 he
    | some d =>
      rcases esc_cases he with rfl | rfl | rfl | rfl | rfl | rfl | rfl | rfl
      · exact readEscape_34 w B R q h hl
      · exact readEscape_92 w B R q h hl
      · exact readEscape_98 w B R q h hl
      · exact readEscape_102 w B R q h hl
      · exact readEscape_110 w B R q h hl
      · exact readEscape_114 w B R q h hl
      · exact readEscape_116 w B R q h hl
      · exact readEscape_47 w B R q h hl

end Go.Proofs.YtodmlgbomhmbpaaGreatDoor
