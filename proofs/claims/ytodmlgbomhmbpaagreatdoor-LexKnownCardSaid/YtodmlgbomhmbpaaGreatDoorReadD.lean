/-
  What is proved here: contracts of the reader's methods expect, denote and readEncoding: each takes the reader from one state to that of the machine; conditions: the library's two tables hold what is laid, and those that each fact states.
-/
import Derived.Test.YtodmlgbomhmbpaaGreatDoorLeaf
import Derived.Test.YtodmlgbomhmbpaaGreatDoorRune

import Derived.Deep.RegionLaw
import Derived.Deep.RegionHeld3
import Derived.StillTailTactics
namespace Go.Proofs.YtodmlgbomhmbpaaGreatDoor
open Go.RowKit Ut Go.Lib

/-- The tables, below block B. -/
def TB (B : Nat) (w : World) : Prop := 7 ≤ B ∧ B ≤ w.heap.size ∧ Utf8Tabs 4 5 w
theorem TB.below {B : Nat} {w w' : World} (h : TB B w) (hb : Below B w w') : TB B w' := by
  obtain ⟨h1, h2, h3⟩ := h
  refine ⟨h1, Nat.le_trans h2 hb.size, fun c hc => (hb.cell (p := ⟨4, c, none⟩) (by show 4 < B; omega)).trans (h3.1 c hc), fun i hi => ⟨(hb.cell (p := ⟨5, 2 * i, none⟩) (by show 5 < B; omega)).trans (h3.2 i hi).1, (hb.cell (p := ⟨5, 2 * i + 1, none⟩) (by show 5 < B; omega)).trans (h3.2 i hi).2⟩⟩

section
variable {w : World} {B R : Nat} {q : Q}
theorem RS.st (h : RS w B R q) (s : Nat) : RS (w.setCell ⟨R, 0, none⟩ (.int .i64 s)) B R { q with st := s } := by
  obtain ⟨h1, h2, vt, vp, h3, h4, h5, h6⟩ := h
  exact ⟨h1, by simpa using h2, vt, vp, h3.put 0 _, own_put h4 (own_ne h4 h3 (by decide)) _, own_put h5 (own_ne h5 h3 (by decide)) _, h6⟩
theorem RS.num (h : RS w B R q) (c d : Nat) : RS ((w.setCell ⟨R, 3, none⟩ (.int .i32 c)).setCell ⟨R, 4, none⟩ (.int .i64 d)) B R { q with code := c, dig := d } := by
  obtain ⟨h1, h2, vt, vp, h3, h4, h5, h6⟩ := h
  have h3a := h3.put 3 (.int .i32 c)
  have h4a := own_put h4 (own_ne h4 h3 (by decide)) (i := 3) (.int .i32 c)
  have h5a := own_put h5 (own_ne h5 h3 (by decide)) (i := 3) (.int .i32 c)
  exact ⟨h1, by simpa using h2, vt, vp, h3a.put 4 _, own_put h4a (own_ne h4a h3a (by decide)) _, own_put h5a (own_ne h5a h3a (by decide)) _, h6⟩
theorem RS.hi (h : RS w B R q) (x : Nat) : RS (w.setCell ⟨R, 5, none⟩ (.int .i32 x)) B R { q with high := x } := by
  obtain ⟨h1, h2, vt, vp, h3, h4, h5, h6⟩ := h
  exact ⟨h1, by simpa using h2, vt, vp, h3.put 5 _, own_put h4 (own_ne h4 h3 (by decide)) _, own_put h5 (own_ne h5 h3 (by decide)) _, h6⟩
theorem RS.rb (h : RS w B R q) : B ≤ R := h.1
theorem RS.c0 (h : RS w B R q) : w.cell? ⟨R, 0, none⟩ = some (.int .i64 q.st) := by obtain ⟨_, _, _, _, h3, _⟩ := h; exact h3.cell 0
theorem RS.c3 (h : RS w B R q) : w.cell? ⟨R, 3, none⟩ = some (.int .i32 q.code) := by obtain ⟨_, _, _, _, h3, _⟩ := h; exact h3.cell 3
theorem RS.c4 (h : RS w B R q) : w.cell? ⟨R, 4, none⟩ = some (.int .i64 q.dig) := by obtain ⟨_, _, _, _, h3, _⟩ := h; exact h3.cell 4
theorem RS.c5 (h : RS w B R q) : w.cell? ⟨R, 5, none⟩ = some (.int .i32 q.high) := by obtain ⟨_, _, _, _, h3, _⟩ := h; exact h3.cell 5
theorem RS.fz (h : RS w B R q) (i : Nat) : w.frozen? ⟨R, i, none⟩ = false := by obtain ⟨_, _, _, _, h3, _⟩ := h; exact h3.frozen i
end

/-- What a method of the reader leaves. -/
def Got (w : World) (B R : Nat) (r : Q × Nat) (e : Ending) (w' : World) : Prop := e = .returned (.int .i64 (r.2 : Int)) ∧ (r.2 = 0 → RS w' B R r.1) ∧ Below B w w'

theorem expect_any (w : World) (B R c only next : Nat) (q : Q) (h : RS w B R q) :
    Calls Tryz.prog 72 #[.pointer (some ⟨R, 0, none⟩), .int .u8 (c : Int), .int .u8 (only : Int), .int .i64 (next : Int)] w (Got w B R (expS q c only next)) := by
  have h0 := h.c0
  have hf := h.fz 0
  have HR := Lib.hid h
  clear h
  by_cases hco : c = only
  · have hres : expS q c only next = ({ q with st := next }, 0) := by unfold expS; rw [if_pos hco]
    rw [hres]
    subst hco
    clear hres
    go_enter Tryz.func72, Tryz.ntmps72
    go_wp2
    go_ret
    exact ⟨rfl, fun _ => HR.out.st next, (Below.refl _ _).setCell HR.out.rb _⟩
  · have hres : expS q c only next = (q, 41) := by unfold expS; rw [if_neg hco]
    rw [hres]
    have hne : ¬ ((c : Int) = (only : Int)) := by omega
    clear hres
    go_enter Tryz.func72, Tryz.ntmps72
    go_wp2
    go_ret
    exact ⟨rfl, (fun h => by simp at h), Below.refl _ _⟩

theorem Blk.six {w : World} {R : Nat} {t : TypeId} {a b c d e f : Value} (h : Blk w R t #[a, b, c, d, e, f]) :
    w.cell? ⟨R, 0, none⟩ = some a ∧ w.cell? ⟨R, 1, none⟩ = some b ∧ w.cell? ⟨R, 2, none⟩ = some c ∧ w.cell? ⟨R, 3, none⟩ = some d ∧ w.cell? ⟨R, 4, none⟩ = some e ∧ w.cell? ⟨R, 5, none⟩ = some f ∧
    w.frozen? ⟨R, 0, none⟩ = false ∧ w.frozen? ⟨R, 1, none⟩ = false ∧ w.frozen? ⟨R, 2, none⟩ = false ∧ w.frozen? ⟨R, 3, none⟩ = false ∧ w.frozen? ⟨R, 4, none⟩ = false ∧ w.frozen? ⟨R, 5, none⟩ = false :=
  ⟨h.cell 0, h.cell 1, h.cell 2, h.cell 3, h.cell 4, h.cell 5, h.frozen 0, h.frozen 1, h.frozen 2, h.frozen 3, h.frozen 4, h.frozen 5⟩
theorem own_form {w : World} {B : Nat} {v : Value} {xs : List UInt8} (h : Own w B v xs) (hn : 0 < xs.length) : ∃ g c, v = .slice (some ⟨g, 0, none⟩) xs.length c ∧ xs.length ≤ c := by
  rcases h.2 with ⟨_, h0⟩ | ⟨g, c, _, h0, _, _, h1, _⟩
  · omega
  · exact ⟨g, c, h0, h1⟩

/-- The text's row has been appended to: what becomes of the reader. -/
theorem RS.texted {w w1 : World} {B R : Nat} {q : Q} {vt vp v' : Value} (h3 : Blk w R 111 #[.int .i64 q.st, vt, vp, .int .i32 q.code, .int .i64 q.dig, .int .i32 q.high])
    (h4 : Own w B vt q.text) (h5 : Own w B vp q.part) (h6 : ∀ k, vt.ownBlock = some k → vp.ownBlock ≠ some k) (hgr : Gr w w1 vt v') :
    Blk w1 R 111 #[.int .i64 q.st, vt, vp, .int .i32 q.code, .int .i64 q.dig, .int .i32 q.high] ∧ Own w1 B vp q.part ∧ (∀ k, v'.ownBlock = some k → vp.ownBlock ≠ some k) := by
  refine ⟨h3.grown hgr.1 (fun he => own_ne h4 h3 (by decide) he.symm), own_keep h5 fun k hk => hgr.1.block k (h5.lt k hk).2 (fun he => h6 k he.symm hk), fun k hk hk' => ?_⟩
  rcases hgr.2 with h | ⟨j, hj, hl⟩
  · exact h6 k (by rw [← h]; exact hk) hk'
  · have := (h5.lt k hk').2
    rw [hk] at hj
    injection hj with hj
    omega

/-- The text's field is given its new row. -/
theorem RS.stored {w : World} {B R : Nat} {q : Q} {vt vp v' : Value} {ys : List UInt8} (h1 : B ≤ R) (h2 : B ≤ w.heap.size) (h3 : Blk w R 111 #[.int .i64 q.st, vt, vp, .int .i32 q.code, .int .i64 q.dig, .int .i32 q.high])
    (h4 : Own w B v' ys) (h5 : Own w B vp q.part) (h6 : ∀ k, v'.ownBlock = some k → vp.ownBlock ≠ some k) : RS (w.setCell ⟨R, 1, none⟩ v') B R { q with text := ys } :=
  ⟨h1, by simpa using h2, v', vp, h3.put 1 _, own_put h4 (own_ne h4 h3 (by decide)) _, own_put h5 (own_ne h5 h3 (by decide)) _, h6⟩
/-- The field of the bytes of an incomplete encoding is given its new row. -/
theorem RS.parted {w : World} {B R : Nat} {q : Q} {vt vp v' : Value} {ys : List UInt8} (h1 : B ≤ R) (h2 : B ≤ w.heap.size) (h3 : Blk w R 111 #[.int .i64 q.st, vt, vp, .int .i32 q.code, .int .i64 q.dig, .int .i32 q.high])
    (h4 : Own w B vt q.text) (h5 : Own w B v' ys) (h6 : ∀ k, vt.ownBlock = some k → v'.ownBlock ≠ some k) : RS (w.setCell ⟨R, 2, none⟩ v') B R { q with part := ys } :=
  ⟨h1, by simpa using h2, vt, v', h3.put 2 _, own_put h4 (own_ne h4 h3 (by decide)) _, own_put h5 (own_ne h5 h3 (by decide)) _, h6⟩

set_option maxHeartbeats 1000000 in
theorem denote_any (w : World) (B R r : Nat) (q : Q) (h : RS w B R q) (hs : scal r) (hl : q.text.length ≤ 900000) :
    Calls Tryz.prog 83 #[.pointer (some ⟨R, 0, none⟩), .int .i32 (r : Int)] w fun e w' => e = .returned (.tuple #[]) ∧ RS w' B R (den q r) ∧ Below B w w' := by
  obtain ⟨h1, h2, vt, vp, h3, h4, h5, h6⟩ := h
  have hc1 : w.cell? ⟨R, 1, none⟩ = some vt := h3.cell 1
  have C := appendRune_any B vt q.text r hs w h4 hl h2
  have HC := Lib.hid C
  have H3 := Lib.hid h3
  have H4 := Lib.hid h4
  have H5 := Lib.hid h5
  have H6 := Lib.hid h6
  clear C h3 h4 h5 h6
  go_enter Tryz.func83, Tryz.ntmps83
  go_wp2_with (go_at_call 89; refine HC.out.mono ?_; rintro e w1 ⟨v', rfl, hown, hgr⟩; obtain ⟨g, k, rfl, _⟩ := own_form hown (by have := enc_len r; simp; omega); obtain ⟨hbk, hop, hd⟩ := RS.texted H3.out H4.out H5.out H6.out hgr; obtain ⟨k0, k1, k2, k3, k4, k5, f0, f1, f2, f3, f4, f5⟩ := hbk.six; have HO := Lib.hid hown; have HG := Lib.hid hgr; have HB := Lib.hid hbk; have HP := Lib.hid hop; have HD := Lib.hid hd; clear hown hgr hbk hop hd)
  go_end0
  refine ⟨rfl, ?_, ?_⟩
  · have e : (Value.slice (some ⟨g, 0, none⟩) (q.text.length + (enc r).length) k) = .slice (some ⟨g, 0, none⟩) (q.text ++ enc r).length k := by rw [List.length_append]
    rw [e]
    exact ((RS.stored h1 (Nat.le_trans h2 HG.out.1.size) HB.out HO.out HP.out HD.out).num 0 0).st 1
  · exact ((((HG.out.below (Below.refl _ _) h2 (own_base H4.out)).setCell h1 _).setCell h1 _).setCell h1 _).setCell h1 _
end Go.Proofs.YtodmlgbomhmbpaaGreatDoor
