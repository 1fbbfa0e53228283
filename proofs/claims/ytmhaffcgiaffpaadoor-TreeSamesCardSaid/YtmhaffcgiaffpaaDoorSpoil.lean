/-
  What is proved here: a contract of SpoilNode on a tree of rows of the call's own: nothing turns but those rows; no other condition.
-/
import Derived.Test.YtmhaffcgiaffpaaDoorSpo
namespace Go.Proofs.YtmhaffcgiaffpaaDoor
open Go.RowKit

theorem SX.open {U : Nat → Prop} {w : World} {d : Nat} {cs : List Value} (h : SX U w d cs) : ∃ (k n u : Int) (s : ByteArray) (kv : Value) (nk : Nat) (xk : List Value) (lv : Value) (nl : Nat) (xs : List Value), cs = [.int .i64 k, .int .i64 n, .int .u64 u, .string s, kv, lv] ∧ Ow U w 9 1 kv nk xk ∧ Ow U w 26 6 lv nl xs ∧
      ∀ j, j < nl → ∃ d', d = d' + 1 ∧ SX U w d' ((xs.drop (j * 6)).take 6) := by
  cases d with
  | zero =>
    obtain ⟨k, n, u, s, kv, nk, xk, lv, xs, h0, h1, h2⟩ := h
    exact ⟨k, n, u, s, kv, nk, xk, lv, 0, xs, h0, h1, h2, fun j hj => by omega⟩
  | succ d =>
    obtain ⟨k, n, u, s, kv, nk, xk, lv, nl, xs, h0, h1, h2, h3⟩ := h
    exact ⟨k, n, u, s, kv, nk, xk, lv, nl, xs, h0, h1, h2, fun j hj => ⟨d, rfl, h3 j hj⟩⟩
/-- Between two rounds: the box of the node, and what has been spoilt. -/
structure SR (U : Nat → Prop) (w : World) (k n u : Int) (s : ByteArray) (kv lv : Value) (wr : World) : Prop where
  sp : Sp U w wr
  ul : ∀ b, U b → b < w.heap.size
  bx : Bx wr w.heap.size (.int .i64 k) (.int .i64 n) (.int .u64 u) (.string s) kv lv
theorem SR.go {U : Nat → Prop} {w : World} {k n u : Int} {s : ByteArray} {kv lv : Value} {wr w2 : World} (h : SR U w k n u s kv lv wr) (hs : Sp U wr w2) : SR U w k n u s kv lv w2 :=
  ⟨h.sp.trans hs, h.ul, hs.blk h.bx (fun e => by have := h.ul _ e; omega)⟩
theorem SR.key {U : Nat → Prop} {w : World} {k n u : Int} {s : ByteArray} {kv lv : Value} {wr : World} (h : SR U w k n u s kv lv wr) {nk : Nat} {xk : List Value} (hk : Ow U w 9 1 kv nk xk) {j : Nat} (hj : j < nk) :
    ∃ g c old, kv = .slice (some ⟨g, 0, none⟩) nk c ∧ wr.cell? ⟨g, j, none⟩ = some old ∧ wr.frozen? ⟨g, j, none⟩ = false ∧ ∀ x, SR U w k n u s kv lv (wr.setCell ⟨g, j, none⟩ x) := by
  obtain ⟨xk', hk'⟩ := hk.sp_str h.sp
  rcases hk'.1.2 with ⟨rfl, h0⟩ | ⟨g, cap, cur, rfl, h3, h4, h5, h6, h7, h8⟩
  · omega
  · obtain ⟨old, ho⟩ : ∃ old, cur[j]? = some old := ⟨_, Array.getElem?_eq_getElem (by omega)⟩
    refine ⟨g, cap, old, rfl, (Blk.cell (t := 9) h4 j).trans ho, Blk.frozen (t := 9) h4 j, fun x => h.go (Sp.setStr (hk'.2 g rfl) h4 x)⟩
theorem SR.nod {U : Nat → Prop} {w : World} {k n u : Int} {s : ByteArray} {kv lv : Value} {wr : World} (h : SR U w k n u s kv lv wr) {nl : Nat} {xs : List Value} (hk : Ow U w 26 6 lv nl xs) {j : Nat} (hj : j < nl) :
    ∃ (g c : Nat) (old : Nat → Value), lv = .slice (some ⟨g, 0, none⟩) nl c ∧ (∀ i, i < 6 → wr.cell? ⟨g, j * 6 + i, none⟩ = some (old i)) ∧ (∀ i, wr.frozen? ⟨g, i, none⟩ = false) ∧
      SR U w k n u s kv lv (put6 wr g (j * 6) (.int .i64 (-9)) (.int .i64 0) (.int .u64 0) (.string ⟨#[115, 112, 111, 105, 108, 116]⟩) (.slice none 0 0) (.slice none 0 0)) ∧
      ([old 0, old 1, old 2, old 3, old 4, old 5] = (xs.drop (j * 6)).take 6 ∨ [old 0, old 1, old 2, old 3, old 4, old 5] = Go.Proofs.YtmhaffcgiaffpaaDoor.spoilt) := by
  obtain ⟨xs', hk', hx⟩ := hk.sp_nod h.sp
  have hx := hx j hj
  rcases hk'.1.2 with ⟨rfl, h0⟩ | ⟨g, cap, cur, rfl, h3, h4, h5, h6, h7, h8⟩
  · omega
  · have hc : ∀ i, i < 6 → wr.cell? ⟨g, j * 6 + i, none⟩ = some (cur.toList.getD (j * 6 + i) undef) := fun i hi => by
      rw [Blk.cell (t := 26) h4, List.getD_eq_getElem?_getD, Array.getElem?_toList, Array.getElem?_eq_getElem (by omega)]
      rfl
    refine ⟨g, cap, fun i => cur.toList.getD (j * 6 + i) undef, rfl, hc, fun i => Blk.frozen (t := 26) h4 i, h.go (Sp.put6 (hk'.2 g rfl) h4 (by omega)), ?_⟩
    have e : [cur.toList.getD (j * 6 + 0) undef, cur.toList.getD (j * 6 + 1) undef, cur.toList.getD (j * 6 + 2) undef, cur.toList.getD (j * 6 + 3) undef, cur.toList.getD (j * 6 + 4) undef, cur.toList.getD (j * 6 + 5) undef] = (xs'.drop (j * 6)).take 6 := by
      rw [← h8, take_six hj]
      apply List.ext_getElem?
      intro i
      rw [List.getElem?_take]
      by_cases h6 : i < 6
      · rw [if_pos h6, List.getElem?_drop]
        have hi : i = 0 ∨ i = 1 ∨ i = 2 ∨ i = 3 ∨ i = 4 ∨ i = 5 := by omega
        have hl : cur.toList.length = cap * 6 := by simpa using h7
        rcases hi with rfl | rfl | rfl | rfl | rfl | rfl <;> simp [List.getD_eq_getElem?_getD] <;> rw [Array.getElem?_eq_getElem (by omega)] <;> rfl
      · rw [if_neg h6, List.getElem?_eq_none (by simp; omega)]
    rw [e]
    exact hx

set_option maxRecDepth 100000 in
set_option maxHeartbeats 1000000 in
theorem spoil_any : ∀ (d : Nat) (U : Nat → Prop) (cs : List Value) (w : World), SX U w d cs → Calls Tryd.prog 25 #[.agg cs.toArray] w fun e w' => e = .returned (.tuple #[]) ∧ Sp U w w' := by
  intro d
  induction d using Nat.strongRecOn with
  | _ d ih =>
    intro U cs w hx
    obtain ⟨k, n, u, s, kv, nk, xk, lv, nl, xs, rfl, hk, hl, hch⟩ := (SX.stepU (U' := fun b => U b ∧ b < w.heap.size) (fun b hb hlt => ⟨hb, hlt⟩) d cs hx).open
    have HR0 : Hid (SR (fun b => U b ∧ b < w.heap.size) w k n u s kv lv (w.alloc (.cells #[.int .i64 k, .int .i64 n, .int .u64 u, .string s, kv, lv] 26))) := Lib.hid ⟨Sp.of_below ((Below.refl _ w).alloc (Nat.le_refl _) _), fun b h => h.2, Blk.new _ _ _⟩
    obtain ⟨KA, Kc, rfl⟩ := hk.shape
    obtain ⟨LA, Lc, rfl⟩ := hl.shape
    go_enter Tryd.func25, Tryd.ntmps25
    go_wp2_with fail
    go_loopw [2] (fun i wr => ∃ j : Nat, j ≤ nk ∧ i = .int .i64 (j : Int) ∧ Hid (SR (fun b => U b ∧ b < w.heap.size) w k n u s (.slice KA nk Kc) (.slice LA nl Lc) wr)) (fun i wr => nk - (intOf i).toNat)
    case atStart => exact ⟨0, Nat.zero_le _, rfl, HR0⟩
    case round =>
      obtain ⟨j, hj, rfl, HR⟩ := hrel
      obtain ⟨_, _, _, _, c4, c5⟩ := HR.out.bx.all
      by_cases hjn : j < nk
      · obtain ⟨g, c, old, e, h1, h2, h3⟩ := HR.out.key hk hjn
        injection e with e1 e2 e3
        subst e1 e3
        clear e2
        have HN := Lib.hid (h3 (.string ⟨#[115, 112, 111, 105, 108, 116]⟩))
        clear h3
        have hjm : (j : Int) ≤ 9223372036854775806 := by have := hk.cells; obtain ⟨_, _, e, h1, h2, _⟩ := this; injection e with _ e2 e3; unfold maxLen at h2; omega
        go_wp2_with fail
        go_roundw
        case rel => exact ⟨j + 1, by omega, by simp, HN⟩
        case measure => simp [intOf]; omega
      · go_wp2_with fail
        have HR1 := HR
        clear HR0 HR c4 c5 hjn hj
        go_loopw [3] (fun i wr => ∃ j : Nat, j ≤ nl ∧ i = .int .i64 (j : Int) ∧ Hid (SR (fun b => U b ∧ b < w.heap.size) w k n u s (.slice KA nk Kc) (.slice LA nl Lc) wr)) (fun i wr => nl - (intOf i).toNat)
        case atStart => exact ⟨0, Nat.zero_le _, rfl, HR1⟩
        case round =>
          obtain ⟨j, hj, rfl, HR⟩ := hrel
          obtain ⟨_, _, _, _, c4, c5⟩ := HR.out.bx.all
          by_cases hjn : j < nl
          · obtain ⟨g, c, old, e, h1, h2, -, h4⟩ := HR.out.nod hl hjn
            injection e with e1 e2 e3
            subst e1 e3
            clear e2
            obtain ⟨d', hd', hx'⟩ := hch j hjn
            have hjm : (j : Int) ≤ 9223372036854775806 := by have := hl.cells; obtain ⟨_, _, e, h1, h2, _⟩ := this; injection e with _ e2 e3; unfold maxLen at h2; omega
            have HCH : Hid (∀ W, Hid (SR (fun b => U b ∧ b < w.heap.size) w k n u s (.slice KA nk Kc) (.slice (some ⟨g, 0, none⟩) nl Lc) W) → (∀ i, i < 6 → W.cell? ⟨g, j * 6 + i, none⟩ = some (old i)) → Calls Tryd.prog 25 #[.agg #[old 0, old 1, old 2, old 3, old 4, old 5]] W fun e w' => e = .returned (.tuple #[]) ∧ Hid (SR (fun b => U b ∧ b < w.heap.size) w k n u s (.slice KA nk Kc) (.slice (some ⟨g, 0, none⟩) nl Lc) w')) := Lib.hid fun W H _ => by
              have hX : SX (fun b => U b ∧ b < w.heap.size) W d' [old 0, old 1, old 2, old 3, old 4, old 5] := by
                rcases h4 with e | e
                · rw [e]; exact SX.sp H.out.sp _ _ hx'
                · rw [e]; exact SX.spoilt _ _ _
              refine (ih d' (by omega) _ _ W hX).mono ?_
              rintro e w' ⟨rfl, h⟩
              exact ⟨rfl, Lib.hid (H.out.go h)⟩
            have HND : Hid (∀ W, Hid (SR (fun b => U b ∧ b < w.heap.size) w k n u s (.slice KA nk Kc) (.slice (some ⟨g, 0, none⟩) nl Lc) W) → ∃ old : Nat → Value, (∀ i, i < 6 → W.cell? ⟨g, j * 6 + i, none⟩ = some (old i)) ∧ (∀ i, W.frozen? ⟨g, i, none⟩ = false) ∧ W.cell? ⟨w.heap.size, 5, none⟩ = some (.slice (some ⟨g, 0, none⟩) nl Lc) ∧ Hid (SR (fun b => U b ∧ b < w.heap.size) w k n u s (.slice KA nk Kc) (.slice (some ⟨g, 0, none⟩) nl Lc) (put6 W g (j * 6) (.int .i64 (-9)) (.int .i64 0) (.int .u64 0) (.string ⟨#[115, 112, 111, 105, 108, 116]⟩) (.slice none 0 0) (.slice none 0 0)))) := Lib.hid fun W H => by
              obtain ⟨g', c', old', e, h1, h2, h3, _⟩ := H.out.nod hl hjn
              injection e with e1 e2 e3
              injection e1 with e1
              injection e1 with e1
              subst e1 e3
              exact ⟨old', h1, h2, H.out.bx.all.2.2.2.2.2, Lib.hid h3⟩
            have a0 : wr.cell? ⟨g, j * 6, none⟩ = some (old 0) := h1 0 (by omega)
            have a1 := h1 1 (by omega)
            have a2 := h1 2 (by omega)
            have a3 := h1 3 (by omega)
            have a4 := h1 4 (by omega)
            have a5 := h1 5 (by omega)
            have HH1 := Lib.hid h1
            clear h1 h2 h4 hx' hch ih
            go_wp2_with (go_at_call 25; refine (HCH.out _ HR HH1.out).mono ?_; rintro e w2 ⟨rfl, HR2⟩; obtain ⟨old2, h1, h2, x5, HR3⟩ := HND.out _ HR2; have b0 : w2.cell? ⟨g, j * 6, none⟩ = some (old2 0) := h1 0 (by omega); have b1 := h1 1 (by omega); have b2 := h1 2 (by omega); have b3 := h1 3 (by omega); have b4 := h1 4 (by omega); have b5 := h1 5 (by omega); have f0 := h2 (j * 6); have f1 := h2 (j * 6 + 1); have f2 := h2 (j * 6 + 2); have f3 := h2 (j * 6 + 3); have f4 := h2 (j * 6 + 4); have f5 := h2 (j * 6 + 5); clear h1 h2; clear a0 a1 a2 a3 a4 a5 c4 c5)
            go_roundw
            case rel => exact ⟨j + 1, by omega, by simp, HR3⟩
            case measure => simp [intOf]; omega
          · go_wp2_with fail
            go_end0
            refine ⟨rfl, HR.out.sp.wider fun b hb => ⟨fun h => h.1, fun h => ⟨h, hb⟩⟩⟩
end Go.Proofs.YtmhaffcgiaffpaaDoor
