/-
  What is proved here: contracts of the reference's Same and of the law's wreck and are; conditions: as each says.
-/
import Derived.Test.YtefgehjkankigaaRef
namespace Go.Proofs.Ytefgehjkankigaa
open Go.RowKit

theorem same_any {a b : Value} {xs : List V3} {w : World} (ha : Rd w a xs) (hb : Rd w b xs) (hf : xs.length ≤ 100000) :
    Calls Try.prog 19 #[a, b] w fun e w' => e = .returned (.bool true) ∧ ∃ q, w' = w.drewN q := by
  obtain ⟨A, n, c, rfl, h1⟩ := ha
  obtain ⟨B, m, d, rfl, h2⟩ := hb
  have hn := h1.1
  have hm := h2.1
  have H1 := Lib.hid h1.2.2.2
  have H2 := Lib.hid h2.2.2.2
  have hnc := h1.2.1
  have hmd := h2.2.1
  have hc := h1.2.2.1
  have hd := h2.2.2.1
  unfold maxLen at hc hd
  obtain rfl : n = m := by omega
  have hG := valG
  rw [hn] at hf
  have HN := Lib.hid hn
  clear h1 h2 hn hm
  go_enter Try.func19, Try.ntmps19
  go_wp2_with fail
  go_loopw [5] (fun i wr => ∃ k : Nat, k ≤ n ∧ i = .int .i64 k ∧ ∃ q, wr = w.drewN q) (fun i _ => n - (intOf i).toNat)
  case atStart => exact ⟨0, Nat.zero_le _, rfl, 0, rfl⟩
  case round =>
    obtain ⟨k, hk, rfl, q, rfl⟩ := hrel
    by_cases hlt : k < n
    · obtain ⟨x, hx⟩ : ∃ x, xs[k]? = some x := ⟨_, List.getElem?_eq_getElem (by have := HN.out; omega)⟩
      obtain ⟨b1, off1, rfl, _, hc1⟩ := H1.out (by omega)
      obtain ⟨b2, off2, rfl, _, hc2⟩ := H2.out (by omega)
      obtain ⟨x0, x1, x2⟩ := hc1 k x hx
      obtain ⟨y0, y1, y2⟩ := hc2 k x hx
      have he : ∀ W, (binOp .neq 49 (.agg #[.int .i64 x.t, .int .i64 x.w, .int .u64 x.n]) (.agg #[.int .i64 x.t, .int .i64 x.w, .int .u64 x.n])).run Try.prog W = .ok (.bool false) W := fun W => by rw [neVal, val_eq rfl]
      clear hx hc1 hc2
      go_wp2
      go_quiet (fail)
      go_wp2
      go_roundw
      case rel => exact ⟨k + 1, by omega, by simp, q + nq, rfl⟩
      case measure => simp [intOf]; omega
    · go_wp2
      go_ret
      exact ⟨rfl, q, rfl⟩
theorem are_any {a b : Value} {xs : List V3} {er : Int} {w : World} (ha : Rd w a xs) (hb : Rd w b xs) (hf : xs.length ≤ 100000) :
    Calls Try.prog 23 #[a, .int .i64 er, .int .i64 er, b] w fun e w' => e = .returned (.bool true) ∧ ∃ q, w' = w.drewN q := by
  obtain ⟨A, n, c, rfl, h1⟩ := ha
  obtain ⟨B, m, d, rfl, h2⟩ := hb
  have hn := h1.1
  have hm := h2.1
  have H1 := Lib.hid h1.2.2.2
  have H2 := Lib.hid h2.2.2.2
  have hnc := h1.2.1
  have hmd := h2.2.1
  have hc := h1.2.2.1
  have hd := h2.2.2.1
  unfold maxLen at hc hd
  obtain rfl : n = m := by omega
  have hG := valG
  rw [hn] at hf
  have HN := Lib.hid hn
  clear h1 h2 hn hm
  go_enter Try.func23, Try.ntmps23
  go_wp2_with fail
  go_loopw [9] (fun i wr => ∃ k : Nat, k ≤ n ∧ i = .int .i64 k ∧ ∃ q, wr = w.drewN q) (fun i _ => n - (intOf i).toNat)
  case atStart => exact ⟨0, Nat.zero_le _, rfl, 0, rfl⟩
  case round =>
    obtain ⟨k, hk, rfl, q, rfl⟩ := hrel
    by_cases hlt : k < n
    · obtain ⟨x, hx⟩ : ∃ x, xs[k]? = some x := ⟨_, List.getElem?_eq_getElem (by have := HN.out; omega)⟩
      obtain ⟨b1, off1, rfl, _, hc1⟩ := H1.out (by omega)
      obtain ⟨b2, off2, rfl, _, hc2⟩ := H2.out (by omega)
      obtain ⟨x0, x1, x2⟩ := hc1 k x hx
      obtain ⟨y0, y1, y2⟩ := hc2 k x hx
      have he : ∀ W, (binOp .neq 49 (.agg #[.int .i64 x.t, .int .i64 x.w, .int .u64 x.n]) (.agg #[.int .i64 x.t, .int .i64 x.w, .int .u64 x.n])).run Try.prog W = .ok (.bool false) W := fun W => by rw [neVal, val_eq rfl]
      clear hx hc1 hc2
      go_wp2
      go_quiet (fail)
      go_wp2
      go_roundw
      case rel => exact ⟨k + 1, by omega, by simp, q + nq, rfl⟩
      case measure => simp [intOf]; omega
    · go_wp2
      go_ret
      exact ⟨rfl, q, rfl⟩
theorem grown_trans {w w1 w2 : World} {r : Option Nat} (h1 : w.grownBy w1 r) (h2 : w1.grownBy w2 r) : w.grownBy w2 r :=
  ⟨h2.os.trans h1.os, h2.tape.trans h1.tape, h2.output.trans h1.output, Nat.le_trans h1.size h2.size, fun k hk hne => (h2.block k (Nat.lt_of_lt_of_le hk h1.size) hne).trans (h1.block k hk hne)⟩
theorem wreck_any {v : Value} {B : Nat} {xs : List V3} {w : World} (h : OV w B v xs) (hn : xs.length ≤ 65536) :
    Calls Try.prog 20 #[v] w fun e w' => e = .returned (.tuple #[]) ∧ w.grownBy w' v.ownBlock := by
  obtain ⟨n, hl⟩ : ∃ n, n = xs.length := ⟨_, rfl⟩
  rcases h.2 with ⟨rfl, h0⟩ | ⟨g, c, cur, rfl, _⟩
  · clear h hl
    go_enter Try.func20, Try.ntmps20
    go_wp2
    refine wp_loop_rounds 1 ?_
    rw [rounds_succ]
    go_wp2
    go_end0
    exact ⟨rfl, World.grownBy.refl w _⟩
  · have HO : Hid (w.ownsRow B 49 3 (.slice (some ⟨g, 0, none⟩) n c) n (pv xs)) := Lib.hid (by rw [hl]; exact h)
    rw [← hl] at hn ⊢
    clear h hl
    go_enter Try.func20, Try.ntmps20
    go_wp2
    go_loopw [2] (fun i wr => ∃ (j : Nat) (ys : List Value), j ≤ n ∧ i = .int .i64 j ∧ Hid (wr.ownsRow B 49 3 (.slice (some ⟨g, 0, none⟩) n c) n ys) ∧ Hid (w.grownBy wr (some g))) (fun i _ => n - (intOf i).toNat)
    case atStart => exact ⟨0, pv xs, Nat.zero_le _, rfl, HO, World.grownBy.refl w _⟩
    case round =>
      obtain ⟨j, ys, hj, rfl, HR, HB⟩ := hrel
      by_cases hlt : j < n
      · have hlen : ys.length = n * 3 := HR.out.1
        obtain ⟨y0, hy0⟩ : ∃ x, ys[j * 3]? = some x := ⟨_, List.getElem?_eq_getElem (by omega)⟩
        obtain ⟨y1, hy1⟩ : ∃ x, ys[j * 3 + 1]? = some x := ⟨_, List.getElem?_eq_getElem (by omega)⟩
        obtain ⟨y2, hy2⟩ : ∃ x, ys[j * 3 + 2]? = some x := ⟨_, List.getElem?_eq_getElem (by omega)⟩
        have c0 := HR.out.cellAt (j * 3) (by omega)
        have c1 := HR.out.cellAt (j * 3 + 1) (by omega)
        have c2 := HR.out.cellAt (j * 3 + 2) (by omega)
        rw [hy0] at c0
        rw [hy1] at c1
        rw [hy2] at c2
        have f0 := HR.out.frozenAt (j * 3)
        have f1 := HR.out.frozenAt (j * 3 + 1)
        have f2 := HR.out.frozenAt (j * 3 + 2)
        clear hlen hy0 hy1 hy2
        go_wp2
        obtain ⟨s0, t0⟩ := HR.out.stored (j * 3) (.int .i64 (-9))
        obtain ⟨s1, t1⟩ := s0.stored (j * 3 + 1) (.int .i64 0)
        obtain ⟨s2, t2⟩ := s1.stored (j * 3 + 2) (.int .u64 0)
        exact ⟨⟨j + 1, _, by omega, by go_num, s2, grown_trans HB.out (grown_trans t0 (grown_trans t1 t2))⟩, by simp [intOf]; omega⟩
      · go_wp2
        go_end0
        exact ⟨rfl, HB.out⟩
end Go.Proofs.Ytefgehjkankigaa
