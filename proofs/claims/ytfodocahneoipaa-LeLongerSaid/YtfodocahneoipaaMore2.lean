/-
  What is proved here: how an argument that is a struct Case, or an array of two byte slices, is opened; and plain facts about replacing a part of a list; no condition but those that each fact states.
-/
import Derived.Test.YtfodocahneoipaaMore
import Derived.Lib.SmallJoins
namespace Go.Proofs.Ytfodocahneoipaa
open Go.ChangeShapes Go.WideShapes Go.ChangeAt Go.RowKit Le Go.Joins

section
variable {H : Type} {enc : TypeId × Value → H}

theorem open_case {W : World} {base : Nat} {v : Value} {d : DataW H} {ps : List MemPlace} (hv : Value.okWide Try.prog W .any base 34 v)
    (h : DataW.Trod enc Try.prog W 0 (fun _ => true) true 34 v d ps) : ∃ x y u, v = .agg #[.int .i64 x, .int .i64 y, .int .u64 u] ∧ 0 ≤ u ∧ u ≤ 18446744073709551615 := by
  obtain ⟨c0, c1, c2, y0, y1, y2, m, rfl, rfl, rfl, hy0, hy1, hy2⟩ := open_agg3 Try.underlying34 (by kernel_rfl) (by kernel_rfl) hv h
  obtain ⟨x, hx, _, _⟩ := DataW.trod_int Try.underlying3 hy0
  obtain ⟨y, hy, _, _⟩ := DataW.trod_int Try.underlying3 hy1
  obtain ⟨u, hu, _, hw⟩ := DataW.trod_int Try.underlying24 hy2
  injection hx with hx
  injection hy with hy
  injection hu with hu
  subst hx; subst hy; subst hu
  have b : 0 ≤ u ∧ u ≤ 18446744073709551615 := by simpa [Lit.wf, IntKind.min, IntKind.max, IntKind.signed, IntKind.bits] using hw
  exact ⟨x, y, u, rfl, b.1, b.2⟩

theorem open_bytes_at {W : World} {v : Value} {fuel : Nat} {x : DataW H × List MemPlace}
    (hf : DataW.trod enc Try.prog W 0 (fun _ => true) true fuel 22 [v] = some x) : ∃ A n c xs, v = .slice A n c ∧ Rds W A n c xs ∧ c ≤ maxLen := by
  have hs : ∃ A n c, v = .slice A n c := by
    rcases open_ints Try.underlying22 Try.underlying5 cellsU8 hf with ⟨hcs, hx⟩ | ⟨a, len', cap', zs, hcs, _⟩
    · injection hcs with hcs; exact ⟨_, _, _, hcs⟩
    · injection hcs with hcs; exact ⟨_, _, _, hcs⟩
  obtain ⟨A, n, c, rfl⟩ := hs
  rcases open_ints Try.underlying22 Try.underlying5 cellsU8 hf with ⟨hcs, hx⟩ | ⟨a, len', cap', zs, hcs, _, hl, hm, hz, hx, hcell, hwz⟩
  · simp at hcs
    obtain ⟨rfl, rfl, rfl⟩ := hcs
    exact ⟨none, 0, 0, [], rfl, ⟨rfl, Nat.le_refl _, fun h => absurd h (by omega)⟩, by simp [maxLen]⟩
  · simp at hcs
    obtain ⟨rfl, rfl, rfl⟩ := hcs
    simp only [if_true] at hz
    refine ⟨some a, n, c, (zs.take n).map (fun z => UInt8.ofNat z.toNat), rfl, ⟨by simp; omega, hl, fun hn => ?_⟩, hm⟩
    obtain ⟨b, off, spot⟩ := a
    have hspot : spot = none := by simpa [Addr.add] using World.cell?_spot (hcell 0 (by omega))
    subst hspot
    refine ⟨b, off, rfl, ?_, fun j x hj => ?_⟩
    · have := World.block_lt_of_cell? W _ (hcell 0 (by omega))
      simpa [Addr.add] using this
    · simp only [List.getElem?_map, Option.map_eq_some_iff] at hj
      obtain ⟨z, hz1, rfl⟩ := hj
      rw [List.getElem?_take] at hz1
      split at hz1
      · have hjl : j < zs.length := (List.getElem?_eq_some_iff.1 hz1).1
        have hc := hcell j hjl
        rw [add_none] at hc
        rw [hc]
        have ez : zs.getD j 0 = z := by simp [List.getD, hz1]
        rw [ez]
        have hw := hwz z (List.mem_of_getElem? hz1)
        have hb : 0 ≤ z ∧ z ≤ 255 := by simpa [Lit.wf, IntKind.min, IntKind.max, IntKind.signed, IntKind.bits] using hw
        have e : (UInt8.ofNat z.toNat).toNat = z.toNat := by
          rw [UInt8.toNat_ofNat']
          have e8 : (2 : Nat) ^ 8 = 256 := by decide
          rw [e8]; omega
        rw [e, Int.toNat_of_nonneg hb.1]
      · cases hz1

theorem open_pair {W : World} {base : Nat} {v : Value} {d : DataW H} {ps : List MemPlace} (hv : Value.okWide Try.prog W .any base 41 v)
    (h : DataW.Trod enc Try.prog W 0 (fun _ => true) true 41 v d ps) : ∃ A n c xs A' n' c' xs', v = .agg #[.slice A n c, .slice A' n' c'] ∧ Rds W A n c xs ∧ c ≤ maxLen ∧ Rds W A' n' c' xs' ∧ c' ≤ maxLen := by
  have hs : ∃ cs, v = .agg cs ∧ cs.size = Try.prog.cellsOf 41 := by
    simp only [Value.okWide, Try.underlying41] at hv
    obtain ⟨cs, h1, h2, _⟩ := hv
    exact ⟨cs, h1, h2⟩
  obtain ⟨cs, rfl, hsz⟩ := hs
  obtain ⟨c0, c1, rfl⟩ := array2 (hsz.trans (by kernel_rfl))
  obtain ⟨fuel, hf⟩ := h
  obtain ⟨xs, m, _, _, _, hl, he⟩ := DataW.trod_array Try.underlying41 hf
  have e1 : Try.prog.cellsOf 22 = 1 := by kernel_rfl
  have h0 := he 0 (by omega)
  have h1 := he 1 (by omega)
  rw [e1] at h0 h1
  have h0' : DataW.trod enc Try.prog W 0 (fun _ => true) true m 22 [c0] = xs[0]? := by simpa [Value.cells] using h0
  have h1' : DataW.trod enc Try.prog W 0 (fun _ => true) true m 22 [c1] = xs[1]? := by simpa [Value.cells] using h1
  rw [List.getElem?_eq_getElem (by omega)] at h0' h1'
  obtain ⟨A, n, c, ys, rfl, hr, hc⟩ := open_bytes_at h0'
  obtain ⟨A', n', c', ys', rfl, hr', hc'⟩ := open_bytes_at h1'
  exact ⟨A, n, c, ys, A', n', c', ys', rfl, hr, hc, hr', hc'⟩
end

/-! ### A part of a list, replaced -/
theorem set_len {ys e : List UInt8} {a k : Nat} (h : a + k ≤ ys.length) (he : e.length = k) : (ys.take a ++ (e ++ ys.drop (a + k))).length = ys.length := by
  rw [List.length_append, List.length_append, List.length_take, List.length_drop, he]; omega
theorem set_seg {ys e : List UInt8} {a k : Nat} (h : a + k ≤ ys.length) (he : e.length = k) : ((ys.take a ++ (e ++ ys.drop (a + k))).drop a).take k = e := by
  have h1 : (ys.take a).length = a := by rw [List.length_take]; omega
  rw [List.drop_left' h1, List.take_left' he]
theorem set_back {ys e : List UInt8} {a k : Nat} (h : a + k ≤ ys.length) (he : e.length = k) :
    (ys.take a ++ (e ++ ys.drop (a + k))).take a ++ ((ys.drop a).take k ++ (ys.take a ++ (e ++ ys.drop (a + k))).drop (a + k)) = ys := by
  have h1 : (ys.take a).length = a := by rw [List.length_take]; omega
  have h2 : (ys.take a ++ e).length = a + k := by rw [List.length_append, h1, he]
  rw [List.take_left' h1, ← List.append_assoc (ys.take a) e, List.drop_left' h2]
  have h3 : ys.drop (a + k) = (ys.drop a).drop k := by rw [List.drop_drop]
  rw [h3, List.take_append_drop, List.take_append_drop]
theorem set_out {ys e : List UInt8} {a k i : Nat} (h : a + k ≤ ys.length) (he : e.length = k) (hi : i < a ∨ a + k ≤ i) :
    (ys.take a ++ (e ++ ys.drop (a + k)))[i]? = ys[i]? := by
  have h1 : (ys.take a).length = a := by rw [List.length_take]; omega
  rcases hi with hi | hi
  · rw [List.getElem?_append_left (by omega), List.getElem?_take, if_pos hi]
  · rw [List.getElem?_append_right (by omega), List.getElem?_append_right (by omega), List.getElem?_drop, h1, he]
    congr 1; omega
end Go.Proofs.Ytfodocahneoipaa
