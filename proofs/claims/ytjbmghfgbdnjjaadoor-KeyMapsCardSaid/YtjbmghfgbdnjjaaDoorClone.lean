/-
  What is proved here: contracts of strings.Clone and of slices.Clone at the two types of slices; conditions: strings of at most 1000 bytes, at most 100000 elements.
-/
import Derived.Test.YtjbmghfgbdnjjaaDoorOwn
import Derived.Test.YtjbmghfgbdnjjaaDoorShelf
namespace Go.Proofs.YtjbmghfgbdnjjaaDoor
open Go.RowKit

theorem strClone_any (s : ByteArray) (w : World) (hs : s.size ≤ 1000) : Calls Tryd.prog 62 #[.string s] w fun e w' => e = .returned (.string s) ∧ Below w.heap.size w w' := by
  go_enter Tryd.func62, Tryd.ntmps62
  go_wp2_with (go_at_call 77; refine (Tryd.stringslite_Clone s _ (by omega)).mono ?_; rintro e w' ⟨rfl, hb⟩)
  go_ret
  exact ⟨rfl, hb⟩

/-- What a library's word says of a new row, in this text's word. -/
theorem Ow.of {w : World} {B : Nat} {e : TypeId} {size n : Nat} {v : Value} {xs : List Value} (h : w.ownsRow B e size v n xs) : Ow (fun b => B ≤ b) w e size v n xs := by
  obtain ⟨h1, h2⟩ := h
  rcases h2 with ⟨rfl, hn⟩ | ⟨g, cap, cur, rfl, h3, h4, h5, h6, h7, h8⟩
  · exact ⟨⟨h1, .inl ⟨rfl, hn⟩⟩, fun g hg => by cases hg⟩
  · refine ⟨⟨h1, .inr ⟨g, cap, cur, rfl, Nat.zero_le _, h4, h5, h6, h7, h8⟩⟩, fun g' hg' => ?_⟩
    obtain rfl : g = g' := by simpa [Value.ownBlock] using hg'
    exact h3

theorem keysClone_any (ks : List ByteArray) (kv : Value) (w : World) (h : RdS w kv ks) (hl : ks.length ≤ 1000) :
    Calls Tryd.prog 63 #[kv] w fun e w' => ∃ v', e = .returned v' ∧ Ow (fun b => w.heap.size ≤ b) w' 9 1 v' ks.length (ks.map Value.string) ∧ Below w.heap.size w w' := by
  obtain ⟨A, n, c, rfl, rfl, h2, h3, h4, h5⟩ := h
  cases A with
  | none =>
    have hn : ks.length = 0 := by
      rcases Nat.eq_zero_or_pos ks.length with h0 | h0
      · exact h0
      · obtain ⟨_, _, e, _⟩ := h5 h0; cases e
    obtain rfl : ks = [] := List.length_eq_zero_iff.1 hn
    refine (Tryd.slices_Clone_string_nil _ c w).mono ?_
    rintro e w' ⟨rfl, rfl⟩
    exact ⟨_, rfl, ⟨⟨by simp, .inl ⟨rfl, rfl⟩⟩, fun g hg => by cases hg⟩, Below.refl _ _⟩
  | some a =>
    rcases Nat.eq_zero_or_pos ks.length with h0 | h0
    · obtain rfl : ks = [] := List.length_eq_zero_iff.1 h0
      refine (Tryd.slices_Clone_string_zero a c w).mono ?_
      rintro e w' ⟨v', rfl, hown, _, hb⟩
      exact ⟨_, rfl, Ow.of hown, hb⟩
    · obtain ⟨b, off, ha, hb, hc⟩ := h5 h0
      cases ha
      refine (Tryd.slices_Clone_string b off ks.length c ks w (Nat.le_refl _) (by omega) (fun j hj => ?_)).mono ?_
      · rw [hc j ks[j] (List.getElem?_eq_getElem hj)]
        simp [List.getD, hj]
      · rintro e w' ⟨v', rfl, hown, _, hb⟩
        rw [List.take_of_length_le (Nat.le_refl _)] at hown
        exact ⟨_, rfl, Ow.of hown, hb⟩

set_option maxHeartbeats 2000000 in
set_option maxRecDepth 100000 in
theorem nodesClone_any (A : Option Addr) (m c : Nat) (xs : List Value) (w : World) (hl : xs.length = m * 6) (h1 : ∀ u ∈ xs, u.oneCell' = true) (hm : m ≤ 100000) (hA : 0 < m → ∃ b off, A = some ⟨b, off, none⟩ ∧ b < w.heap.size ∧ ∀ j u, xs[j]? = some u → w.cell? ⟨b, off + j, none⟩ = some u) :
    Calls Tryd.prog 64 #[.slice A m c] w fun e w' => ∃ v', e = .returned v' ∧ Ow (fun b => w.heap.size ≤ b) w' 41 6 v' m xs ∧ Below w.heap.size w w' := by
  have q22 : ∀ (w : World) (a : Option Addr) (n c n' c' : Nat), (binOp .eql 39 (.slice a n c) (.slice none n' c')).run Tryd.prog w = .ok (.bool a.isNone) w := fun w a n c n' c' => Lib.run_eql_slice_nil w _ _ a n c n' c' Tryd.underlying39
  have u22 : ∀ w, Sem.run Tryd.prog (underlying 39) w = .ok (TypeDesc.slice 41) w := run_underlying Tryd.underlying39
  obtain ⟨i0, hi, hz0, hz1, hz2⟩ := info_parts (show (Tryd.prog.info? 41).map (fun i => (i.zero, i.size, i.bytes)) = some (some (.agg #[.int .i64 0, .int .i64 0, .int .u64 0, .string ⟨#[]⟩, .slice none 0 0, .slice none 0 0]), 6, 88) by kernel_rfl)
  cases A with
  | none =>
    have hm0 : m = 0 := by
      rcases Nat.eq_zero_or_pos m with h0 | h0
      · exact h0
      · obtain ⟨_, _, e, _⟩ := hA h0; cases e
    subst hm0
    obtain rfl : xs = [] := List.length_eq_zero_iff.1 (by simpa using hl)
    go_enter Tryd.func64, Tryd.ntmps64
    go_wp2
    go_ret
    exact ⟨_, rfl, ⟨⟨by simp, .inl ⟨rfl, rfl⟩⟩, fun g hg => by cases hg⟩, Below.refl _ _⟩
  | some a =>
    have hc : ∀ j u, xs[j]? = some u → w.cell? (a.add j) = some u := by
      intro j u hj
      have hp : 0 < m := by have := (List.getElem?_eq_some_iff.1 hj).1; omega
      obtain ⟨b, off, ha, _, hc⟩ := hA hp
      cases ha
      rw [← hc j u hj]
      congr 1
      unfold Addr.add
      by_cases h : j = 0 <;> simp [h]
    have AA : Aside (∀ j u, xs[j]? = some u → w.cell? (a.add j) = some u) := hc
    clear hc hA
    go_enter Tryd.func64, Tryd.ntmps64
    go_wp2_with (at_builtin; refine wpList_append_own _ rfl _ _ 39 rfl w.heap.size 41 i0 _ 6 88 Tryd.underlying39 hi hz0 hz1 hz2 rfl (by decide) _ _ _ rfl (World.ownsRow_made w #[] 0 (Nat.le_refl _) (Nat.zero_le _) rfl) a m c xs rfl ?qc1 ?qc2 ?qc3 ?qc4 ?qc5 ?qc6 ?_)
    case qc1 => exact hl
    case qc2 =>
      intro j u hj
      exact Lib.cell?_alloc_some _ (AA.out j u hj)
    case qc3 => exact h1
    case qc4 => unfold maxLen; omega
    case qc5 => omega
    case qc6 => simp
    intro v' w1 hown hgrow hnil
    go_wp2
    go_ret
    refine ⟨v', rfl, Ow.of (by simpa using hown), ?_⟩
    exact ((Below.refl _ w).alloc (Nat.le_refl _) _).grown hgrow (by simp) (by intro k hk; simp [Value.ownBlock] at hk; omega)
end Go.Proofs.YtjbmghfgbdnjjaaDoor
