/-
  What is proved here: contracts of strings.Clone and of slices.Clone at the two types of slices; conditions: strings of at most 1000 bytes, at most 100000 elements; and: a contract of tree.Copy: an equal tree in memory of the call's own; conditions: at most 100000 nodes, 1000 keys a node, 1000 bytes a string.
-/
import Derived.Test.YtnplkamkeadlgaaDoorOwn
import Derived.Test.YtnplkamkeadlgaaDoorKShelf
namespace Go.Proofs.YtnplkamkeadlgaaDoor
open Go.RowKit

theorem strClone_any (s : ByteArray) (w : World) (hs : s.size ≤ 1000) : Calls Tryd.prog 58 #[.string s] w fun e w' => e = .returned (.string s) ∧ Below w.heap.size w w' := by
  go_enter Tryd.func58, Tryd.ntmps58
  go_wp2_with (go_at_call 73; refine (Tryd.stringslite_Clone s _ (by omega)).mono ?_; rintro e w' ⟨rfl, hb⟩)
  go_ret
  exact ⟨rfl, hb⟩

/-- What a library's word says of a new row, in this text's word. -/
theorem Ow.of {w : World} {B : Nat} {e : TypeId} {size n : Nat} {v : Value} {xs : List Value} (h : w.ownsRow B e size v n xs) : Ow (fun b => B ≤ b) w e size v n xs := by
  obtain ⟨h1, h2⟩ := h
  rcases h2 with ⟨rfl, hn⟩ | ⟨g, cap, cur, rfl, h3, h4, h5, h6, h7, h8⟩
  · exact ⟨⟨h1, .inl ⟨rfl, hn⟩⟩, fun g hg => by cases hg⟩
  · refine ⟨⟨h1, .inr ⟨g, cap, cur, rfl, Nat.zero_le _, h4, h5, h6, h7, h8⟩⟩, fun g' hg' => ?_⟩
    obtain rfl : g = g' := by simpa [Value.ownBlock] using hg'
    exact h3

theorem keysClone_any (ks : List ByteArray) (kv : Value) (w : World) (h : RdS w kv ks) (hl : ks.length ≤ 1000) :
    Calls Tryd.prog 59 #[kv] w fun e w' => ∃ v', e = .returned v' ∧ Ow (fun b => w.heap.size ≤ b) w' 9 1 v' ks.length (ks.map Value.string) ∧ Below w.heap.size w w' := by
  obtain ⟨A, n, c, rfl, rfl, h2, h3, h4, h5⟩ := h
  cases A with
  | none =>
    have hn : ks.length = 0 := by
      rcases Nat.eq_zero_or_pos ks.length with h0 | h0
      · exact h0
      · obtain ⟨_, _, e, _⟩ := h5 h0; cases e
    obtain rfl : ks = [] := List.length_eq_zero_iff.1 hn
    refine (Tryd.slices_Clone_string_nil _ c w).mono ?_
    rintro e w' ⟨rfl, rfl⟩
    exact ⟨_, rfl, ⟨⟨by simp, .inl ⟨rfl, rfl⟩⟩, fun g hg => by cases hg⟩, Below.refl _ _⟩
  | some a =>
    rcases Nat.eq_zero_or_pos ks.length with h0 | h0
    · obtain rfl : ks = [] := List.length_eq_zero_iff.1 h0
      refine (Tryd.slices_Clone_string_zero a c w).mono ?_
      rintro e w' ⟨v', rfl, hown, _, hb⟩
      exact ⟨_, rfl, Ow.of hown, hb⟩
    · obtain ⟨b, off, ha, hb, hc⟩ := h5 h0
      cases ha
      refine (Tryd.slices_Clone_string b off ks.length c ks w (Nat.le_refl _) (by omega) (fun j hj => ?_)).mono ?_
      · rw [hc j ks[j] (List.getElem?_eq_getElem hj)]
        simp [List.getD, hj]
      · rintro e w' ⟨v', rfl, hown, _, hb⟩
        rw [List.take_of_length_le (Nat.le_refl _)] at hown
        exact ⟨_, rfl, Ow.of hown, hb⟩

set_option maxHeartbeats 2000000 in
set_option maxRecDepth 100000 in
theorem nodesClone_any (A : Option Addr) (m c : Nat) (xs : List Value) (w : World) (hl : xs.length = m * 6) (h1 : ∀ u ∈ xs, u.oneCell' = true) (hm : m ≤ 100000) (hA : 0 < m → ∃ b off, A = some ⟨b, off, none⟩ ∧ b < w.heap.size ∧ ∀ j u, xs[j]? = some u → w.cell? ⟨b, off + j, none⟩ = some u) :
    Calls Tryd.prog 60 #[.slice A m c] w fun e w' => ∃ v', e = .returned v' ∧ Ow (fun b => w.heap.size ≤ b) w' 31 6 v' m xs ∧ Below w.heap.size w w' := by
  have q22 : ∀ (w : World) (a : Option Addr) (n c n' c' : Nat), (binOp .eql 29 (.slice a n c) (.slice none n' c')).run Tryd.prog w = .ok (.bool a.isNone) w := fun w a n c n' c' => Lib.run_eql_slice_nil w _ _ a n c n' c' Tryd.underlying29
  have u22 : ∀ w, Sem.run Tryd.prog (underlying 29) w = .ok (TypeDesc.slice 31) w := run_underlying Tryd.underlying29
  obtain ⟨i0, hi, hz0, hz1, hz2⟩ := info_parts (show (Tryd.prog.info? 31).map (fun i => (i.zero, i.size, i.bytes)) = some (some (.agg #[.int .i64 0, .int .i64 0, .int .u64 0, .string ⟨#[]⟩, .slice none 0 0, .slice none 0 0]), 6, 88) by kernel_rfl)
  cases A with
  | none =>
    have hm0 : m = 0 := by
      rcases Nat.eq_zero_or_pos m with h0 | h0
      · exact h0
      · obtain ⟨_, _, e, _⟩ := hA h0; cases e
    subst hm0
    obtain rfl : xs = [] := List.length_eq_zero_iff.1 (by simpa using hl)
    go_enter Tryd.func60, Tryd.ntmps60
    go_wp2
    go_ret
    exact ⟨_, rfl, ⟨⟨by simp, .inl ⟨rfl, rfl⟩⟩, fun g hg => by cases hg⟩, Below.refl _ _⟩
  | some a =>
    have hc : ∀ j u, xs[j]? = some u → w.cell? (a.add j) = some u := by
      intro j u hj
      have hp : 0 < m := by have := (List.getElem?_eq_some_iff.1 hj).1; omega
      obtain ⟨b, off, ha, _, hc⟩ := hA hp
      cases ha
      rw [← hc j u hj]
      congr 1
      unfold Addr.add
      by_cases h : j = 0 <;> simp [h]
    have AA : Aside (∀ j u, xs[j]? = some u → w.cell? (a.add j) = some u) := hc
    clear hc hA
    go_enter Tryd.func60, Tryd.ntmps60
    go_wp2_with (at_builtin; refine wpList_append_own _ rfl _ _ 29 rfl w.heap.size 31 i0 _ 6 88 Tryd.underlying29 hi hz0 hz1 hz2 rfl (by decide) _ _ _ rfl (World.ownsRow_made w #[] 0 (Nat.le_refl _) (Nat.zero_le _) rfl) a m c xs rfl ?qc1 ?qc2 ?qc3 ?qc4 ?qc5 ?qc6 ?_)
    case qc1 => exact hl
    case qc2 =>
      intro j u hj
      exact Lib.cell?_alloc_some _ (AA.out j u hj)
    case qc3 => exact h1
    case qc4 => unfold maxLen; omega
    case qc5 => omega
    case qc6 => simp
    intro v' w1 hown hgrow hnil
    go_wp2
    go_ret
    refine ⟨v', rfl, Ow.of (by simpa using hown), ?_⟩
    exact ((Below.refl _ w).alloc (Nat.le_refl _) _).grown hgrow (by simp) (by intro k hk; simp [Value.ownBlock] at hk; omega)
end Go.Proofs.YtnplkamkeadlgaaDoor
namespace Go.Proofs.YtnplkamkeadlgaaDoor
open Go.RowKit

def UU (w : World) (v : Value) (b : Nat) : Prop := w.heap.size + 2 ≤ b ∧ some b ≠ v.ownBlock
theorem Bx.set3 {w : World} {g : Nat} {v0 v1 v2 v3 v4 v5 : Value} (h : Bx w g v0 v1 v2 v3 v4 v5) (u : Value) : Bx (w.setCell ⟨g, 3, none⟩ u) g v0 v1 v2 u v4 v5 := Blk.put h 3 u
theorem Bx.set4 {w : World} {g : Nat} {v0 v1 v2 v3 v4 v5 : Value} (h : Bx w g v0 v1 v2 v3 v4 v5) (u : Value) : Bx (w.setCell ⟨g, 4, none⟩ u) g v0 v1 v2 v3 u v5 := Blk.put h 4 u
theorem Bx.set5 {w : World} {g : Nat} {v0 v1 v2 v3 v4 v5 : Value} (h : Bx w g v0 v1 v2 v3 v4 v5) (u : Value) : Bx (w.setCell ⟨g, 5, none⟩ u) g v0 v1 v2 v3 v4 u := Blk.put h 5 u
theorem heap_set_other (w : World) (g i b : Nat) (u : Value) (h : b ≠ g) : (w.setCell ⟨g, i, none⟩ u).heap[b]? = w.heap[b]? := Below.heap_setCell _ _ _ b h
theorem Blk.setOther {w : World} {b g i : Nat} {t : TypeId} {cs : Array Value} (h : Blk w b t cs) (u : Value) (hne : b ≠ g) : Blk (w.setCell ⟨g, i, none⟩ u) b t cs := (heap_set_other w g i b u hne).trans h
theorem size_set (w : World) (a : Addr) (u : Value) : (w.setCell a u).heap.size = w.heap.size := by simp
/-- The first box written at its fourth, fifth, sixth cell. -/
theorem Two.set3 {w wr : World} {v0 v1 v2 v3 v4 v5 u0 u1 u2 u3 u4 u5 : Value} (h : Two w v0 v1 v2 v3 v4 v5 u0 u1 u2 u3 u4 u5 wr) (x : Value) : Two w v0 v1 v2 x v4 v5 u0 u1 u2 u3 u4 u5 (wr.setCell ⟨w.heap.size, 3, none⟩ x) :=
  ⟨h.1.setCell (p := ⟨w.heap.size, 3, none⟩) (Nat.le_refl _) x, by rw [size_set]; exact h.2.1, h.2.2.1.set3 x, h.2.2.2.setOther x (by omega)⟩
theorem Two.set4 {w wr : World} {v0 v1 v2 v3 v4 v5 u0 u1 u2 u3 u4 u5 : Value} (h : Two w v0 v1 v2 v3 v4 v5 u0 u1 u2 u3 u4 u5 wr) (x : Value) : Two w v0 v1 v2 v3 x v5 u0 u1 u2 u3 u4 u5 (wr.setCell ⟨w.heap.size, 4, none⟩ x) :=
  ⟨h.1.setCell (p := ⟨w.heap.size, 4, none⟩) (Nat.le_refl _) x, by rw [size_set]; exact h.2.1, h.2.2.1.set4 x, h.2.2.2.setOther x (by omega)⟩
theorem Two.set5 {w wr : World} {v0 v1 v2 v3 v4 v5 u0 u1 u2 u3 u4 u5 : Value} (h : Two w v0 v1 v2 v3 v4 v5 u0 u1 u2 u3 u4 u5 wr) (x : Value) : Two w v0 v1 v2 v3 v4 x u0 u1 u2 u3 u4 u5 (wr.setCell ⟨w.heap.size, 5, none⟩ x) :=
  ⟨h.1.setCell (p := ⟨w.heap.size, 5, none⟩) (Nat.le_refl _) x, by rw [size_set]; exact h.2.1, h.2.2.1.set5 x, h.2.2.2.setOther x (by omega)⟩
theorem Ow.setOther {U : Nat → Prop} {w : World} {e : TypeId} {size n g i : Nat} {v : Value} {xs : List Value} (h : Ow U w e size v n xs) (u : Value) (hg : ∀ b, U b → b ≠ g) : Ow U (w.setCell ⟨g, i, none⟩ u) e size v n xs :=
  h.step fun b hU _ => ⟨heap_set_other w g i b u (hg b hU), hU⟩
/-- Between two rounds of the first loop. -/
def C1 (w : World) (k n u : Int) (s : ByteArray) (v4 v5 : Value) (ks : List ByteArray) (wr : World) : Prop :=
  Two w (.int .i64 k) (.int .i64 n) (.int .u64 u) (.string s) v4 v5 (.int .i64 0) (.int .i64 0) (.int .u64 0) (.string ⟨#[]⟩) (.slice none 0 0) (.slice none 0 0) wr ∧ Ow (fun b => w.heap.size + 2 ≤ b) wr 9 1 v4 ks.length (ks.map Value.string)
theorem C1.below {w wr w2 : World} {k n u : Int} {s : ByteArray} {v4 v5 : Value} {ks : List ByteArray} (h : C1 w k n u s v4 v5 ks wr) (hb : Below wr.heap.size wr w2) : C1 w k n u s v4 v5 ks w2 :=
  ⟨h.1.below hb, h.2.step fun b hb2 hlt => ⟨hb.block b hlt, hb2⟩⟩
/-- The same string stored where it stood. -/
theorem Ow.setSame {U : Nat → Prop} {w : World} {e : TypeId} {size n g c i : Nat} {xs : List Value} {u : Value} (h : Ow U w e size (.slice (some ⟨g, 0, none⟩) n c) n xs) (hu : xs[i]? = some u) : Ow U (w.setCell ⟨g, i, none⟩ u) e size (.slice (some ⟨g, 0, none⟩) n c) n xs := by
  have hs := (h.1.stored i u).1
  have e : xs.set i u = xs := by
    apply List.ext_getElem?
    intro j
    rw [List.getElem?_set]
    by_cases hj : i = j
    · subst hj; rw [if_pos rfl, hu, if_pos (List.getElem?_eq_some_iff.1 hu).1]
    · rw [if_neg hj]
  rw [e] at hs
  exact ⟨hs, h.2⟩

theorem C1.set {w wr : World} {k n u : Int} {s : ByteArray} {g d : Nat} {v5 : Value} {ks : List ByteArray} (h : C1 w k n u s (.slice (some ⟨g, 0, none⟩) ks.length d) v5 ks wr) {j : Nat} {x : ByteArray} (hx : ks[j]? = some x) :
    C1 w k n u s (.slice (some ⟨g, 0, none⟩) ks.length d) v5 ks (wr.setCell ⟨g, j, none⟩ (.string x)) := by
  have hg := h.2.2 g rfl
  exact ⟨⟨h.1.1.setCell (p := ⟨g, j, none⟩) (by show w.heap.size ≤ g; omega) _, by rw [size_set]; exact h.1.2.1, h.1.2.2.1.setOther _ (by omega), h.1.2.2.2.setOther _ (by omega)⟩, h.2.setSame (by rw [List.getElem?_map, hx]; rfl)⟩

/-- The cells of a row of nodes. -/
def NdX (w : World) : List T → List Value → Prop
  | [], xs => xs = []
  | t :: ts, xs => ∃ cs ys, xs = cs ++ ys ∧ Nd w t cs ∧ NdX w ts ys
theorem Nd.len {w : World} {t : T} {cs : List Value} (h : Nd w t cs) : cs.length = 6 := by
  obtain ⟨_, _, _, _, _, _, _, _, _, _, rfl⟩ := h.shape
  rfl
theorem Nd.one {w : World} {t : T} {cs : List Value} (h : Nd w t cs) : ∀ u ∈ cs, u.oneCell' = true := by
  obtain ⟨_, _, _, _, _, _, _, _, _, _, rfl⟩ := h.shape
  intro u hu
  simp only [List.mem_cons, List.not_mem_nil, or_false] at hu
  rcases hu with rfl | rfl | rfl | rfl | rfl | rfl <;> rfl
theorem NdL.flat {w : World} {b : Nat} : ∀ (l : List T) (off : Nat), NdL w b l off → ∃ xs, xs.length = l.length * 6 ∧ (∀ j u, xs[j]? = some u → w.cell? ⟨b, off + j, none⟩ = some u) ∧ NdX w l xs ∧ (∀ u ∈ xs, u.oneCell' = true)
  | [], _, _ => ⟨[], rfl, fun j u h => by simp at h, rfl, fun u h => by simp at h⟩
  | t :: ts, off, h => by
    obtain ⟨⟨cs, hc, hn⟩, hr⟩ := h
    obtain ⟨ys, h1, h2, h3, h4⟩ := NdL.flat ts (off + 6) hr
    have hl := hn.len
    refine ⟨cs ++ ys, by simp [h1, hl]; omega, fun j u hj => ?_, ⟨cs, ys, rfl, hn, h3⟩, fun u hu => ?_⟩
    · rcases Nat.lt_or_ge j 6 with hj6 | hj6
      · rw [List.getElem?_append_left (by omega)] at hj
        rw [hc j hj6, hj]
      · rw [List.getElem?_append_right (by omega), hl] at hj
        have := h2 _ _ hj
        rwa [show off + 6 + (j - 6) = off + j by omega] at this
    · rcases List.mem_append.1 hu with hu | hu
      · exact hn.one u hu
      · exact h4 u hu
theorem NdX.len {w : World} : ∀ {l : List T} {xs : List Value}, NdX w l xs → xs.length = l.length * 6
  | [], _, h => by obtain rfl : _ = [] := h; rfl
  | t :: ts, xs, h => by
    obtain ⟨cs, ys, rfl, h1, h2⟩ := h
    rw [List.length_append, h1.len, h2.len, List.length_cons]
    omega
theorem NdX.drop {w : World} {L : List T} {j : Nat} {t : T} {zs : List Value} (h : NdX w (L.drop j) zs) (ht : L[j]? = some t) : ∃ cs ys, zs = cs ++ ys ∧ Nd w t cs ∧ NdX w (L.drop (j + 1)) ys := by
  have hj := (List.getElem?_eq_some_iff.1 ht)
  rw [List.drop_eq_getElem_cons hj.1, hj.2] at h
  exact h
/-- Between two rounds of the second loop. -/
def C2 (w : World) (k n u : Int) (s : ByteArray) (v4 v5 : Value) (ks : List ByteArray) (m : Nat) (L : List T) (ys zs : List Value) (wr : World) : Prop :=
  Two w (.int .i64 k) (.int .i64 n) (.int .u64 u) (.string s) v4 v5 (.int .i64 0) (.int .i64 0) (.int .u64 0) (.string ⟨#[]⟩) (.slice none 0 0) (.slice none 0 0) wr ∧ Ow (UU w v5) wr 9 1 v4 ks.length (ks.map Value.string) ∧
    Ow (fun b => w.heap.size + 2 ≤ b) wr 31 6 v5 m (ys ++ zs) ∧ NdOL (UU w v5) wr L ys
theorem C2.below {w wr w2 : World} {k n u : Int} {s : ByteArray} {v4 v5 : Value} {ks : List ByteArray} {m : Nat} {L : List T} {ys zs : List Value} (h : C2 w k n u s v4 v5 ks m L ys zs wr) (hb : Below wr.heap.size wr w2) : C2 w k n u s v4 v5 ks m L ys zs w2 :=
  ⟨h.1.below hb, h.2.1.step fun b hb2 hlt => ⟨hb.block b hlt, hb2⟩, h.2.2.1.step fun b hb2 hlt => ⟨hb.block b hlt, hb2⟩, NdOL.step (fun b hb2 hlt => ⟨hb.block b hlt, hb2⟩) _ _ h.2.2.2⟩
/-- Six cells stored one behind the other. -/
def put6 (w : World) (g o : Nat) (a0 a1 a2 a3 a4 a5 : Value) : World :=
  (((((w.setCell ⟨g, o, none⟩ a0).setCell ⟨g, o + 1, none⟩ a1).setCell ⟨g, o + 2, none⟩ a2).setCell ⟨g, o + 3, none⟩ a3).setCell ⟨g, o + 4, none⟩ a4).setCell ⟨g, o + 5, none⟩ a5
theorem put6_other (w : World) (g o b : Nat) (a0 a1 a2 a3 a4 a5 : Value) (h : b ≠ g) : (put6 w g o a0 a1 a2 a3 a4 a5).heap[b]? = w.heap[b]? := by
  unfold put6
  rw [heap_set_other _ _ _ _ _ h, heap_set_other _ _ _ _ _ h, heap_set_other _ _ _ _ _ h, heap_set_other _ _ _ _ _ h, heap_set_other _ _ _ _ _ h, heap_set_other _ _ _ _ _ h]
theorem put6_size (w : World) (g o : Nat) (a0 a1 a2 a3 a4 a5 : Value) : (put6 w g o a0 a1 a2 a3 a4 a5).heap.size = w.heap.size := by
  unfold put6
  simp
theorem put6_below {n : Nat} {w0 w : World} (h : Below n w0 w) (g o : Nat) (a0 a1 a2 a3 a4 a5 : Value) (hg : n ≤ g) : Below n w0 (put6 w g o a0 a1 a2 a3 a4 a5) := by
  unfold put6
  exact (((((h.setCell (p := ⟨g, o, none⟩) hg _).setCell (p := ⟨g, o + 1, none⟩) hg _).setCell (p := ⟨g, o + 2, none⟩) hg _).setCell (p := ⟨g, o + 3, none⟩) hg _).setCell (p := ⟨g, o + 4, none⟩) hg _).setCell (p := ⟨g, o + 5, none⟩) hg _
theorem put6_blk {w : World} {g o b : Nat} {t : TypeId} {cs : Array Value} (h : Blk w b t cs) (hne : b ≠ g) (a0 a1 a2 a3 a4 a5 : Value) : Blk (put6 w g o a0 a1 a2 a3 a4 a5) b t cs := (put6_other w g o b _ _ _ _ _ _ hne).trans h
theorem put6_two {w wr : World} {v0 v1 v2 v3 v4 v5 u0 u1 u2 u3 u4 u5 : Value} (h : Two w v0 v1 v2 v3 v4 v5 u0 u1 u2 u3 u4 u5 wr) {g : Nat} (o : Nat) (hg : w.heap.size + 2 ≤ g) (a0 a1 a2 a3 a4 a5 : Value) : Two w v0 v1 v2 v3 v4 v5 u0 u1 u2 u3 u4 u5 (put6 wr g o a0 a1 a2 a3 a4 a5) :=
  ⟨put6_below h.1 _ _ _ _ _ _ _ _ (by omega), by rw [put6_size]; exact h.2.1, put6_blk h.2.2.1 (by omega) _ _ _ _ _ _, put6_blk h.2.2.2 (by omega) _ _ _ _ _ _⟩
theorem set_app (ys zs : List Value) (o : Nat) (u : Value) (h : ys.length ≤ o) : (ys ++ zs).set o u = ys ++ zs.set (o - ys.length) u := by
  rw [List.set_append, if_neg (by omega)]
theorem put6_ow {U : Nat → Prop} {w : World} {g n c o : Nat} {ys zs : List Value} {b0 b1 b2 b3 b4 b5 : Value} (h : Ow U w 31 6 (.slice (some ⟨g, 0, none⟩) n c) n (ys ++ ([b0, b1, b2, b3, b4, b5] ++ zs))) (ho : ys.length = o) (a0 a1 a2 a3 a4 a5 : Value) :
    Ow U (put6 w g o a0 a1 a2 a3 a4 a5) 31 6 (.slice (some ⟨g, 0, none⟩) n c) n ((ys ++ [a0, a1, a2, a3, a4, a5]) ++ zs) := by
  refine ⟨?_, h.2⟩
  have h1 := (((((((h.1.stored o a0).1.stored (o + 1) a1).1).stored (o + 2) a2).1.stored (o + 3) a3).1.stored (o + 4) a4).1.stored (o + 5) a5).1
  have e : ((((((ys ++ ([b0, b1, b2, b3, b4, b5] ++ zs)).set o a0).set (o + 1) a1).set (o + 2) a2).set (o + 3) a3).set (o + 4) a4).set (o + 5) a5 = (ys ++ [a0, a1, a2, a3, a4, a5]) ++ zs := by
    subst ho
    rw [set_app _ _ _ _ (by omega), set_app _ _ _ _ (by omega), set_app _ _ _ _ (by omega), set_app _ _ _ _ (by omega), set_app _ _ _ _ (by omega), set_app _ _ _ _ (by omega)]
    simp [Nat.add_sub_cancel_left]
  rw [e] at h1
  exact h1

/-- The two boxes, and the box of the round's child. -/
def DD (w : World) (k n u : Int) (s : ByteArray) (v4 v5 : Value) (cb : Nat) (c0 c1 c2 c3 c4 c5 : Value) (W : World) : Prop :=
  Two w (.int .i64 k) (.int .i64 n) (.int .u64 u) (.string s) v4 v5 (.int .i64 0) (.int .i64 0) (.int .u64 0) (.string ⟨#[]⟩) (.slice none 0 0) (.slice none 0 0) W ∧ Bx W cb c0 c1 c2 c3 c4 c5
theorem DD.put {w W : World} {k n u : Int} {s : ByteArray} {v4 v5 : Value} {cb : Nat} {c0 c1 c2 c3 c4 c5 : Value} (h : DD w k n u s v4 v5 cb c0 c1 c2 c3 c4 c5 W) {g : Nat} (o : Nat) (hg : w.heap.size + 2 ≤ g) (hgc : g < cb) (a0 a1 a2 a3 a4 a5 : Value) :
    DD w k n u s v4 v5 cb c0 c1 c2 c3 c4 c5 (put6 W g o a0 a1 a2 a3 a4 a5) := ⟨put6_two h.1 o hg _ _ _ _ _ _, put6_blk h.2 (by omega) _ _ _ _ _ _⟩
theorem DD.below {w W W2 : World} {k n u : Int} {s : ByteArray} {v4 v5 : Value} {cb : Nat} {c0 c1 c2 c3 c4 c5 : Value} (h : DD w k n u s v4 v5 cb c0 c1 c2 c3 c4 c5 W) (hb : Below W.heap.size W W2) : DD w k n u s v4 v5 cb c0 c1 c2 c3 c4 c5 W2 :=
  ⟨h.1.below hb, h.2.below hb h.2.lt⟩
theorem C2.put {w wr : World} {k n u : Int} {s : ByteArray} {v4 : Value} {ks : List ByteArray} {m g e j : Nat} {L : List T} {ys zs : List Value} {b0 b1 b2 b3 b4 b5 a0 a1 a2 a3 a4 a5 : Value} {t0 : T}
    (h : C2 w k n u s v4 (.slice (some ⟨g, 0, none⟩) m e) ks m (L.take j) ys ([b0, b1, b2, b3, b4, b5] ++ zs) wr) (hy : ys.length = j * 6) (ht : L[j]? = some t0) (hn : NdO (UU w (.slice (some ⟨g, 0, none⟩) m e)) wr t0 [a0, a1, a2, a3, a4, a5]) :
    C2 w k n u s v4 (.slice (some ⟨g, 0, none⟩) m e) ks m (L.take (j + 1)) (ys ++ [a0, a1, a2, a3, a4, a5]) zs (put6 wr g (j * 6) a0 a1 a2 a3 a4 a5) := by
  have hg := h.2.2.1.2 g rfl
  have hk : ∀ b, UU w (.slice (some ⟨g, 0, none⟩) m e) b → b < wr.heap.size → (put6 wr g (j * 6) a0 a1 a2 a3 a4 a5).heap[b]? = wr.heap[b]? ∧ UU w (.slice (some ⟨g, 0, none⟩) m e) b := fun b hb _ => ⟨put6_other _ _ _ _ _ _ _ _ _ _ (fun e2 => hb.2 (by rw [e2]; rfl)), hb⟩
  refine ⟨put6_two h.1 _ hg _ _ _ _ _ _, h.2.1.step hk, put6_ow h.2.2.1 hy _ _ _ _ _ _, ?_⟩
  rw [List.take_add_one, ht]
  exact NdOL.app (NdO.step hk _ _ hn) (NdOL.step hk _ _ h.2.2.2)
theorem NdO.shape6 {U : Nat → Prop} {w : World} {t : T} {cs : List Value} (h : NdO U w t cs) : ∃ (k n u : Int) (s : ByteArray) (A1 : Option Addr) (m1 c1 : Nat) (A2 : Option Addr) (m2 c2 : Nat), cs = [.int .i64 k, .int .i64 n, .int .u64 u, .string s, .slice A1 m1 c1, .slice A2 m2 c2] := (NdO.nd _ _ h).shape

theorem Bx.set0 {w : World} {g : Nat} {v0 v1 v2 v3 v4 v5 : Value} (h : Bx w g v0 v1 v2 v3 v4 v5) (u : Value) : Bx (w.setCell ⟨g, 0, none⟩ u) g u v1 v2 v3 v4 v5 := Blk.put h 0 u
theorem Bx.set1 {w : World} {g : Nat} {v0 v1 v2 v3 v4 v5 : Value} (h : Bx w g v0 v1 v2 v3 v4 v5) (u : Value) : Bx (w.setCell ⟨g, 1, none⟩ u) g v0 u v2 v3 v4 v5 := Blk.put h 1 u
theorem Bx.set2 {w : World} {g : Nat} {v0 v1 v2 v3 v4 v5 : Value} (h : Bx w g v0 v1 v2 v3 v4 v5) (u : Value) : Bx (w.setCell ⟨g, 2, none⟩ u) g v0 v1 u v3 v4 v5 := Blk.put h 2 u
theorem Bx.put6 {w : World} {g : Nat} {v0 v1 v2 v3 v4 v5 : Value} (h : Bx w g v0 v1 v2 v3 v4 v5) (a0 a1 a2 a3 a4 a5 : Value) : Bx (put6 w g 0 a0 a1 a2 a3 a4 a5) g a0 a1 a2 a3 a4 a5 :=
  (((((h.set0 a0).set1 a1).set2 a2).set3 a3).set4 a4).set5 a5
theorem loadVar_six {w : World} {g : Nat} {v0 v1 v2 v3 v4 v5 : Value} (h : Bx w g v0 v1 v2 v3 v4 v5) : (loadVar 31 ⟨g, 0, none⟩).run Tryd.prog w = .ok (.agg #[v0, v1, v2, v3, v4, v5]) w := by
  obtain ⟨c0, c1, c2, c3, c4, c5⟩ := h.all
  simp [go_sem, c0, c1, c2, c3, c4, c5]
/-- The result is a node in a cell of its own. -/
theorem ret_six {f : Func} {R : Ending → World → Prop} {a : Act} {w : World} {p : Tmp} {g : Nat} {v0 v1 v2 v3 v4 v5 : Value} (hres : f.results = #[.cell p 31]) (hp : a.tmps.getD p undef = .pointer (some ⟨g, 0, none⟩)) (hB : Bx w g v0 v1 v2 v3 v4 v5) (hd : a.defers = [])
    (hR : R (.returned (.agg #[v0, v1, v2, v3, v4, v5])) w) : bodyPost Tryd.prog f R .ret a w := by
  refine bodyPost_ret ?_ hd hR
  have hp' : a.tmps[p]?.getD undef = .pointer (some ⟨g, 0, none⟩) := by simpa using hp
  simp only [results, hres]
  simp [hp', asAddr, loadVar_six hB]

set_option maxRecDepth 100000 in
set_option maxHeartbeats 4000000 in
theorem copy_any (k : Nat) : ∀ (t : T) (cs : List Value) (w : World), dp t ≤ k → sz t ≤ 100000 → sm 1000 1000 t → Nd w t cs →
    Calls Tryd.prog 43 #[.agg cs.toArray] w fun e w' => (∃ cs', e = .returned (.agg cs'.toArray) ∧ NdO (fun b => w.heap.size ≤ b) w' t cs') ∧ Below w.heap.size w w' := by
  induction k with
  | zero => intro t cs w h; exact absurd h (by have := dp_pos t; omega)
  | succ k ih =>
    rintro ⟨kk, nn, uu, s, ks, L⟩ cs w hk hsz hsm ⟨hr, hs, kv, A, m, c, rfl, hks, hl, hm, hmm, hL⟩
    simp only [dp] at hk
    simp only [sz] at hsz
    have hmx : m ≤ 100000 := by have := len_le_szL L; omega
    have hT0 := Two.start w (.int .i64 kk) (.int .i64 nn) (.int .u64 uu) (.string s) kv (.slice A m c) (.int .i64 0) (.int .i64 0) (.int .u64 0) (.string ⟨#[]⟩) (.slice none 0 0) (.slice none 0 0)
    have HT0 := Lib.hid hT0
    have hc1 := strClone_any s ((w.alloc (.cells #[.int .i64 kk, .int .i64 nn, .int .u64 uu, .string s, kv, .slice A m c] 31)).alloc (.cells #[.int .i64 0, .int .i64 0, .int .u64 0, .string ⟨#[]⟩, .slice none 0 0, .slice none 0 0] 31)) hsm.1
    go_enter Tryd.func43, Tryd.ntmps43
    go_wp2_with (first
      | (go_at_call 58; refine hc1.mono ?_; clear hc1; rintro e w2 ⟨rfl, hb2⟩; have HT1 := Lib.hid ((HT0.out.below hb2).set3 (.string s)); have HT1' := Lib.hid (HT0.out.below hb2); have f0 := HT1'.out.2.2.1.frozen; obtain ⟨c0, c1, c2, c3, c4, c5⟩ := HT1'.out.2.2.1.all; have hc2 := keysClone_any ks kv (w2.setCell ⟨w.heap.size, 3, none⟩ (.string s)) (hks.below HT1.out.1) hsm.2.1)
      | (go_at_call 59; refine hc2.mono ?_; clear hc2 c0 c1 c2 c3 c4 c5 f0; rintro e w3 ⟨v', rfl, hown, hb3⟩; have HT2' := Lib.hid (HT1.out.below hb3); have f0 := HT2'.out.2.2.1.frozen; obtain ⟨c0, c1, c2, c3, c4, c5⟩ := HT2'.out.2.2.1.all; have HT2 := Lib.hid (HT2'.out.set4 v'); have HO := Lib.hid ((hown.step (U' := fun b => w.heap.size + 2 ≤ b) fun b hb _ => ⟨rfl, Nat.le_trans HT1.out.2.1 hb⟩).setOther (i := 4) (g := w.heap.size) v' (fun b hb => by omega)); obtain ⟨B, d, rfl⟩ := hown.shape))
    clear c0 c1 c2 c3 c4 c5 f0 hown hb2 hb3
    have HC := Lib.hid (show C1 w kk nn uu s (.slice B ks.length d) (.slice A m c) ks _ from ⟨HT2.out, HO.out⟩)
    clear HT0 HT1 HT1' HT2 HT2' HO
    have hkl : ks.length ≤ 1000 := hsm.2.1
    go_loopw [18] (fun i wr => ∃ j : Nat, j ≤ ks.length ∧ i = .int .i64 (j : Int) ∧ Hid (C1 w kk nn uu s (.slice B ks.length d) (.slice A m c) ks wr)) (fun i _ => ks.length - (intOf i).toNat)
    case atStart => exact ⟨0, Nat.zero_le _, rfl, HC⟩
    case round =>
      obtain ⟨j, hj, rfl, HW⟩ := hrel
      by_cases hjm : j < ks.length
      · obtain ⟨x, hx⟩ : ∃ x, ks[j]? = some x := ⟨_, List.getElem?_eq_getElem hjm⟩
        obtain ⟨_, _, e, _, _, hcell⟩ := HW.out.2.cells
        cases e
        obtain ⟨g, rfl, hg, hUg, -⟩ := hcell (by omega)
        have hall : ∀ W, Hid (C1 w kk nn uu s (.slice (some ⟨g, 0, none⟩) ks.length d) (.slice A m c) ks W) → Hid (C1 w kk nn uu s (.slice (some ⟨g, 0, none⟩) ks.length d) (.slice A m c) ks W) ∧ W.cell? ⟨w.heap.size, 4, none⟩ = some (.slice (some ⟨g, 0, none⟩) ks.length d) ∧ W.cell? ⟨g, j, none⟩ = some (.string x) ∧ W.frozen? ⟨g, j, none⟩ = false := by
          intro W H
          obtain ⟨_, _, e, _, _, hcell⟩ := H.out.2.cells
          cases e
          obtain ⟨g', e, _, _, hcell⟩ := hcell (by omega)
          cases e
          refine ⟨H, (H.out.1.2.2.1.all).2.2.2.2.1, ?_, H.out.2.1.frozenAt j⟩
          rw [hcell j (by omega), List.getElem?_map, hx]
          rfl
        have hset : ∀ W, Hid (C1 w kk nn uu s (.slice (some ⟨g, 0, none⟩) ks.length d) (.slice A m c) ks W) → Hid (C1 w kk nn uu s (.slice (some ⟨g, 0, none⟩) ks.length d) (.slice A m c) ks (W.setCell ⟨g, j, none⟩ (.string x))) := fun W H => Lib.hid (H.out.set hx)
        have HCL : Hid (∀ W, Hid (C1 w kk nn uu s (.slice (some ⟨g, 0, none⟩) ks.length d) (.slice A m c) ks W) → Calls Tryd.prog 58 #[.string x] W fun e w' => e = .returned (.string x) ∧ Hid (C1 w kk nn uu s (.slice (some ⟨g, 0, none⟩) ks.length d) (.slice A m c) ks w')) := Lib.hid fun W H =>
          (strClone_any x W (hsm.2.2.1 x (List.mem_of_getElem? hx))).mono fun e w' h => ⟨h.1, Lib.hid (H.out.below h.2)⟩
        obtain ⟨_, d4, dx, df⟩ := hall wr HW
        have HTd := Lib.hid (HW.out.below (Below.refl _ _).drew)
        have hjb : (0 : Int) ≤ (j : Int) := by omega
        have hjb2 : (j : Int) < (ks.length : Int) := by omega
        clear hx hsm hks hL ih hr hs hcell hg
        go_wp2_with fail
        go_region_held3 (fun W => Hid (C1 w kk nn uu s (.slice (some ⟨g, 0, none⟩) ks.length d) (.slice A m c) ks W) ∧ W.cell? ⟨w.heap.size, 4, none⟩ = some (.slice (some ⟨g, 0, none⟩) ks.length d) ∧ W.cell? ⟨g, j, none⟩ = some (.string x) ∧ W.frozen? ⟨g, j, none⟩ = false) (first | exact hall _ (by assumption) | exact hall _ (hset _ (by assumption)))
          (first | (go_at_call 58; (with_reducible refine (HCL.out _ (by assumption)).mono ?_); rintro e w4 ⟨rfl, HT4⟩))
        go_wp2_with fail
        go_roundw
        case rel => exact ⟨j + 1, by omega, by simp, hset _ HT4⟩
        case measure => simp [intOf]; omega
      · have hxs : ∃ xs, xs.length = m * 6 ∧ (∀ u ∈ xs, u.oneCell' = true) ∧ NdX w L xs ∧ (0 < m → ∃ b off, A = some ⟨b, off, none⟩ ∧ b < w.heap.size ∧ ∀ j u, xs[j]? = some u → w.cell? ⟨b, off + j, none⟩ = some u) := by
          rcases Nat.eq_zero_or_pos m with h0 | h0
          · obtain rfl : L = [] := List.length_eq_zero_iff.1 (by omega)
            exact ⟨[], by simp [h0], fun u h => by simp at h, rfl, fun h => absurd h (by omega)⟩
          · obtain ⟨b, off, rfl, hb, hN⟩ := hL h0
            obtain ⟨xs, h1, h2, h3, h4⟩ := NdL.flat L off hN
            exact ⟨xs, by rw [h1, hl], h4, h3, fun _ => ⟨b, off, rfl, hb, h2⟩⟩
        obtain ⟨xs, hxl, hx1, hxX, hxA⟩ := hxs
        have hcl := nodesClone_any A m c xs wr hxl hx1 hmx (fun h0 => by
          obtain ⟨b, off, h1, h2, h3⟩ := hxA h0
          exact ⟨b, off, h1, Nat.lt_of_lt_of_le h2 HW.out.1.1.size, fun j u hj => (HW.out.1.1.cell (p := ⟨b, off + j, none⟩) h2).trans (h3 j u hj)⟩)
        obtain ⟨d0, d1, d2, d3, d4, d5⟩ := HW.out.1.2.2.1.all
        have hg0 := HW.out.1.2.2.1.frozen
        go_wp2_with (go_at_call 60; refine hcl.mono ?_; clear hcl d0 d1 d2 d3 d4 d5 hg0; rintro e w5 ⟨v5, rfl, hown, hb5⟩; have HT5' := Lib.hid (HW.out.1.below hb5); have f0 := HT5'.out.2.2.1.frozen; obtain ⟨c0, c1, c2, c3, c4, c5⟩ := HT5'.out.2.2.1.all; have HT5 := Lib.hid (HT5'.out.set5 v5); have HOw := Lib.hid hown; have HB5 := Lib.hid hb5; obtain ⟨G, e, rfl⟩ := hown.shape)
        have HC2 : Hid (∃ ys zs, C2 w kk nn uu s (.slice B ks.length d) (.slice G m e) ks m (L.take 0) ys zs (w5.setCell ⟨w.heap.size, 5, none⟩ (.slice G m e)) ∧ NdX w (L.drop 0) zs) := by
          refine Lib.hid ⟨[], xs, ⟨HT5.out, ?_, ?_, rfl⟩, hxX⟩
          · refine HW.out.2.step fun b hb hlt => ⟨?_, hb, fun hb2 => ?_⟩
            · rw [heap_set_other _ _ _ _ _ (by omega)]; exact HB5.out.block b hlt
            · have := HOw.out.2 b hb2.symm
              omega
          · refine HOw.out.step fun b hb _ => ?_
            have := HW.out.1.2.1
            exact ⟨heap_set_other _ _ _ _ _ (by omega), by omega⟩
        clear HT5 HT5' HOw HB5 c0 c1 c2 c3 c4 c5 f0 hown hb5 hxA hxX hx1 hxl HC hT0 HW
        go_loopw [37] (fun i wr => ∃ j : Nat, j ≤ m ∧ i = .int .i64 (j : Int) ∧ Hid (∃ ys zs, C2 w kk nn uu s (.slice B ks.length d) (.slice G m e) ks m (L.take j) ys zs wr ∧ NdX w (L.drop j) zs)) (fun i _ => m - (intOf i).toNat)
        case atStart => exact ⟨0, Nat.zero_le _, rfl, HC2⟩
        case round =>
          obtain ⟨j, hj, rfl, HW⟩ := hrel
          by_cases hjm : j < m
          · obtain ⟨ys, zs', hC, hX⟩ := HW.out
            obtain ⟨t0, ht0⟩ : ∃ t0, L[j]? = some t0 := ⟨_, List.getElem?_eq_getElem (by omega)⟩
            obtain ⟨cs0, zs, rfl, hn0, hX'⟩ := hX.drop ht0
            obtain ⟨k0, i0, n0, s0, A1, m1, c1, A2, m2, c2, rfl⟩ := hn0.shape
            have hyl : ys.length = j * 6 := by rw [hC.2.2.2.len, List.length_take, Nat.min_eq_left (by omega)]
            obtain ⟨_, _, e1, _, _, hcell⟩ := hC.2.2.1.cells
            cases e1
            obtain ⟨g, rfl, hg, hUg, hcell⟩ := hcell (by omega)
            have hcl : ∀ i, i < 6 → wr.cell? ⟨g, j * 6 + i, none⟩ = [Value.int .i64 k0, .int .i64 i0, .int .u64 n0, .string s0, .slice A1 m1 c1, .slice A2 m2 c2][i]? := by
              intro i hi
              rw [hcell _ (by omega), List.getElem?_append_right (by omega), hyl, Nat.add_sub_cancel_left, List.getElem?_append_left (by simpa using hi)]
            have p0 := hcl 0 (by omega)
            have p1 := hcl 1 (by omega)
            have p2 := hcl 2 (by omega)
            have p3 := hcl 3 (by omega)
            have p4 := hcl 4 (by omega)
            have p5 := hcl 5 (by omega)
            simp only [Nat.add_zero, List.getElem?_cons_zero, List.getElem?_cons_succ] at p0 p1 p2 p3 p4 p5
            clear hcl hcell
            have hle := sz_le_of ht0
            have hdl := dp_le_of ht0
            have HCj : Hid (C2 w kk nn uu s (.slice B ks.length d) (.slice (some ⟨g, 0, none⟩) m e) ks m (L.take j) ys ([.int .i64 k0, .int .i64 i0, .int .u64 n0, .string s0, .slice A1 m1 c1, .slice A2 m2 c2] ++ zs) wr) := Lib.hid hC
            have HXj := Lib.hid hX'
            have HN0 := Lib.hid hn0
            obtain ⟨cb, hcb⟩ : ∃ cb, wr.heap.size = cb := ⟨_, rfl⟩
            have hsz0 : w.heap.size + 2 ≤ cb := by rw [← hcb]; exact hC.1.2.1
            have hgc : g < cb := by omega
            clear hC hX hX' hn0 HW
            go_wp2_with fail
            obtain ⟨wc, hwc⟩ : ∃ wc, wr.alloc (.cells #[.int .i64 k0, .int .i64 i0, .int .u64 n0, .string s0, .slice A1 m1 c1, .slice A2 m2 c2] 31) = wc := ⟨_, rfl⟩
            have hbc : Below wr.heap.size wr wc := by rw [← hwc]; exact (Below.refl _ _).alloc (Nat.le_refl _) _
            have HE0 : Hid (C2 w kk nn uu s (.slice B ks.length d) (.slice (some ⟨g, 0, none⟩) m e) ks m (L.take j) ys ([.int .i64 k0, .int .i64 i0, .int .u64 n0, .string s0, .slice A1 m1 c1, .slice A2 m2 c2] ++ zs) wc.drew ∧ DD w kk nn uu s (.slice B ks.length d) (.slice (some ⟨g, 0, none⟩) m e) cb (.int .i64 k0) (.int .i64 i0) (.int .u64 n0) (.string s0) (.slice A1 m1 c1) (.slice A2 m2 c2) wc.drew ∧ wc.drew.heap.size = cb + 1) := by
              have q := HCj.out.below (hbc.trans ((Below.refl _ wc).drew.mono hbc.size))
              refine Lib.hid ⟨q, ⟨q.1, ?_⟩, ?_⟩
              · have := Blk.new wr 31 #[.int .i64 k0, .int .i64 i0, .int .u64 n0, .string s0, .slice A1 m1 c1, .slice A2 m2 c2]
                rw [hcb, hwc] at this
                exact this
              · show wc.heap.size = cb + 1
                rw [← hwc, ← hcb]; simp
            have HDc : Hid (DD w kk nn uu s (.slice B ks.length d) (.slice (some ⟨g, 0, none⟩) m e) cb (.int .i64 k0) (.int .i64 i0) (.int .u64 n0) (.string s0) (.slice A1 m1 c1) (.slice A2 m2 c2) wc) := Lib.hid (by
              refine ⟨(HCj.out.below hbc).1, ?_⟩
              have := Blk.new wr 31 #[.int .i64 k0, .int .i64 i0, .int .u64 n0, .string s0, .slice A1 m1 c1, .slice A2 m2 c2]
              rw [hcb, hwc] at this
              exact this)
            rw [hwc]
            have hall : ∀ W, Hid (DD w kk nn uu s (.slice B ks.length d) (.slice (some ⟨g, 0, none⟩) m e) cb (.int .i64 k0) (.int .i64 i0) (.int .u64 n0) (.string s0) (.slice A1 m1 c1) (.slice A2 m2 c2) W) → Hid (DD w kk nn uu s (.slice B ks.length d) (.slice (some ⟨g, 0, none⟩) m e) cb (.int .i64 k0) (.int .i64 i0) (.int .u64 n0) (.string s0) (.slice A1 m1 c1) (.slice A2 m2 c2) W) ∧ W.cell? ⟨w.heap.size, 5, none⟩ = some (.slice (some ⟨g, 0, none⟩) m e) ∧ W.cell? ⟨cb, 0, none⟩ = some (.int .i64 k0) ∧ W.cell? ⟨cb, 1, none⟩ = some (.int .i64 i0) ∧ W.cell? ⟨cb, 2, none⟩ = some (.int .u64 n0) ∧ W.cell? ⟨cb, 3, none⟩ = some (.string s0) ∧ W.cell? ⟨cb, 4, none⟩ = some (.slice A1 m1 c1) ∧ W.cell? ⟨cb, 5, none⟩ = some (.slice A2 m2 c2) := by
              intro W H
              exact ⟨H, (H.out.1.2.2.1.all).2.2.2.2.2, H.out.2.all⟩
            have hset6 : ∀ (W : World) (a0 a1 a2 a3 a4 a5 : Value), Hid (DD w kk nn uu s (.slice B ks.length d) (.slice (some ⟨g, 0, none⟩) m e) cb (.int .i64 k0) (.int .i64 i0) (.int .u64 n0) (.string s0) (.slice A1 m1 c1) (.slice A2 m2 c2) W) → Hid (DD w kk nn uu s (.slice B ks.length d) (.slice (some ⟨g, 0, none⟩) m e) cb (.int .i64 k0) (.int .i64 i0) (.int .u64 n0) (.string s0) (.slice A1 m1 c1) (.slice A2 m2 c2) ((((((W.setCell ⟨g, j * 6, none⟩ a0).setCell ⟨g, j * 6 + 1, none⟩ a1).setCell ⟨g, j * 6 + 2, none⟩ a2).setCell ⟨g, j * 6 + 3, none⟩ a3).setCell ⟨g, j * 6 + 4, none⟩ a4).setCell ⟨g, j * 6 + 5, none⟩ a5)) := fun W a0 a1 a2 a3 a4 a5 H => Lib.hid (H.out.put (j * 6) hUg hgc a0 a1 a2 a3 a4 a5)
            have HCP : Hid (∀ W, Hid (C2 w kk nn uu s (.slice B ks.length d) (.slice (some ⟨g, 0, none⟩) m e) ks m (L.take j) ys ([.int .i64 k0, .int .i64 i0, .int .u64 n0, .string s0, .slice A1 m1 c1, .slice A2 m2 c2] ++ zs) W ∧ DD w kk nn uu s (.slice B ks.length d) (.slice (some ⟨g, 0, none⟩) m e) cb (.int .i64 k0) (.int .i64 i0) (.int .u64 n0) (.string s0) (.slice A1 m1 c1) (.slice A2 m2 c2) W ∧ W.heap.size = cb + 1) → Calls Tryd.prog 43 #[.agg #[.int .i64 k0, .int .i64 i0, .int .u64 n0, .string s0, .slice A1 m1 c1, .slice A2 m2 c2]] W fun e' w' =>
                ∃ (k' n' u' : Int) (s' : ByteArray) (A1' : Option Addr) (m1' c1' : Nat) (A2' : Option Addr) (m2' c2' : Nat), e' = .returned (.agg #[.int .i64 k', .int .i64 n', .int .u64 u', .string s', .slice A1' m1' c1', .slice A2' m2' c2']) ∧
                  Hid (NdO (UU w (.slice (some ⟨g, 0, none⟩) m e)) w' t0 [.int .i64 k', .int .i64 n', .int .u64 u', .string s', .slice A1' m1' c1', .slice A2' m2' c2']) ∧ Hid (C2 w kk nn uu s (.slice B ks.length d) (.slice (some ⟨g, 0, none⟩) m e) ks m (L.take j) ys ([.int .i64 k0, .int .i64 i0, .int .u64 n0, .string s0, .slice A1 m1 c1, .slice A2 m2 c2] ++ zs) w') ∧ Hid (DD w kk nn uu s (.slice B ks.length d) (.slice (some ⟨g, 0, none⟩) m e) cb (.int .i64 k0) (.int .i64 i0) (.int .u64 n0) (.string s0) (.slice A1 m1 c1) (.slice A2 m2 c2) w')) := Lib.hid fun W H => by
              refine (ih t0 _ W (by omega) (by omega) (smL_at hsm.2.2.2 ht0) (HN0.out.bel H.out.1.1.1)).mono ?_
              rintro e' w' ⟨⟨cs', rfl, hno⟩, hb⟩
              obtain ⟨k', n', u', s', A1', m1', c1', A2', m2', c2', rfl⟩ := hno.shape6
              refine ⟨k', n', u', s', A1', m1', c1', A2', m2', c2', rfl, Lib.hid (NdO.step (fun b hb2 _ => ⟨rfl, ?_, fun e2 => ?_⟩) _ _ hno), Lib.hid (H.out.1.below hb), Lib.hid (H.out.2.1.below hb)⟩
              · have := H.out.2.2; omega
              · have e3 : b = g := by simpa [Value.ownBlock] using e2
                have := H.out.2.2
                omega
            have HFZ : Hid (∀ W, Hid (C2 w kk nn uu s (.slice B ks.length d) (.slice (some ⟨g, 0, none⟩) m e) ks m (L.take j) ys ([.int .i64 k0, .int .i64 i0, .int .u64 n0, .string s0, .slice A1 m1 c1, .slice A2 m2 c2] ++ zs) W) → (W.frozen? ⟨g, j * 6, none⟩ = false ∧ W.frozen? ⟨g, j * 6 + 1, none⟩ = false ∧ W.frozen? ⟨g, j * 6 + 2, none⟩ = false ∧ W.frozen? ⟨g, j * 6 + 3, none⟩ = false ∧ W.frozen? ⟨g, j * 6 + 4, none⟩ = false ∧ W.frozen? ⟨g, j * 6 + 5, none⟩ = false) ∧
                W.cell? ⟨g, j * 6, none⟩ = some (.int .i64 k0) ∧ W.cell? ⟨g, j * 6 + 1, none⟩ = some (.int .i64 i0) ∧ W.cell? ⟨g, j * 6 + 2, none⟩ = some (.int .u64 n0) ∧ W.cell? ⟨g, j * 6 + 3, none⟩ = some (.string s0) ∧ W.cell? ⟨g, j * 6 + 4, none⟩ = some (.slice A1 m1 c1) ∧ W.cell? ⟨g, j * 6 + 5, none⟩ = some (.slice A2 m2 c2)) := Lib.hid fun W H => by
              have hO := H.out.2.2.1
              have hcl : ∀ i, i < 6 → W.cell? ⟨g, j * 6 + i, none⟩ = [Value.int .i64 k0, .int .i64 i0, .int .u64 n0, .string s0, .slice A1 m1 c1, .slice A2 m2 c2][i]? := by
                intro i hi
                rw [hO.1.cellAt _ (by omega), List.getElem?_append_right (by omega), hyl, Nat.add_sub_cancel_left, List.getElem?_append_left (by simpa using hi)]
              exact ⟨⟨hO.1.frozenAt _, hO.1.frozenAt _, hO.1.frozenAt _, hO.1.frozenAt _, hO.1.frozenAt _, hO.1.frozenAt _⟩, hcl 0 (by omega), hcl 1 (by omega), hcl 2 (by omega), hcl 3 (by omega), hcl 4 (by omega), hcl 5 (by omega)⟩
            have HPUT : Hid (∀ (W : World) (a0 a1 a2 a3 a4 a5 : Value), Hid (C2 w kk nn uu s (.slice B ks.length d) (.slice (some ⟨g, 0, none⟩) m e) ks m (L.take j) ys ([.int .i64 k0, .int .i64 i0, .int .u64 n0, .string s0, .slice A1 m1 c1, .slice A2 m2 c2] ++ zs) W) → Hid (NdO (UU w (.slice (some ⟨g, 0, none⟩) m e)) W t0 [a0, a1, a2, a3, a4, a5]) →
                Hid (∃ ys zs, C2 w kk nn uu s (.slice B ks.length d) (.slice (some ⟨g, 0, none⟩) m e) ks m (L.take (j + 1)) ys zs ((((((W.setCell ⟨g, j * 6, none⟩ a0).setCell ⟨g, j * 6 + 1, none⟩ a1).setCell ⟨g, j * 6 + 2, none⟩ a2).setCell ⟨g, j * 6 + 3, none⟩ a3).setCell ⟨g, j * 6 + 4, none⟩ a4).setCell ⟨g, j * 6 + 5, none⟩ a5) ∧ NdX w (L.drop (j + 1)) zs)) := Lib.hid fun W a0 a1 a2 a3 a4 a5 H1 H2 => Lib.hid ⟨_, zs, H1.out.put hyl ht0 H2.out, HXj.out⟩
            have HDd := Lib.hid HE0.out.2.1
            obtain ⟨_, d5, e0, e1, e2, e3, e4, e5⟩ := hall wc HDc
            have hjb : (0 : Int) ≤ (j : Int) := by omega
            have hjb2 : (j : Int) < (m : Int) := by omega
            clear hbc hwc hyl HN0 HXj HCj HDc ht0 hle hdl hsm hks hL ih hr hs p0 p1 p2 p3 p4 p5 hg hl
            go_region_held3 (fun W => Hid (DD w kk nn uu s (.slice B ks.length d) (.slice (some ⟨g, 0, none⟩) m e) cb (.int .i64 k0) (.int .i64 i0) (.int .u64 n0) (.string s0) (.slice A1 m1 c1) (.slice A2 m2 c2) W) ∧ W.cell? ⟨w.heap.size, 5, none⟩ = some (.slice (some ⟨g, 0, none⟩) m e) ∧ W.cell? ⟨cb, 0, none⟩ = some (.int .i64 k0) ∧ W.cell? ⟨cb, 1, none⟩ = some (.int .i64 i0) ∧ W.cell? ⟨cb, 2, none⟩ = some (.int .u64 n0) ∧ W.cell? ⟨cb, 3, none⟩ = some (.string s0) ∧ W.cell? ⟨cb, 4, none⟩ = some (.slice A1 m1 c1) ∧ W.cell? ⟨cb, 5, none⟩ = some (.slice A2 m2 c2)) (first | (with_reducible exact hall _ (by assumption)) | (with_reducible exact hall _ HDd) | (with_reducible exact hall _ (hset6 _ _ _ _ _ _ _ (by assumption))))
              (first | (go_at_call 43; (with_reducible refine (HCP.out _ (by assumption)).mono ?_); rintro e' w6 ⟨k', n', u', s', A1', m1', c1', A2', m2', c2', rfl, HN6, HC6, HD6⟩; obtain ⟨⟨z0, z1, z2, z3, z4, z5⟩, y0, y1, y2, y3, y4, y5⟩ := HFZ.out _ HC6))
            go_wp2_with fail
            go_roundw
            case rel => exact ⟨j + 1, by omega, by simp, HPUT.out _ _ _ _ _ _ _ HC6 HN6⟩
            case measure => simp [intOf]; omega
          · obtain ⟨ys, zs, hC, hX⟩ := HW.out
            obtain rfl : j = m := by omega
            rw [List.drop_of_length_le (by omega)] at hX
            obtain rfl : zs = [] := hX
            rw [List.take_of_length_le (by omega)] at hC
            have HCj := Lib.hid hC
            obtain ⟨c0, c1, c2, c3, c4, c5⟩ := HCj.out.1.2.2.1.all
            obtain ⟨o0, o1, o2, o3, o4, o5⟩ := HCj.out.1.2.2.2.all
            have f0 := HCj.out.1.2.2.2.frozen 0
            have f1 := HCj.out.1.2.2.2.frozen 1
            have f2 := HCj.out.1.2.2.2.frozen 2
            have f3 := HCj.out.1.2.2.2.frozen 3
            have f4 := HCj.out.1.2.2.2.frozen 4
            have f5 := HCj.out.1.2.2.2.frozen 5
            clear hC HW
            go_wp2_with fail
            refine ret_six (p := 2) (g := w.heap.size + 1) rfl rfl (HCj.out.1.2.2.2.put6 _ _ _ _ _ _) rfl ?_
            have hlb : ∀ b, w.heap.size + 2 ≤ b → b ≠ w.heap.size + 1 := fun b hb => by omega
            have hP : Below w.heap.size w (put6 wr (w.heap.size + 1) 0 (.int .i64 kk) (.int .i64 nn) (.int .u64 uu) (.string s) (.slice B ks.length d) (.slice G j e)) := put6_below HCj.out.1.1 _ _ _ _ _ _ _ _ (by omega)
            refine ⟨⟨[.int .i64 kk, .int .i64 nn, .int .u64 uu, .string s, .slice B ks.length d, .slice G j e], rfl, hr, hs, fun x hx => ?_, _, _, ys, rfl, ?_, ?_, ?_⟩, hP⟩
            · exact Nat.le_trans (hsm.2.2.1 x hx) (by unfold maxLen; omega)
            · exact HCj.out.2.1.step fun b hb _ => ⟨put6_other wr (w.heap.size + 1) 0 b _ _ _ _ _ _ (hlb b hb.1), by have := hb.1; omega⟩
            · have q := HCj.out.2.2.1
              rw [List.append_nil] at q
              rw [hl]
              exact q.step fun b hb _ => ⟨put6_other wr (w.heap.size + 1) 0 b _ _ _ _ _ _ (hlb b hb), by omega⟩
            · exact NdOL.step (fun b hb _ => ⟨put6_other wr (w.heap.size + 1) 0 b _ _ _ _ _ _ (hlb b hb.1), by have := hb.1; omega⟩) _ _ HCj.out.2.2.2
end Go.Proofs.YtnplkamkeadlgaaDoor
