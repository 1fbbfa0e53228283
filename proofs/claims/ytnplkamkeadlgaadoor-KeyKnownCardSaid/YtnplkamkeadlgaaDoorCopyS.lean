/-
  What is proved here: a tree in memory whose rows lie apart from one another: what it means, how it is carried on; no condition but those that each fact states; and: contract of tree.Copy that tells too that the copy's rows lie apart from one another; conditions: those of the contract of Copy.
-/
import Derived.Test.YtnplkamkeadlgaaDoorOwn
import Derived.Test.YtnplkamkeadlgaaDoorCopy
namespace Go.Proofs.YtnplkamkeadlgaaDoor
open Go.RowKit

mutual
/-- Six cells read as a node; its rows and those of its descendants lie in blocks of which U holds, each apart from the others. -/
def NdS (U : Nat → Prop) (w : World) : T → List Value → Prop
  | .mk k n u s ks l, cs => Rng k n u ∧ s.size ≤ maxLen ∧ (∀ x ∈ ks, x.size ≤ maxLen) ∧ ∃ kv lv xs, ∃ C : Nat → Prop, cs = [.int .i64 k, .int .i64 n, .int .u64 u, .string s, kv, lv] ∧
      Ow (fun b => U b ∧ ¬ C b ∧ some b ≠ lv.ownBlock) w 9 1 kv ks.length (ks.map Value.string) ∧ Ow (fun b => U b ∧ ¬ C b) w 31 6 lv l.length xs ∧ NdSL C w l xs ∧ ∀ b, C b → U b
def NdSL (U : Nat → Prop) (w : World) : List T → List Value → Prop
  | [], xs => xs = []
  | t :: ts, xs => ∃ cs ys, ∃ C D : Nat → Prop, xs = cs ++ ys ∧ NdS C w t cs ∧ NdSL D w ts ys ∧ (∀ b, C b → U b ∧ ¬ D b) ∧ ∀ b, D b → U b
end
theorem Ow.imp {U U' : Nat → Prop} {w : World} {e : TypeId} {size n : Nat} {v : Value} {xs : List Value} (h : Ow U w e size v n xs) (hk : ∀ b, U b → U' b) : Ow U' w e size v n xs := h.step fun b hb _ => ⟨rfl, hk b hb⟩
theorem NdS.imp {U U' : Nat → Prop} {w : World} : ∀ {t : T} {cs : List Value}, NdS U w t cs → (∀ b, U b → U' b) → NdS U' w t cs
  | .mk k n u s ks l, cs, h, hk => by
    obtain ⟨hr, hs, hks, kv, lv, xs, C, rfl, h1, h2, h3, h4⟩ := h
    exact ⟨hr, hs, hks, kv, lv, xs, C, rfl, h1.imp fun b hb => ⟨hk b hb.1, hb.2⟩, h2.imp fun b hb => ⟨hk b hb.1, hb.2⟩, h3, fun b hb => hk b (h4 b hb)⟩
theorem NdSL.imp {U U' : Nat → Prop} {w : World} : ∀ {l : List T} {xs : List Value}, NdSL U w l xs → (∀ b, U b → U' b) → NdSL U' w l xs
  | [], _, h, _ => h
  | t :: ts, xs, h, hk => by
    obtain ⟨cs, ys, C, D, rfl, h1, h2, h3, h4⟩ := h
    exact ⟨cs, ys, C, D, rfl, h1, h2, fun b hb => ⟨hk b (h3 b hb).1, (h3 b hb).2⟩, fun b hb => hk b (h4 b hb)⟩
mutual
theorem NdS.step {U : Nat → Prop} {w w' : World} (hk : ∀ b, U b → b < w.heap.size → w'.heap[b]? = w.heap[b]?) : ∀ (t : T) (cs : List Value), NdS U w t cs → NdS U w' t cs
  | .mk k n u s ks l, cs, h => by
    obtain ⟨hr, hs, hks, kv, lv, xs, C, rfl, h1, h2, h3, h4⟩ := h
    exact ⟨hr, hs, hks, kv, lv, xs, C, rfl, h1.step fun b hb hl => ⟨hk b hb.1 hl, hb⟩, h2.step fun b hb hl => ⟨hk b hb.1 hl, hb⟩, NdSL.step (fun b hb hl => hk b (h4 b hb) hl) l xs h3, h4⟩
theorem NdSL.step {U : Nat → Prop} {w w' : World} (hk : ∀ b, U b → b < w.heap.size → w'.heap[b]? = w.heap[b]?) : ∀ (l : List T) (xs : List Value), NdSL U w l xs → NdSL U w' l xs
  | [], _, h => h
  | t :: ts, xs, h => by
    obtain ⟨cs, ys, C, D, rfl, h1, h2, h3, h4⟩ := h
    exact ⟨cs, ys, C, D, rfl, NdS.step (fun b hb hl => hk b (h3 b hb).1 hl) t cs h1, NdSL.step (fun b hb hl => hk b (h4 b hb) hl) ts ys h2, h3, h4⟩
end
mutual
theorem NdS.ndo {U : Nat → Prop} {w : World} : ∀ (t : T) (cs : List Value), NdS U w t cs → NdO U w t cs
  | .mk k n u s ks l, cs, h => by
    obtain ⟨hr, hs, hks, kv, lv, xs, C, rfl, h1, h2, h3, h4⟩ := h
    exact ⟨hr, hs, hks, kv, lv, xs, rfl, h1.imp fun b hb => hb.1, h2.imp fun b hb => hb.1, NdOL.step (fun b hb _ => ⟨rfl, h4 b hb⟩) l xs (NdSL.ndo l xs h3)⟩
theorem NdSL.ndo {U : Nat → Prop} {w : World} : ∀ (l : List T) (xs : List Value), NdSL U w l xs → NdOL U w l xs
  | [], _, h => h
  | t :: ts, xs, h => by
    obtain ⟨cs, ys, C, D, rfl, h1, h2, h3, h4⟩ := h
    exact ⟨cs, ys, rfl, NdO.step (fun b hb _ => ⟨rfl, (h3 b hb).1⟩) t cs (NdS.ndo t cs h1), NdOL.step (fun b hb _ => ⟨rfl, h4 b hb⟩) ts ys (NdSL.ndo ts ys h2)⟩
end
theorem NdS.nd {U : Nat → Prop} {w : World} {t : T} {cs : List Value} (h : NdS U w t cs) : Nd w t cs := NdO.nd _ _ (NdS.ndo _ _ h)
theorem NdSL.len {U : Nat → Prop} {w : World} {l : List T} {xs : List Value} (h : NdSL U w l xs) : xs.length = l.length * 6 := (NdSL.ndo _ _ h).len
theorem NdSL.app {C : Nat → Prop} {w : World} {t : T} {cs : List Value} (ht : NdS C w t cs) : ∀ {l : List T} {xs : List Value} {U : Nat → Prop}, NdSL U w l xs → (∀ b, C b → ¬ U b) → NdSL (fun b => U b ∨ C b) w (l ++ [t]) (xs ++ cs)
  | [], _, U, h, hd => by
    obtain rfl : _ = [] := h
    exact ⟨cs, [], C, fun _ => False, by simp, ht, rfl, fun b hb => ⟨.inr hb, fun h => h⟩, fun b hb => hb.elim⟩
  | t0 :: ts, xs, U, h, hd => by
    obtain ⟨cs0, ys, C0, D, rfl, h1, h2, h3, h4⟩ := h
    refine ⟨cs0, ys ++ cs, C0, fun b => D b ∨ C b, by simp, h1, NdSL.app ht h2 fun b hb hD => hd b hb (h4 b hD), fun b hb => ⟨.inl (h3 b hb).1, ?_⟩, ?_⟩
    · rintro (hD | hC)
      · exact (h3 b hb).2 hD
      · exact hd b hC (h3 b hb).1
    · rintro b (hD | hC)
      · exact .inl (h4 b hD)
      · exact .inr hC
/-- The nodes of a row, each with the blocks of its own. -/
theorem NdSL.fam {w : World} : ∀ {l : List T} {xs : List Value} {U : Nat → Prop}, NdSL U w l xs → ∃ F : Nat → Nat → Prop, (∀ i t, l[i]? = some t → NdS (F i) w t ((xs.drop (i * 6)).take 6)) ∧ (∀ i b, F i b → U b) ∧ ∀ i j b, i ≠ j → F i b → ¬ F j b
  | [], _, U, _ => ⟨fun _ _ => False, fun i t h => by simp at h, fun _ _ h => h.elim, fun _ _ _ _ h => h.elim⟩
  | t0 :: ts, xs, U, h => by
    obtain ⟨cs, ys, C, D, rfl, h1, h2, h3, h4⟩ := h
    obtain ⟨F, f1, f2, f3⟩ := NdSL.fam h2
    have hl : cs.length = 6 := (NdS.ndo _ _ h1).len
    refine ⟨fun i b => match i with | 0 => C b | i + 1 => F i b, ?_, ?_, ?_⟩
    · intro i t hi
      match i with
      | 0 =>
        obtain rfl : t0 = t := by simpa using hi
        rw [Nat.zero_mul, List.drop_zero, List.take_append_of_le_length (by omega), List.take_of_length_le (by omega)]
        exact h1
      | i + 1 =>
        have := f1 i t (by simpa using hi)
        rw [show (i + 1) * 6 = cs.length + i * 6 by omega, List.drop_append, List.drop_eq_nil_of_le (by omega), List.nil_append, Nat.add_sub_cancel_left]
        exact this
    · intro i b hb
      match i with
      | 0 => exact (h3 b hb).1
      | i + 1 => exact h4 b (f2 i b hb)
    · intro i j b hij hb hb'
      match i, j with
      | 0, 0 => exact hij rfl
      | 0, j + 1 => exact (h3 b hb).2 (f2 j b hb')
      | i + 1, 0 => exact (h3 b hb').2 (f2 i b hb)
      | i + 1, j + 1 => exact f3 i j b (by omega) hb hb'
/-- The row of some of the nodes of a row, in another order. -/
theorem NdSL.pick {w : World} {l : List T} {ys : List Value} {F : Nat → Nat → Prop} {U : Nat → Prop} (f1 : ∀ i t, l[i]? = some t → NdS (F i) w t ((ys.drop (i * 6)).take 6)) (f2 : ∀ i b, F i b → U b) (f3 : ∀ i j b, i ≠ j → F i b → ¬ F j b) :
    ∀ (q : List Nat), q.Nodup → (∀ i ∈ q, i < l.length) → NdSL (fun b => ∃ i ∈ q, F i b) w (q.map fun i => l.getD i (.mk 0 0 0 ⟨#[]⟩ [] [])) (q.flatMap fun i => (ys.drop (i * 6)).take 6)
  | [], _, _ => rfl
  | i :: q, hq, hl => by
    obtain ⟨hi, hq⟩ := List.nodup_cons.1 hq
    have hil := hl i (by simp)
    have ht : l[i]? = some (l.getD i (.mk 0 0 0 ⟨#[]⟩ [] [])) := by
      rw [List.getD_eq_getElem?_getD, List.getElem?_eq_getElem hil]
      rfl
    refine ⟨_, _, F i, fun b => ∃ j ∈ q, F j b, rfl, f1 i _ ht, NdSL.pick f1 f2 f3 q hq fun j hj => hl j (by simp [hj]), fun b hb => ⟨⟨i, by simp, hb⟩, ?_⟩, ?_⟩
    · rintro ⟨j, hj, hb'⟩
      exact f3 i j b (fun e => hi (by rw [e]; exact hj)) hb hb'
    · rintro b ⟨j, hj, hb⟩
      exact ⟨j, by simp [hj], hb⟩
end Go.Proofs.YtnplkamkeadlgaaDoor
namespace Go.Proofs.YtnplkamkeadlgaaDoor
open Go.RowKit

theorem Ow.self {U : Nat → Prop} {w : World} {e : TypeId} {size n : Nat} {v : Value} {xs : List Value} (h : Ow U w e size v n xs) : Ow (fun b => v.ownBlock = some b ∧ U b ∧ b < w.heap.size) w e size v n xs := by
  refine ⟨h.1, fun g hg => ⟨hg, h.2 g hg, ?_⟩⟩
  rcases h.1.2 with ⟨rfl, _⟩ | ⟨g', cap, cur, rfl, h3, h4, _⟩
  · cases hg
  · obtain rfl : g' = g := by simpa [Value.ownBlock] using hg
    exact (Array.getElem?_eq_some_iff.1 h4).1
theorem Ow.lt {U : Nat → Prop} {w : World} {e : TypeId} {size n g : Nat} {v : Value} {xs : List Value} (h : Ow U w e size v n xs) (hg : v.ownBlock = some g) : g < w.heap.size := (h.self.2 g hg).2.2
def VV (w : World) (v4 v5 : Value) (N b : Nat) : Prop := w.heap.size + 2 ≤ b ∧ some b ≠ v5.ownBlock ∧ some b ≠ v4.ownBlock ∧ b < N
def C3 (w : World) (k n u : Int) (s : ByteArray) (v4 v5 : Value) (ks : List ByteArray) (m : Nat) (N : Nat) (L : List T) (ys zs : List Value) (wr : World) : Prop :=
  Two w (.int .i64 k) (.int .i64 n) (.int .u64 u) (.string s) v4 v5 (.int .i64 0) (.int .i64 0) (.int .u64 0) (.string ⟨#[]⟩) (.slice none 0 0) (.slice none 0 0) wr ∧ Ow (UU w v5) wr 9 1 v4 ks.length (ks.map Value.string) ∧
    Ow (fun b => w.heap.size + 2 ≤ b) wr 31 6 v5 m (ys ++ zs) ∧ NdSL (VV w v4 v5 N) wr L ys
theorem C3.below {w wr w2 : World} {k n u : Int} {s : ByteArray} {v4 v5 : Value} {ks : List ByteArray} {m N : Nat} {L : List T} {ys zs : List Value} (h : C3 w k n u s v4 v5 ks m N L ys zs wr) (hb : Below wr.heap.size wr w2) : C3 w k n u s v4 v5 ks m N L ys zs w2 :=
  ⟨h.1.below hb, h.2.1.step fun b hb2 hlt => ⟨hb.block b hlt, hb2⟩, h.2.2.1.step fun b hb2 hlt => ⟨hb.block b hlt, hb2⟩, NdSL.step (fun b _ hlt => hb.block b hlt) _ _ h.2.2.2⟩
theorem C3.put {w wr : World} {k n u : Int} {s : ByteArray} {v4 : Value} {ks : List ByteArray} {m g e j N cb : Nat} {L : List T} {ys zs : List Value} {b0 b1 b2 b3 b4 b5 a0 a1 a2 a3 a4 a5 : Value} {t0 : T} {K : Nat → Prop}
    (h : C3 w k n u s v4 (.slice (some ⟨g, 0, none⟩) m e) ks m N (L.take j) ys ([b0, b1, b2, b3, b4, b5] ++ zs) wr) (hy : ys.length = j * 6) (ht : L[j]? = some t0) (hn : NdS K wr t0 [a0, a1, a2, a3, a4, a5])
    (hK : ∀ b, K b → cb + 1 ≤ b ∧ b < wr.heap.size) (hN : N ≤ cb) (hNw : cb ≤ wr.heap.size) (hgc : g < cb) (_ : w.heap.size + 2 ≤ cb) (h4 : ∀ b, v4.ownBlock = some b → b < cb) :
    C3 w k n u s v4 (.slice (some ⟨g, 0, none⟩) m e) ks m wr.heap.size (L.take (j + 1)) (ys ++ [a0, a1, a2, a3, a4, a5]) zs (put6 wr g (j * 6) a0 a1 a2 a3 a4 a5) := by
  have hg := h.2.2.1.2 g rfl
  have hne : ∀ b, some b ≠ (Value.slice (some ⟨g, 0, none⟩) m e).ownBlock → (put6 wr g (j * 6) a0 a1 a2 a3 a4 a5).heap[b]? = wr.heap[b]? := fun b hb => put6_other _ _ _ _ _ _ _ _ _ _ (fun e2 => hb (by rw [e2]; rfl))
  have hgK : ∀ b, K b → some b ≠ (Value.slice (some ⟨g, 0, none⟩) m e).ownBlock := fun b hb e2 => by
    have e3 : b = g := by simpa [Value.ownBlock] using e2
    have := hK b hb
    omega
  refine ⟨put6_two h.1 _ hg _ _ _ _ _ _, h.2.1.step fun b hb _ => ⟨hne b hb.2, hb⟩, put6_ow h.2.2.1 hy _ _ _ _ _ _, ?_⟩
  rw [List.take_add_one, ht]
  refine NdSL.imp (NdSL.app (NdS.step (fun b hb _ => hne b (hgK b hb)) _ _ hn) (NdSL.step (fun b hb _ => hne b hb.2.1) _ _ h.2.2.2) fun b hb hV => ?_) ?_
  · have := hK b hb
    have := hV.2.2.2
    omega
  · rintro b (hb | hb)
    · refine ⟨hb.1, hb.2.1, hb.2.2.1, ?_⟩
      have := hb.2.2.2
      omega
    · have := hK b hb
      exact ⟨by omega, hgK b hb, fun e2 => by have := h4 b e2.symm; omega, this.2⟩

set_option maxRecDepth 100000 in
set_option maxHeartbeats 4000000 in
theorem copy_sep (k : Nat) : ∀ (t : T) (cs : List Value) (w : World), dp t ≤ k → sz t ≤ 100000 → sm 1000 1000 t → Nd w t cs →
    Calls Tryd.prog 43 #[.agg cs.toArray] w fun e w' => (∃ cs', e = .returned (.agg cs'.toArray) ∧ NdS (fun b => w.heap.size ≤ b ∧ b < w'.heap.size) w' t cs') ∧ Below w.heap.size w w' := by
  induction k with
  | zero => intro t cs w h; exact absurd h (by have := dp_pos t; omega)
  | succ k ih =>
    rintro ⟨kk, nn, uu, s, ks, L⟩ cs w hk hsz hsm ⟨hr, hs, kv, A, m, c, rfl, hks, hl, hm, hmm, hL⟩
    simp only [dp] at hk
    simp only [sz] at hsz
    have hmx : m ≤ 100000 := by have := len_le_szL L; omega
    have hT0 := Two.start w (.int .i64 kk) (.int .i64 nn) (.int .u64 uu) (.string s) kv (.slice A m c) (.int .i64 0) (.int .i64 0) (.int .u64 0) (.string ⟨#[]⟩) (.slice none 0 0) (.slice none 0 0)
    have HT0 := Lib.hid hT0
    have hc1 := strClone_any s ((w.alloc (.cells #[.int .i64 kk, .int .i64 nn, .int .u64 uu, .string s, kv, .slice A m c] 31)).alloc (.cells #[.int .i64 0, .int .i64 0, .int .u64 0, .string ⟨#[]⟩, .slice none 0 0, .slice none 0 0] 31)) hsm.1
    go_enter Tryd.func43, Tryd.ntmps43
    go_wp2_with (first
      | (go_at_call 58; refine hc1.mono ?_; clear hc1; rintro e w2 ⟨rfl, hb2⟩; have HT1 := Lib.hid ((HT0.out.below hb2).set3 (.string s)); have HT1' := Lib.hid (HT0.out.below hb2); have f0 := HT1'.out.2.2.1.frozen; obtain ⟨c0, c1, c2, c3, c4, c5⟩ := HT1'.out.2.2.1.all; have hc2 := keysClone_any ks kv (w2.setCell ⟨w.heap.size, 3, none⟩ (.string s)) (hks.below HT1.out.1) hsm.2.1)
      | (go_at_call 59; refine hc2.mono ?_; clear hc2 c0 c1 c2 c3 c4 c5 f0; rintro e w3 ⟨v', rfl, hown, hb3⟩; have HT2' := Lib.hid (HT1.out.below hb3); have f0 := HT2'.out.2.2.1.frozen; obtain ⟨c0, c1, c2, c3, c4, c5⟩ := HT2'.out.2.2.1.all; have HT2 := Lib.hid (HT2'.out.set4 v'); have HO := Lib.hid ((hown.step (U' := fun b => w.heap.size + 2 ≤ b) fun b hb _ => ⟨rfl, Nat.le_trans HT1.out.2.1 hb⟩).setOther (i := 4) (g := w.heap.size) v' (fun b hb => by omega)); obtain ⟨B, d, rfl⟩ := hown.shape))
    clear c0 c1 c2 c3 c4 c5 f0 hown hb2 hb3
    have HC := Lib.hid (show C1 w kk nn uu s (.slice B ks.length d) (.slice A m c) ks _ from ⟨HT2.out, HO.out⟩)
    clear HT0 HT1 HT1' HT2 HT2' HO
    have hkl : ks.length ≤ 1000 := hsm.2.1
    go_loopw [18] (fun i wr => ∃ j : Nat, j ≤ ks.length ∧ i = .int .i64 (j : Int) ∧ Hid (C1 w kk nn uu s (.slice B ks.length d) (.slice A m c) ks wr)) (fun i _ => ks.length - (intOf i).toNat)
    case atStart => exact ⟨0, Nat.zero_le _, rfl, HC⟩
    case round =>
      obtain ⟨j, hj, rfl, HW⟩ := hrel
      by_cases hjm : j < ks.length
      · obtain ⟨x, hx⟩ : ∃ x, ks[j]? = some x := ⟨_, List.getElem?_eq_getElem hjm⟩
        obtain ⟨_, _, e, _, _, hcell⟩ := HW.out.2.cells
        cases e
        obtain ⟨g, rfl, hg, hUg, -⟩ := hcell (by omega)
        have hall : ∀ W, Hid (C1 w kk nn uu s (.slice (some ⟨g, 0, none⟩) ks.length d) (.slice A m c) ks W) → Hid (C1 w kk nn uu s (.slice (some ⟨g, 0, none⟩) ks.length d) (.slice A m c) ks W) ∧ W.cell? ⟨w.heap.size, 4, none⟩ = some (.slice (some ⟨g, 0, none⟩) ks.length d) ∧ W.cell? ⟨g, j, none⟩ = some (.string x) ∧ W.frozen? ⟨g, j, none⟩ = false := by
          intro W H
          obtain ⟨_, _, e, _, _, hcell⟩ := H.out.2.cells
          cases e
          obtain ⟨g', e, _, _, hcell⟩ := hcell (by omega)
          cases e
          refine ⟨H, (H.out.1.2.2.1.all).2.2.2.2.1, ?_, H.out.2.1.frozenAt j⟩
          rw [hcell j (by omega), List.getElem?_map, hx]
          rfl
        have hset : ∀ W, Hid (C1 w kk nn uu s (.slice (some ⟨g, 0, none⟩) ks.length d) (.slice A m c) ks W) → Hid (C1 w kk nn uu s (.slice (some ⟨g, 0, none⟩) ks.length d) (.slice A m c) ks (W.setCell ⟨g, j, none⟩ (.string x))) := fun W H => Lib.hid (H.out.set hx)
        have HCL : Hid (∀ W, Hid (C1 w kk nn uu s (.slice (some ⟨g, 0, none⟩) ks.length d) (.slice A m c) ks W) → Calls Tryd.prog 58 #[.string x] W fun e w' => e = .returned (.string x) ∧ Hid (C1 w kk nn uu s (.slice (some ⟨g, 0, none⟩) ks.length d) (.slice A m c) ks w')) := Lib.hid fun W H =>
          (strClone_any x W (hsm.2.2.1 x (List.mem_of_getElem? hx))).mono fun e w' h => ⟨h.1, Lib.hid (H.out.below h.2)⟩
        obtain ⟨_, d4, dx, df⟩ := hall wr HW
        have HTd := Lib.hid (HW.out.below (Below.refl _ _).drew)
        have hjb : (0 : Int) ≤ (j : Int) := by omega
        have hjb2 : (j : Int) < (ks.length : Int) := by omega
        clear hx hsm hks hL ih hr hs hcell hg
        go_wp2_with fail
        go_region_held3 (fun W => Hid (C1 w kk nn uu s (.slice (some ⟨g, 0, none⟩) ks.length d) (.slice A m c) ks W) ∧ W.cell? ⟨w.heap.size, 4, none⟩ = some (.slice (some ⟨g, 0, none⟩) ks.length d) ∧ W.cell? ⟨g, j, none⟩ = some (.string x) ∧ W.frozen? ⟨g, j, none⟩ = false) (first | exact hall _ (by assumption) | exact hall _ (hset _ (by assumption)))
          (first | (go_at_call 58; (with_reducible refine (HCL.out _ (by assumption)).mono ?_); rintro e w4 ⟨rfl, HT4⟩))
        go_wp2_with fail
        go_roundw
        case rel => exact ⟨j + 1, by omega, by simp, hset _ HT4⟩
        case measure => simp [intOf]; omega
      · have hxs : ∃ xs, xs.length = m * 6 ∧ (∀ u ∈ xs, u.oneCell' = true) ∧ NdX w L xs ∧ (0 < m → ∃ b off, A = some ⟨b, off, none⟩ ∧ b < w.heap.size ∧ ∀ j u, xs[j]? = some u → w.cell? ⟨b, off + j, none⟩ = some u) := by
          rcases Nat.eq_zero_or_pos m with h0 | h0
          · obtain rfl : L = [] := List.length_eq_zero_iff.1 (by omega)
            exact ⟨[], by simp [h0], fun u h => by simp at h, rfl, fun h => absurd h (by omega)⟩
          · obtain ⟨b, off, rfl, hb, hN⟩ := hL h0
            obtain ⟨xs, h1, h2, h3, h4⟩ := NdL.flat L off hN
            exact ⟨xs, by rw [h1, hl], h4, h3, fun _ => ⟨b, off, rfl, hb, h2⟩⟩
        obtain ⟨xs, hxl, hx1, hxX, hxA⟩ := hxs
        have hcl := nodesClone_any A m c xs wr hxl hx1 hmx (fun h0 => by
          obtain ⟨b, off, h1, h2, h3⟩ := hxA h0
          exact ⟨b, off, h1, Nat.lt_of_lt_of_le h2 HW.out.1.1.size, fun j u hj => (HW.out.1.1.cell (p := ⟨b, off + j, none⟩) h2).trans (h3 j u hj)⟩)
        obtain ⟨d0, d1, d2, d3, d4, d5⟩ := HW.out.1.2.2.1.all
        have hg0 := HW.out.1.2.2.1.frozen
        go_wp2_with (go_at_call 60; refine hcl.mono ?_; clear hcl d0 d1 d2 d3 d4 d5 hg0; rintro e w5 ⟨v5, rfl, hown, hb5⟩; have HT5' := Lib.hid (HW.out.1.below hb5); have f0 := HT5'.out.2.2.1.frozen; obtain ⟨c0, c1, c2, c3, c4, c5⟩ := HT5'.out.2.2.1.all; have HT5 := Lib.hid (HT5'.out.set5 v5); have HOw := Lib.hid hown; have HB5 := Lib.hid hb5; obtain ⟨G, e, rfl⟩ := hown.shape)
        have HC2 : Hid (∃ N ys zs, N ≤ (w5.setCell ⟨w.heap.size, 5, none⟩ (.slice G m e)).heap.size ∧ C3 w kk nn uu s (.slice B ks.length d) (.slice G m e) ks m N (L.take 0) ys zs (w5.setCell ⟨w.heap.size, 5, none⟩ (.slice G m e)) ∧ NdX w (L.drop 0) zs) := by
          refine Lib.hid ⟨0, [], xs, Nat.zero_le _, ⟨HT5.out, ?_, ?_, rfl⟩, hxX⟩
          · refine HW.out.2.step fun b hb hlt => ⟨?_, hb, fun hb2 => ?_⟩
            · rw [heap_set_other _ _ _ _ _ (by omega)]; exact HB5.out.block b hlt
            · have := HOw.out.2 b hb2.symm
              omega
          · refine HOw.out.step fun b hb _ => ?_
            have := HW.out.1.2.1
            exact ⟨heap_set_other _ _ _ _ _ (by omega), by omega⟩
        clear HT5 HT5' HOw HB5 c0 c1 c2 c3 c4 c5 f0 hown hb5 hxA hxX hx1 hxl HC hT0 HW
        go_loopw [37] (fun i wr => ∃ j : Nat, j ≤ m ∧ i = .int .i64 (j : Int) ∧ Hid (∃ N ys zs, N ≤ wr.heap.size ∧ C3 w kk nn uu s (.slice B ks.length d) (.slice G m e) ks m N (L.take j) ys zs wr ∧ NdX w (L.drop j) zs)) (fun i _ => m - (intOf i).toNat)
        case atStart => exact ⟨0, Nat.zero_le _, rfl, HC2⟩
        case round =>
          obtain ⟨j, hj, rfl, HW⟩ := hrel
          by_cases hjm : j < m
          · obtain ⟨N, ys, zs', hNle, hC, hX⟩ := HW.out
            obtain ⟨t0, ht0⟩ : ∃ t0, L[j]? = some t0 := ⟨_, List.getElem?_eq_getElem (by omega)⟩
            obtain ⟨cs0, zs, rfl, hn0, hX'⟩ := hX.drop ht0
            obtain ⟨k0, i0, n0, s0, A1, m1, c1, A2, m2, c2, rfl⟩ := hn0.shape
            have hyl : ys.length = j * 6 := by rw [hC.2.2.2.len, List.length_take, Nat.min_eq_left (by omega)]
            obtain ⟨_, _, e1, _, _, hcell⟩ := hC.2.2.1.cells
            cases e1
            obtain ⟨g, rfl, hg, hUg, hcell⟩ := hcell (by omega)
            have hcl : ∀ i, i < 6 → wr.cell? ⟨g, j * 6 + i, none⟩ = [Value.int .i64 k0, .int .i64 i0, .int .u64 n0, .string s0, .slice A1 m1 c1, .slice A2 m2 c2][i]? := by
              intro i hi
              rw [hcell _ (by omega), List.getElem?_append_right (by omega), hyl, Nat.add_sub_cancel_left, List.getElem?_append_left (by simpa using hi)]
            have p0 := hcl 0 (by omega)
            have p1 := hcl 1 (by omega)
            have p2 := hcl 2 (by omega)
            have p3 := hcl 3 (by omega)
            have p4 := hcl 4 (by omega)
            have p5 := hcl 5 (by omega)
            simp only [Nat.add_zero, List.getElem?_cons_zero, List.getElem?_cons_succ] at p0 p1 p2 p3 p4 p5
            clear hcl hcell
            have hle := sz_le_of ht0
            have hdl := dp_le_of ht0
            have HCj : Hid (C3 w kk nn uu s (.slice B ks.length d) (.slice (some ⟨g, 0, none⟩) m e) ks m N (L.take j) ys ([.int .i64 k0, .int .i64 i0, .int .u64 n0, .string s0, .slice A1 m1 c1, .slice A2 m2 c2] ++ zs) wr) := Lib.hid hC
            have HXj := Lib.hid hX'
            have HN0 := Lib.hid hn0
            obtain ⟨cb, hcb⟩ : ∃ cb, wr.heap.size = cb := ⟨_, rfl⟩
            have hsz0 : w.heap.size + 2 ≤ cb := by rw [← hcb]; exact hC.1.2.1
            have hgc : g < cb := by omega
            have hNc : N ≤ cb := by rw [← hcb]; exact hNle
            have H4 : Hid (∀ b, (Value.slice B ks.length d).ownBlock = some b → b < cb) := Lib.hid fun b hb => by rw [← hcb]; exact hC.2.1.lt hb
            clear hC hX hX' hn0 HW
            go_wp2_with fail
            obtain ⟨wc, hwc⟩ : ∃ wc, wr.alloc (.cells #[.int .i64 k0, .int .i64 i0, .int .u64 n0, .string s0, .slice A1 m1 c1, .slice A2 m2 c2] 31) = wc := ⟨_, rfl⟩
            have hbc : Below wr.heap.size wr wc := by rw [← hwc]; exact (Below.refl _ _).alloc (Nat.le_refl _) _
            have HE0 : Hid (C3 w kk nn uu s (.slice B ks.length d) (.slice (some ⟨g, 0, none⟩) m e) ks m N (L.take j) ys ([.int .i64 k0, .int .i64 i0, .int .u64 n0, .string s0, .slice A1 m1 c1, .slice A2 m2 c2] ++ zs) wc.drew ∧ DD w kk nn uu s (.slice B ks.length d) (.slice (some ⟨g, 0, none⟩) m e) cb (.int .i64 k0) (.int .i64 i0) (.int .u64 n0) (.string s0) (.slice A1 m1 c1) (.slice A2 m2 c2) wc.drew ∧ wc.drew.heap.size = cb + 1) := by
              have q := HCj.out.below (hbc.trans ((Below.refl _ wc).drew.mono hbc.size))
              refine Lib.hid ⟨q, ⟨q.1, ?_⟩, ?_⟩
              · have := Blk.new wr 31 #[.int .i64 k0, .int .i64 i0, .int .u64 n0, .string s0, .slice A1 m1 c1, .slice A2 m2 c2]
                rw [hcb, hwc] at this
                exact this
              · show wc.heap.size = cb + 1
                rw [← hwc, ← hcb]; simp
            have HDc : Hid (DD w kk nn uu s (.slice B ks.length d) (.slice (some ⟨g, 0, none⟩) m e) cb (.int .i64 k0) (.int .i64 i0) (.int .u64 n0) (.string s0) (.slice A1 m1 c1) (.slice A2 m2 c2) wc) := Lib.hid (by
              refine ⟨(HCj.out.below hbc).1, ?_⟩
              have := Blk.new wr 31 #[.int .i64 k0, .int .i64 i0, .int .u64 n0, .string s0, .slice A1 m1 c1, .slice A2 m2 c2]
              rw [hcb, hwc] at this
              exact this)
            rw [hwc]
            have hall : ∀ W, Hid (DD w kk nn uu s (.slice B ks.length d) (.slice (some ⟨g, 0, none⟩) m e) cb (.int .i64 k0) (.int .i64 i0) (.int .u64 n0) (.string s0) (.slice A1 m1 c1) (.slice A2 m2 c2) W) → Hid (DD w kk nn uu s (.slice B ks.length d) (.slice (some ⟨g, 0, none⟩) m e) cb (.int .i64 k0) (.int .i64 i0) (.int .u64 n0) (.string s0) (.slice A1 m1 c1) (.slice A2 m2 c2) W) ∧ W.cell? ⟨w.heap.size, 5, none⟩ = some (.slice (some ⟨g, 0, none⟩) m e) ∧ W.cell? ⟨cb, 0, none⟩ = some (.int .i64 k0) ∧ W.cell? ⟨cb, 1, none⟩ = some (.int .i64 i0) ∧ W.cell? ⟨cb, 2, none⟩ = some (.int .u64 n0) ∧ W.cell? ⟨cb, 3, none⟩ = some (.string s0) ∧ W.cell? ⟨cb, 4, none⟩ = some (.slice A1 m1 c1) ∧ W.cell? ⟨cb, 5, none⟩ = some (.slice A2 m2 c2) := by
              intro W H
              exact ⟨H, (H.out.1.2.2.1.all).2.2.2.2.2, H.out.2.all⟩
            have hset6 : ∀ (W : World) (a0 a1 a2 a3 a4 a5 : Value), Hid (DD w kk nn uu s (.slice B ks.length d) (.slice (some ⟨g, 0, none⟩) m e) cb (.int .i64 k0) (.int .i64 i0) (.int .u64 n0) (.string s0) (.slice A1 m1 c1) (.slice A2 m2 c2) W) → Hid (DD w kk nn uu s (.slice B ks.length d) (.slice (some ⟨g, 0, none⟩) m e) cb (.int .i64 k0) (.int .i64 i0) (.int .u64 n0) (.string s0) (.slice A1 m1 c1) (.slice A2 m2 c2) ((((((W.setCell ⟨g, j * 6, none⟩ a0).setCell ⟨g, j * 6 + 1, none⟩ a1).setCell ⟨g, j * 6 + 2, none⟩ a2).setCell ⟨g, j * 6 + 3, none⟩ a3).setCell ⟨g, j * 6 + 4, none⟩ a4).setCell ⟨g, j * 6 + 5, none⟩ a5)) := fun W a0 a1 a2 a3 a4 a5 H => Lib.hid (H.out.put (j * 6) hUg hgc a0 a1 a2 a3 a4 a5)
            have HCP : Hid (∀ W, Hid (C3 w kk nn uu s (.slice B ks.length d) (.slice (some ⟨g, 0, none⟩) m e) ks m N (L.take j) ys ([.int .i64 k0, .int .i64 i0, .int .u64 n0, .string s0, .slice A1 m1 c1, .slice A2 m2 c2] ++ zs) W ∧ DD w kk nn uu s (.slice B ks.length d) (.slice (some ⟨g, 0, none⟩) m e) cb (.int .i64 k0) (.int .i64 i0) (.int .u64 n0) (.string s0) (.slice A1 m1 c1) (.slice A2 m2 c2) W ∧ W.heap.size = cb + 1) → Calls Tryd.prog 43 #[.agg #[.int .i64 k0, .int .i64 i0, .int .u64 n0, .string s0, .slice A1 m1 c1, .slice A2 m2 c2]] W fun e' w' =>
                ∃ (k' n' u' : Int) (s' : ByteArray) (A1' : Option Addr) (m1' c1' : Nat) (A2' : Option Addr) (m2' c2' : Nat), e' = .returned (.agg #[.int .i64 k', .int .i64 n', .int .u64 u', .string s', .slice A1' m1' c1', .slice A2' m2' c2']) ∧
                  Hid (∃ K : Nat → Prop, NdS K w' t0 [.int .i64 k', .int .i64 n', .int .u64 u', .string s', .slice A1' m1' c1', .slice A2' m2' c2'] ∧ ∀ b, K b → cb + 1 ≤ b ∧ b < w'.heap.size) ∧ Hid (C3 w kk nn uu s (.slice B ks.length d) (.slice (some ⟨g, 0, none⟩) m e) ks m N (L.take j) ys ([.int .i64 k0, .int .i64 i0, .int .u64 n0, .string s0, .slice A1 m1 c1, .slice A2 m2 c2] ++ zs) w') ∧ Hid (DD w kk nn uu s (.slice B ks.length d) (.slice (some ⟨g, 0, none⟩) m e) cb (.int .i64 k0) (.int .i64 i0) (.int .u64 n0) (.string s0) (.slice A1 m1 c1) (.slice A2 m2 c2) w') ∧ Hid (cb ≤ w'.heap.size)) := Lib.hid fun W H => by
              refine (ih t0 _ W (by omega) (by omega) (smL_at hsm.2.2.2 ht0) (HN0.out.bel H.out.1.1.1)).mono ?_
              rintro e' w' ⟨⟨cs', rfl, hno⟩, hb⟩
              obtain ⟨k', n', u', s', A1', m1', c1', A2', m2', c2', rfl⟩ := (NdS.ndo _ _ hno).shape6
              refine ⟨k', n', u', s', A1', m1', c1', A2', m2', c2', rfl, Lib.hid ⟨_, hno, fun b hb2 => ⟨?_, hb2.2⟩⟩, Lib.hid (H.out.1.below hb), Lib.hid (H.out.2.1.below hb), Lib.hid (by have := hb.size; have := H.out.2.2; omega)⟩
              have := H.out.2.2
              have := hb2.1
              omega
            have HFZ : Hid (∀ W, Hid (C3 w kk nn uu s (.slice B ks.length d) (.slice (some ⟨g, 0, none⟩) m e) ks m N (L.take j) ys ([.int .i64 k0, .int .i64 i0, .int .u64 n0, .string s0, .slice A1 m1 c1, .slice A2 m2 c2] ++ zs) W) → (W.frozen? ⟨g, j * 6, none⟩ = false ∧ W.frozen? ⟨g, j * 6 + 1, none⟩ = false ∧ W.frozen? ⟨g, j * 6 + 2, none⟩ = false ∧ W.frozen? ⟨g, j * 6 + 3, none⟩ = false ∧ W.frozen? ⟨g, j * 6 + 4, none⟩ = false ∧ W.frozen? ⟨g, j * 6 + 5, none⟩ = false) ∧
                W.cell? ⟨g, j * 6, none⟩ = some (.int .i64 k0) ∧ W.cell? ⟨g, j * 6 + 1, none⟩ = some (.int .i64 i0) ∧ W.cell? ⟨g, j * 6 + 2, none⟩ = some (.int .u64 n0) ∧ W.cell? ⟨g, j * 6 + 3, none⟩ = some (.string s0) ∧ W.cell? ⟨g, j * 6 + 4, none⟩ = some (.slice A1 m1 c1) ∧ W.cell? ⟨g, j * 6 + 5, none⟩ = some (.slice A2 m2 c2)) := Lib.hid fun W H => by
              have hO := H.out.2.2.1
              have hcl : ∀ i, i < 6 → W.cell? ⟨g, j * 6 + i, none⟩ = [Value.int .i64 k0, .int .i64 i0, .int .u64 n0, .string s0, .slice A1 m1 c1, .slice A2 m2 c2][i]? := by
                intro i hi
                rw [hO.1.cellAt _ (by omega), List.getElem?_append_right (by omega), hyl, Nat.add_sub_cancel_left, List.getElem?_append_left (by simpa using hi)]
              exact ⟨⟨hO.1.frozenAt _, hO.1.frozenAt _, hO.1.frozenAt _, hO.1.frozenAt _, hO.1.frozenAt _, hO.1.frozenAt _⟩, hcl 0 (by omega), hcl 1 (by omega), hcl 2 (by omega), hcl 3 (by omega), hcl 4 (by omega), hcl 5 (by omega)⟩
            have HPUT : Hid (∀ (W : World) (a0 a1 a2 a3 a4 a5 : Value), Hid (C3 w kk nn uu s (.slice B ks.length d) (.slice (some ⟨g, 0, none⟩) m e) ks m N (L.take j) ys ([.int .i64 k0, .int .i64 i0, .int .u64 n0, .string s0, .slice A1 m1 c1, .slice A2 m2 c2] ++ zs) W) → Hid (cb ≤ W.heap.size) → Hid (∃ K : Nat → Prop, NdS K W t0 [a0, a1, a2, a3, a4, a5] ∧ ∀ b, K b → cb + 1 ≤ b ∧ b < W.heap.size) →
                Hid (∃ N ys zs, N ≤ ((((((W.setCell ⟨g, j * 6, none⟩ a0).setCell ⟨g, j * 6 + 1, none⟩ a1).setCell ⟨g, j * 6 + 2, none⟩ a2).setCell ⟨g, j * 6 + 3, none⟩ a3).setCell ⟨g, j * 6 + 4, none⟩ a4).setCell ⟨g, j * 6 + 5, none⟩ a5).heap.size ∧ C3 w kk nn uu s (.slice B ks.length d) (.slice (some ⟨g, 0, none⟩) m e) ks m N (L.take (j + 1)) ys zs ((((((W.setCell ⟨g, j * 6, none⟩ a0).setCell ⟨g, j * 6 + 1, none⟩ a1).setCell ⟨g, j * 6 + 2, none⟩ a2).setCell ⟨g, j * 6 + 3, none⟩ a3).setCell ⟨g, j * 6 + 4, none⟩ a4).setCell ⟨g, j * 6 + 5, none⟩ a5) ∧ NdX w (L.drop (j + 1)) zs)) := Lib.hid fun W a0 a1 a2 a3 a4 a5 H1 HL H2 => by
              obtain ⟨K, hK1, hK2⟩ := H2.out
              exact Lib.hid ⟨W.heap.size, _, zs, Nat.le_of_eq (put6_size W g (j * 6) a0 a1 a2 a3 a4 a5).symm, H1.out.put hyl ht0 hK1 hK2 hNc HL.out hgc hsz0 H4.out, HXj.out⟩
            have HDd := Lib.hid HE0.out.2.1
            obtain ⟨_, d5, e0, e1, e2, e3, e4, e5⟩ := hall wc HDc
            have hjb : (0 : Int) ≤ (j : Int) := by omega
            have hjb2 : (j : Int) < (m : Int) := by omega
            clear hbc hwc hyl HN0 HXj HCj HDc ht0 hle hdl hsm hks hL ih hr hs p0 p1 p2 p3 p4 p5 hg hl
            go_region_held3 (fun W => Hid (DD w kk nn uu s (.slice B ks.length d) (.slice (some ⟨g, 0, none⟩) m e) cb (.int .i64 k0) (.int .i64 i0) (.int .u64 n0) (.string s0) (.slice A1 m1 c1) (.slice A2 m2 c2) W) ∧ W.cell? ⟨w.heap.size, 5, none⟩ = some (.slice (some ⟨g, 0, none⟩) m e) ∧ W.cell? ⟨cb, 0, none⟩ = some (.int .i64 k0) ∧ W.cell? ⟨cb, 1, none⟩ = some (.int .i64 i0) ∧ W.cell? ⟨cb, 2, none⟩ = some (.int .u64 n0) ∧ W.cell? ⟨cb, 3, none⟩ = some (.string s0) ∧ W.cell? ⟨cb, 4, none⟩ = some (.slice A1 m1 c1) ∧ W.cell? ⟨cb, 5, none⟩ = some (.slice A2 m2 c2)) (first | (with_reducible exact hall _ (by assumption)) | (with_reducible exact hall _ HDd) | (with_reducible exact hall _ (hset6 _ _ _ _ _ _ _ (by assumption))))
              (first | (go_at_call 43; (with_reducible refine (HCP.out _ (by assumption)).mono ?_); rintro e' w6 ⟨k', n', u', s', A1', m1', c1', A2', m2', c2', rfl, HN6, HC6, HD6, HL6⟩; obtain ⟨⟨z0, z1, z2, z3, z4, z5⟩, y0, y1, y2, y3, y4, y5⟩ := HFZ.out _ HC6))
            go_wp2_with fail
            go_roundw
            case rel => exact ⟨j + 1, by omega, by simp, HPUT.out _ _ _ _ _ _ _ HC6 HL6 HN6⟩
            case measure => simp [intOf]; omega
          · obtain ⟨N, ys, zs, hNle, hC, hX⟩ := HW.out
            obtain rfl : j = m := by omega
            rw [List.drop_of_length_le (by omega)] at hX
            obtain rfl : zs = [] := hX
            rw [List.take_of_length_le (by omega)] at hC
            have HCj := Lib.hid hC
            obtain ⟨c0, c1, c2, c3, c4, c5⟩ := HCj.out.1.2.2.1.all
            obtain ⟨o0, o1, o2, o3, o4, o5⟩ := HCj.out.1.2.2.2.all
            have f0 := HCj.out.1.2.2.2.frozen 0
            have f1 := HCj.out.1.2.2.2.frozen 1
            have f2 := HCj.out.1.2.2.2.frozen 2
            have f3 := HCj.out.1.2.2.2.frozen 3
            have f4 := HCj.out.1.2.2.2.frozen 4
            have f5 := HCj.out.1.2.2.2.frozen 5
            clear hC HW
            go_wp2_with fail
            refine ret_six (p := 2) (g := w.heap.size + 1) rfl rfl (HCj.out.1.2.2.2.put6 _ _ _ _ _ _) rfl ?_
            have hlb : ∀ b, w.heap.size + 2 ≤ b → b ≠ w.heap.size + 1 := fun b hb => by omega
            have hP : Below w.heap.size w (put6 wr (w.heap.size + 1) 0 (.int .i64 kk) (.int .i64 nn) (.int .u64 uu) (.string s) (.slice B ks.length d) (.slice G j e)) := put6_below HCj.out.1.1 _ _ _ _ _ _ _ _ (by omega)
            have hPs : (put6 wr (w.heap.size + 1) 0 (.int .i64 kk) (.int .i64 nn) (.int .u64 uu) (.string s) (.slice B ks.length d) (.slice G j e)).heap.size = wr.heap.size := put6_size _ _ _ _ _ _ _ _ _
            refine ⟨⟨[.int .i64 kk, .int .i64 nn, .int .u64 uu, .string s, .slice B ks.length d, .slice G j e], rfl, hr, hs, fun x hx => ?_, _, _, ys, VV w (.slice B ks.length d) (.slice G j e) N, rfl, ?_, ?_, ?_, ?_⟩, hP⟩
            · exact Nat.le_trans (hsm.2.2.1 x hx) (by unfold maxLen; omega)
            · refine HCj.out.2.1.self.step fun b hb _ => ⟨put6_other wr (w.heap.size + 1) 0 b _ _ _ _ _ _ (hlb b hb.2.1.1), ⟨?_, ?_⟩, fun hV => hV.2.2.1 hb.1.symm, hb.2.1.2⟩
              · have := hb.2.1.1; omega
              · exact Nat.lt_of_lt_of_eq hb.2.2 hPs.symm
            · have q := HCj.out.2.2.1.self
              rw [List.append_nil] at q
              rw [hl]
              refine q.step fun b hb _ => ⟨put6_other wr (w.heap.size + 1) 0 b _ _ _ _ _ _ (hlb b hb.2.1), ⟨?_, ?_⟩, fun hV => hV.2.1 hb.1.symm⟩
              · have := hb.2.1; omega
              · exact Nat.lt_of_lt_of_eq hb.2.2 hPs.symm
            · exact NdSL.step (fun b hb _ => put6_other wr (w.heap.size + 1) 0 b _ _ _ _ _ _ (hlb b hb.1)) _ _ HCj.out.2.2.2
            · intro b hb
              have h1 := hb.1
              have h2 := hb.2.2.2
              exact ⟨by omega, Nat.lt_of_lt_of_eq (Nat.lt_of_lt_of_le h2 hNle) hPs.symm⟩
end Go.Proofs.YtnplkamkeadlgaaDoor
