/-
  What is proved here: what a sorted tree is, as a relation; what holds between two rounds of key.sortMaps; no condition but those that each fact states.
-/
import Derived.Test.YtjbmghfgbdnjjaaDoorEnt
namespace Go.Proofs.YtjbmghfgbdnjjaaDoor
open Go.RowKit

def TZ : T := .mk 0 0 0 ⟨#[]⟩ [] []
mutual
/-- Every map has as many keys as children, and no key twice. -/
def mpT : T → Prop
  | .mk k _ _ _ ks l => (k = 17 → ks.length = l.length ∧ ks.Nodup) ∧ mpL l
def mpL : List T → Prop
  | [] => True
  | t :: ts => mpT t ∧ mpL ts
end
mutual
/-- The second tree is the first one with its maps sorted. -/
def Srt : T → T → Prop
  | .mk k n u s ks l, t' => ∃ l', SrtL l l' ∧ ((k ≠ 17 ∧ t' = .mk k n u s ks l') ∨ (k = 17 ∧ ∃ q, SQ ks q ks.length ∧ t' = .mk k n u s (q.map (ky ks)) (q.map fun i => l'.getD i (.mk 0 0 0 ⟨#[]⟩ [] []))))
def SrtL : List T → List T → Prop
  | [], l' => l' = []
  | t :: ts, l' => ∃ t' ts', l' = t' :: ts' ∧ Srt t t' ∧ SrtL ts ts'
end
theorem SrtL.length : ∀ {l l' : List T}, SrtL l l' → l'.length = l.length
  | [], _, h => by obtain rfl : _ = [] := h; rfl
  | t :: ts, _, h => by
    obtain ⟨t', ts', rfl, _, h2⟩ := h
    simp [SrtL.length h2]
theorem SrtL.app {t t' : T} (ht : Srt t t') : ∀ {l l' : List T}, SrtL l l' → SrtL (l ++ [t]) (l' ++ [t'])
  | [], _, h => by obtain rfl : _ = [] := h; exact ⟨t', [], rfl, ht, rfl⟩
  | t0 :: ts, _, h => by
    obtain ⟨t1, ts', rfl, h1, h2⟩ := h
    exact ⟨t1, ts' ++ [t'], rfl, h1, SrtL.app ht h2⟩
mutual
theorem Srt.unique : ∀ {t a b : T}, Srt t a → Srt t b → a = b
  | .mk k n u s ks l, a, b, h, h' => by
    obtain ⟨l1, h1, h2⟩ := h
    obtain ⟨l2, h3, h4⟩ := h'
    obtain rfl := SrtL.unique h1 h3
    rcases h2 with ⟨hk, rfl⟩ | ⟨hk, q, hq, rfl⟩
    · rcases h4 with ⟨_, rfl⟩ | ⟨hk', _⟩
      · rfl
      · exact absurd hk' hk
    · rcases h4 with ⟨hk', _⟩ | ⟨_, q', hq', rfl⟩
      · exact absurd hk hk'
      · rw [hq.unique hq']
theorem SrtL.unique : ∀ {l a b : List T}, SrtL l a → SrtL l b → a = b
  | [], _, _, h, h' => by
    obtain rfl : _ = [] := h
    obtain rfl : _ = [] := h'
    rfl
  | t :: ts, _, _, h, h' => by
    obtain ⟨t1, ts1, rfl, h1, h2⟩ := h
    obtain ⟨t2, ts2, rfl, h3, h4⟩ := h'
    rw [Srt.unique h1 h3, SrtL.unique h2 h4]
end
theorem mpL_at : ∀ {l : List T} {j : Nat} {t : T}, mpL l → l[j]? = some t → mpT t
  | [], j, t, _, h => by simp at h
  | t0 :: ts, 0, t, h, ht => by
    obtain rfl : t0 = t := by simpa using ht
    exact h.1
  | t0 :: ts, j + 1, t, h, ht => mpL_at h.2 (by simpa using ht)

/-- Only blocks of which U holds have changed, beside new ones. -/
structure Fx (U : Nat → Prop) (w w' : World) : Prop where
  os : w'.os = w.os
  tape : w'.tape = w.tape
  output : w'.output = w.output
  size : w.heap.size ≤ w'.heap.size
  block : ∀ k, k < w.heap.size → ¬ U k → w'.heap[k]? = w.heap[k]?
theorem Fx.of_below {U : Nat → Prop} {w w' : World} (h : Below w.heap.size w w') : Fx U w w' := ⟨h.os, h.tape, h.output, h.size, fun k hk _ => h.block k hk⟩
theorem Fx.trans {U U' : Nat → Prop} {a b c : World} (h : Fx U a b) (k : Fx U' b c) (hU : ∀ n, U' n → n < a.heap.size → U n) : Fx U a c :=
  ⟨k.os.trans h.os, k.tape.trans h.tape, k.output.trans h.output, Nat.le_trans h.size k.size, fun n hn hu => (k.block n (Nat.lt_of_lt_of_le hn h.size) fun h' => hu (hU n h' hn)).trans (h.block n hn hu)⟩
theorem Fx.set {U : Nat → Prop} {a b : World} (h : Fx U a b) (g o : Nat) (v : Value) (hg : g < a.heap.size → U g) : Fx U a (b.setCell ⟨g, o, none⟩ v) :=
  ⟨h.os, h.tape, h.output, by rw [size_set]; exact h.size, fun n hn hu => (heap_set_other _ _ _ _ _ (fun e => hu (by rw [e]; exact hg (by omega)))).trans (h.block n hn hu)⟩
theorem Fx.put6 {U : Nat → Prop} {a b : World} (h : Fx U a b) (g o : Nat) (a0 a1 a2 a3 a4 a5 : Value) (hg : g < a.heap.size → U g) : Fx U a (Go.Proofs.YtjbmghfgbdnjjaaDoor.put6 b g o a0 a1 a2 a3 a4 a5) := by
  unfold Go.Proofs.YtjbmghfgbdnjjaaDoor.put6
  exact (((((h.set g o a0 hg).set g (o + 1) a1 hg).set g (o + 2) a2 hg).set g (o + 3) a3 hg).set g (o + 4) a4 hg).set g (o + 5) a5 hg

/-- Between two rounds: the boxes, the keys, the row of the children of which the first are sorted (L1), the others not yet (L2). -/
structure SM (U V D : Nat → Prop) (w : World) (N : Nat) (k n u : Int) (s : ByteArray) (v4 v5 : Value) (ks : List ByteArray) (m : Nat) (L1 L2 : List T) (ys zs : List Value) (W : World) : Prop where
  fx : Fx U w W
  hs : w.heap.size + 2 ≤ W.heap.size
  hN : N ≤ W.heap.size
  b0 : Bx W w.heap.size (.int .i64 k) (.int .i64 n) (.int .u64 u) (.string s) v4 v5
  b1 : Bx W (w.heap.size + 1) (.int .i64 0) (.int .i64 0) (.int .u64 0) (.string ⟨#[]⟩) (.slice none 0 0) (.slice none 0 0)
  keys : Ow (fun b => U b ∧ ¬ V b ∧ ¬ D b ∧ some b ≠ v5.ownBlock) W 9 1 v4 ks.length (ks.map Value.string)
  row : Ow (fun b => U b ∧ ¬ V b ∧ ¬ D b) W 41 6 v5 m (ys ++ zs)
  done : NdSL V W L1 ys
  rest : NdSL D W L2 zs
  hV : ∀ b, V b → U b ∨ (w.heap.size + 2 ≤ b ∧ b < N)
  hD : ∀ b, D b → U b ∧ ¬ V b
/-- Within a round: the child at hand lies in C, the rest in D. -/
structure SC (U V C D : Nat → Prop) (w : World) (N : Nat) (k n u : Int) (s : ByteArray) (v4 v5 : Value) (ks : List ByteArray) (m : Nat) (L1 L2 : List T) (ys cs zs : List Value) (W : World) : Prop where
  fx : Fx U w W
  hs : w.heap.size + 2 ≤ W.heap.size
  hN : N ≤ W.heap.size
  b0 : Bx W w.heap.size (.int .i64 k) (.int .i64 n) (.int .u64 u) (.string s) v4 v5
  b1 : Bx W (w.heap.size + 1) (.int .i64 0) (.int .i64 0) (.int .u64 0) (.string ⟨#[]⟩) (.slice none 0 0) (.slice none 0 0)
  keys : Ow (fun b => U b ∧ ¬ V b ∧ ¬ C b ∧ ¬ D b ∧ some b ≠ v5.ownBlock) W 9 1 v4 ks.length (ks.map Value.string)
  row : Ow (fun b => U b ∧ ¬ V b ∧ ¬ C b ∧ ¬ D b) W 41 6 v5 m (ys ++ (cs ++ zs))
  done : NdSL V W L1 ys
  rest : NdSL D W L2 zs
  hV : ∀ b, V b → U b ∨ (w.heap.size + 2 ≤ b ∧ b < N)
  hC : ∀ b, C b → U b ∧ ¬ V b ∧ ¬ D b
  hD : ∀ b, D b → U b ∧ ¬ V b
section
variable {U V C D : Nat → Prop} {w W W' : World} {N : Nat} {k n u : Int} {s : ByteArray} {v4 v5 : Value} {ks : List ByteArray} {m : Nat} {L1 L2 : List T} {ys cs zs : List Value}
theorem SM.split {t : T} (h : SM U V D w N k n u s v4 v5 ks m L1 (t :: L2) ys zs W) : ∃ C D' cs zs', zs = cs ++ zs' ∧ NdS C W t cs ∧ SC U V C D' w N k n u s v4 v5 ks m L1 L2 ys cs zs' W := by
  obtain ⟨cs, zs', C, D', rfl, h1, h2, h3, h4⟩ := h.rest
  refine ⟨C, D', cs, zs', rfl, h1, h.fx, h.hs, h.hN, h.b0, h.b1, ?_, ?_, h.done, h2, h.hV, ?_, ?_⟩
  · exact h.keys.imp fun b hb => ⟨hb.1, hb.2.1, fun hc => hb.2.2.1 (h3 b hc).1, fun hd => hb.2.2.1 (h4 b hd), hb.2.2.2⟩
  · exact h.row.imp fun b hb => ⟨hb.1, hb.2.1, fun hc => hb.2.2 (h3 b hc).1, fun hd => hb.2.2 (h4 b hd)⟩
  · exact fun b hb => ⟨(h.hD b (h3 b hb).1).1, (h.hD b (h3 b hb).1).2, (h3 b hb).2⟩
  · exact fun b hb => h.hD b (h4 b hb)
theorem SC.go (h : SC U V C D w N k n u s v4 v5 ks m L1 L2 ys cs zs W) (hU : ∀ b, U b → b < w.heap.size) (hb : Fx C W W') : SC U V C D w N k n u s v4 v5 ks m L1 L2 ys cs zs W' := by
  have hk : ∀ b, b < W.heap.size → ¬ C b → W'.heap[b]? = W.heap[b]? := fun b hl hc => hb.block b hl hc
  have n0 : ¬ C w.heap.size := fun hc => by have := hU _ (h.hC _ hc).1; omega
  have n1 : ¬ C (w.heap.size + 1) := fun hc => by have := hU _ (h.hC _ hc).1; omega
  refine ⟨h.fx.trans hb fun b hc _ => (h.hC b hc).1, Nat.le_trans h.hs hb.size, Nat.le_trans h.hN hb.size, (hk _ h.b0.lt n0).trans h.b0, (hk _ h.b1.lt n1).trans h.b1, ?_, ?_, ?_, ?_, h.hV, h.hC, h.hD⟩
  · exact h.keys.step fun b hu hl => ⟨hk b hl hu.2.2.1, hu⟩
  · exact h.row.step fun b hu hl => ⟨hk b hl hu.2.2.1, hu⟩
  · exact NdSL.step (fun b hv hl => hk b hl fun hc => (h.hC b hc).2.1 hv) _ _ h.done
  · exact NdSL.step (fun b hd hl => hk b hl fun hc => (h.hC b hc).2.2 hd) _ _ h.rest
theorem SC.put {K : Nat → Prop} {cb g e j : Nat} {t' : T} {b0 b1 b2 b3 b4 b5 a0 a1 a2 a3 a4 a5 : Value} (h : SC U V C D w N k n u s v4 (.slice (some ⟨g, 0, none⟩) m e) ks m L1 L2 ys [b0, b1, b2, b3, b4, b5] zs W)
    (hU : ∀ b, U b → b < w.heap.size) (hy : ys.length = j * 6) (hn : NdS K W t' [a0, a1, a2, a3, a4, a5]) (hK : ∀ b, K b → C b ∨ (cb + 1 ≤ b ∧ b < W.heap.size)) (hN : N ≤ cb) (hw : w.heap.size + 2 ≤ cb) :
    SM U (fun b => V b ∨ K b) D w W.heap.size k n u s v4 (.slice (some ⟨g, 0, none⟩) m e) ks m (L1 ++ [t']) L2 (ys ++ [a0, a1, a2, a3, a4, a5]) zs (put6 W g (j * 6) a0 a1 a2 a3 a4 a5) := by
  have hg := h.row.2 g rfl
  have hgu := hU g hg.1
  have hne : ∀ b, b ≠ g → (put6 W g (j * 6) a0 a1 a2 a3 a4 a5).heap[b]? = W.heap[b]? := fun b hb => put6_other _ _ _ _ _ _ _ _ _ _ hb
  have hKV : ∀ b, K b → ¬ V b := by
    intro b hb hv
    rcases hK b hb with hc | hc
    · exact (h.hC b hc).2.1 hv
    · rcases h.hV b hv with hv | hv
      · have := hU b hv; omega
      · omega
  have hKg : ∀ b, K b → b ≠ g := by
    rintro b hb rfl
    rcases hK b hb with hc | hc
    · exact hg.2.2.1 hc
    · omega
  have hKn : ∀ b, U b → ¬ C b → ¬ K b := by
    intro b hb hc hk
    rcases hK b hk with hk | hk
    · exact hc hk
    · have := hU b hb; omega
  refine ⟨h.fx.put6 _ _ _ _ _ _ _ _ fun _ => hg.1, by rw [put6_size]; exact h.hs, by rw [put6_size]; exact Nat.le_refl _, put6_blk h.b0 (by omega) _ _ _ _ _ _, put6_blk h.b1 (by omega) _ _ _ _ _ _, ?_, ?_, ?_, ?_, ?_, ?_⟩
  · exact h.keys.step fun b hb _ => ⟨hne b fun e => hb.2.2.2.2 (by rw [e]; rfl), hb.1, fun hv => hv.elim hb.2.1 (hKn b hb.1 hb.2.2.1), hb.2.2.2.1, hb.2.2.2.2⟩
  · have := put6_ow h.row hy a0 a1 a2 a3 a4 a5
    exact this.imp fun b hb => ⟨hb.1, fun hv => hv.elim hb.2.1 (hKn b hb.1 hb.2.2.1), hb.2.2.2⟩
  · exact NdSL.app (NdS.step (fun b hb _ => hne b (hKg b hb)) _ _ hn) (NdSL.step (fun b hb _ => hne b fun e => hg.2.1 (by rw [← e]; exact hb)) _ _ h.done) hKV
  · exact NdSL.step (fun b hb _ => hne b fun e => hg.2.2.2 (by rw [← e]; exact hb)) _ _ h.rest
  · rintro b (hb | hb)
    · rcases h.hV b hb with hv | hv
      · exact .inl hv
      · exact .inr ⟨hv.1, Nat.lt_of_lt_of_le hv.2 h.hN⟩
    · rcases hK b hb with hc | hc
      · exact .inl (h.hC b hc).1
      · exact .inr ⟨by omega, hc.2⟩
  · intro b hb
    refine ⟨(h.hD b hb).1, fun hv => hv.elim (h.hD b hb).2 fun hk => ?_⟩
    rcases hK b hk with hc | hc
    · exact (h.hC b hc).2.2 hb
    · have := hU b (h.hD b hb).1; omega
end
end Go.Proofs.YtjbmghfgbdnjjaaDoor
