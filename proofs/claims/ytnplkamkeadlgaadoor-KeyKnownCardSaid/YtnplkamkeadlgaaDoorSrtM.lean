/-
  What is proved here: what a sorted tree is, as a relation; what holds between two rounds of key.sortMaps; no condition but those that each fact states; and: contract of key.sortMaps: it sorts the maps of a tree whose rows lie apart; conditions: at most 100000 nodes, strings and lists of at most 1000; in every map as many keys as children, none twice.
-/
import Derived.Test.YtnplkamkeadlgaaDoorEnt
import Derived.Deep.RegionHeld3
namespace Go.Proofs.YtnplkamkeadlgaaDoor
open Go.RowKit

def TZ : T := .mk 0 0 0 ⟨#[]⟩ [] []
mutual
/-- Every map has as many keys as children, and no key twice. -/
def mpT : T → Prop
  | .mk k _ _ _ ks l => (k = 17 → ks.length = l.length ∧ ks.Nodup) ∧ mpL l
def mpL : List T → Prop
  | [] => True
  | t :: ts => mpT t ∧ mpL ts
end
mutual
/-- The second tree is the first one with its maps sorted. -/
def Srt : T → T → Prop
  | .mk k n u s ks l, t' => ∃ l', SrtL l l' ∧ ((k ≠ 17 ∧ t' = .mk k n u s ks l') ∨ (k = 17 ∧ ∃ q, SQ ks q ks.length ∧ t' = .mk k n u s (q.map (ky ks)) (q.map fun i => l'.getD i (.mk 0 0 0 ⟨#[]⟩ [] []))))
def SrtL : List T → List T → Prop
  | [], l' => l' = []
  | t :: ts, l' => ∃ t' ts', l' = t' :: ts' ∧ Srt t t' ∧ SrtL ts ts'
end
theorem SrtL.length : ∀ {l l' : List T}, SrtL l l' → l'.length = l.length
  | [], _, h => by obtain rfl : _ = [] := h; rfl
  | t :: ts, _, h => by
    obtain ⟨t', ts', rfl, _, h2⟩ := h
    simp [SrtL.length h2]
theorem SrtL.app {t t' : T} (ht : Srt t t') : ∀ {l l' : List T}, SrtL l l' → SrtL (l ++ [t]) (l' ++ [t'])
  | [], _, h => by obtain rfl : _ = [] := h; exact ⟨t', [], rfl, ht, rfl⟩
  | t0 :: ts, _, h => by
    obtain ⟨t1, ts', rfl, h1, h2⟩ := h
    exact ⟨t1, ts' ++ [t'], rfl, h1, SrtL.app ht h2⟩
mutual
theorem Srt.unique : ∀ {t a b : T}, Srt t a → Srt t b → a = b
  | .mk k n u s ks l, a, b, h, h' => by
    obtain ⟨l1, h1, h2⟩ := h
    obtain ⟨l2, h3, h4⟩ := h'
    obtain rfl := SrtL.unique h1 h3
    rcases h2 with ⟨hk, rfl⟩ | ⟨hk, q, hq, rfl⟩
    · rcases h4 with ⟨_, rfl⟩ | ⟨hk', _⟩
      · rfl
      · exact absurd hk' hk
    · rcases h4 with ⟨hk', _⟩ | ⟨_, q', hq', rfl⟩
      · exact absurd hk hk'
      · rw [hq.unique hq']
theorem SrtL.unique : ∀ {l a b : List T}, SrtL l a → SrtL l b → a = b
  | [], _, _, h, h' => by
    obtain rfl : _ = [] := h
    obtain rfl : _ = [] := h'
    rfl
  | t :: ts, _, _, h, h' => by
    obtain ⟨t1, ts1, rfl, h1, h2⟩ := h
    obtain ⟨t2, ts2, rfl, h3, h4⟩ := h'
    rw [Srt.unique h1 h3, SrtL.unique h2 h4]
end
theorem mpL_at : ∀ {l : List T} {j : Nat} {t : T}, mpL l → l[j]? = some t → mpT t
  | [], j, t, _, h => by simp at h
  | t0 :: ts, 0, t, h, ht => by
    obtain rfl : t0 = t := by simpa using ht
    exact h.1
  | t0 :: ts, j + 1, t, h, ht => mpL_at h.2 (by simpa using ht)

/-- Only blocks of which U holds have changed, beside new ones. -/
structure Fx (U : Nat → Prop) (w w' : World) : Prop where
  os : w'.os = w.os
  tape : w'.tape = w.tape
  output : w'.output = w.output
  size : w.heap.size ≤ w'.heap.size
  block : ∀ k, k < w.heap.size → ¬ U k → w'.heap[k]? = w.heap[k]?
theorem Fx.of_below {U : Nat → Prop} {w w' : World} (h : Below w.heap.size w w') : Fx U w w' := ⟨h.os, h.tape, h.output, h.size, fun k hk _ => h.block k hk⟩
theorem Fx.trans {U U' : Nat → Prop} {a b c : World} (h : Fx U a b) (k : Fx U' b c) (hU : ∀ n, U' n → n < a.heap.size → U n) : Fx U a c :=
  ⟨k.os.trans h.os, k.tape.trans h.tape, k.output.trans h.output, Nat.le_trans h.size k.size, fun n hn hu => (k.block n (Nat.lt_of_lt_of_le hn h.size) fun h' => hu (hU n h' hn)).trans (h.block n hn hu)⟩
theorem Fx.set {U : Nat → Prop} {a b : World} (h : Fx U a b) (g o : Nat) (v : Value) (hg : g < a.heap.size → U g) : Fx U a (b.setCell ⟨g, o, none⟩ v) :=
  ⟨h.os, h.tape, h.output, by rw [size_set]; exact h.size, fun n hn hu => (heap_set_other _ _ _ _ _ (fun e => hu (by rw [e]; exact hg (by omega)))).trans (h.block n hn hu)⟩
theorem Fx.put6 {U : Nat → Prop} {a b : World} (h : Fx U a b) (g o : Nat) (a0 a1 a2 a3 a4 a5 : Value) (hg : g < a.heap.size → U g) : Fx U a (Go.Proofs.YtnplkamkeadlgaaDoor.put6 b g o a0 a1 a2 a3 a4 a5) := by
  unfold Go.Proofs.YtnplkamkeadlgaaDoor.put6
  exact (((((h.set g o a0 hg).set g (o + 1) a1 hg).set g (o + 2) a2 hg).set g (o + 3) a3 hg).set g (o + 4) a4 hg).set g (o + 5) a5 hg

/-- Between two rounds: the boxes, the keys, the row of the children of which the first are sorted (L1), the others not yet (L2). -/
structure SM (U V D : Nat → Prop) (w : World) (N : Nat) (k n u : Int) (s : ByteArray) (v4 v5 : Value) (ks : List ByteArray) (m : Nat) (L1 L2 : List T) (ys zs : List Value) (W : World) : Prop where
  fx : Fx U w W
  hs : w.heap.size + 2 ≤ W.heap.size
  hN : N ≤ W.heap.size
  b0 : Bx W w.heap.size (.int .i64 k) (.int .i64 n) (.int .u64 u) (.string s) v4 v5
  b1 : Bx W (w.heap.size + 1) (.int .i64 0) (.int .i64 0) (.int .u64 0) (.string ⟨#[]⟩) (.slice none 0 0) (.slice none 0 0)
  keys : Ow (fun b => U b ∧ ¬ V b ∧ ¬ D b ∧ some b ≠ v5.ownBlock) W 9 1 v4 ks.length (ks.map Value.string)
  row : Ow (fun b => U b ∧ ¬ V b ∧ ¬ D b) W 31 6 v5 m (ys ++ zs)
  done : NdSL V W L1 ys
  rest : NdSL D W L2 zs
  hV : ∀ b, V b → U b ∨ (w.heap.size + 2 ≤ b ∧ b < N)
  hD : ∀ b, D b → U b ∧ ¬ V b
/-- Within a round: the child at hand lies in C, the rest in D. -/
structure SC (U V C D : Nat → Prop) (w : World) (N : Nat) (k n u : Int) (s : ByteArray) (v4 v5 : Value) (ks : List ByteArray) (m : Nat) (L1 L2 : List T) (ys cs zs : List Value) (W : World) : Prop where
  fx : Fx U w W
  hs : w.heap.size + 2 ≤ W.heap.size
  hN : N ≤ W.heap.size
  b0 : Bx W w.heap.size (.int .i64 k) (.int .i64 n) (.int .u64 u) (.string s) v4 v5
  b1 : Bx W (w.heap.size + 1) (.int .i64 0) (.int .i64 0) (.int .u64 0) (.string ⟨#[]⟩) (.slice none 0 0) (.slice none 0 0)
  keys : Ow (fun b => U b ∧ ¬ V b ∧ ¬ C b ∧ ¬ D b ∧ some b ≠ v5.ownBlock) W 9 1 v4 ks.length (ks.map Value.string)
  row : Ow (fun b => U b ∧ ¬ V b ∧ ¬ C b ∧ ¬ D b) W 31 6 v5 m (ys ++ (cs ++ zs))
  done : NdSL V W L1 ys
  rest : NdSL D W L2 zs
  hV : ∀ b, V b → U b ∨ (w.heap.size + 2 ≤ b ∧ b < N)
  hC : ∀ b, C b → U b ∧ ¬ V b ∧ ¬ D b
  hD : ∀ b, D b → U b ∧ ¬ V b
section
variable {U V C D : Nat → Prop} {w W W' : World} {N : Nat} {k n u : Int} {s : ByteArray} {v4 v5 : Value} {ks : List ByteArray} {m : Nat} {L1 L2 : List T} {ys cs zs : List Value}
theorem SM.split {t : T} (h : SM U V D w N k n u s v4 v5 ks m L1 (t :: L2) ys zs W) : ∃ C D' cs zs', zs = cs ++ zs' ∧ NdS C W t cs ∧ SC U V C D' w N k n u s v4 v5 ks m L1 L2 ys cs zs' W := by
  obtain ⟨cs, zs', C, D', rfl, h1, h2, h3, h4⟩ := h.rest
  refine ⟨C, D', cs, zs', rfl, h1, h.fx, h.hs, h.hN, h.b0, h.b1, ?_, ?_, h.done, h2, h.hV, ?_, ?_⟩
  · exact h.keys.imp fun b hb => ⟨hb.1, hb.2.1, fun hc => hb.2.2.1 (h3 b hc).1, fun hd => hb.2.2.1 (h4 b hd), hb.2.2.2⟩
  · exact h.row.imp fun b hb => ⟨hb.1, hb.2.1, fun hc => hb.2.2 (h3 b hc).1, fun hd => hb.2.2 (h4 b hd)⟩
  · exact fun b hb => ⟨(h.hD b (h3 b hb).1).1, (h.hD b (h3 b hb).1).2, (h3 b hb).2⟩
  · exact fun b hb => h.hD b (h4 b hb)
theorem SC.go (h : SC U V C D w N k n u s v4 v5 ks m L1 L2 ys cs zs W) (hU : ∀ b, U b → b < w.heap.size) (hb : Fx C W W') : SC U V C D w N k n u s v4 v5 ks m L1 L2 ys cs zs W' := by
  have hk : ∀ b, b < W.heap.size → ¬ C b → W'.heap[b]? = W.heap[b]? := fun b hl hc => hb.block b hl hc
  have n0 : ¬ C w.heap.size := fun hc => by have := hU _ (h.hC _ hc).1; omega
  have n1 : ¬ C (w.heap.size + 1) := fun hc => by have := hU _ (h.hC _ hc).1; omega
  refine ⟨h.fx.trans hb fun b hc _ => (h.hC b hc).1, Nat.le_trans h.hs hb.size, Nat.le_trans h.hN hb.size, (hk _ h.b0.lt n0).trans h.b0, (hk _ h.b1.lt n1).trans h.b1, ?_, ?_, ?_, ?_, h.hV, h.hC, h.hD⟩
  · exact h.keys.step fun b hu hl => ⟨hk b hl hu.2.2.1, hu⟩
  · exact h.row.step fun b hu hl => ⟨hk b hl hu.2.2.1, hu⟩
  · exact NdSL.step (fun b hv hl => hk b hl fun hc => (h.hC b hc).2.1 hv) _ _ h.done
  · exact NdSL.step (fun b hd hl => hk b hl fun hc => (h.hC b hc).2.2 hd) _ _ h.rest
theorem SC.put {K : Nat → Prop} {cb g e j : Nat} {t' : T} {b0 b1 b2 b3 b4 b5 a0 a1 a2 a3 a4 a5 : Value} (h : SC U V C D w N k n u s v4 (.slice (some ⟨g, 0, none⟩) m e) ks m L1 L2 ys [b0, b1, b2, b3, b4, b5] zs W)
    (hU : ∀ b, U b → b < w.heap.size) (hy : ys.length = j * 6) (hn : NdS K W t' [a0, a1, a2, a3, a4, a5]) (hK : ∀ b, K b → C b ∨ (cb + 1 ≤ b ∧ b < W.heap.size)) (hN : N ≤ cb) (hw : w.heap.size + 2 ≤ cb) :
    SM U (fun b => V b ∨ K b) D w W.heap.size k n u s v4 (.slice (some ⟨g, 0, none⟩) m e) ks m (L1 ++ [t']) L2 (ys ++ [a0, a1, a2, a3, a4, a5]) zs (put6 W g (j * 6) a0 a1 a2 a3 a4 a5) := by
  have hg := h.row.2 g rfl
  have hgu := hU g hg.1
  have hne : ∀ b, b ≠ g → (put6 W g (j * 6) a0 a1 a2 a3 a4 a5).heap[b]? = W.heap[b]? := fun b hb => put6_other _ _ _ _ _ _ _ _ _ _ hb
  have hKV : ∀ b, K b → ¬ V b := by
    intro b hb hv
    rcases hK b hb with hc | hc
    · exact (h.hC b hc).2.1 hv
    · rcases h.hV b hv with hv | hv
      · have := hU b hv; omega
      · omega
  have hKg : ∀ b, K b → b ≠ g := by
    rintro b hb rfl
    rcases hK b hb with hc | hc
    · exact hg.2.2.1 hc
    · omega
  have hKn : ∀ b, U b → ¬ C b → ¬ K b := by
    intro b hb hc hk
    rcases hK b hk with hk | hk
    · exact hc hk
    · have := hU b hb; omega
  refine ⟨h.fx.put6 _ _ _ _ _ _ _ _ fun _ => hg.1, by rw [put6_size]; exact h.hs, by rw [put6_size]; exact Nat.le_refl _, put6_blk h.b0 (by omega) _ _ _ _ _ _, put6_blk h.b1 (by omega) _ _ _ _ _ _, ?_, ?_, ?_, ?_, ?_, ?_⟩
  · exact h.keys.step fun b hb _ => ⟨hne b fun e => hb.2.2.2.2 (by rw [e]; rfl), hb.1, fun hv => hv.elim hb.2.1 (hKn b hb.1 hb.2.2.1), hb.2.2.2.1, hb.2.2.2.2⟩
  · have := put6_ow h.row hy a0 a1 a2 a3 a4 a5
    exact this.imp fun b hb => ⟨hb.1, fun hv => hv.elim hb.2.1 (hKn b hb.1 hb.2.2.1), hb.2.2.2⟩
  · exact NdSL.app (NdS.step (fun b hb _ => hne b (hKg b hb)) _ _ hn) (NdSL.step (fun b hb _ => hne b fun e => hg.2.1 (by rw [← e]; exact hb)) _ _ h.done) hKV
  · exact NdSL.step (fun b hb _ => hne b fun e => hg.2.2.2 (by rw [← e]; exact hb)) _ _ h.rest
  · rintro b (hb | hb)
    · rcases h.hV b hb with hv | hv
      · exact .inl hv
      · exact .inr ⟨hv.1, Nat.lt_of_lt_of_le hv.2 h.hN⟩
    · rcases hK b hb with hc | hc
      · exact .inl (h.hC b hc).1
      · exact .inr ⟨by omega, hc.2⟩
  · intro b hb
    refine ⟨(h.hD b hb).1, fun hv => hv.elim (h.hD b hb).2 fun hk => ?_⟩
    rcases hK b hk with hc | hc
    · exact (h.hC b hc).2.2 hb
    · have := hU b (h.hD b hb).1; omega
end
end Go.Proofs.YtnplkamkeadlgaaDoor
namespace Go.Proofs.YtnplkamkeadlgaaDoor
open Go.RowKit

def DE (w : World) (k n u : Int) (s : ByteArray) (v4 v5 : Value) (cb : Nat) (c0 c1 c2 c3 c4 c5 : Value) (W : World) : Prop :=
  Bx W w.heap.size (.int .i64 k) (.int .i64 n) (.int .u64 u) (.string s) v4 v5 ∧ Bx W cb c0 c1 c2 c3 c4 c5 ∧ w.heap.size < cb
theorem DE.set6 {w W : World} {k n u : Int} {s : ByteArray} {v4 v5 : Value} {cb g : Nat} {c0 c1 c2 c3 c4 c5 : Value} (h : DE w k n u s v4 v5 cb c0 c1 c2 c3 c4 c5 W) (o : Nat) (hg : g < w.heap.size) (a0 a1 a2 a3 a4 a5 : Value) :
    DE w k n u s v4 v5 cb c0 c1 c2 c3 c4 c5 (put6 W g o a0 a1 a2 a3 a4 a5) := ⟨put6_blk h.1 (by omega) _ _ _ _ _ _, put6_blk h.2.1 (by have := h.2.2; omega) _ _ _ _ _ _, h.2.2⟩

def endW (w w7 : World) (n : Nat) (g1 g2 : Nat) (nn uu : Int) (s : ByteArray) : World :=
  put6 ((w7.setCell ⟨w.heap.size, 4, none⟩ (.slice (some ⟨g1, 0, none⟩) n n)).setCell ⟨w.heap.size, 5, none⟩ (.slice (some ⟨g2, 0, none⟩) n n)) (w.heap.size + 1) 0 (.int .i64 17) (.int .i64 nn) (.int .u64 uu) (.string s) (.slice (some ⟨g1, 0, none⟩) n n) (.slice (some ⟨g2, 0, none⟩) n n)
theorem endW_size (w w7 : World) (n g1 g2 : Nat) (nn uu : Int) (s : ByteArray) : (endW w w7 n g1 g2 nn uu s).heap.size = w7.heap.size := by unfold endW; rw [put6_size, size_set, size_set]
theorem endW_other (w w7 : World) (n g1 g2 : Nat) (nn uu : Int) (s : ByteArray) (b : Nat) (h0 : b ≠ w.heap.size) (h1 : b ≠ w.heap.size + 1) : (endW w w7 n g1 g2 nn uu s).heap[b]? = w7.heap[b]? := by
  unfold endW
  rw [put6_other _ _ _ _ _ _ _ _ _ _ h1, heap_set_other _ _ _ _ _ h0, heap_set_other _ _ _ _ _ h0]
theorem endW_fx {U : Nat → Prop} {w w7 : World} {n g1 g2 : Nat} {nn uu : Int} {s : ByteArray} (h : Fx U w w7) : Fx U w (endW w w7 n g1 g2 nn uu s) := by
  unfold endW
  exact ((h.set _ _ _ fun h => absurd h (by omega)).set _ _ _ fun h => absurd h (by omega)).put6 _ _ _ _ _ _ _ _ fun h => absurd h (by omega)
theorem sort_end {U V D : Nat → Prop} {w wr w7 : World} {N : Nat} {nn uu : Int} {s : ByteArray} {v4 v5 : Value} {ks : List ByteArray} {L L1 : List T} {ys : List Value} {g1 g2 : Nat} {q : List Nat} (hr : Rng 17 nn uu) (hs : s.size ≤ maxLen) (hks : ∀ x ∈ ks, x.size ≤ maxLen)
    (hM : SM U V D w N 17 nn uu s v4 v5 ks ks.length L1 [] ys [] wr) (hU : ∀ b, U b → b < w.heap.size) (hSL : SrtL L L1) (hl1 : L1.length = ks.length) (hsq : SQ ks q ks.length) (hg1 : wr.heap.size ≤ g1) (hg2 : wr.heap.size ≤ g2) (hg12 : g1 ≠ g2)
    (ho1 : Ow (fun b => b = g1) w7 9 1 (.slice (some ⟨g1, 0, none⟩) ks.length ks.length) ks.length (q.map (kyv ks))) (ho2 : Ow (fun b => b = g2) w7 31 6 (.slice (some ⟨g2, 0, none⟩) ks.length ks.length) ks.length (q.flatMap (chunk ys)))
    (hb7 : Below wr.heap.size wr w7) : ∃ t', Srt (.mk 17 nn uu s ks L) t' ∧ NdS (fun b => U b ∨ (w.heap.size ≤ b ∧ b < (endW w w7 ks.length g1 g2 nn uu s).heap.size)) (endW w w7 ks.length g1 g2 nn uu s) t' [.int .i64 17, .int .i64 nn, .int .u64 uu, .string s, .slice (some ⟨g1, 0, none⟩) ks.length ks.length, .slice (some ⟨g2, 0, none⟩) ks.length ks.length] ∧ Fx U w (endW w w7 ks.length g1 g2 nn uu s) := by
  obtain ⟨F, f1, f2, f3⟩ := hM.done.fam
  have hlt1 := ho1.lt rfl
  have hlt2 := ho2.lt rfl
  have hs2 := hM.hs
  have hql := hsq.length
  have hqm : ∀ i ∈ q, i < ks.length := fun i hi => List.mem_range.1 (hsq.perm.mem_iff.1 hi)
  have hqn : q.Nodup := hsq.perm.nodup_iff.2 List.nodup_range
  have hVB : ∀ b, V b → b ≠ w.heap.size ∧ b ≠ w.heap.size + 1 ∧ b < wr.heap.size ∧ (U b ∨ (w.heap.size ≤ b ∧ b < wr.heap.size)) := by
    intro b hb
    have h1 := hM.hN
    rcases hM.hV b hb with h | h
    · have := hU b h
      exact ⟨by omega, by omega, by omega, .inl h⟩
    · exact ⟨by omega, by omega, by omega, .inr ⟨by omega, by omega⟩⟩
  have hPs := endW_size w w7 ks.length g1 g2 nn uu s
  have hPo := endW_other w w7 ks.length g1 g2 nn uu s
  have hPf : Fx U w (endW w w7 ks.length g1 g2 nn uu s) := endW_fx (hM.fx.trans (Fx.of_below (U := fun _ => False) hb7) fun _ h => h.elim)
  generalize endW w w7 ks.length g1 g2 nn uu s = WF at hPs hPo hPf ⊢
  have e1 : (q.map (ky ks)).length = ks.length := by rw [List.length_map, hql]
  have e2 : (q.map (ky ks)).map Value.string = q.map (kyv ks) := by rw [List.map_map]; rfl
  have e3 : (q.map fun i => L1.getD i (.mk 0 0 0 ⟨#[]⟩ [] [])).length = ks.length := by rw [List.length_map, hql]
  refine ⟨.mk 17 nn uu s (q.map (ky ks)) (q.map fun i => L1.getD i (.mk 0 0 0 ⟨#[]⟩ [] [])), ⟨L1, hSL, .inr ⟨rfl, q, hsq, rfl⟩⟩, ⟨hr, hs, ?_, _, _, q.flatMap (chunk ys), fun b => ∃ i ∈ q, F i b, rfl, ?_, ?_, ?_, ?_⟩, hPf⟩
  · intro x hx
    obtain ⟨i, hi, rfl⟩ := List.mem_map.1 hx
    unfold ky
    rw [List.getD_eq_getElem?_getD, List.getElem?_eq_getElem (hqm i hi)]
    exact hks _ (List.getElem_mem _)
  · rw [e1, e2]
    refine ho1.step fun b hb hl => ⟨hPo b (by omega) (by omega), .inr ⟨by omega, by omega⟩, ?_, ?_⟩
    · rintro ⟨i, _, hF⟩
      have := (hVB b (f2 i b hF)).2.2.1
      omega
    · intro e
      have e' : b = g2 := by simpa [Value.ownBlock] using e
      omega
  · rw [e3]
    refine ho2.step fun b hb hl => ⟨hPo b (by omega) (by omega), .inr ⟨by omega, by omega⟩, ?_⟩
    rintro ⟨i, _, hF⟩
    have := (hVB b (f2 i b hF)).2.2.1
    omega
  · refine NdSL.step (fun b hb hl => ?_) _ _ (NdSL.pick f1 f2 f3 q hqn (by rw [hl1]; exact hqm))
    obtain ⟨i, _, hF⟩ := hb
    have hv := hVB b (f2 i b hF)
    exact (hPo b hv.1 hv.2.1).trans (hb7.block b hl)
  · rintro b ⟨i, _, hF⟩
    have hv := hVB b (f2 i b hF)
    rcases hv.2.2.2 with h | h
    · exact .inl h
    · exact .inr ⟨h.1, by have := hb7.size; omega⟩

set_option maxRecDepth 100000 in
set_option maxHeartbeats 4000000 in
theorem sortMaps_any (k : Nat) : ∀ (t : T) (cs : List Value) (w : World) (U : Nat → Prop), dp t ≤ k → sz t ≤ 100000 → sm 1000 1000 t → mpT t → NdS U w t cs → (∀ b, U b → b < w.heap.size) →
    Calls Tryd.prog 42 #[.agg cs.toArray] w fun e w' => ∃ cs' t', e = .returned (.agg cs'.toArray) ∧ Srt t t' ∧ NdS (fun b => U b ∨ (w.heap.size ≤ b ∧ b < w'.heap.size)) w' t' cs' ∧ Fx U w w' := by
  induction k with
  | zero => intro t cs w U h; exact absurd h (by have := dp_pos t; omega)
  | succ k ih =>
    rintro ⟨kk, nn, uu, s, ks, L⟩ cs w U hk hsz hsm hmp ⟨hr, hs, hks, v4, v5, xs, C0, rfl, hk4, hrow, hch, hC0⟩ hU
    simp only [dp] at hk
    simp only [sz] at hsz
    obtain ⟨B, d, rfl⟩ := hk4.shape
    obtain ⟨G, e, rfl⟩ := hrow.shape
    obtain ⟨m, hml⟩ : ∃ m, L.length = m := ⟨_, rfl⟩
    have hmx : m ≤ 100000 := by have := len_le_szL L; omega
    have hT0 := Two.start w (.int .i64 kk) (.int .i64 nn) (.int .u64 uu) (.string s) (.slice B ks.length d) (.slice G L.length e) (.int .i64 0) (.int .i64 0) (.int .u64 0) (.string ⟨#[]⟩) (.slice none 0 0) (.slice none 0 0)
    have HS0 : Hid (∃ V D N L1 ys zs, SrtL (L.take 0) L1 ∧ SM U V D w N kk nn uu s (.slice B ks.length d) (.slice G L.length e) ks L.length L1 (L.drop 0) ys zs ((w.alloc (.cells #[.int .i64 kk, .int .i64 nn, .int .u64 uu, .string s, .slice B ks.length d, .slice G L.length e] 31)).alloc (.cells #[.int .i64 0, .int .i64 0, .int .u64 0, .string ⟨#[]⟩, .slice none 0 0, .slice none 0 0] 31))) := by
      refine Lib.hid ⟨fun _ => False, C0, 0, [], [], xs, rfl, Fx.of_below hT0.1, hT0.2.1, Nat.zero_le _, hT0.2.2.1, hT0.2.2.2, ?_, ?_, rfl, ?_, fun b h => h.elim, fun b hb => ⟨hC0 b hb, fun h => h⟩⟩
      · exact hk4.step fun b hb hl => ⟨hT0.1.block b hl, hb.1, fun h => h, hb.2⟩
      · exact hrow.step fun b hb hl => ⟨hT0.1.block b hl, hb.1, fun h => h, hb.2⟩
      · exact NdSL.step (fun b _ hl => hT0.1.block b hl) _ _ hch
    obtain ⟨W0, hW0⟩ : ∃ W0, ((w.alloc (.cells #[.int .i64 kk, .int .i64 nn, .int .u64 uu, .string s, .slice B ks.length d, .slice G L.length e] 31)).alloc (.cells #[.int .i64 0, .int .i64 0, .int .u64 0, .string ⟨#[]⟩, .slice none 0 0, .slice none 0 0] 31)) = W0 := ⟨_, rfl⟩
    rw [hml] at hT0 HS0 hW0
    have HML := Lib.hid hml
    rw [hml]
    clear hml hT0 hk4 hrow hch hC0
    rw [hW0] at HS0
    obtain ⟨V0, D0, N0, L10, ys0, zs0, _, hSM0⟩ := HS0.out
    obtain ⟨c0, c1, c2, c3, c4, c5⟩ := hSM0.b0.all
    clear hSM0
    go_enter Tryd.func42, Tryd.ntmps42
    go_wp2_with fail
    clear c0 c1 c2 c3 c4 c5 hW0
    go_loopw [8] (fun i wr => ∃ j : Nat, j ≤ m ∧ i = .int .i64 (j : Int) ∧ Hid (∃ V D N L1 ys zs, SrtL (L.take j) L1 ∧ SM U V D w N kk nn uu s (.slice B ks.length d) (.slice G m e) ks m L1 (L.drop j) ys zs wr)) (fun i _ => m - (intOf i).toNat)
    case atStart => exact ⟨0, Nat.zero_le _, rfl, HS0⟩
    case round =>
      obtain ⟨j, hj, rfl, HW⟩ := hrel
      clear HS0
      by_cases hjm : j < m
      · obtain ⟨V, D, N, L1, ys, zs', hSL, hSM⟩ := HW.out
        obtain ⟨t0, ht0⟩ : ∃ t0, L[j]? = some t0 := ⟨_, List.getElem?_eq_getElem (by rw [HML.out]; exact hjm)⟩
        have hdr : L.drop j = t0 :: L.drop (j + 1) := by
          obtain ⟨h1, h2⟩ := List.getElem?_eq_some_iff.1 ht0
          rw [List.drop_eq_getElem_cons h1, h2]
        rw [hdr] at hSM
        obtain ⟨C, D', cs0, zs, rfl, hn0, hSC⟩ := hSM.split
        obtain ⟨k0, i0, n0, s0, A1, m1, c1, A2, m2, c2, rfl⟩ := (NdS.ndo _ _ hn0).shape6
        have hl1 : L1.length = j := by rw [hSL.length, List.length_take, HML.out, Nat.min_eq_left hj]
        have hyl : ys.length = j * 6 := by rw [hSC.done.len, hl1]
        obtain ⟨_, _, e1, _, _, hcell⟩ := hSC.row.cells
        cases e1
        obtain ⟨g, rfl, hg, hUg, hcell⟩ := hcell (by omega)
        have hcl : ∀ i, i < 6 → wr.cell? ⟨g, j * 6 + i, none⟩ = ([.int .i64 k0, .int .i64 i0, .int .u64 n0, .string s0, .slice A1 m1 c1, .slice A2 m2 c2] : List Value)[i]? := by
          intro i hi
          rw [hcell _ (by omega), List.getElem?_append_right (by omega), hyl, Nat.add_sub_cancel_left, List.getElem?_append_left (by simpa using hi)]
        have p0 := hcl 0 (by omega)
        have p1 := hcl 1 (by omega)
        have p2 := hcl 2 (by omega)
        have p3 := hcl 3 (by omega)
        have p4 := hcl 4 (by omega)
        have p5 := hcl 5 (by omega)
        simp only [Nat.add_zero, List.getElem?_cons_zero, List.getElem?_cons_succ] at p0 p1 p2 p3 p4 p5
        clear hcl hcell
        have hle := sz_le_of ht0
        have hdl := dp_le_of ht0
        have hmp0 := mpL_at hmp.2 ht0
        have hsm0 := smL_at hsm.2.2.2 ht0
        obtain ⟨cb, hcb⟩ : ∃ cb, wr.heap.size = cb := ⟨_, rfl⟩
        have hsz0 : w.heap.size + 2 ≤ cb := by rw [← hcb]; exact hSC.hs
        have hNc : N ≤ cb := by rw [← hcb]; exact hSC.hN
        have hgw : g < w.heap.size := hU g hUg.1
        have HSC : Hid (SC U V C D' w N kk nn uu s (.slice B ks.length d) (.slice (some ⟨g, 0, none⟩) m e) ks m L1 (L.drop (j + 1)) ys [.int .i64 k0, .int .i64 i0, .int .u64 n0, .string s0, .slice A1 m1 c1, .slice A2 m2 c2] zs wr) := Lib.hid hSC
        have HSL := Lib.hid hSL
        have HN0 := Lib.hid hn0
        have HUU := Lib.hid hU
        have HUG := Lib.hid hUg
        clear hSC hSL hn0 hSM HW hU hUg
        go_wp2_with fail
        obtain ⟨wc, hwc⟩ : ∃ wc, wr.alloc (.cells #[.int .i64 k0, .int .i64 i0, .int .u64 n0, .string s0, .slice A1 m1 c1, .slice A2 m2 c2] 31) = wc := ⟨_, rfl⟩
        have hbc : Below wr.heap.size wr wc := by rw [← hwc]; exact (Below.refl _ _).alloc (Nat.le_refl _) _
        have hnew : Bx wc cb (.int .i64 k0) (.int .i64 i0) (.int .u64 n0) (.string s0) (.slice A1 m1 c1) (.slice A2 m2 c2) := by
          have := Blk.new wr 31 #[.int .i64 k0, .int .i64 i0, .int .u64 n0, .string s0, .slice A1 m1 c1, .slice A2 m2 c2]
          rw [hcb, hwc] at this
          exact this
        have HDc : Hid (DE w kk nn uu s (.slice B ks.length d) (.slice (some ⟨g, 0, none⟩) m e) cb (.int .i64 k0) (.int .i64 i0) (.int .u64 n0) (.string s0) (.slice A1 m1 c1) (.slice A2 m2 c2) wc) := Lib.hid ⟨(HSC.out.go HUU.out (Fx.of_below hbc)).b0, hnew, by omega⟩
        have HE0 : Hid (SC U V C D' w N kk nn uu s (.slice B ks.length d) (.slice (some ⟨g, 0, none⟩) m e) ks m L1 (L.drop (j + 1)) ys [.int .i64 k0, .int .i64 i0, .int .u64 n0, .string s0, .slice A1 m1 c1, .slice A2 m2 c2] zs wc.drew ∧ DE w kk nn uu s (.slice B ks.length d) (.slice (some ⟨g, 0, none⟩) m e) cb (.int .i64 k0) (.int .i64 i0) (.int .u64 n0) (.string s0) (.slice A1 m1 c1) (.slice A2 m2 c2) wc.drew ∧ NdS C wc.drew t0 [.int .i64 k0, .int .i64 i0, .int .u64 n0, .string s0, .slice A1 m1 c1, .slice A2 m2 c2] ∧ wc.drew.heap.size = cb + 1) := by
          have hbd : Below wr.heap.size wr wc.drew := hbc.trans ((Below.refl _ wc).drew.mono hbc.size)
          refine Lib.hid ⟨HSC.out.go HUU.out (Fx.of_below hbd), ⟨HDc.out.1, HDc.out.2.1, HDc.out.2.2⟩, NdS.step (fun b _ hl => hbd.block b hl) _ _ HN0.out, ?_⟩
          show wc.heap.size = cb + 1
          rw [← hwc, ← hcb]; simp
        rw [hwc]
        have hall : ∀ W, Hid (DE w kk nn uu s (.slice B ks.length d) (.slice (some ⟨g, 0, none⟩) m e) cb (.int .i64 k0) (.int .i64 i0) (.int .u64 n0) (.string s0) (.slice A1 m1 c1) (.slice A2 m2 c2) W) → Hid (DE w kk nn uu s (.slice B ks.length d) (.slice (some ⟨g, 0, none⟩) m e) cb (.int .i64 k0) (.int .i64 i0) (.int .u64 n0) (.string s0) (.slice A1 m1 c1) (.slice A2 m2 c2) W) ∧ W.cell? ⟨w.heap.size, 5, none⟩ = some (.slice (some ⟨g, 0, none⟩) m e) ∧ W.cell? ⟨cb, 0, none⟩ = some (.int .i64 k0) ∧ W.cell? ⟨cb, 1, none⟩ = some (.int .i64 i0) ∧ W.cell? ⟨cb, 2, none⟩ = some (.int .u64 n0) ∧ W.cell? ⟨cb, 3, none⟩ = some (.string s0) ∧ W.cell? ⟨cb, 4, none⟩ = some (.slice A1 m1 c1) ∧ W.cell? ⟨cb, 5, none⟩ = some (.slice A2 m2 c2) := by
          intro W H
          exact ⟨H, (H.out.1.all).2.2.2.2.2, H.out.2.1.all⟩
        have hset6 : ∀ (W : World) (a0 a1 a2 a3 a4 a5 : Value), Hid (DE w kk nn uu s (.slice B ks.length d) (.slice (some ⟨g, 0, none⟩) m e) cb (.int .i64 k0) (.int .i64 i0) (.int .u64 n0) (.string s0) (.slice A1 m1 c1) (.slice A2 m2 c2) W) → Hid (DE w kk nn uu s (.slice B ks.length d) (.slice (some ⟨g, 0, none⟩) m e) cb (.int .i64 k0) (.int .i64 i0) (.int .u64 n0) (.string s0) (.slice A1 m1 c1) (.slice A2 m2 c2) ((((((W.setCell ⟨g, j * 6, none⟩ a0).setCell ⟨g, j * 6 + 1, none⟩ a1).setCell ⟨g, j * 6 + 2, none⟩ a2).setCell ⟨g, j * 6 + 3, none⟩ a3).setCell ⟨g, j * 6 + 4, none⟩ a4).setCell ⟨g, j * 6 + 5, none⟩ a5)) := fun W a0 a1 a2 a3 a4 a5 H => Lib.hid (H.out.set6 (j * 6) hgw a0 a1 a2 a3 a4 a5)
        have HCP : Hid (∀ W, Hid (SC U V C D' w N kk nn uu s (.slice B ks.length d) (.slice (some ⟨g, 0, none⟩) m e) ks m L1 (L.drop (j + 1)) ys [.int .i64 k0, .int .i64 i0, .int .u64 n0, .string s0, .slice A1 m1 c1, .slice A2 m2 c2] zs W ∧ DE w kk nn uu s (.slice B ks.length d) (.slice (some ⟨g, 0, none⟩) m e) cb (.int .i64 k0) (.int .i64 i0) (.int .u64 n0) (.string s0) (.slice A1 m1 c1) (.slice A2 m2 c2) W ∧ NdS C W t0 [.int .i64 k0, .int .i64 i0, .int .u64 n0, .string s0, .slice A1 m1 c1, .slice A2 m2 c2] ∧ W.heap.size = cb + 1) → Calls Tryd.prog 42 #[.agg #[.int .i64 k0, .int .i64 i0, .int .u64 n0, .string s0, .slice A1 m1 c1, .slice A2 m2 c2]] W fun e' w' =>
            ∃ (k' n' u' : Int) (s' : ByteArray) (A1' : Option Addr) (m1' c1' : Nat) (A2' : Option Addr) (m2' c2' : Nat), e' = .returned (.agg #[.int .i64 k', .int .i64 n', .int .u64 u', .string s', .slice A1' m1' c1', .slice A2' m2' c2']) ∧
              Hid (∃ K t0', Srt t0 t0' ∧ NdS K w' t0' [.int .i64 k', .int .i64 n', .int .u64 u', .string s', .slice A1' m1' c1', .slice A2' m2' c2'] ∧ ∀ b, K b → C b ∨ (cb + 1 ≤ b ∧ b < w'.heap.size)) ∧ Hid (SC U V C D' w N kk nn uu s (.slice B ks.length d) (.slice (some ⟨g, 0, none⟩) m e) ks m L1 (L.drop (j + 1)) ys [.int .i64 k0, .int .i64 i0, .int .u64 n0, .string s0, .slice A1 m1 c1, .slice A2 m2 c2] zs w') ∧ Hid (DE w kk nn uu s (.slice B ks.length d) (.slice (some ⟨g, 0, none⟩) m e) cb (.int .i64 k0) (.int .i64 i0) (.int .u64 n0) (.string s0) (.slice A1 m1 c1) (.slice A2 m2 c2) w')) := Lib.hid fun W H => by
          obtain ⟨h1, h2, h3, h4⟩ := H.out
          refine (ih t0 _ W C (by omega) (by omega) hsm0 hmp0 h3 (fun b hb => ?_)).mono ?_
          · have := HUU.out b (h1.hC b hb).1
            omega
          · rintro e' w' ⟨cs', t', rfl, hst, hnd, hfx⟩
            obtain ⟨k', n', u', s', A1', m1', c1', A2', m2', c2', rfl⟩ := (NdS.ndo _ _ hnd).shape6
            refine ⟨k', n', u', s', A1', m1', c1', A2', m2', c2', rfl, Lib.hid ⟨_, t', hst, hnd, fun b hb => ?_⟩, Lib.hid (h1.go HUU.out hfx), Lib.hid ⟨?_, ?_, h2.2.2⟩⟩
            · rcases hb with hb | hb
              · exact .inl hb
              · exact .inr ⟨by omega, hb.2⟩
            · exact (hfx.block _ h2.1.lt fun hc => by have := HUU.out _ (h1.hC _ hc).1; omega).trans h2.1
            · exact (hfx.block _ h2.2.1.lt fun hc => by have := HUU.out _ (h1.hC _ hc).1; omega).trans h2.2.1
        have HFZ : Hid (∀ W, Hid (SC U V C D' w N kk nn uu s (.slice B ks.length d) (.slice (some ⟨g, 0, none⟩) m e) ks m L1 (L.drop (j + 1)) ys [.int .i64 k0, .int .i64 i0, .int .u64 n0, .string s0, .slice A1 m1 c1, .slice A2 m2 c2] zs W) → (W.frozen? ⟨g, j * 6, none⟩ = false ∧ W.frozen? ⟨g, j * 6 + 1, none⟩ = false ∧ W.frozen? ⟨g, j * 6 + 2, none⟩ = false ∧ W.frozen? ⟨g, j * 6 + 3, none⟩ = false ∧ W.frozen? ⟨g, j * 6 + 4, none⟩ = false ∧ W.frozen? ⟨g, j * 6 + 5, none⟩ = false) ∧ W.cell? ⟨g, j * 6, none⟩ = some (.int .i64 k0) ∧ W.cell? ⟨g, j * 6 + 1, none⟩ = some (.int .i64 i0) ∧ W.cell? ⟨g, j * 6 + 2, none⟩ = some (.int .u64 n0) ∧ W.cell? ⟨g, j * 6 + 3, none⟩ = some (.string s0) ∧ W.cell? ⟨g, j * 6 + 4, none⟩ = some (.slice A1 m1 c1) ∧ W.cell? ⟨g, j * 6 + 5, none⟩ = some (.slice A2 m2 c2)) := Lib.hid fun W H => by
          have hO := H.out.row
          have hcl : ∀ i, i < 6 → W.cell? ⟨g, j * 6 + i, none⟩ = ([.int .i64 k0, .int .i64 i0, .int .u64 n0, .string s0, .slice A1 m1 c1, .slice A2 m2 c2] : List Value)[i]? := by
            intro i hi
            rw [hO.1.cellAt _ (by omega), List.getElem?_append_right (by omega), hyl, Nat.add_sub_cancel_left, List.getElem?_append_left (by simpa using hi)]
          exact ⟨⟨hO.1.frozenAt _, hO.1.frozenAt _, hO.1.frozenAt _, hO.1.frozenAt _, hO.1.frozenAt _, hO.1.frozenAt _⟩, hcl 0 (by omega), hcl 1 (by omega), hcl 2 (by omega), hcl 3 (by omega), hcl 4 (by omega), hcl 5 (by omega)⟩
        have HPUT : Hid (∀ (W : World) (a0 a1 a2 a3 a4 a5 : Value), Hid (SC U V C D' w N kk nn uu s (.slice B ks.length d) (.slice (some ⟨g, 0, none⟩) m e) ks m L1 (L.drop (j + 1)) ys [.int .i64 k0, .int .i64 i0, .int .u64 n0, .string s0, .slice A1 m1 c1, .slice A2 m2 c2] zs W) → Hid (∃ K t0', Srt t0 t0' ∧ NdS K W t0' [a0, a1, a2, a3, a4, a5] ∧ ∀ b, K b → C b ∨ (cb + 1 ≤ b ∧ b < W.heap.size)) →
            Hid (∃ V D N L1 ys zs, SrtL (L.take (j + 1)) L1 ∧ SM U V D w N kk nn uu s (.slice B ks.length d) (.slice (some ⟨g, 0, none⟩) m e) ks m L1 (L.drop (j + 1)) ys zs ((((((W.setCell ⟨g, j * 6, none⟩ a0).setCell ⟨g, j * 6 + 1, none⟩ a1).setCell ⟨g, j * 6 + 2, none⟩ a2).setCell ⟨g, j * 6 + 3, none⟩ a3).setCell ⟨g, j * 6 + 4, none⟩ a4).setCell ⟨g, j * 6 + 5, none⟩ a5))) := Lib.hid fun W a0 a1 a2 a3 a4 a5 H1 H2 => by
          obtain ⟨K, t0', q1, q2, q3⟩ := H2.out
          refine Lib.hid ⟨_, _, _, L1 ++ [t0'], _, zs, ?_, H1.out.put HUU.out hyl q2 q3 hNc hsz0⟩
          rw [List.take_add_one, ht0]
          exact HSL.out.app q1
        have HDd := Lib.hid HE0.out.2.1
        obtain ⟨_, d5, e0, e1, e2, e3, e4, e5⟩ := hall wc HDc
        have hjb : (0 : Int) ≤ (j : Int) := by omega
        have hjb2 : (j : Int) < (m : Int) := by omega
        clear hbc hwc hyl HN0 HDc ht0 hle hdl hsm hks ih hr hs p0 p1 p2 p3 p4 p5 hg hl1 hdr hmp hmp0 hsm0 hnew HSC HSL
        go_region_held3 (fun W => Hid (DE w kk nn uu s (.slice B ks.length d) (.slice (some ⟨g, 0, none⟩) m e) cb (.int .i64 k0) (.int .i64 i0) (.int .u64 n0) (.string s0) (.slice A1 m1 c1) (.slice A2 m2 c2) W) ∧ W.cell? ⟨w.heap.size, 5, none⟩ = some (.slice (some ⟨g, 0, none⟩) m e) ∧ W.cell? ⟨cb, 0, none⟩ = some (.int .i64 k0) ∧ W.cell? ⟨cb, 1, none⟩ = some (.int .i64 i0) ∧ W.cell? ⟨cb, 2, none⟩ = some (.int .u64 n0) ∧ W.cell? ⟨cb, 3, none⟩ = some (.string s0) ∧ W.cell? ⟨cb, 4, none⟩ = some (.slice A1 m1 c1) ∧ W.cell? ⟨cb, 5, none⟩ = some (.slice A2 m2 c2)) (first | (with_reducible exact hall _ (by assumption)) | (with_reducible exact hall _ HDd) | (with_reducible exact hall _ (hset6 _ _ _ _ _ _ _ (by assumption))))
          (first | (go_at_call 42; (with_reducible refine (HCP.out _ (by assumption)).mono ?_); rintro e' w6 ⟨k', n', u', s', A1', m1', c1', A2', m2', c2', rfl, HN6, HC6, HD6⟩; obtain ⟨⟨z0, z1, z2, z3, z4, z5⟩, y0, y1, y2, y3, y4, y5⟩ := HFZ.out _ HC6))
        go_wp2_with fail
        go_roundw
        case rel => exact ⟨j + 1, by omega, by simp, HPUT.out _ _ _ _ _ _ _ HC6 HN6⟩
        case measure => simp [intOf]; omega
      · obtain ⟨V, D, N, L1, ys, zs, hSL, hSM⟩ := HW.out
        obtain rfl : j = m := by omega
        rw [List.drop_of_length_le (by rw [HML.out]; exact Nat.le_refl _)] at hSM
        rw [List.take_of_length_le (by rw [HML.out]; exact Nat.le_refl _)] at hSL
        obtain rfl : zs = [] := hSM.rest
        have hl1 : L1.length = j := by rw [hSL.length, HML.out]
        have hVB : ∀ b, V b → b ≠ w.heap.size ∧ b ≠ w.heap.size + 1 ∧ b < wr.heap.size ∧ (U b ∨ (w.heap.size ≤ b ∧ b < wr.heap.size)) := by
          intro b hb
          have h1 := hSM.hN
          have h2 := hSM.hs
          rcases hSM.hV b hb with h | h
          · have := hU b h
            exact ⟨by omega, by omega, by omega, .inl h⟩
          · exact ⟨by omega, by omega, by omega, .inr ⟨by omega, by omega⟩⟩
        have HM := Lib.hid hSM
        have HVB := Lib.hid hVB
        have HL1 := Lib.hid hl1
        have HSL := Lib.hid hSL
        have HUU := Lib.hid hU
        clear hSM hVB hl1 hSL hU HW
        by_cases h17 : kk = 17
        · subst h17
          obtain ⟨hkl, hnd⟩ := hmp.1 rfl
          obtain rfl : j = ks.length := by rw [← HML.out]; exact hkl.symm
          have hFam := HM.out.done.fam
          have HFam := Lib.hid hFam
          have HE := Lib.hid (entries_any ks ys ks.length (.slice B ks.length d) (.slice G ks.length e) wr HM.out.keys (by have := HM.out.row; rw [List.append_nil] at this; exact this) rfl (by rw [HM.out.done.len, HL1.out]) hsm.2.1 hks hnd (fun i hi => by
            obtain ⟨F, f1, _, _⟩ := HFam.out
            obtain ⟨x, ht⟩ : ∃ x, L1[i]? = some x := ⟨_, List.getElem?_eq_getElem (by rw [HL1.out]; exact hi)⟩
            exact (NdS.ndo _ _ (f1 i _ ht)).shape6))
          obtain ⟨c0, c1, c2, c3, c4, c5⟩ := HM.out.b0.all
          clear hFam hnd hkl
          go_wp2_with (go_at_call 57; refine HE.out.mono ?_; clear c0 c1 c2 c3 c4 c5; rintro e' w7 ⟨g1, g2, q, rfl, HQ⟩; have HB7 := Lib.hid HQ.out.2.2.2.2.2.2; have HX0 := Lib.hid ((HB7.out.block _ HM.out.b0.lt).trans HM.out.b0); have HX1 := Lib.hid ((HB7.out.block _ HM.out.b1.lt).trans HM.out.b1); obtain ⟨c0, c1, c2, c3, c4, c5⟩ := Bx.all HX0.out; obtain ⟨o0, o1, o2, o3, o4, o5⟩ := Bx.all HX1.out; have f4 := Blk.frozen HX0.out 4; have f5 := Blk.frozen HX0.out 5; have h0 := Blk.frozen HX1.out 0; have h1 := Blk.frozen HX1.out 1; have h2 := Blk.frozen HX1.out 2; have h3 := Blk.frozen HX1.out 3; have h4 := Blk.frozen HX1.out 4; have h5 := Blk.frozen HX1.out 5)
          have hne01 : w.heap.size + 1 ≠ w.heap.size := by omega
          refine ret_six (p := 2) (g := w.heap.size + 1) rfl rfl (Bx.put6 (Blk.setOther (Blk.setOther HX1.out _ hne01) _ hne01) _ _ _ _ _ _) rfl ?_
          have HQ2 := HQ.out
          obtain ⟨t', ht1, ht2, ht3⟩ := sort_end hr hs hks HM.out HUU.out HSL.out HL1.out HQ2.1 HQ2.2.1 HQ2.2.2.1 HQ2.2.2.2.1 HQ2.2.2.2.2.1 HQ2.2.2.2.2.2.1 HQ2.2.2.2.2.2.2
          exact ⟨_, t', rfl, ht1, ht2, ht3⟩
        · have hb : (kk == 17) = false := by simpa using h17
          obtain ⟨c0, c1, c2, c3, c4, c5⟩ := HM.out.b0.all
          obtain ⟨o0, o1, o2, o3, o4, o5⟩ := HM.out.b1.all
          have f0 := HM.out.b1.frozen 0
          have f1 := HM.out.b1.frozen 1
          have f2 := HM.out.b1.frozen 2
          have f3 := HM.out.b1.frozen 3
          have f4 := HM.out.b1.frozen 4
          have f5 := HM.out.b1.frozen 5
          go_wp2_with fail
          refine ret_six (p := 2) (g := w.heap.size + 1) rfl rfl (HM.out.b1.put6 _ _ _ _ _ _) rfl ?_
          have hPs : (put6 wr (w.heap.size + 1) 0 (.int .i64 kk) (.int .i64 nn) (.int .u64 uu) (.string s) (.slice B ks.length d) (.slice G j e)).heap.size = wr.heap.size := put6_size _ _ _ _ _ _ _ _ _
          have hPo : ∀ b, b ≠ w.heap.size + 1 → (put6 wr (w.heap.size + 1) 0 (.int .i64 kk) (.int .i64 nn) (.int .u64 uu) (.string s) (.slice B ks.length d) (.slice G j e)).heap[b]? = wr.heap[b]? := fun b hb => put6_other _ _ _ _ _ _ _ _ _ _ hb
          refine ⟨[.int .i64 kk, .int .i64 nn, .int .u64 uu, .string s, .slice B ks.length d, .slice G j e], .mk kk nn uu s ks L1, rfl, ⟨L1, HSL.out, .inl ⟨h17, rfl⟩⟩, ⟨hr, hs, hks, _, _, ys, V, rfl, ?_, ?_, ?_, ?_⟩, ?_⟩
          · exact HM.out.keys.step fun b hb _ => ⟨hPo b (by have := HUU.out b hb.1; omega), .inl hb.1, hb.2.1, hb.2.2.2⟩
          · have := HM.out.row
            rw [List.append_nil] at this
            rw [HL1.out]
            exact this.step fun b hb _ => ⟨hPo b (by have := HUU.out b hb.1; omega), .inl hb.1, hb.2.1⟩
          · exact NdSL.step (fun b hb _ => hPo b (HVB.out b hb).2.1) _ _ HM.out.done
          · intro b hb
            rcases (HVB.out b hb).2.2.2 with h | h
            · exact .inl h
            · exact .inr ⟨h.1, Nat.lt_of_lt_of_eq h.2 hPs.symm⟩
          · exact HM.out.fx.put6 _ _ _ _ _ _ _ _ fun h => absurd h (by omega)
end Go.Proofs.YtnplkamkeadlgaaDoor
