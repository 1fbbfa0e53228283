/-
  What is proved here: how a tree of nodes (a struct of a kind, two numbers, a string, keys and children, by value in slices of slices) lies in memory, and that an argument which reads as a value of such a type is such a tree; for any program that has such types; no condition but those that each fact states; and: plain facts of trees of nodes: size, depth, the node of a number, the first error in preorder; no program in this text; no condition but those that each fact states; and: blocks known whole, the six cells of a node in a row, sums over a row's first nodes; the reference's Size and Deep; no condition but those that each fact states.
-/
import Derived.Deep.Strs
import Derived.Below
import Derived.ProofKit
import Derived.OpenShut
import Derived.Lib.Hide
import Derived.Test.YtnplkamkeadlgaaDoorRows
import Derived.WalkKit
import Derived.WalkSpells
import Derived.WalkLawsBesides
import Derived.Deep.QuietTactic
import Derived.Deep.LoopGhost
import Derived.Laws.OwnMore
import Derived.Maps.AppendAt
import Derived.OwnWalk
namespace Go.Proofs.YtnplkamkeadlgaaDoor
open Go.ChangeShapes Go.WideShapes Go.RowKit Go.Deep

/-- A tree of nodes. -/
inductive T where
  | mk (k n u : Int) (s : ByteArray) (ks : List ByteArray) (l : List T)
def T.k : T → Int | .mk k _ _ _ _ _ => k
def T.n : T → Int | .mk _ n _ _ _ _ => n
def T.u : T → Int | .mk _ _ u _ _ _ => u
def T.s : T → ByteArray | .mk _ _ _ s _ _ => s
def T.ks : T → List ByteArray | .mk _ _ _ _ ks _ => ks
def T.l : T → List T | .mk _ _ _ _ _ l => l

/-- A value reads as a list of strings. -/
def RdS (w : World) (v : Value) (ks : List ByteArray) : Prop :=
  ∃ A n c, v = .slice A n c ∧ ks.length = n ∧ n ≤ c ∧ c ≤ maxLen ∧ (∀ s ∈ ks, s.size ≤ maxLen) ∧ (0 < n → ∃ b off, A = some ⟨b, off, none⟩ ∧ b < w.heap.size ∧ ∀ j s, ks[j]? = some s → w.cell? ⟨b, off + j, none⟩ = some (.string s))
def Rng (k n u : Int) : Prop := -9223372036854775808 ≤ k ∧ k ≤ 9223372036854775807 ∧ -9223372036854775808 ≤ n ∧ n ≤ 9223372036854775807 ∧ 0 ≤ u ∧ u ≤ 18446744073709551615
mutual
/-- Six cells read as a node. -/
def Nd (w : World) : T → List Value → Prop
  | .mk k n u s ks l, cs => Rng k n u ∧ s.size ≤ maxLen ∧ ∃ kv A m c, cs = [.int .i64 k, .int .i64 n, .int .u64 u, .string s, kv, .slice A m c] ∧ RdS w kv ks ∧ l.length = m ∧ m ≤ c ∧ c ≤ maxLen ∧
      (0 < m → ∃ b off, A = some ⟨b, off, none⟩ ∧ b < w.heap.size ∧ NdL w b l off)
/-- A row of nodes, six cells each. -/
def NdL (w : World) (b : Nat) : List T → Nat → Prop
  | [], _ => True
  | t :: ts, off => (∃ cs, (∀ i, i < 6 → w.cell? ⟨b, off + i, none⟩ = cs[i]?) ∧ Nd w t cs) ∧ NdL w b ts (off + 6)
end

theorem RdS.below {w w' : World} {v : Value} {ks : List ByteArray} (h : RdS w v ks) (hb : Below w.heap.size w w') : RdS w' v ks := by
  obtain ⟨A, n, c, rfl, h1, h2, h3, h4, h5⟩ := h
  refine ⟨A, n, c, rfl, h1, h2, h3, h4, fun hn => ?_⟩
  obtain ⟨b, off, rfl, hlt, hc⟩ := h5 hn
  exact ⟨b, off, rfl, Nat.lt_of_lt_of_le hlt hb.size, fun j x hx => (hb.cell (p := ⟨b, off + j, none⟩) hlt).trans (hc j x hx)⟩
mutual
theorem Nd.below {w w' : World} (hb : Below w.heap.size w w') : ∀ (t : T) (cs : List Value), Nd w t cs → Nd w' t cs
  | .mk k n u s ks l, cs, h => by
    obtain ⟨hr, hs, kv, A, m, c, rfl, hk, h1, h2, h3, h4⟩ := h
    refine ⟨hr, hs, kv, A, m, c, rfl, hk.below hb, h1, h2, h3, fun hm => ?_⟩
    obtain ⟨b, off, rfl, hlt, hL⟩ := h4 hm
    exact ⟨b, off, rfl, Nat.lt_of_lt_of_le hlt hb.size, NdL.below hb hlt l off hL⟩
theorem NdL.below {w w' : World} (hb : Below w.heap.size w w') {b : Nat} (hlt : b < w.heap.size) : ∀ (l : List T) (off : Nat), NdL w b l off → NdL w' b l off
  | [], _, _ => trivial
  | t :: ts, off, h => by
    obtain ⟨⟨cs, hc, hn⟩, hr⟩ := h
    exact ⟨⟨cs, fun i hi => (hb.cell (p := ⟨b, off + i, none⟩) hlt).trans (hc i hi), Nd.below hb t cs hn⟩, NdL.below hb hlt ts _ hr⟩
end
/-- One node of a row. -/
theorem NdL.at {w : World} {b : Nat} : ∀ (l : List T) (off : Nat), NdL w b l off → ∀ (j : Nat) (t : T), l[j]? = some t → ∃ cs, (∀ i, i < 6 → w.cell? ⟨b, off + 6 * j + i, none⟩ = cs[i]?) ∧ Nd w t cs
  | [], _, _, j, t, h => by simp at h
  | t0 :: ts, off, h, 0, t, hj => by
    obtain rfl : t0 = t := by simpa using hj
    exact h.1
  | t0 :: ts, off, h, j + 1, t, hj => by
    obtain ⟨cs, hc, hn⟩ := NdL.at ts (off + 6) h.2 j t (by simpa using hj)
    refine ⟨cs, fun i hi => ?_, hn⟩
    rw [← hc i hi]
    congr 2
    omega
theorem NdL.of {w : World} {b : Nat} : ∀ (l : List T) (off : Nat), (∀ (j : Nat) (t : T), l[j]? = some t → ∃ cs, (∀ i, i < 6 → w.cell? ⟨b, off + 6 * j + i, none⟩ = cs[i]?) ∧ Nd w t cs) → NdL w b l off
  | [], _, _ => trivial
  | t :: ts, off, h => by
    refine ⟨by simpa using h 0 t (by simp), NdL.of ts (off + 6) fun j t' hj => ?_⟩
    obtain ⟨cs, hc, hn⟩ := h (j + 1) t' (by simpa using hj)
    refine ⟨cs, fun i hi => ?_, hn⟩
    rw [← hc i hi]
    congr 2
    omega

/-- The types of a program's nodes. -/
structure NT (P : Program) (tn tl tk : TypeId) where
  f0 : Field
  f1 : Field
  f2 : Field
  f3 : Field
  f4 : Field
  f5 : Field
  ts : TypeId
  hs : P.underlying tn = some (.struct #[f0, f1, f2, f3, f4, f5])
  hC : P.cellsOf tn = 6
  u0 : P.underlying f0.type = some (.int .i64)
  u1 : P.underlying f1.type = some (.int .i64)
  u2 : P.underlying f2.type = some (.int .u64)
  u3 : P.underlying f3.type = some .string
  u4 : P.underlying tk = some (.slice ts)
  u4s : P.underlying ts = some .string
  c4s : P.cellsOf ts = 1
  u5 : P.underlying tl = some (.slice tn)
  t4 : f4.type = tk
  t5 : f5.type = tl
  o0 : f0.offset = 0 ∧ P.cellsOf f0.type = 1
  o1 : f1.offset = 1 ∧ P.cellsOf f1.type = 1
  o2 : f2.offset = 2 ∧ P.cellsOf f2.type = 1
  o3 : f3.offset = 3 ∧ P.cellsOf f3.type = 1
  o4 : f4.offset = 4 ∧ P.cellsOf f4.type = 1
  o5 : f5.offset = 5 ∧ P.cellsOf f5.type = 1

section
variable {H : Type} {enc : TypeId × Value → H} {P : Program} {w : World} {spare : Nat → Bool} {held : Bool} {tn tl tk : TypeId}
theorem open_keys (S : NT P tn tl tk) {fuel : Nat} {v : Value} {x : DataW H × List MemPlace} (h : DataW.trod enc P w 0 spare held fuel tk [v] = some x) : ∃ ks, RdS w v ks := by
  rcases open_strs S.u4 S.u4s S.c4s h with ⟨hc, _⟩ | ⟨a, len, cap, m, Sx, hc, _, hl, hm, hmm, _, hx⟩
  · obtain rfl : v = .slice none 0 0 := by simpa using hc
    exact ⟨[], none, 0, 0, rfl, rfl, Nat.le_refl _, by unfold maxLen; omega, by simp, fun h => absurd h (by omega)⟩
  · obtain rfl : v = .slice (some a) len cap := by simpa using hc
    have hlm : len ≤ m := by rw [hmm]; split <;> omega
    refine ⟨(List.range len).map Sx, some a, len, cap, rfl, by simp, hl, hm, ?_, fun hn => ?_⟩
    · intro s hs
      simp only [List.mem_map, List.mem_range] at hs
      obtain ⟨i, hi, rfl⟩ := hs
      exact (hx i (by omega)).2
    · obtain ⟨b, off, spot⟩ := a
      have h0 := (hx 0 (by omega)).1
      have hspot : spot = none := by simpa [Addr.add] using World.cell?_spot h0
      subst hspot
      refine ⟨b, off, rfl, ?_, fun j s hj => ?_⟩
      · have := World.block_lt_of_cell? w _ h0
        simpa [Addr.add] using this
      · simp only [List.getElem?_map, Option.map_eq_some_iff] at hj
        obtain ⟨i, hi, rfl⟩ := hj
        have hij : i = j ∧ j < len := by
          rw [List.getElem?_eq_some_iff] at hi
          obtain ⟨hlt, he⟩ := hi
          simp at hlt he
          exact ⟨he.symm, hlt⟩
        obtain ⟨rfl, hlt⟩ := hij
        have := (hx i (by omega)).1
        rw [show ((⟨b, off, none⟩ : Addr).add i) = ⟨b, off + i, none⟩ by unfold Addr.add; by_cases h : i = 0 <;> simp [h]] at this
        exact this
theorem wf_i64 {n : Int} (h : (Lit.int .i64 n).wf = true) : -9223372036854775808 ≤ n ∧ n ≤ 9223372036854775807 := by simpa [Lit.wf, IntKind.min, IntKind.max, IntKind.signed, IntKind.bits] using h
theorem wf_u64 {n : Int} (h : (Lit.int .u64 n).wf = true) : 0 ≤ n ∧ n ≤ 18446744073709551615 := by simpa [Lit.wf, IntKind.min, IntKind.max, IntKind.signed, IntKind.bits] using h
/-- Whatever reads as a node is a tree. -/
theorem open_node (S : NT P tn tl tk) : ∀ (fuel : Nat) (cs : List Value) (x : DataW H × List MemPlace), DataW.trod enc P w 0 spare held fuel tn cs = some x → ∃ t, Nd w t cs := by
  intro fuel
  induction fuel using Nat.strongRecOn with
  | _ fuel ih =>
    intro cs x h
    obtain ⟨xs, n, hn, rfl, hlen, hxl, hf⟩ := DataW.trod_struct S.hs h
    rw [S.hC] at hlen
    match cs, hlen with
    | [c0, c1, c2, c3, c4, c5], _ =>
      have g0 := hf 0 S.f0 rfl
      have g1 := hf 1 S.f1 rfl
      have g2 := hf 2 S.f2 rfl
      have g3 := hf 3 S.f3 rfl
      have g4 := hf 4 S.f4 rfl
      have g5 := hf 5 S.f5 rfl
      match xs, hxl with
      | [y0, y1, y2, y3, y4, y5], _ =>
        simp only [S.o0.1, S.o0.2, S.o1.1, S.o1.2, S.o2.1, S.o2.2, S.o3.1, S.o3.2, S.o4.1, S.o4.2, S.o5.1, S.o5.2, List.drop_succ_cons, List.drop_zero, List.take_succ_cons, List.take_zero, List.getElem?_cons_zero, List.getElem?_cons_succ] at g0 g1 g2 g3 g4 g5
        obtain ⟨k, hk, _, wk⟩ := DataW.trod_int S.u0 g0
        obtain ⟨i, hi, _, wi⟩ := DataW.trod_int S.u1 g1
        obtain ⟨u, hu, _, wu⟩ := DataW.trod_int S.u2 g2
        obtain ⟨s, hs, _, ws⟩ := DataW.trod_string S.u3 g3
        rw [S.t4] at g4
        obtain ⟨ks, hks⟩ := open_keys S g4
        rw [S.t5] at g5
        have wk := wf_i64 wk
        have wi := wf_i64 wi
        have wu := wf_u64 wu
        obtain rfl : c0 = _ := by simpa using hk
        obtain rfl : c1 = _ := by simpa using hi
        obtain rfl : c2 = _ := by simpa using hu
        obtain rfl : c3 = _ := by simpa using hs
        have hR : Rng k i u := ⟨wk.1, wk.2, wi.1, wi.2, wu.1, wu.2⟩
        rcases DataW.trod_slice S.u5 g5 with ⟨hc, _⟩ | ⟨a, len, cap, elems, rest, n', hn', hc, _, _, hl, hm, hel, he, _, _⟩
        · obtain rfl : c5 = .slice none 0 0 := by simpa using hc
          exact ⟨.mk k i u s ks [], hR, ws, c4, none, 0, 0, rfl, hks, rfl, Nat.le_refl _, by unfold maxLen; omega, fun h => absurd h (by omega)⟩
        · obtain rfl : c5 = .slice (some a) len cap := by simpa using hc
          have each : ∀ j, j < len → ∃ t, ∃ cs', w.cells? 0 (a.add (j * 6)) 6 = some cs' ∧ Nd w t cs' := by
            intro j hj
            have hj' := he j hj
            rw [S.hC, List.getElem?_eq_getElem (by omega)] at hj'
            obtain ⟨cs', h1, h2⟩ := Option.bind_eq_some_iff.1 hj'
            obtain ⟨t, ht⟩ := ih n' (by omega) cs' _ h2
            exact ⟨t, cs', h1, ht⟩
          have hex : ∃ l : List T, l.length = len ∧ ∀ j t, l[j]? = some t → ∃ cs', w.cells? 0 (a.add (j * 6)) 6 = some cs' ∧ Nd w t cs' := by
            clear he hel
            have : ∀ m, m ≤ len → ∃ l : List T, l.length = m ∧ ∀ j t, l[j]? = some t → ∃ cs', w.cells? 0 (a.add (j * 6)) 6 = some cs' ∧ Nd w t cs' := by
              intro m
              induction m with
              | zero => exact fun _ => ⟨[], rfl, fun j t h => by simp at h⟩
              | succ m ihm =>
                intro hm2
                obtain ⟨l, hl1, hl2⟩ := ihm (by omega)
                obtain ⟨t, cs', h1, h2⟩ := each m (by omega)
                refine ⟨l ++ [t], by simp [hl1], fun j t' hj => ?_⟩
                rcases Nat.lt_or_ge j l.length with hlt | hge
                · rw [List.getElem?_append_left hlt] at hj
                  exact hl2 j t' hj
                · rw [List.getElem?_append_right hge] at hj
                  have hj0 : j - l.length = 0 := by
                    have := (List.getElem?_eq_some_iff.1 hj).1
                    simp at this
                    exact this
                  rw [hj0] at hj
                  obtain rfl : t = t' := by simpa using hj
                  have : j = m := by omega
                  subst this
                  exact ⟨cs', h1, h2⟩
            exact this len (Nat.le_refl _)
          obtain ⟨l, hl1, hl2⟩ := hex
          refine ⟨.mk k i u s ks l, hR, ws, c4, some a, len, cap, rfl, hks, hl1, hl, hm, fun hpos => ?_⟩
          obtain ⟨b, off, spot⟩ := a
          obtain ⟨t0, ht0⟩ : ∃ t0, l[0]? = some t0 := ⟨_, List.getElem?_eq_getElem (by omega)⟩
          obtain ⟨cs0, h1, h2⟩ := hl2 0 t0 ht0
          obtain ⟨_, hlen0, hcell0⟩ := World.cells?_some h1
          have h00 := hcell0 0 (by omega)
          rw [List.getElem?_eq_getElem (by omega)] at h00
          have hspot : spot = none := by simpa [Addr.add] using World.cell?_spot h00
          subst hspot
          refine ⟨b, off, rfl, ?_, NdL.of l off fun j t hj => ?_⟩
          · have := World.block_lt_of_cell? w _ h00
            simpa [Addr.add] using this
          · obtain ⟨cs', h3, h4⟩ := hl2 j t hj
            obtain ⟨_, _, hcell⟩ := World.cells?_some h3
            refine ⟨cs', fun i hi => ?_, h4⟩
            rw [← hcell i hi]
            congr 1
            unfold Addr.add
            by_cases hj0 : j * 6 = 0
            · have : j = 0 := by omega
              subst this
              by_cases hi0 : i = 0 <;> simp [hi0]
            · by_cases hi0 : i = 0
              · simp [hj0, hi0]
                omega
              · simp [hj0, hi0]
                omega
end
end Go.Proofs.YtnplkamkeadlgaaDoor
namespace Go.Proofs.YtnplkamkeadlgaaDoor

mutual
def sz : T → Nat
  | .mk _ _ _ _ _ l => 1 + szL l
def szL : List T → Nat
  | [] => 0
  | t :: ts => sz t + szL ts
end
mutual
def dp : T → Nat
  | .mk _ _ _ _ _ l => 1 + dpL l
def dpL : List T → Nat
  | [] => 0
  | t :: ts => max (dp t) (dpL ts)
end
mutual
/-- The node of a number, in preorder. -/
def atT : T → Nat → Option T
  | .mk k n u s ks l, i => if i = 0 then some (.mk k n u s ks l) else atL l (i - 1)
def atL : List T → Nat → Option T
  | [], _ => none
  | t :: ts, i => if i < sz t then atT t i else atL ts (i - sz t)
end
theorem sz_pos (t : T) : 0 < sz t := by cases t; simp only [sz]; omega
theorem dp_pos (t : T) : 0 < dp t := by cases t; simp only [dp]; omega
mutual
theorem atT_some : ∀ (t : T) (i : Nat), i < sz t → ∃ x, atT t i = some x
  | .mk k n u s ks l, i, h => by
    unfold atT
    by_cases h0 : i = 0
    · rw [if_pos h0]; exact ⟨_, rfl⟩
    · rw [if_neg h0]
      unfold sz at h
      exact atL_some l (i - 1) (by omega)
theorem atL_some : ∀ (l : List T) (i : Nat), i < szL l → ∃ x, atL l i = some x
  | [], i, h => by simp [szL] at h
  | t :: ts, i, h => by
    unfold atL
    by_cases h1 : i < sz t
    · rw [if_pos h1]; exact atT_some t i h1
    · rw [if_neg h1]
      unfold szL at h
      exact atL_some ts (i - sz t) (by omega)
end
mutual
theorem atT_none : ∀ (t : T) (i : Nat), sz t ≤ i → atT t i = none
  | .mk k n u s ks l, i, h => by
    unfold sz at h
    unfold atT
    rw [if_neg (by omega)]
    exact atL_none l (i - 1) (by omega)
theorem atL_none : ∀ (l : List T) (i : Nat), szL l ≤ i → atL l i = none
  | [], _, _ => rfl
  | t :: ts, i, h => by
    unfold szL at h
    unfold atL
    rw [if_neg (by have := sz_pos t; omega)]
    exact atL_none ts (i - sz t) (by omega)
end

/-- The first error of a list of keys: a byte 00, an earlier key. -/
def hasZ (s : ByteArray) : Bool := s.data.toList.any fun c => c == 0
def keysE : List ByteArray → List ByteArray → Nat
  | _, [] => 0
  | done, k :: ks => if hasZ k = true then 70 else if (done.any fun d => d.data.toList == k.data.toList) = true then 71 else keysE (done ++ [k]) ks
/-- The required kind of the children: none if there may be none, some 0 for any. -/
def partK (k : Int) : Int := if k = 10 ∨ k = 17 then 0 else if k = 11 ∨ k = 15 then 3 else if k = 12 ∨ k = 16 then 4 else if k = 13 then 5 else if k = 14 then 2 else -1
/-- A node as the table asks, apart from the contents of keys. -/
def suchT : T → Bool
  | .mk k n u s ks l => decide (1 ≤ k) && decide (k ≤ 17) && (decide (k = 2 ∨ k = 3 ∨ k = 8) || decide (n = 0)) && (decide (k = 4 ∨ k = 9) || decide (u = 0)) && (decide (k = 5 ∨ k = 6 ∨ k = 7) || decide (s.size = 0)) &&
      (decide (k = 17) || decide (ks.length = 0)) && (!(decide (1 ≤ k) && decide (k ≤ 9)) || decide (l.length = 0)) && (!decide (k = 2) || decide (n = 0) || decide (n = 1)) && (!decide (k = 17) || decide (ks.length = l.length)) &&
      (!decide (k = 15 ∨ k = 16) || (decide (2 ≤ l.length) && decide (l.length ≤ 4))) && (decide (partK k ≤ 0) || l.all fun t => decide (t.k = partK k))
def ownE (t : T) : Nat := if suchT t = false then 60 else if t.k = 5 ∧ hasZ t.s = true then 70 else keysE [] t.ks
mutual
/-- The first error in preorder, the number of nodes apart. -/
def ck : T → Nat → Nat
  | .mk k n u s ks l, b => if 64 ≤ b then 61 else if ownE (.mk k n u s ks l) ≠ 0 then ownE (.mk k n u s ks l) else ckL l (b + 1)
def ckL : List T → Nat → Nat
  | [], _ => 0
  | t :: ts, b => if ck t b ≠ 0 then ck t b else ckL ts b
end
mutual
/-- Every node of the tree is as it must be. -/
def okT : T → Prop
  | .mk k n u s ks l => ownE (.mk k n u s ks l) = 0 ∧ okL l
def okL : List T → Prop
  | [] => True
  | t :: ts => okT t ∧ okL ts
end
mutual
theorem ck_zero : ∀ (t : T) (b : Nat), ck t b = 0 ↔ okT t ∧ b + dp t ≤ 64
  | .mk k n u s ks l, b => by
    have ih := ckL_zero l (b + 1)
    unfold ck okT dp
    by_cases hb : 64 ≤ b
    · rw [if_pos hb]
      constructor
      · intro h; omega
      · rintro ⟨_, h⟩; omega
    · rw [if_neg hb]
      by_cases ho : ownE (.mk k n u s ks l) = 0
      · rw [if_neg (by simp [ho]), ih]
        constructor
        · rintro ⟨h1, h2⟩; exact ⟨⟨ho, h1⟩, by rcases h2 with h2 | h2; (· omega); (· subst h2; simp only [dpL]; omega)⟩
        · rintro ⟨⟨_, h1⟩, h2⟩; exact ⟨h1, .inl (by omega)⟩
      · rw [if_pos ho]
        constructor
        · intro h; exact absurd h ho
        · rintro ⟨⟨h, _⟩, _⟩; exact absurd h ho
theorem ckL_zero : ∀ (l : List T) (b : Nat), ckL l b = 0 ↔ okL l ∧ (b + dpL l ≤ 64 ∨ l = [])
  | [], b => by simp [ckL, okL]
  | t :: ts, b => by
    have i1 := ck_zero t b
    have i2 := ckL_zero ts b
    unfold ckL okL dpL
    by_cases h : ck t b = 0
    · rw [if_neg (by simp [h]), i2]
      have ht := i1.1 h
      constructor
      · rintro ⟨h1, h2⟩
        refine ⟨⟨ht.1, h1⟩, .inl ?_⟩
        rcases h2 with h2 | h2
        · omega
        · subst h2; simp only [dpL]; omega
      · rintro ⟨⟨_, h1⟩, h2⟩
        refine ⟨h1, ?_⟩
        rcases h2 with h2 | h2
        · exact .inl (by omega)
        · cases h2
    · rw [if_pos h]
      constructor
      · intro h2; exact absurd h2 h
      · rintro ⟨⟨h1, _⟩, h2⟩
        rcases h2 with h2 | h2
        · exact absurd (i1.2 ⟨h1, by omega⟩) h
        · cases h2
end
mutual
theorem at_ok : ∀ (t : T) (i : Nat) (x : T), okT t → atT t i = some x → okT x ∧ dp x ≤ dp t
  | .mk k n u s ks l, i, x, h, ha => by
    unfold atT at ha
    by_cases h0 : i = 0
    · rw [if_pos h0] at ha
      obtain rfl := Option.some.inj ha
      exact ⟨h, Nat.le_refl _⟩
    · rw [if_neg h0] at ha
      unfold okT at h
      obtain ⟨h1, h2⟩ := atL_ok l (i - 1) x h.2 ha
      refine ⟨h1, ?_⟩
      have e : dp (.mk k n u s ks l) = 1 + dpL l := by simp only [dp]
      omega
theorem atL_ok : ∀ (l : List T) (i : Nat) (x : T), okL l → atL l i = some x → okT x ∧ dp x ≤ dpL l
  | [], _, _, _, ha => by simp [atL] at ha
  | t :: ts, i, x, h, ha => by
    unfold okL at h
    unfold atL at ha
    unfold dpL
    by_cases h1 : i < sz t
    · rw [if_pos h1] at ha
      obtain ⟨h2, h3⟩ := at_ok t i x h.1 ha
      exact ⟨h2, by omega⟩
    · rw [if_neg h1] at ha
      obtain ⟨h2, h3⟩ := atL_ok ts (i - sz t) x h.2 ha
      exact ⟨h2, by omega⟩
end
/-- Every subtree of a valid tree is valid. -/
theorem ck_sub {t x : T} {i : Nat} (h : ck t 0 = 0) (ha : atT t i = some x) : ck x 0 = 0 := by
  rw [ck_zero] at h ⊢
  obtain ⟨h1, h2⟩ := at_ok t i x h.1 ha
  exact ⟨h1, by omega⟩
theorem szL_app : ∀ (a b : List T), szL (a ++ b) = szL a + szL b
  | [], b => by simp [szL]
  | t :: ts, b => by
    have ih := szL_app ts b
    simp only [List.cons_append, szL, ih]
    omega
theorem dpL_app : ∀ (a b : List T), dpL (a ++ b) = max (dpL a) (dpL b)
  | [], b => by simp [dpL]
  | t :: ts, b => by
    have ih := dpL_app ts b
    simp only [List.cons_append, dpL, ih]
    omega
theorem okL_app : ∀ (a b : List T), okL (a ++ b) ↔ okL a ∧ okL b
  | [], b => by simp [okL]
  | t :: ts, b => by
    have ih := okL_app ts b
    simp only [List.cons_append, okL, ih]
    constructor
    · rintro ⟨h1, h2, h3⟩; exact ⟨⟨h1, h2⟩, h3⟩
    · rintro ⟨⟨h1, h2⟩, h3⟩; exact ⟨h1, h2, h3⟩
end Go.Proofs.YtnplkamkeadlgaaDoor
namespace Go.Proofs.YtnplkamkeadlgaaDoor
open Go.RowKit

/-- A block known whole, none of it frozen. -/
def Blk (w : World) (g : Nat) (t : TypeId) (cs : Array Value) : Prop := w.heap[g]? = some (.cells cs t (0, 0))
section
variable {w w' : World} {g : Nat} {t : TypeId} {cs : Array Value}
theorem Blk.lt (h : Blk w g t cs) : g < w.heap.size := by
  rcases Nat.lt_or_ge g w.heap.size with hl | hg
  · exact hl
  · unfold Blk at h; rw [Array.getElem?_eq_none hg] at h; cases h
theorem Blk.cell (h : Blk w g t cs) (i : Nat) : w.cell? ⟨g, i, none⟩ = cs[i]? := cell_of_row w g i cs t (0, 0) h
theorem Blk.frozen (h : Blk w g t cs) (i : Nat) : w.frozen? ⟨g, i, none⟩ = false := by
  unfold Blk at h
  simp [World.frozen?, h]
theorem Blk.new (w : World) (t : TypeId) (cs : Array Value) : Blk (w.alloc (.cells cs t)) w.heap.size t cs := heap_alloc_new w _
theorem Blk.alloc (h : Blk w g t cs) (o : Obj) : Blk (w.alloc o) g t cs := (Below.heap_alloc w o g h.lt).trans h
theorem Blk.below {B : Nat} (h : Blk w g t cs) (hb : Below B w w') (hg : g < B) : Blk w' g t cs := (hb.block g hg).trans h
theorem Blk.put (h : Blk w g t cs) (i : Nat) (u : Value) : Blk (w.setCell ⟨g, i, none⟩ u) g t (cs.setIfInBounds i u) := by
  unfold Blk at h ⊢
  simp [World.setCell, Array.getElem?_modify, h]
end

/-- The box of a node that was handed over. -/
abbrev Bx (w : World) (g : Nat) (v0 v1 v2 v3 v4 v5 : Value) : Prop := Blk w g 31 #[v0, v1, v2, v3, v4, v5]
theorem Bx.all {w : World} {g : Nat} {v0 v1 v2 v3 v4 v5 : Value} (h : Bx w g v0 v1 v2 v3 v4 v5) : w.cell? ⟨g, 0, none⟩ = some v0 ∧ w.cell? ⟨g, 1, none⟩ = some v1 ∧ w.cell? ⟨g, 2, none⟩ = some v2 ∧ w.cell? ⟨g, 3, none⟩ = some v3 ∧
    w.cell? ⟨g, 4, none⟩ = some v4 ∧ w.cell? ⟨g, 5, none⟩ = some v5 := by
  refine ⟨?_, ?_, ?_, ?_, ?_, ?_⟩ <;> rw [Blk.cell h] <;> rfl

/-- The six cells of one node of a row, in a later world. -/
theorem NdL.six {w wr : World} {b off j : Nat} {l : List T} {t : T} (hN : NdL w b l off) (hb : Below w.heap.size w wr) (hbw : b < w.heap.size) (ht : l[j]? = some t) :
    ∃ v0 v1 v2 v3 v4 v5, wr.cell? ⟨b, off + j * 6, none⟩ = some v0 ∧ wr.cell? ⟨b, off + j * 6 + 1, none⟩ = some v1 ∧ wr.cell? ⟨b, off + j * 6 + 2, none⟩ = some v2 ∧ wr.cell? ⟨b, off + j * 6 + 3, none⟩ = some v3 ∧
      wr.cell? ⟨b, off + j * 6 + 4, none⟩ = some v4 ∧ wr.cell? ⟨b, off + j * 6 + 5, none⟩ = some v5 ∧ Nd wr t [v0, v1, v2, v3, v4, v5] := by
  obtain ⟨cs, hc, hn⟩ := hN.at l off j t ht
  have hn' := hn.below hb
  rcases t with ⟨kk, nn, uu, s, ks, l'⟩
  obtain ⟨_, _, kv, A, m, c, rfl, _⟩ := hn
  have e : ∀ i, off + j * 6 + i = off + 6 * j + i := fun i => by omega
  refine ⟨_, _, _, _, _, _, ?_, ?_, ?_, ?_, ?_, ?_, hn'⟩
  · exact ((hb.cell (p := ⟨b, off + j * 6, none⟩) hbw).trans (by rw [show off + j * 6 = off + 6 * j + 0 by omega]; exact hc 0 (by omega)))
  all_goals refine (hb.cell hbw).trans ?_; rw [e]; exact hc _ (by omega)

theorem szL_take {l : List T} {j : Nat} {t : T} (h : l[j]? = some t) : szL (l.take (j + 1)) = szL (l.take j) + sz t := by
  rw [List.take_add_one, h, szL_app]
  simp [szL]
theorem dpL_take {l : List T} {j : Nat} {t : T} (h : l[j]? = some t) : dpL (l.take (j + 1)) = max (dpL (l.take j)) (dp t) := by
  rw [List.take_add_one, h, dpL_app]
  simp [dpL]
theorem szL_le_take (l : List T) (j : Nat) : szL (l.take j) ≤ szL l := by
  have := szL_app (l.take j) (l.drop j)
  rw [List.take_append_drop] at this
  omega
theorem dpL_le_take (l : List T) (j : Nat) : dpL (l.take j) ≤ dpL l := by
  have := dpL_app (l.take j) (l.drop j)
  rw [List.take_append_drop] at this
  omega
theorem sz_le_of {l : List T} {j : Nat} {t : T} (h : l[j]? = some t) : szL (l.take j) + sz t ≤ szL l := by
  rw [← szL_take h]; exact szL_le_take l _
theorem dp_le_of {l : List T} {j : Nat} {t : T} (h : l[j]? = some t) : dp t ≤ dpL l := by
  have := dpL_le_take l (j + 1)
  rw [dpL_take h] at this
  omega
theorem dpL_le_szL : ∀ (l : List T), (∀ t ∈ l, dp t ≤ sz t) → dpL l ≤ szL l
  | [], _ => by simp [dpL, szL]
  | t :: ts, h => by
    have h1 := h t (by simp)
    have h2 := dpL_le_szL ts fun x hx => h x (by simp [hx])
    simp only [dpL, szL]
    omega
mutual
theorem dp_le_sz : ∀ t : T, dp t ≤ sz t
  | .mk _ _ _ _ _ l => by
    have := dp_le_szL l
    simp only [dp, sz]
    omega
theorem dp_le_szL : ∀ l : List T, dpL l ≤ szL l
  | [] => by simp [dpL, szL]
  | t :: ts => by
    have h1 := dp_le_sz t
    have h2 := dp_le_szL ts
    simp only [dpL, szL]
    omega
end
theorem len_le_szL : ∀ l : List T, l.length ≤ szL l
  | [] => by simp [szL]
  | t :: ts => by
    have h1 := sz_pos t
    have h2 := len_le_szL ts
    simp only [List.length_cons, szL]
    omega

end Go.Proofs.YtnplkamkeadlgaaDoor
