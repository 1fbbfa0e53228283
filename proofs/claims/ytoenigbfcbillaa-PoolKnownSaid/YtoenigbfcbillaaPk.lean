/-
  What is proved here: what it means that a pool of package pool, or of its reference, lies in memory with its entries, what a call on it may change, and contracts of the functions of package pool; conditions: as each says.
-/
import Derived.Test.YtoenigbfcbillaaPl
namespace Go.Proofs.Ytoenigbfcbillaa
open Go.RowKit

/-- A block known whole, none of it frozen. -/
def Bx (w : World) (p : Nat) (t : TypeId) (cs : Array Value) : Prop := w.heap[p]? = some (.cells cs t (0, 0))
section
variable {w w' : World} {p : Nat} {t : TypeId} {cs : Array Value}
theorem Bx.lt (h : Bx w p t cs) : p < w.heap.size := by
  rcases Nat.lt_or_ge p w.heap.size with hl | hg
  · exact hl
  · unfold Bx at h; rw [Array.getElem?_eq_none hg] at h; cases h
theorem Bx.cell (h : Bx w p t cs) (i : Nat) : w.cell? ⟨p, i, none⟩ = cs[i]? := cell_of_row w p i cs t (0, 0) h
theorem Bx.frozen (h : Bx w p t cs) (i : Nat) : w.frozen? ⟨p, i, none⟩ = false := by
  unfold Bx at h
  simp [World.frozen?, h]
theorem Bx.new (w : World) (t : TypeId) (cs : Array Value) : Bx (w.alloc (.cells cs t)) w.heap.size t cs := heap_alloc_new w _
theorem Bx.put (h : Bx w p t cs) (i : Nat) (u : Value) : Bx (w.setCell ⟨p, i, none⟩ u) p t (cs.setIfInBounds i u) := by
  unfold Bx at h ⊢
  simp [World.setCell, Array.getElem?_modify, h]
theorem Bx.same (h : Bx w p t cs) (he : w'.heap[p]? = w.heap[p]?) : Bx w' p t cs := he.trans h
theorem Bx.below {B : Nat} (h : Bx w p t cs) (hb : Below B w w') (hp : p < B) : Bx w' p t cs := h.same (hb.block p hp)
theorem Bx.ne_row {B n sz : Nat} {e : TypeId} {v : Value} {xs : List Value} (h : Bx w p t cs) (ho : w.ownsRow B e sz v n xs) (hne : e ≠ t) : v.ownBlock ≠ some p := by
  rcases ho.2 with ⟨rfl, _⟩ | ⟨g', cap, cur, rfl, _, hh, _⟩
  · simp [Value.ownBlock]
  · intro he
    have : g' = p := by simpa [Value.ownBlock] using he
    subst this
    unfold Bx at h
    rw [h] at hh
    injection hh with hh
    injection hh with _ h2
    exact hne h2.symm
end

/-- What a call on a buffer at p with the row v may change; behind it the row is v'. -/
structure Ch (w w' : World) (p : Nat) (v v' : Value) : Prop where
  os : w'.os = w.os
  tape : w'.tape = w.tape
  output : w'.output = w.output
  size : w.heap.size ≤ w'.heap.size
  block : ∀ k, k < w.heap.size → k ≠ p → v.ownBlock ≠ some k → w'.heap[k]? = w.heap[k]?
  row : ∀ k, v'.ownBlock = some k → v.ownBlock = some k ∨ w.heap.size ≤ k
theorem Ch.refl (w : World) (p : Nat) (v : Value) : Ch w w p v v := ⟨rfl, rfl, rfl, Nat.le_refl _, fun _ _ _ _ => rfl, fun _ h => .inl h⟩
theorem Ch.trans {w w1 w2 : World} {p : Nat} {v v1 v2 : Value} (h : Ch w w1 p v v1) (k : Ch w1 w2 p v1 v2) : Ch w w2 p v v2 := by
  refine ⟨k.os.trans h.os, k.tape.trans h.tape, k.output.trans h.output, Nat.le_trans h.size k.size, fun i hi hp hv => ?_, fun i hi => ?_⟩
  · refine (k.block i (Nat.lt_of_lt_of_le hi h.size) hp fun he => ?_).trans (h.block i hi hp hv)
    rcases h.row i he with h1 | h1
    · exact hv h1
    · omega
  · rcases k.row i hi with h1 | h1
    · exact h.row i h1
    · exact .inr (Nat.le_trans h.size h1)
theorem Ch.below {w w' : World} (p : Nat) (v : Value) (h : Below w.heap.size w w') : Ch w w' p v v := ⟨h.os, h.tape, h.output, h.size, fun k hk _ _ => h.block k hk, fun _ h => .inl h⟩
theorem Ch.to_below {B : Nat} {w0 w w' : World} {p : Nat} {v v' : Value} (hb : Below B w0 w) (h : Ch w w' p v v') (hB : B ≤ w.heap.size) (hp : B ≤ p) (hv : ∀ k, v.ownBlock = some k → B ≤ k) : Below B w0 w' := by
  refine ⟨h.os.trans hb.os, h.tape.trans hb.tape, h.output.trans hb.output, Nat.le_trans hb.size h.size, fun k hk => (h.block k (by omega) (by omega) fun he => ?_).trans (hb.block k hk)⟩
  have := hv k he
  omega

theorem bx_ne {w : World} {p q : Nat} {t1 t2 : TypeId} {c1 c2 : Array Value} (h1 : Bx w p t1 c1) (h2 : Bx w q t2 c2) (hne : t1 ≠ t2) : p ≠ q := by
  rintro rfl
  unfold Bx at h1 h2
  rw [h1] at h2
  injection h2 with h2
  injection h2 with _ h3
  exact hne h3
theorem Ch.drewN (w : World) (p : Nat) (v : Value) (n : Nat) : Ch w (w.drewN n) p v v := ⟨rfl, rfl, rfl, Nat.le_refl _, fun _ _ _ _ => rfl, fun _ h => .inl h⟩

theorem al0 (w : World) (o : Obj) : Below w.heap.size w (w.alloc o) := (Below.refl _ w).alloc (Nat.le_refl _) o
/-- Which of the two pools: the program's, or the reference's. -/
def ty : Bool → TypeId | true => 57 | false => 39
def bc : Bool → Value → Array Value | true, v => #[.bool true, v] | false, v => #[v]
def fi : Bool → Nat | true => 1 | false => 0
theorem ty_ne (k : Bool) : te k ≠ ty k := by cases k <;> decide
theorem bc_at (k : Bool) (v : Value) : (bc k v)[fi k]? = some v := by cases k <;> rfl
theorem bc_put (k : Bool) (v u : Value) : (bc k v).setIfInBounds (fi k) u = bc k u := by cases k <;> rfl

/-- The pool at p: the row v with the entries xs. -/
structure Pk (B : Nat) (w : World) (p : Nat) (k : Bool) (v : Value) (xs : List E) : Prop where
  box : Bx w p (ty k) (bc k v)
  own : OV k w B v xs
  low : B ≤ p
  base : B ≤ w.heap.size
  fit : xs.length ≤ 100
  sz : ∀ e ∈ xs, e.k.size ≤ 1000
  srt : k = true → Srt xs

section
variable {B : Nat} {w w' : World} {p : Nat} {k : Bool} {v : Value} {xs : List E}
theorem Pk.keep (h : Pk B w p k v xs) (hs : w.heap.size ≤ w'.heap.size) (hk : ∀ i, i < w.heap.size → i = p ∨ v.ownBlock = some i → w'.heap[i]? = w.heap[i]?) : Pk B w' p k v xs :=
  ⟨h.box.same (hk p h.box.lt (.inl rfl)), own_keepB h.own fun i hi hv => hk i hi (.inr hv), h.low, Nat.le_trans h.base hs, h.fit, h.sz, h.srt⟩
theorem Pk.below (h : Pk B w p k v xs) (hb : Below w.heap.size w w') : Pk B w' p k v xs := h.keep hb.size fun i hi _ => hb.block i hi
theorem Pk.mono {B' : Nat} (h : Pk B w p k v xs) (hB : B' ≤ B) : Pk B' w p k v xs := ⟨h.box, own_mono h.own hB, Nat.le_trans hB h.low, Nat.le_trans hB h.base, h.fit, h.sz, h.srt⟩
theorem Pk.row_lt (h : Pk B w p k v xs) : ∀ i, v.ownBlock = some i → i < w.heap.size := fun i hi => (h.own.lt i hi).2
theorem Pk.cell (h : Pk B w p k v xs) : w.cell? ⟨p, fi k, none⟩ = some v := (h.box.cell (fi k)).trans (bc_at k v)
theorem Pk.new (w : World) (k : Bool) : Pk w.heap.size (w.alloc (.cells (bc k (.slice none 0 0)) (ty k))) w.heap.size k (.slice none 0 0) [] :=
  ⟨Bx.new _ _ _, OV.nil _ _ _, Nat.le_refl _, by simp, by simp, by simp, fun _ => List.Pairwise.nil⟩
/-- The row of the pool is set to another row of the call's own. -/
theorem Pk.put {u : Value} {ys : List E} (hb : Bx w p (ty k) (bc k v)) (ho : OV k w B u ys) (hp : B ≤ p) (hB : B ≤ w.heap.size) (hf : ys.length ≤ 100) (hz : ∀ e ∈ ys, e.k.size ≤ 1000) (hs : k = true → Srt ys) : Pk B (w.setCell ⟨p, fi k, none⟩ u) p k u ys := by
  have hne := hb.ne_row ho (ty_ne k)
  refine ⟨?_, own_keepB ho fun i hi hv => ?_, hp, by simpa using hB, hf, hz, hs⟩
  · have := hb.put (fi k) u
    rwa [bc_put] at this
  · exact Below.heap_setCell _ _ _ _ (by rintro rfl; exact hne hv)
/-- An append's result is stored: what the box and the row are then, and what has changed. -/
theorem Pk.add {u : Value} {ys : List E} {w1 : World} (h : Pk B w p k v xs) (ho : OV k w1 B u ys) (hg : w.grownBy w1 v.ownBlock) (hl : u.ownBlock = v.ownBlock ∨ u.ownBlock = some w.heap.size) :
    Bx (w1.setCell ⟨p, fi k, none⟩ u) p (ty k) (bc k u) ∧ OV k (w1.setCell ⟨p, fi k, none⟩ u) B u ys ∧ Ch w (w1.setCell ⟨p, fi k, none⟩ u) p v u := by
  have hne := h.box.ne_row h.own (ty_ne k)
  have hb1 : Bx w1 p (ty k) (bc k v) := h.box.same (hg.block p h.box.lt (fun e => hne e.symm))
  have hne1 := hb1.ne_row ho (ty_ne k)
  refine ⟨?_, own_keepB ho fun i hi hv => Below.heap_setCell _ _ _ _ (by rintro rfl; exact hne1 hv), ⟨hg.os, hg.tape, hg.output, by simpa using hg.size, fun i hi hip hiv => ?_, fun i hi => ?_⟩⟩
  · have := hb1.put (fi k) u
    rwa [bc_put] at this
  · exact (Below.heap_setCell _ _ _ _ (by exact hip)).trans (hg.block i hi (fun e => hiv e.symm))
  · rcases hl with e | e
    · exact .inl (e ▸ hi)
    · rw [e] at hi; have := Option.some.inj hi; exact .inr (by omega)
end
/-- What a call leaves that answers r. -/
def SP (B : Nat) (w : World) (p : Nat) (k : Bool) (v : Value) (xs : List E) (r : Value) (e : Ending) (w' : World) : Prop := ∃ v', e = .returned r ∧ Pk B w' p k v' xs ∧ Ch w w' p v v'

theorem new_any (w : World) : Calls Try.prog 9 #[] w fun e w' => e = .returned (.pointer (some ⟨w.heap.size, 0, none⟩)) ∧ w' = w.alloc (.cells (bc true (.slice none 0 0)) (ty true)) := by
  go_enter Try.func9, Try.ntmps9
  go_wp2
  go_ret
  exact ⟨rfl, rfl⟩
theorem rNew_any (w : World) : Calls Try.prog 10 #[] w fun e w' => e = .returned (.pointer (some ⟨w.heap.size, 0, none⟩)) ∧ w' = w.alloc (.cells (bc false (.slice none 0 0)) (ty false)) := by
  go_enter Try.func10, Try.ntmps10
  go_wp2
  go_ret
  exact ⟨rfl, rfl⟩

section
variable {B p : Nat} {v : Value} {xs : List E} {w : World}
theorem exists_any (h : Pk B w p true v xs) : Calls Try.prog 26 #[.pointer (some ⟨p, 0, none⟩)] w fun e w' => e = .returned (.bool true) ∧ w = w' := by
  have c0 : w.cell? ⟨p, 0, none⟩ = some (.bool true) := h.box.cell 0
  clear h
  go_enter Try.func26, Try.ntmps26
  go_wp2
  go_ret
  exact ⟨rfl, rfl⟩
theorem size_any (h : Pk B w p true v xs) : Calls Try.prog 32 #[.pointer (some ⟨p, 1, none⟩)] w fun e w' => e = .returned (.int .i64 (xs.length : Int)) ∧ w = w' := by
  obtain ⟨A, c, rfl, _⟩ := h.own.at
  have c1 : w.cell? ⟨p, 1, none⟩ = some (.slice A xs.length c) := h.cell
  clear h
  obtain ⟨n, hn⟩ : ∃ n, n = xs.length := ⟨_, rfl⟩
  rw [← hn] at c1 ⊢
  clear hn
  go_enter Try.func32, Try.ntmps32
  go_wp2
  go_ret
  exact ⟨rfl, rfl⟩
theorem len_any (h : Pk B w p true v xs) : Calls Try.prog 17 #[.pointer (some ⟨p, 0, none⟩)] w fun e w' => e = .returned (.int .i64 (xs.length : Int)) ∧ w = w' := by
  have HE := Lib.hid (exists_any h)
  have HZ := Lib.hid (size_any h)
  clear h
  obtain ⟨n, hn⟩ : ∃ n, n = xs.length := ⟨_, rfl⟩
  rw [← hn] at HZ ⊢
  clear hn
  go_enter Try.func17, Try.ntmps17
  go_wp2_with (first
    | (go_at_call 26; (with_reducible refine HE.out.mono ?_); rintro e w1 ⟨rfl, rfl⟩)
    | (go_at_call 32; (with_reducible refine HZ.out.mono ?_); rintro e w1 ⟨rfl, rfl⟩))
  go_ret
  exact ⟨rfl, rfl⟩
theorem clone_any (s : ByteArray) (w : World) (hs : s.size ≤ 1000) : Calls Try.prog 36 #[.string s] w fun e w' => e = .returned (.string s) ∧ Below w.heap.size w w' := by
  have HC := Lib.hid (Try.stringslite_Clone s w (by omega))
  go_enter Try.func36, Try.ntmps36
  go_wp2_with (go_at_call 38; (with_reducible refine HC.out.mono ?_); rintro e w1 ⟨rfl, hb⟩; have HB := Lib.hid hb; clear hb)
  go_ret
  exact ⟨rfl, HB.out⟩
/-- The closure of place. -/
theorem less1_any (h : Pk B w p true v xs) (w0 : World) (j a b : Nat) (k : ByteArray) (e : E) (he : xs[j]? = some e) (hw : Below w.heap.size w w0) (ha : w0.cell? ⟨a, 0, none⟩ = some (.pointer (some ⟨p, 1, none⟩))) (hb : w0.cell? ⟨b, 0, none⟩ = some (.string k)) :
    Calls Try.prog 35 #[.int .i64 (j : Int), .pointer (some ⟨a, 0, none⟩), .pointer (some ⟨b, 0, none⟩)] w0 fun e' w' => e' = .returned (.bool (!lt e.k k)) ∧ ∃ q, w' = w0.drewN q := by
  have h0 := h.below hw
  obtain ⟨A, c, rfl, hnc, hc, _, hA⟩ := h0.own.at
  have c1 : w0.cell? ⟨p, 1, none⟩ = some (.slice A xs.length c) := h0.cell
  have hj : j < xs.length := (List.getElem?_eq_some_iff.1 he).1
  have hf := h0.fit
  obtain ⟨ad, rfl⟩ : ∃ ad, A = some ad := by
    cases A with
    | none => have := h0.own.2; rcases this with ⟨_, h1⟩ | ⟨g, cap, cur, h1, _⟩
              · omega
              · cases h1
    | some ad => exact ⟨ad, rfl⟩
  obtain ⟨g, rfl, _, _, hcell⟩ := hA ad rfl
  obtain ⟨e0, _⟩ := hcell j e he
  obtain ⟨β, hβ⟩ : ∃ β, lt e.k k = β := ⟨_, rfl⟩
  have HL : Hid (∀ W, Calls Try.prog 25 #[.string e.k, .string k] W fun e' w' => e' = .returned (.bool β) ∧ ∃ q, w' = W.drewN q) := Lib.hid fun W => by rw [← hβ]; exact (keyLess_any e.k k W).mono fun _ _ ⟨h1, h2⟩ => ⟨h1, 0, by rw [h2]; rfl⟩
  rw [hβ]
  clear h h0 hw he hcell hA hβ hc
  obtain ⟨n, hn⟩ : ∃ n, n = xs.length := ⟨_, rfl⟩
  rw [← hn] at c1 hnc hj hf
  clear hn
  have i1 : (0 : Int) ≤ (j : Int) := by omega
  have i2 : (j : Int) < (n : Int) := by omega
  go_enter Try.func35, Try.ntmps35
  go_wp2
  go_quiet ((go_at_call 25; first | exact quiet_addq (HL.out _) | exact Calls.quiet_of (HL.out _)))
  go_wp2
  go_ret
  exact ⟨rfl, _, rfl⟩
end
end Go.Proofs.Ytoenigbfcbillaa
