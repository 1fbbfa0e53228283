/-
  What is proved here: what it means that a stack of package stack, or of its reference, lies in memory with its values, what a call on it may change, and contracts of the functions of package stack; conditions: as each says.
-/
import Derived.Test.YtefgehjkankigaaVal
namespace Go.Proofs.Ytefgehjkankigaa
open Go.RowKit

/-- A block known whole, none of it frozen. -/
def Bx (w : World) (p : Nat) (t : TypeId) (cs : Array Value) : Prop := w.heap[p]? = some (.cells cs t (0, 0))
section
variable {w w' : World} {p : Nat} {t : TypeId} {cs : Array Value}
theorem Bx.lt (h : Bx w p t cs) : p < w.heap.size := by
  rcases Nat.lt_or_ge p w.heap.size with hl | hg
  · exact hl
  · unfold Bx at h; rw [Array.getElem?_eq_none hg] at h; cases h
theorem Bx.cell (h : Bx w p t cs) (i : Nat) : w.cell? ⟨p, i, none⟩ = cs[i]? := cell_of_row w p i cs t (0, 0) h
theorem Bx.frozen (h : Bx w p t cs) (i : Nat) : w.frozen? ⟨p, i, none⟩ = false := by
  unfold Bx at h
  simp [World.frozen?, h]
theorem Bx.new (w : World) (t : TypeId) (cs : Array Value) : Bx (w.alloc (.cells cs t)) w.heap.size t cs := heap_alloc_new w _
theorem Bx.put (h : Bx w p t cs) (i : Nat) (u : Value) : Bx (w.setCell ⟨p, i, none⟩ u) p t (cs.setIfInBounds i u) := by
  unfold Bx at h ⊢
  simp [World.setCell, Array.getElem?_modify, h]
theorem Bx.same (h : Bx w p t cs) (he : w'.heap[p]? = w.heap[p]?) : Bx w' p t cs := he.trans h
theorem Bx.below {B : Nat} (h : Bx w p t cs) (hb : Below B w w') (hp : p < B) : Bx w' p t cs := h.same (hb.block p hp)
theorem Bx.ne_row {B n : Nat} {e : TypeId} {v : Value} {xs : List Value} (h : Bx w p t cs) (ho : w.ownsRow B e 3 v n xs) (hne : e ≠ t) : v.ownBlock ≠ some p := by
  rcases ho.2 with ⟨rfl, _⟩ | ⟨g', cap, cur, rfl, _, hh, _⟩
  · simp [Value.ownBlock]
  · intro he
    have : g' = p := by simpa [Value.ownBlock] using he
    subst this
    unfold Bx at h
    rw [h] at hh
    injection hh with hh
    injection hh with _ h2
    exact hne h2.symm
end

/-- What a call on a buffer at p with the row v may change; behind it the row is v'. -/
structure Ch (w w' : World) (p : Nat) (v v' : Value) : Prop where
  os : w'.os = w.os
  tape : w'.tape = w.tape
  output : w'.output = w.output
  size : w.heap.size ≤ w'.heap.size
  block : ∀ k, k < w.heap.size → k ≠ p → v.ownBlock ≠ some k → w'.heap[k]? = w.heap[k]?
  row : ∀ k, v'.ownBlock = some k → v.ownBlock = some k ∨ w.heap.size ≤ k
theorem Ch.refl (w : World) (p : Nat) (v : Value) : Ch w w p v v := ⟨rfl, rfl, rfl, Nat.le_refl _, fun _ _ _ _ => rfl, fun _ h => .inl h⟩
theorem Ch.trans {w w1 w2 : World} {p : Nat} {v v1 v2 : Value} (h : Ch w w1 p v v1) (k : Ch w1 w2 p v1 v2) : Ch w w2 p v v2 := by
  refine ⟨k.os.trans h.os, k.tape.trans h.tape, k.output.trans h.output, Nat.le_trans h.size k.size, fun i hi hp hv => ?_, fun i hi => ?_⟩
  · refine (k.block i (Nat.lt_of_lt_of_le hi h.size) hp fun he => ?_).trans (h.block i hi hp hv)
    rcases h.row i he with h1 | h1
    · exact hv h1
    · omega
  · rcases k.row i hi with h1 | h1
    · exact h.row i h1
    · exact .inr (Nat.le_trans h.size h1)
theorem Ch.below {w w' : World} (p : Nat) (v : Value) (h : Below w.heap.size w w') : Ch w w' p v v := ⟨h.os, h.tape, h.output, h.size, fun k hk _ _ => h.block k hk, fun _ h => .inl h⟩
theorem Ch.to_below {B : Nat} {w0 w w' : World} {p : Nat} {v v' : Value} (hb : Below B w0 w) (h : Ch w w' p v v') (hB : B ≤ w.heap.size) (hp : B ≤ p) (hv : ∀ k, v.ownBlock = some k → B ≤ k) : Below B w0 w' := by
  refine ⟨h.os.trans hb.os, h.tape.trans hb.tape, h.output.trans hb.output, Nat.le_trans hb.size h.size, fun k hk => (h.block k (by omega) (by omega) fun he => ?_).trans (hb.block k hk)⟩
  have := hv k he
  omega

theorem bx_ne {w : World} {p q : Nat} {t1 t2 : TypeId} {c1 c2 : Array Value} (h1 : Bx w p t1 c1) (h2 : Bx w q t2 c2) (hne : t1 ≠ t2) : p ≠ q := by
  rintro rfl
  unfold Bx at h1 h2
  rw [h1] at h2
  injection h2 with h2
  injection h2 with _ h3
  exact hne h3
theorem Ch.drewN (w : World) (p : Nat) (v : Value) (n : Nat) : Ch w (w.drewN n) p v v := ⟨rfl, rfl, rfl, Nat.le_refl _, fun _ _ _ _ => rfl, fun _ h => .inl h⟩

/-- Which of the two stacks: the program's, or the reference's. -/
def ty : Bool → TypeId | true => 57 | false => 41
def bc : Bool → Value → Array Value | true, v => #[.bool true, v] | false, v => #[v]
def fi : Bool → Nat | true => 1 | false => 0
theorem ty_ne (k : Bool) : (49 : TypeId) ≠ ty k := by cases k <;> decide
theorem bc_at (k : Bool) (v : Value) : (bc k v)[fi k]? = some v := by cases k <;> rfl
theorem bc_put (k : Bool) (v u : Value) : (bc k v).setIfInBounds (fi k) u = bc k u := by cases k <;> rfl

/-- The stack at p: the row v with the values xs. -/
structure Sk (B : Nat) (w : World) (p : Nat) (k : Bool) (v : Value) (xs : List V3) : Prop where
  box : Bx w p (ty k) (bc k v)
  own : OV w B v xs
  low : B ≤ p
  base : B ≤ w.heap.size
  fit : xs.length ≤ 65536

section
variable {B : Nat} {w w' : World} {p : Nat} {k : Bool} {v : Value} {xs : List V3}
theorem Sk.keep (h : Sk B w p k v xs) (hs : w.heap.size ≤ w'.heap.size) (hk : ∀ i, i < w.heap.size → i = p ∨ v.ownBlock = some i → w'.heap[i]? = w.heap[i]?) : Sk B w' p k v xs :=
  ⟨h.box.same (hk p h.box.lt (.inl rfl)), h.own.keep fun i hi hv => hk i hi (.inr hv), h.low, Nat.le_trans h.base hs, h.fit⟩
theorem Sk.below (h : Sk B w p k v xs) (hb : Below w.heap.size w w') : Sk B w' p k v xs := h.keep hb.size fun i hi _ => hb.block i hi
theorem Sk.mono {B' : Nat} (h : Sk B w p k v xs) (hB : B' ≤ B) : Sk B' w p k v xs := ⟨h.box, h.own.mono hB, Nat.le_trans hB h.low, Nat.le_trans hB h.base, h.fit⟩
theorem Sk.drewN (h : Sk B w p k v xs) (n : Nat) : Sk B (w.drewN n) p k v xs := h.below ⟨rfl, rfl, rfl, Nat.le_refl _, fun _ _ => rfl⟩
theorem Sk.row_lt (h : Sk B w p k v xs) : ∀ i, v.ownBlock = some i → i < w.heap.size := fun i hi => (h.own.lt i hi).2
theorem Sk.cell (h : Sk B w p k v xs) : w.cell? ⟨p, fi k, none⟩ = some v := (h.box.cell (fi k)).trans (bc_at k v)
theorem Sk.new (w : World) (k : Bool) : Sk w.heap.size (w.alloc (.cells (bc k (.slice none 0 0)) (ty k))) w.heap.size k (.slice none 0 0) [] :=
  ⟨Bx.new _ _ _, OV.nil _ _, Nat.le_refl _, by simp, Nat.zero_le _⟩
/-- The row of the stack is set to another row of the call's own. -/
theorem Sk.put {u : Value} {ys : List V3} (hb : Bx w p (ty k) (bc k v)) (ho : OV w B u ys) (hp : B ≤ p) (hB : B ≤ w.heap.size) (hf : ys.length ≤ 65536) : Sk B (w.setCell ⟨p, fi k, none⟩ u) p k u ys := by
  have hne := hb.ne_row ho (ty_ne k)
  refine ⟨?_, ho.keep fun i hi hv => ?_, hp, by simpa using hB, hf⟩
  · have := hb.put (fi k) u
    rwa [bc_put] at this
  · exact Below.heap_setCell _ _ _ _ (by rintro rfl; exact hne hv)
/-- The stack is cut. -/
theorem Sk.cut {A : Option Addr} {c : Nat} (h : Sk B w p k (.slice A xs.length c) xs) (n : Nat) (hn : n ≤ xs.length) :
    Sk B (w.setCell ⟨p, fi k, none⟩ (.slice A n c)) p k (.slice A n c) (xs.take n) ∧ Ch w (w.setCell ⟨p, fi k, none⟩ (.slice A n c)) p (.slice A xs.length c) (.slice A n c) := by
  have hob : (Value.slice A n c).ownBlock = (Value.slice A xs.length c).ownBlock := by cases A <;> rfl
  have hln : (xs.take n).length = n := by rw [List.length_take]; omega
  have ho : OV w B (.slice A n c) (xs.take n) := by
    unfold OV
    rw [hln]
    refine ⟨by rw [pv_length, hln], ?_⟩
    rcases h.own.2 with ⟨h0, h1⟩ | ⟨g, cap, cur, hv, hgb, hh, h1, h2, h3, h4⟩
    · injection h0 with a1 a2 a3
      subst a1; subst a3
      exact .inl ⟨by rw [show n = 0 by omega], by omega⟩
    · injection hv with a1 a2 a3
      subst a1; subst a3
      refine .inr ⟨g, _, cur, rfl, hgb, hh, by omega, h2, h3, ?_⟩
      rw [pv_take, ← h4, List.take_take, Nat.min_eq_left (by omega)]
  exact ⟨Sk.put h.box ho h.low h.base (by rw [hln]; exact Nat.le_trans hn h.fit), ⟨rfl, rfl, rfl, by simp, fun i hi hip hiv => Below.heap_setCell _ _ _ _ (by exact hip), fun i hi => .inl (by rwa [hob] at hi)⟩⟩
/-- An append's result is stored. -/
theorem Sk.add {u : Value} {ys : List V3} {w1 : World} (h : Sk B w p k v xs) (ho : OV w1 B u ys) (hg : w.grownBy w1 v.ownBlock) (hl : u.ownBlock = v.ownBlock ∨ u.ownBlock = some w.heap.size) (hf : ys.length ≤ 65536) :
    Sk B (w1.setCell ⟨p, fi k, none⟩ u) p k u ys ∧ Ch w (w1.setCell ⟨p, fi k, none⟩ u) p v u := by
  have hne := h.box.ne_row h.own (ty_ne k)
  have hb1 : Bx w1 p (ty k) (bc k v) := h.box.same (hg.block p h.box.lt (fun e => hne e.symm))
  refine ⟨Sk.put hb1 ho h.low (Nat.le_trans h.base hg.size) hf, ⟨hg.os, hg.tape, hg.output, by simpa using hg.size, fun i hi hip hiv => ?_, fun i hi => ?_⟩⟩
  · exact (Below.heap_setCell _ _ _ _ (by exact hip)).trans (hg.block i hi (fun e => hiv e.symm))
  · rcases hl with e | e
    · exact .inl (e ▸ hi)
    · rw [e] at hi; have := Option.some.inj hi; exact .inr (by omega)
end

/-- What Push does, what Pop and From answer. -/
def psh (xs ys : List V3) : List V3 := if xs.length + ys.length ≤ 65536 then xs ++ ys else xs
def pshE (xs ys : List V3) : Int := if xs.length + ys.length ≤ 65536 then 0 else 5
def inR (n : Int) (xs : List V3) : Prop := 0 ≤ n ∧ n ≤ (xs.length : Int)
instance (n : Int) (xs : List V3) : Decidable (inR n xs) := by unfold inR; exact inferInstance
def popL (n : Int) (xs : List V3) : List V3 := if inR n xs then xs.drop (xs.length - n.toNat) else []
def popS (n : Int) (xs : List V3) : List V3 := if inR n xs then xs.take (xs.length - n.toNat) else xs
def frmL (n : Int) (xs : List V3) : List V3 := if inR n xs then xs.drop n.toNat else []
def rngE (n : Int) (xs : List V3) : Int := if inR n xs then 0 else 140

/-- What a call leaves that answers r. -/
def SP (B : Nat) (w : World) (p : Nat) (k : Bool) (v : Value) (xs : List V3) (r : Value) (e : Ending) (w' : World) : Prop := ∃ v', e = .returned r ∧ Sk B w' p k v' xs ∧ Ch w w' p v v'
/-- What a call leaves that answers a new row ys and an error. -/
def SO (B : Nat) (w : World) (p : Nat) (k : Bool) (v : Value) (xs ys : List V3) (er : Int) (e : Ending) (w' : World) : Prop :=
  ∃ v' u, e = .returned (.tuple #[u, .int .i64 er]) ∧ Sk B w' p k v' xs ∧ Ch w w' p v v' ∧ OV w' w.heap.size u ys ∧ v'.ownBlock = v.ownBlock

theorem new_any (w : World) : Calls Try.prog 9 #[] w fun e w' => e = .returned (.pointer (some ⟨w.heap.size, 0, none⟩)) ∧ w' = w.alloc (.cells (bc true (.slice none 0 0)) (ty true)) := by
  go_enter Try.func9, Try.ntmps9
  go_wp2
  go_ret
  exact ⟨rfl, rfl⟩

section
variable {B p : Nat} {v : Value} {xs : List V3} {w : World}
theorem exists_any (h : Sk B w p true v xs) : Calls Try.prog 24 #[.pointer (some ⟨p, 0, none⟩)] w fun e w' => e = .returned (.bool true) ∧ w = w' := by
  have c0 : w.cell? ⟨p, 0, none⟩ = some (.bool true) := h.box.cell 0
  clear h
  go_enter Try.func24, Try.ntmps24
  go_wp2
  go_ret
  exact ⟨rfl, rfl⟩
theorem size_any (h : Sk B w p true v xs) : Calls Try.prog 27 #[.pointer (some ⟨p, 1, none⟩)] w fun e w' => e = .returned (.int .i64 (xs.length : Int)) ∧ w = w' := by
  obtain ⟨A, c, rfl, _⟩ := h.own.rs
  have c1 : w.cell? ⟨p, 1, none⟩ = some (.slice A xs.length c) := h.cell
  clear h
  obtain ⟨n, hn⟩ : ∃ n, n = xs.length := ⟨_, rfl⟩
  rw [← hn] at c1 ⊢
  clear hn
  go_enter Try.func27, Try.ntmps27
  go_wp2
  go_ret
  exact ⟨rfl, rfl⟩
theorem reaches_any (h : Sk B w p true v xs) (n : Int) : Calls Try.prog 25 #[.pointer (some ⟨p, 1, none⟩), .int .i64 n] w fun e w' => e = .returned (.bool (decide (inR n xs))) ∧ w = w' := by
  obtain ⟨A, c, rfl, _⟩ := h.own.rs
  have c1 : w.cell? ⟨p, 1, none⟩ = some (.slice A xs.length c) := h.cell
  clear h
  by_cases h0 : 0 ≤ n
  · by_cases h1 : n ≤ (xs.length : Int)
    · rw [decide_eq_true (show inR n xs from ⟨h0, h1⟩)]
      obtain ⟨m, hm⟩ : ∃ m, m = xs.length := ⟨_, rfl⟩
      rw [← hm] at c1 h1
      clear hm
      go_enter Try.func25, Try.ntmps25
      go_wp2
      go_ret
      exact ⟨rfl, rfl⟩
    · rw [decide_eq_false (fun h : inR n xs => h1 h.2)]
      obtain ⟨m, hm⟩ : ∃ m, m = xs.length := ⟨_, rfl⟩
      rw [← hm] at c1 h1
      clear hm
      go_enter Try.func25, Try.ntmps25
      go_wp2
      go_ret
      exact ⟨rfl, rfl⟩
  · rw [decide_eq_false (fun h : inR n xs => h0 h.1)]
    obtain ⟨m, hm⟩ : ∃ m, m = xs.length := ⟨_, rfl⟩
    rw [← hm] at c1
    clear hm
    go_enter Try.func25, Try.ntmps25
    go_wp2
    go_ret
    exact ⟨rfl, rfl⟩
theorem add_any {ys : List V3} {u : Value} (h : Sk B w p true v xs) (hr : Rd w u ys) (hf : xs.length + ys.length ≤ 65536) :
    Calls Try.prog 30 #[.pointer (some ⟨p, 1, none⟩), u] w (SP B w p true v (xs ++ ys) (.tuple #[])) := by
  obtain ⟨A, m, c, rfl, hrs⟩ := hr
  have hm := hrs.1
  have c1 : w.cell? ⟨p, 1, none⟩ = some v := h.cell
  have f1 : w.frozen? ⟨p, 1, none⟩ = false := h.box.frozen 1
  have HS := Lib.hid h
  have HR := Lib.hid hrs
  have HBX := Lib.hid h.box
  have HNE := Lib.hid (h.box.ne_row h.own (ty_ne true))
  clear h hrs
  subst hm
  go_enter Try.func30, Try.ntmps30
  go_wp2_with (at_builtin; refine wpList_app (B := B) (xs := xs) (ys := ys) (v := v) rfl (.tmp 8) (.tmp 9) rfl rfl rfl HS.out.own HR.out (by omega) HS.out.base ?_; intro v1 w1 ho1 hg1 hl1; have HO1 := Lib.hid ho1; have HG1 := Lib.hid hg1; have HL1 := Lib.hid hl1; have hbx1 := HBX.out.same (hg1.block p HBX.out.lt (fun e => HNE.out e.symm)); have c2 : w1.cell? ⟨p, 1, none⟩ = some v := hbx1.cell 1; clear hbx1; have f2 : w1.frozen? ⟨p, 1, none⟩ = false := Bx.frozen (HBX.out.same (hg1.block p HBX.out.lt (fun e => HNE.out e.symm))) 1; obtain ⟨A1, n1, e1, rfl, hr1⟩ := ho1.rd; clear ho1 hg1 hl1 hr1)
  go_end0
  obtain ⟨g1, g2⟩ := HS.out.add HO1.out HG1.out HL1.out (by rw [List.length_append]; exact hf)
  exact ⟨_, rfl, g1, g2⟩
end
end Go.Proofs.Ytefgehjkankigaa
