/-
  What is proved here: plain facts of bytes, encodings and the reader of literals as a machine over lists of bytes; no program in this text; no condition but those that each fact states; and: plain facts of the reader of literals: where it stops, that a prefix lacks only its end, that what comes behind does not matter; no program in this text; no condition but those that each fact states; and: rows of bytes that the call owns, a block that is known whole, append onto an own row, and the state of a reader in memory; no condition but those that each fact states; and: contracts of the digits of a \u sequence (digitOf, add, bounds, complete) and of the small functions of the reference's helper; conditions: those that each fact states.
-/
import Derived.Shelf.Unicode.DecodeSlow
import Derived.Test.YtjnfilbdokppiaaGreatDoorRows
import Derived.Test.YtjnfilbdokppiaaGreatDoorShelf
import Derived.WalkKit
import Derived.WalkSpells
import Derived.WalkLawsBesides
import Derived.Lib.Hide
import Derived.Laws.OwnMore
import Derived.Laws.AppendOwnNone
import Derived.Laws.CopyOwn
import Derived.Laws.BytesString
import Derived.Maps.AppendAt
import Derived.Deep.AppendLies
import Derived.Deep.Draws
import Derived.Deep.QuietTactic
import Derived.BigQuiet
import Derived.Deep.DeepFit
import Derived.Below
import Derived.OwnWalk
namespace Go.Proofs.YtjnfilbdokppiaaGreatDoor.U
namespace Ut
open Go.Lib

/-- The value of a hexadecimal digit. -/
def dv (c : Nat) : Option Nat :=
  if 48 ≤ c ∧ c ≤ 57 then some (c - 48) else if 97 ≤ c ∧ c ≤ 102 then some (c - 87) else if 65 ≤ c ∧ c ≤ 70 then some (c - 55) else none
theorem dv_lt {c d : Nat} (h : dv c = some d) : d < 16 := by
  unfold dv at h
  repeat' split at h
  all_goals first | (injection h with h; omega) | cases h

/-- The encoding of a scalar value. -/
def encN (r : Nat) : List Nat :=
  if r < 128 then [r] else if r < 2048 then [192 + r / 64, 128 + r % 64] else if r < 65536 then [224 + r / 4096, 128 + r / 64 % 64, 128 + r % 64]
  else [240 + r / 262144, 128 + r / 4096 % 64, 128 + r / 64 % 64, 128 + r % 64]
def enc (r : Nat) : List UInt8 := (encN r).map UInt8.ofNat
def scal (r : Nat) : Prop := r ≤ 1114111 ∧ (r < 55296 ∨ 57343 < r)
theorem enc_len (r : Nat) : 1 ≤ (enc r).length ∧ (enc r).length ≤ 4 := by
  unfold enc encN
  repeat' split
  all_goals simp

/-- Do the first bytes of an encoding lack no byte? (As the library's FullRune answers.) -/
def fullN (n b0 b1 b2 : Nat) : Bool :=
  decide (firstT b0 % 8 ≤ n) || (decide (1 < n) && (decide (b1 < accLo (firstT b0 / 16)) || decide (accHi (firstT b0 / 16) < b1))) || (decide (2 < n) && (decide (b2 < 128) || decide (191 < b2)))
def full (l : List UInt8) : Bool := decide (0 < l.length) && fullN l.length (l.getD 0 0).toNat (l.getD 1 0).toNat (l.getD 2 0).toNat
/-- Are they an encoding? -/
def valN (n b0 b1 b2 b3 : Nat) : Bool :=
  decide (b0 < 128) || (decide (1 < firstT b0 % 8) && decide (firstT b0 % 8 ≤ n) && (decide (accLo (firstT b0 / 16) ≤ b1) && decide (b1 ≤ accHi (firstT b0 / 16))) &&
    (decide (firstT b0 % 8 < 3) || (decide (128 ≤ b2) && decide (b2 ≤ 191))) && (decide (firstT b0 % 8 < 4) || (decide (128 ≤ b3) && decide (b3 ≤ 191))))
def val (l : List UInt8) : Bool := valN l.length (l.getD 0 0).toNat (l.getD 1 0).toNat (l.getD 2 0).toNat (l.getD 3 0).toNat

/-- The reader of a literal. -/
structure Q where
  st : Nat
  text : List UInt8
  part : List UInt8
  code : Nat
  dig : Nat
  high : Nat
def q0 : Q := ⟨0, [], [], 0, 0, 0⟩

def esc (c : Nat) : Option Nat :=
  if c = 34 then some 34 else if c = 92 then some 92 else if c = 98 then some 8 else if c = 102 then some 12 else if c = 110 then some 10 else if c = 114 then some 13 else if c = 116 then some 9 else if c = 47 then some 47 else none
def den (q : Q) (r : Nat) : Q := { q with st := 1, text := q.text ++ enc r, code := 0, dig := 0 }
def lo (code dig : Nat) : Nat := code * 16 ^ (4 - dig)
def hi (code dig : Nat) : Nat := code * 16 ^ (4 - dig) + 16 ^ (4 - dig) - 1

def encS (q : Q) (c : UInt8) : Q × Nat :=
  if full (q.part ++ [c]) = false then ({ q with part := q.part ++ [c] }, 0)
  else if val (q.part ++ [c]) = false then ({ q with part := q.part ++ [c] }, 40)
  else ({ q with st := 1, text := q.text ++ (q.part ++ [c]), part := [] }, 0)
def firstS (q : Q) (c : Nat) : Q × Nat :=
  match dv c with
  | none => (q, 41)
  | some d =>
    if 56320 ≤ lo (q.code * 16 + d) (q.dig + 1) ∧ hi (q.code * 16 + d) (q.dig + 1) ≤ 57343 then ({ q with code := q.code * 16 + d, dig := q.dig + 1 }, 41)
    else if q.dig + 1 ≠ 4 then ({ q with code := q.code * 16 + d, dig := q.dig + 1 }, 0)
    else if 55296 ≤ lo (q.code * 16 + d) (q.dig + 1) ∧ lo (q.code * 16 + d) (q.dig + 1) < 56320 then ({ q with st := 5, code := 0, dig := 0, high := lo (q.code * 16 + d) (q.dig + 1) }, 0)
    else (den q (lo (q.code * 16 + d) (q.dig + 1)), 0)
def secondS (q : Q) (c : Nat) : Q × Nat :=
  match dv c with
  | none => (q, 41)
  | some d =>
    if hi (q.code * 16 + d) (q.dig + 1) < 56320 ∨ 57343 < lo (q.code * 16 + d) (q.dig + 1) then ({ q with code := q.code * 16 + d, dig := q.dig + 1 }, 41)
    else if q.dig + 1 ≠ 4 then ({ q with code := q.code * 16 + d, dig := q.dig + 1 }, 0)
    else (den q (65536 + 1024 * (q.high - 55296) + lo (q.code * 16 + d) (q.dig + 1) - 56320), 0)
def expS (q : Q) (c only next : Nat) : Q × Nat := if c = only then ({ q with st := next }, 0) else (q, 41)
def itemS (q : Q) (c : UInt8) : Q × Nat :=
  if c.toNat = 34 then ({ q with st := 8 }, 0) else if c.toNat = 92 then ({ q with st := 3 }, 0) else if c.toNat < 32 then (q, 41) else encS { q with st := 2 } c
def escS (q : Q) (c : Nat) : Q × Nat :=
  if c = 117 then ({ q with st := 4 }, 0) else match esc c with
  | none => (q, 41)
  | some d => (den q d, 0)
def step (q : Q) (c : UInt8) : Q × Nat :=
  if q.st = 0 then expS q c.toNat 34 1 else if q.st = 1 then itemS q c else if q.st = 2 then encS q c else if q.st = 3 then escS q c.toNat else if q.st = 4 then firstS q c.toNat
  else if q.st = 5 then expS q c.toNat 92 6 else if q.st = 6 then expS q c.toNat 117 7 else secondS q c.toNat

/-- What holds of the reader between two bytes. -/
structure WF (q : Q) : Prop where
  st8 : q.st ≤ 8
  p2 : q.st = 2 → 0 < q.part.length ∧ full q.part = false
  pn : q.st ≠ 2 → q.part = []
  d4 : q.dig < 4
  c4 : q.code < 16 ^ q.dig
  h5 : q.high < 56320
  h6 : 5 ≤ q.st → q.st ≤ 7 → 55296 ≤ q.high
theorem wf0 : WF q0 := ⟨by decide, by decide, fun _ => rfl, by decide, by decide, by decide, by decide⟩

theorem firstT_le (b : Nat) : firstT b % 8 ≤ 4 := by
  rcases firstT_cases b with h | h | h | h | h | h | h | h | h <;> rw [h] <;> decide
theorem full_len {l : List UInt8} (h : full l = false) : l.length ≤ 3 := by
  unfold full fullN at h
  have := firstT_le (l.getD 0 0).toNat
  rcases Nat.lt_or_ge 3 l.length with h3 | h3
  · rw [decide_eq_true (show 0 < l.length by omega), decide_eq_true (show firstT (l.getD 0 0).toNat % 8 ≤ l.length by omega)] at h
    cases h
  · omega
theorem pow_lt {q : Q} (h : WF q) : q.code < 4096 := by
  have := h.c4
  have h4 := h.d4
  rcases (show q.dig = 0 ∨ q.dig = 1 ∨ q.dig = 2 ∨ q.dig = 3 by omega) with e | e | e | e <;> rw [e] at this <;> omega

/-- The reader over the rest of the bytes, k of which are read: the text, the length, the offset, the error. -/
def go (q : Q) : List UInt8 → Nat → List UInt8 × Nat × Nat × Nat
  | l, k => if q.st = 8 then (q.text, k, 0, 0) else match l with
    | [] => ([], 0, k, 3)
    | c :: r => if (step q c).2 = 0 then go (step q c).1 r (k + 1) else ([], 0, k, (step q c).2)
def unq (l : List UInt8) : List UInt8 × Nat × Nat × Nat := go q0 l 0
end Ut
end Go.Proofs.YtjnfilbdokppiaaGreatDoor.U
namespace Go.Proofs.YtjnfilbdokppiaaGreatDoor.U
namespace Ut
open Go.Lib

theorem go_8 {q : Q} (h : q.st = 8) (l : List UInt8) (k : Nat) : go q l k = (q.text, k, 0, 0) := by
  cases l <;> simp [go, h]
theorem go_nil {q : Q} (h : q.st ≠ 8) (k : Nat) : go q [] k = ([], 0, k, 3) := by simp [go, h]
theorem go_ok {q : Q} {c : UInt8} {r : List UInt8} (h : q.st ≠ 8) (hs : (step q c).2 = 0) (k : Nat) : go q (c :: r) k = go (step q c).1 r (k + 1) := by simp [go, h, hs]
theorem go_err {q : Q} {c : UInt8} {r : List UInt8} (h : q.st ≠ 8) (hs : (step q c).2 ≠ 0) (k : Nat) : go q (c :: r) k = ([], 0, k, (step q c).2) := by simp [go, h, hs]

theorem encS_err (q : Q) (c : UInt8) : (encS q c).2 = 0 ∨ (encS q c).2 = 40 ∨ (encS q c).2 = 41 := by
  unfold encS
  repeat' split
  all_goals simp
theorem step_err (q : Q) (c : UInt8) : (step q c).2 = 0 ∨ (step q c).2 = 40 ∨ (step q c).2 = 41 := by
  unfold step expS itemS escS firstS secondS
  repeat' split
  all_goals first | exact encS_err _ _ | simp
theorem step_st0 {q : Q} {c : UInt8} (h : q.st = 0) (hs : (step q c).2 = 0) : (step q c).1.st = 1 := by
  unfold step at hs ⊢
  rw [if_pos h] at hs ⊢
  unfold expS at hs ⊢
  split at hs
  · rename_i h; rw [if_pos h]
  · cases hs

/-- Where the reader stops, and what it says. -/
theorem go_facts (l : List UInt8) : ∀ (q : Q) (k : Nat), 
    ((go q l k).2.2.2 = 0 ∧ k ≤ (go q l k).2.1 ∧ (go q l k).2.1 ≤ k + l.length ∧ (go q l k).2.2.1 = 0 ∧ (q.st ≠ 8 → k < (go q l k).2.1)) ∨
    ((go q l k).2.2.2 ≠ 0 ∧ go q l k = ([], 0, (go q l k).2.2.1, (go q l k).2.2.2) ∧ k ≤ (go q l k).2.2.1 ∧ (go q l k).2.2.1 ≤ k + l.length ∧ ((go q l k).2.2.2 = 3 ↔ (go q l k).2.2.1 = k + l.length) ∧
      ((go q l k).2.2.2 = 3 ∨ (go q l k).2.2.2 = 40 ∨ (go q l k).2.2.2 = 41) ∧
      go q (l.take ((go q l k).2.2.1 - k)) k = ([], 0, (go q l k).2.2.1, 3) ∧
      ((go q l k).2.2.1 < k + l.length → ∀ b, go q (l.take ((go q l k).2.2.1 - k + 1) ++ b) k = go q l k)) := by
  induction l with
  | nil =>
    intro q k
    by_cases h : q.st = 8
    · rw [go_8 h]; left; simp [h]
    · rw [go_nil h]; right; simp [go_nil h]
  | cons c r ih =>
    intro q k
    by_cases h : q.st = 8
    · rw [go_8 h]; left; simp [h]
    · by_cases hs : (step q c).2 = 0
      · rw [go_ok h hs]
        rcases ih (step q c).1 (k + 1) with ⟨h1, h2, h3, h4, h5⟩ | ⟨h1, h2, h3, h4, h5, h6, h7, h8⟩
        · left
          refine ⟨h1, by omega, by simp; omega, h4, fun _ => by omega⟩
        · right
          generalize hat : (go (step q c).1 r (k + 1)).2.2.1 = at_ at *
          have e1 : at_ - k = (at_ - (k + 1)) + 1 := by omega
          refine ⟨h1, h2, by omega, by simp; omega, ?_, h6, ?_, ?_⟩
          · rw [h5]; simp; omega
          · rw [e1, List.take_succ_cons, go_ok h hs]; exact h7
          · intro hlt b
            rw [e1, List.take_succ_cons, List.cons_append, go_ok h hs]
            exact h8 (by simp at hlt; omega) b
      · rw [go_err h hs]
        right
        have he := step_err q c
        refine ⟨hs, rfl, Nat.le_refl _, by simp, ?_, ?_, ?_, ?_⟩
        · simp; omega
        · simp; omega
        · simp [go_nil h]
        · intro _ b
          simp [go_err h hs]

theorem unq_two {l : List UInt8} (h : (unq l).2.2.2 = 0) : 2 ≤ (unq l).2.1 ∧ (unq l).2.1 ≤ l.length := by
  unfold unq at h ⊢
  have h0 : q0.st ≠ 8 := by decide
  match l with
  | [] => rw [go_nil h0] at h; cases h
  | c :: r =>
    by_cases hs : (step q0 c).2 = 0
    · rw [go_ok h0 hs] at h ⊢
      have h1 := step_st0 (q := q0) rfl hs
      rcases go_facts r (step q0 c).1 (0 + 1) with ⟨_, h2, h3, h4, h5⟩ | ⟨h2, _⟩
      · have := h5 (by omega)
        exact ⟨by omega, by rw [List.length_cons]; omega⟩
      · exact absurd h h2
    · rw [go_err h0 hs] at h; exact absurd h hs
end Ut
end Go.Proofs.YtjnfilbdokppiaaGreatDoor.U
namespace Go.Proofs.YtjnfilbdokppiaaGreatDoor.U
open Go.RowKit Ut

theorem ret_bool {a b : Bool} (h : a = b) : Ending.returned (.bool a) = .returned (.bool b) := by rw [h]

/-- The cells of a list of bytes. -/
def bv (xs : List UInt8) : List Value := xs.map fun b => Value.int .u8 (b.toNat : Int)
theorem bv_length (xs : List UInt8) : (bv xs).length = xs.length := by simp [bv]
theorem bv_inv {xs : List UInt8} {j : Nat} {u : Value} (h : (bv xs)[j]? = some u) : ∃ x : UInt8, xs[j]? = some x ∧ u = .int .u8 (x.toNat : Int) := by
  simp only [bv, List.getElem?_map, Option.map_eq_some_iff] at h
  obtain ⟨x, hx, rfl⟩ := h
  exact ⟨x, hx, rfl⟩
theorem bv_one (xs : List UInt8) : ∀ u ∈ bv xs, u.oneCell' = true := by
  intro u hu
  simp only [bv, List.mem_map] at hu
  obtain ⟨x, _, rfl⟩ := hu
  rfl
theorem bv_append (xs ys : List UInt8) : bv xs ++ bv ys = bv (xs ++ ys) := by simp [bv]
theorem bv_at {xs : List UInt8} {j : Nat} (h : j < xs.length) : (bv xs)[j]? = some (.int .u8 ((xs.getD j 0).toNat : Int)) := by
  simp [bv, List.getD, h]

abbrev Own (w : World) (B : Nat) (v : Value) (xs : List UInt8) : Prop := w.ownsRow B 5 1 v xs.length (bv xs)

/-- A block known whole, none of it frozen. -/
def Blk (w : World) (g : Nat) (t : TypeId) (cs : Array Value) : Prop := w.heap[g]? = some (.cells cs t (0, 0))
section
variable {w w' : World} {g : Nat} {t : TypeId} {cs : Array Value}
theorem Blk.lt (h : Blk w g t cs) : g < w.heap.size := by
  rcases Nat.lt_or_ge g w.heap.size with hl | hg
  · exact hl
  · unfold Blk at h; rw [Array.getElem?_eq_none hg] at h; cases h
theorem Blk.cell (h : Blk w g t cs) (i : Nat) : w.cell? ⟨g, i, none⟩ = cs[i]? := cell_of_row w g i cs t (0, 0) h
theorem Blk.frozen (h : Blk w g t cs) (i : Nat) : w.frozen? ⟨g, i, none⟩ = false := by
  unfold Blk at h
  simp [World.frozen?, h]
theorem Blk.new (w : World) (t : TypeId) (cs : Array Value) : Blk (w.alloc (.cells cs t)) w.heap.size t cs := heap_alloc_new w _
theorem Blk.alloc (h : Blk w g t cs) (o : Obj) : Blk (w.alloc o) g t cs := (Below.heap_alloc w o g h.lt).trans h
theorem Blk.put (h : Blk w g t cs) (i : Nat) (u : Value) : Blk (w.setCell ⟨g, i, none⟩ u) g t (cs.setIfInBounds i u) := by
  unfold Blk at h ⊢
  simp [World.setCell, Array.getElem?_modify, h]
theorem Blk.below {B : Nat} (h : Blk w g t cs) (hb : Below B w w') (hg : g < B) : Blk w' g t cs := (hb.block g hg).trans h
theorem Blk.grown {row : Option Nat} (h : Blk w g t cs) (hb : w.grownBy w' row) (hg : some g ≠ row) : Blk w' g t cs := (hb.block g h.lt hg).trans h
theorem own_ne {B n : Nat} {e : TypeId} {v : Value} {xs : List Value} (h : w.ownsRow B e 1 v n xs) (hg : Blk w g t cs) (hne : e ≠ t) : v.ownBlock ≠ some g := by
  rcases h.2 with ⟨rfl, _⟩ | ⟨g', cap, cur, rfl, _, hh, _⟩
  · simp [Value.ownBlock]
  · intro he
    have : g' = g := by simpa [Value.ownBlock] using he
    subst this
    unfold Blk at hg
    rw [hg] at hh
    injection hh with hh
    injection hh with _ h2
    exact hne h2.symm
end

section
variable {w w' : World} {B n : Nat} {v : Value} {xs : List Value}
theorem own_base (h : w.ownsRow B 5 1 v n xs) : ∀ k, v.ownBlock = some k → B ≤ k := fun k hk => (h.lt k hk).1
/-- An own row stays where its block stays. -/
theorem own_keep (h : w.ownsRow B 5 1 v n xs) (hk : ∀ k, v.ownBlock = some k → w'.heap[k]? = w.heap[k]?) : w'.ownsRow B 5 1 v n xs := by
  refine ⟨h.1, ?_⟩
  rcases h.2 with h0 | ⟨g, cap, cur, hv, hg, hh, r⟩
  · exact Or.inl h0
  · exact Or.inr ⟨g, cap, cur, hv, hg, (hk g (by rw [hv]; rfl)).trans hh, r⟩
theorem own_below {B' : Nat} (h : w.ownsRow B 5 1 v n xs) (hb : Below B' w w') (hB : w.heap.size ≤ B') : w'.ownsRow B 5 1 v n xs :=
  own_keep h fun k hk => hb.block k (by have := (h.lt k hk).2; omega)
theorem own_put (h : w.ownsRow B 5 1 v n xs) {g i : Nat} (hg : v.ownBlock ≠ some g) (u : Value) : (w.setCell ⟨g, i, none⟩ u).ownsRow B 5 1 v n xs :=
  own_keep h fun k hk => Below.heap_setCell _ _ _ _ (by rintro rfl; exact hg hk)
/-- The row cut to nothing. -/
theorem own_cut {g c : Nat} (h : w.ownsRow B 5 1 (.slice (some ⟨g, 0, none⟩) n c) n xs) : w.ownsRow B 5 1 (.slice (some ⟨g, 0, none⟩) 0 c) 0 [] := by
  refine ⟨by simp, Or.inr ?_⟩
  rcases h.2 with ⟨h0, _⟩ | ⟨g', cap, cur, hv, hg, hh, h1, h2, h3, h4⟩
  · cases h0
  · injection hv with a1 a2 a3
    injection a1 with a1
    injection a1 with a1
    subst a1; subst a3
    exact ⟨_, _, cur, rfl, hg, hh, Nat.zero_le _, h2, h3, by simp⟩
end

/-- What an append onto the row v does: it may turn the row's own block, and the new row lies there or in a new block. -/
def Gr (w w' : World) (v v' : Value) : Prop := w.grownBy w' v.ownBlock ∧ (v'.ownBlock = v.ownBlock ∨ ∃ k, v'.ownBlock = some k ∧ w.heap.size ≤ k)
theorem Gr.alloc {w w' : World} {o : Obj} {v v' : Value} (h : Gr (w.alloc o) w' v v') : Gr w w' v v' := by
  obtain ⟨h, hk⟩ := h
  have hs : w.heap.size ≤ (w.alloc o).heap.size := by simp
  refine ⟨⟨h.os, h.tape, h.output, Nat.le_trans hs h.size, fun k hk hne => (h.block k (by omega) hne).trans (Below.heap_alloc _ _ _ hk)⟩, ?_⟩
  rcases hk with hk | ⟨k, hk, hl⟩
  · exact Or.inl hk
  · exact Or.inr ⟨k, hk, by omega⟩
theorem Gr.below {B : Nat} {w0 w w' : World} {v v' : Value} (h : Gr w w' v v') (hb : Below B w0 w) (hB : B ≤ w.heap.size) (hv : ∀ k, v.ownBlock = some k → B ≤ k) : Below B w0 w' := hb.grown h.1 hB hv

theorem Tryz.infoU8 : (Tryz.prog.info? 5).map (fun i => (i.zero, i.size, i.bytes)) = some (some (.int .u8 0), 1, 1) := by kernel_rfl

/-- append onto an own row, from a source with an address. -/
theorem run_app {w : World} {B c : Nat} {v : Value} {xs ys : List UInt8} {ad : Addr} (ty : TypeId) (hown : Own w B v xs) (hr : ∀ j u, (bv ys)[j]? = some u → w.cell? (ad.add j) = some u)
    (hb : xs.length + ys.length ≤ 1000000) (hB : B ≤ w.heap.size) :
    ∃ v' w', (Builtin.append_ #[61, 61] ty #[v, .slice (some ad) ys.length c]).run Tryz.prog w = .ok v' w' ∧ Own w' B v' (xs ++ ys) ∧ Gr w w' v v' := by
  obtain ⟨i, hi, hz0, hz1, hz2⟩ := info_parts Tryz.infoU8
  obtain ⟨v', w', hrun, h2, h3, _, h5⟩ := run_append_own_at (P := Tryz.prog) w B 61 ty 5 i (.int .u8 0) 1 1 Tryz.underlying61 hi hz0 hz1 hz2 rfl (by decide) v xs.length (bv xs) hown ad ys.length c (bv ys)
    (by rw [bv_length]; omega) hr (bv_one ys) (by simp only [maxLen]; omega) (by omega) hB
  rw [bv_append] at h2
  refine ⟨v', w', hrun, ?_, h3, ?_⟩
  · unfold Own; rw [List.length_append]; exact h2
  · rcases h5 with h5 | h5
    · exact Or.inl h5
    · exact Or.inr ⟨_, h5, Nat.le_refl _⟩
theorem wpList_app {ops : Array Oper} {rest : List Oper} {o : Oper} {a : Act} {Q : Exit → Act → World → Prop} {w : World} {B m c : Nat} {v : Value} {xs ys : List UInt8} {ad : Addr}
    (hgd : o.guard = none) (s x : Operand) (ho : o.op = .call { callee := .builtin .append, args := #[s, x], argTypes := #[61, 61] })
    (hs : a.eval s = v) (hx : a.eval x = .slice (some ad) m c) (hm : m = ys.length) (hown : Own w B v xs) (hr : ∀ j u, (bv ys)[j]? = some u → w.cell? (ad.add j) = some u) (hb : xs.length + ys.length ≤ 1000000) (hB : B ≤ w.heap.size)
    (h : ∀ v' w', Own w' B v' (xs ++ ys) → Gr w w' v v' → wpList Tryz.prog ops Q rest (a.put o.dst v') w') : wpList Tryz.prog ops Q (o :: rest) a w := by
  subst hm
  refine wpList_plain hgd fun K hK => ?_
  obtain ⟨v', w', hrun, h2, h3⟩ := run_app o.type hown hr hb hB
  unfold Oper.wp execOp
  simp only [ho, resolve, invoke, builtin, Sem.run_bind, Sem.run_pure, Result.andThen_ok, List.map_toArray, List.map_cons, List.map_nil, hs, hx]
  rw [hrun]
  exact hK _ _ (h v' w' h2 h3)

/-- The cells of a block of the call's own, as a source. -/
theorem src_new {w : World} {zs : List UInt8} : ∀ j u, (bv zs)[j]? = some u → (w.alloc (.cells (bv zs).toArray 5)).cell? ((⟨w.heap.size, 0, none⟩ : Addr).add j) = some u := by
  intro j u h
  have h1 : ((⟨w.heap.size, 0, none⟩ : Addr).add j) = ⟨w.heap.size, j, none⟩ := by
    unfold Addr.add
    by_cases h : j = 0 <;> simp [h]
  rw [h1, (Blk.new w 5 (bv zs).toArray).cell j]
  simpa using h

/-- The reader at block R. -/
def RS (w : World) (B R : Nat) (q : Q) : Prop :=
  B ≤ R ∧ B ≤ w.heap.size ∧ ∃ vt vp, Blk w R 106 #[.int .i64 q.st, vt, vp, .int .i32 q.code, .int .i64 q.dig, .int .i32 q.high] ∧ Own w B vt q.text ∧ Own w B vp q.part ∧ (∀ k, vt.ownBlock = some k → vp.ownBlock ≠ some k)
theorem RS.lt {w : World} {B R : Nat} {q : Q} (h : RS w B R q) : R < w.heap.size := by obtain ⟨_, _, _, _, hb, _⟩ := h; exact hb.lt
theorem RS.below {w w' : World} {B R B' : Nat} {q : Q} (h : RS w B R q) (hb : Below B' w w') (hB : w.heap.size ≤ B') : RS w' B R q := by
  have hl := h.lt
  obtain ⟨h1, h2, vt, vp, h3, h4, h5, h6⟩ := h
  have hs := hb.size
  exact ⟨h1, by omega, vt, vp, h3.below hb (by omega), own_below h4 hb hB, own_below h5 hb hB, h6⟩
end Go.Proofs.YtjnfilbdokppiaaGreatDoor.U
namespace Go.Proofs.YtjnfilbdokppiaaGreatDoor.U
open Go.RowKit Ut

def dvR (c : Nat) : Value := match dv c with
  | some d => .tuple #[.int .i32 d, .bool true]
  | none => .tuple #[.int .i32 0, .bool false]
theorem dv_a {c : Nat} (h : 48 ≤ c ∧ c ≤ 57) : dv c = some (c - 48) := by unfold dv; rw [if_pos h]
theorem dv_b {c : Nat} (h : 97 ≤ c ∧ c ≤ 102) : dv c = some (c - 87) := by unfold dv; rw [if_neg (by omega), if_pos h]
theorem dv_c {c : Nat} (h : 65 ≤ c ∧ c ≤ 70) : dv c = some (c - 55) := by unfold dv; rw [if_neg (by omega), if_neg (by omega), if_pos h]
theorem dv_d {c : Nat} (h : ¬ (48 ≤ c ∧ c ≤ 57)) (h1 : ¬ (97 ≤ c ∧ c ≤ 102)) (h2 : ¬ (65 ≤ c ∧ c ≤ 70)) : dv c = none := by unfold dv; rw [if_neg h, if_neg h1, if_neg h2]

set_option maxHeartbeats 1000000 in
theorem digitOf_any (c : Nat) (w : World) (hc : c < 256) :
    Calls Tryz.prog 159 #[.int .u8 (c : Int)] w fun e w' => e = .returned (dvR c) ∧ w = w' := by
  by_cases h1 : 48 ≤ c ∧ c ≤ 57
  · have hd : dvR c = .tuple #[.int .i32 ((c : Int) - 48), .bool true] := by simp [dvR, dv_a h1]; omega
    rw [hd]
    obtain ⟨h1a, h1b⟩ := h1
    clear hd
    go_enter Tryz.func159, Tryz.ntmps159
    go_wp2
    go_ret2
    exact ⟨rfl, rfl⟩
  · by_cases h2 : 97 ≤ c ∧ c ≤ 102
    · have hd : dvR c = .tuple #[.int .i32 ((c : Int) - 97 + 10), .bool true] := by simp [dvR, dv_b h2]; omega
      rw [hd]
      obtain ⟨h2a, h2b⟩ := h2
      have h3 : ¬ c ≤ 57 := by omega
      clear hd h1
      go_enter Tryz.func159, Tryz.ntmps159
      go_wp2
      go_ret2
      exact ⟨rfl, rfl⟩
    · by_cases h3 : 65 ≤ c ∧ c ≤ 70
      · have hd : dvR c = .tuple #[.int .i32 ((c : Int) - 65 + 10), .bool true] := by simp [dvR, dv_c h3]; omega
        rw [hd]
        obtain ⟨h3a, h3b⟩ := h3
        have h4 : ¬ c ≤ 57 := by omega
        have h5 : ¬ 97 ≤ c := by omega
        clear hd h1 h2
        go_enter Tryz.func159, Tryz.ntmps159
        go_wp2
        go_ret2
        exact ⟨rfl, rfl⟩
      · have hd : dvR c = .tuple #[.int .i32 0, .bool false] := by simp [dvR, dv_d h1 h2 h3]
        rw [hd]
        clear hd
        go_enter Tryz.func159, Tryz.ntmps159
        go_wp2
        all_goals first
          | (exfalso; omega)
          | (go_ret2; exact ⟨rfl, rfl⟩)

/-- add, a digit: at the cells of a number. -/
theorem add_yes (R o c d code dig : Nat) (w : World) (hc : c < 256) (hdv : dv c = some d) (h0 : w.cell? ⟨R, o, none⟩ = some (.int .i32 code)) (h1 : w.cell? ⟨R, o + 1, none⟩ = some (.int .i64 dig))
    (f0 : w.frozen? ⟨R, o, none⟩ = false) (f1 : w.frozen? ⟨R, o + 1, none⟩ = false) (hcode : code < 4096) (hdig : dig < 4) :
    Calls Tryz.prog 140 #[.pointer (some ⟨R, o, none⟩), .int .u8 (c : Int)] w fun e w' => e = .returned (.bool true) ∧ w' = (w.setCell ⟨R, o, none⟩ (.int .i32 ((code * 16 + d : Nat) : Int))).setCell ⟨R, o + 1, none⟩ (.int .i64 ((dig + 1 : Nat) : Int)) := by
  have hd := dv_lt hdv
  have hr : dvR c = .tuple #[.int .i32 (d : Int), .bool true] := by simp [dvR, hdv]
  have C := digitOf_any c w hc
  rw [hr] at C
  have HC := Lib.hid C
  clear C hr hdv
  go_enter Tryz.func140, Tryz.ntmps140
  go_wp2_with (go_at_call 159; refine HC.out.mono ?_; rintro e w1 ⟨rfl, rfl⟩)
  go_ret
  exact ⟨rfl, by rw [show ((code * 16 + d : Nat) : Int) = (code : Int) * 16 + d by omega, show ((dig + 1 : Nat) : Int) = (dig : Int) + 1 by omega]⟩
theorem add_no (R o c : Nat) (w : World) (hc : c < 256) (hdv : dv c = none) :
    Calls Tryz.prog 140 #[.pointer (some ⟨R, o, none⟩), .int .u8 (c : Int)] w fun e w' => e = .returned (.bool false) ∧ w = w' := by
  have hr : dvR c = .tuple #[.int .i32 (0 : Int), .bool false] := by simp [dvR, hdv]
  have C := digitOf_any c w hc
  rw [hr] at C
  have HC := Lib.hid C
  clear C hr hdv
  go_enter Tryz.func140, Tryz.ntmps140
  go_wp2_with (go_at_call 159; refine HC.out.mono ?_; rintro e w1 ⟨rfl, rfl⟩)
  go_ret
  exact ⟨rfl, rfl⟩

theorem below_drewN {B : Nat} {a w : World} (h : Below B a w) (n : Nat) : Below B a (w.drewN n) := ⟨h.os, h.tape, h.output, h.size, h.block⟩
theorem bounds_any (code : Nat) (dig : Nat) (w : World) (hcode : code < 65536) (hdig : dig = 1 ∨ dig = 2 ∨ dig = 3 ∨ dig = 4) (hlt : code < 16 ^ dig) :
    Calls Tryz.prog 141 #[.agg #[.int .i32 code, .int .i64 dig]] w fun e w' => e = .returned (.tuple #[.int .i32 (lo code dig), .int .i32 (hi code dig)]) ∧ Below w.heap.size w w' := by
  rcases hdig with rfl | rfl | rfl | rfl
  · have e1 : (lo code 1 : Int) = (code : Int) * 4096 := by unfold lo; omega
    have e2 : (hi code 1 : Int) = (code : Int) * 4096 + 4096 - 1 := by unfold hi; omega
    rw [e1, e2]
    have hc : (code : Int) < 16 := by omega
    clear e1 e2 hlt hcode
    go_enter Tryz.func141, Tryz.ntmps141
    go_wp2
    go_quiet (fail)
    go_wp2
    exact bodyPost_ret (v := .tuple #[.int .i32 ((code : Int) * 4096), .int .i32 ((code : Int) * 4096 + 4096 - 1)]) (by simp [results, Tryz.results141, go_sem]) rfl ⟨rfl, below_drewN ((Below.refl _ _).alloc (Nat.le_refl _) _) _⟩
  · have e1 : (lo code 2 : Int) = (code : Int) * 256 := by unfold lo; omega
    have e2 : (hi code 2 : Int) = (code : Int) * 256 + 256 - 1 := by unfold hi; omega
    rw [e1, e2]
    have hc : (code : Int) < 256 := by omega
    clear e1 e2 hlt hcode
    go_enter Tryz.func141, Tryz.ntmps141
    go_wp2
    go_quiet (fail)
    go_wp2
    exact bodyPost_ret (v := .tuple #[.int .i32 ((code : Int) * 256), .int .i32 ((code : Int) * 256 + 256 - 1)]) (by simp [results, Tryz.results141, go_sem]) rfl ⟨rfl, below_drewN ((Below.refl _ _).alloc (Nat.le_refl _) _) _⟩
  · have e1 : (lo code 3 : Int) = (code : Int) * 16 := by unfold lo; omega
    have e2 : (hi code 3 : Int) = (code : Int) * 16 + 16 - 1 := by unfold hi; omega
    rw [e1, e2]
    have hc : (code : Int) < 4096 := by omega
    clear e1 e2 hlt hcode
    go_enter Tryz.func141, Tryz.ntmps141
    go_wp2
    go_quiet (fail)
    go_wp2
    exact bodyPost_ret (v := .tuple #[.int .i32 ((code : Int) * 16), .int .i32 ((code : Int) * 16 + 16 - 1)]) (by simp [results, Tryz.results141, go_sem]) rfl ⟨rfl, below_drewN ((Below.refl _ _).alloc (Nat.le_refl _) _) _⟩
  · have e1 : (lo code 4 : Int) = (code : Int) := by unfold lo; omega
    have e2 : (hi code 4 : Int) = (code : Int) + 1 - 1 := by unfold hi; omega
    rw [e1, e2]
    have hc : (code : Int) < 65536 := by omega
    clear e1 e2 hlt hcode
    go_enter Tryz.func141, Tryz.ntmps141
    go_wp2
    go_quiet (fail)
    go_wp2
    exact bodyPost_ret (v := .tuple #[.int .i32 ((code : Int)), .int .i32 ((code : Int) + 1 - 1)]) (by simp [results, Tryz.results141, go_sem]) rfl ⟨rfl, below_drewN ((Below.refl _ _).alloc (Nat.le_refl _) _) _⟩
theorem complete_any (code dig : Nat) (w : World) :
    Calls Tryz.prog 142 #[.agg #[.int .i32 code, .int .i64 dig]] w fun e w' => e = .returned (.bool ((dig : Int) == 4)) ∧ Below w.heap.size w w' := by
  go_enter Tryz.func142, Tryz.ntmps142
  go_wp2
  exact bodyPost_ret (v := .bool ((dig : Int) == 4)) (by simp [results, Tryz.results142, go_sem]) rfl ⟨rfl, (Below.refl _ _).alloc (Nat.le_refl _) _⟩
end Go.Proofs.YtjnfilbdokppiaaGreatDoor.U
