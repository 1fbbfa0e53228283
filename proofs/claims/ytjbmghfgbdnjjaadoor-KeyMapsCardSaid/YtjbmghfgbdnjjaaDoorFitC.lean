/-
  What is proved here: tree.fitsKind agrees with the definition of a node as the table asks; conditions: the table holds what its initialiser lays; at most 100000 nodes, 1000 keys.
-/
import Derived.Test.YtjbmghfgbdnjjaaDoorFitB
namespace Go.Proofs.YtjbmghfgbdnjjaaDoor
open Go.RowKit

theorem an0 : ∀ a b c d e : Bool, (bits BinOp.andNot IntKind.i64 (flB a b c d e) 0 != 0) = (a || b || c || d || e) := by decide +kernel
theorem an1 : ∀ a b c d e : Bool, (bits BinOp.andNot IntKind.i64 (flB a b c d e) 1 != 0) = (b || c || d || e) := by decide +kernel
theorem an2 : ∀ a b c d e : Bool, (bits BinOp.andNot IntKind.i64 (flB a b c d e) 2 != 0) = (a || c || d || e) := by decide +kernel
theorem an4 : ∀ a b c d e : Bool, (bits BinOp.andNot IntKind.i64 (flB a b c d e) 4 != 0) = (a || b || d || e) := by decide +kernel
theorem an16 : ∀ a b c d e : Bool, (bits BinOp.andNot IntKind.i64 (flB a b c d e) 16 != 0) = (a || b || c || d) := by decide +kernel
theorem an24 : ∀ a b c d e : Bool, (bits BinOp.andNot IntKind.i64 (flB a b c d e) 24 != 0) = (a || b || c) := by decide +kernel

theorem fit_such (kn : Nat) (n u : Int) (s : ByteArray) (ks : List ByteArray) (L : List T) (h1 : 1 ≤ kn) (h2 : kn ≤ 17) :
    fitB (kn : Int) n (bits BinOp.andNot IntKind.i64 (flB (n != 0) (u != 0) (!s.toList.isEmpty) (decide (0 < ks.length)) (decide (0 < L.length))) (usesK kn) != 0) ks.length L.length (elmK kn) (fixK kn) (L.all fun x => decide (x.k = elmK kn)) =
      suchT (.mk (kn : Int) n u s ks L) := by
  have hs : (!s.toList.isEmpty) = !decide (s.size = 0) := by
    rw [ByteArray.toList_eq]
    have : s.size = s.data.toList.length := by simp
    rw [this]
    cases s.data.toList <;> simp
  have hn : (n != 0) = !decide (n = 0) := by by_cases h : n = 0 <;> simp [h]
  have hu : (u != 0) = !decide (u = 0) := by by_cases h : u = 0 <;> simp [h]
  have hk : decide (0 < ks.length) = !decide (ks.length = 0) := by by_cases h : ks.length = 0 <;> simp [h]; omega
  have hl : decide (0 < L.length) = !decide (L.length = 0) := by by_cases h : L.length = 0 <;> simp [h]; omega
  rw [hs, hn, hu, hk, hl]
  have hcases : kn = 1 ∨ kn = 2 ∨ kn = 3 ∨ kn = 4 ∨ kn = 5 ∨ kn = 6 ∨ kn = 7 ∨ kn = 8 ∨ kn = 9 ∨ kn = 10 ∨ kn = 11 ∨ kn = 12 ∨ kn = 13 ∨ kn = 14 ∨ kn = 15 ∨ kn = 16 ∨ kn = 17 := by omega
  clear hs hn hu hk hl h1 h2
  rcases hcases with rfl | rfl | rfl | rfl | rfl | rfl | rfl | rfl | rfl | rfl | rfl | rfl | rfl | rfl | rfl | rfl | rfl
  all_goals simp [usesK, elmK, fixK, suchT, fitB, partK, an0, an1, an2, an4, an16, an24]
  all_goals
    have e1 : (!decide (L.length < 2)) = decide (2 ≤ L.length) := by by_cases h : L.length < 2 <;> simp [h]; omega
    have e2 : (!decide (4 < L.length)) = decide (L.length ≤ 4) := by by_cases h : 4 < L.length <;> simp [h]; omega
    rw [e1, e2]
    simp [Bool.and_assoc]

set_option maxRecDepth 100000 in
set_option maxHeartbeats 4000000 in
theorem fitsKind_any (t : T) (cs : List Value) (w : World) (hT : Tab w) (hn : Nd w t cs) (hsz : t.l.length ≤ 100000) (hks : t.ks.length ≤ 1000) :
    Calls Tryd.prog 53 #[.agg cs.toArray] w fun e w' => e = .returned (.bool (suchT t)) ∧ Below w.heap.size w w' := by
  rcases t with ⟨kk, nn, uu, s, ks, L⟩
  by_cases hk : 1 ≤ kk ∧ kk ≤ 17
  · obtain ⟨kn, rfl⟩ : ∃ kn : Nat, kk = (kn : Int) := ⟨kk.toNat, by omega⟩
    rw [← fit_such kn nn uu s ks L (by omega) (by omega)]
    exact fits_any kn nn uu s ks L cs w hT hn hsz hks (by omega) (by omega)
  · have hf : suchT (.mk kk nn uu s ks L) = false := by
      have : (decide (1 ≤ kk) && decide (kk ≤ 17)) = false := by
        by_cases h : 1 ≤ kk
        · rw [decide_eq_true h, decide_eq_false (fun h2 => hk ⟨h, h2⟩)]; rfl
        · rw [decide_eq_false h]; rfl
      simp only [suchT, this, Bool.false_and]
    rw [hf]
    obtain ⟨hr, hs, kv, A, m, c, rfl, ⟨B, d, e, rfl, hkl, _, _, _, _⟩, hl, hm, hmm, hL⟩ := hn
    have hik := isKind_any kk (w.alloc (.cells #[.int .i64 kk, .int .i64 nn, .int .u64 uu, .string s, .slice B d e, .slice A m c] 41))
    have hd : (decide (1 ≤ kk) && decide (kk ≤ 17)) = false := by
      by_cases h : 1 ≤ kk
      · rw [decide_eq_true h, decide_eq_false (fun h2 => hk ⟨h, h2⟩)]; rfl
      · rw [decide_eq_false h]; rfl
    rw [hd] at hik
    go_enter Tryd.func53, Tryd.ntmps53
    go_wp2_with (go_at_call 69; refine hik.mono ?_; rintro e w' ⟨rfl, rfl⟩)
    go_ret
    exact ⟨rfl, (Below.refl _ w).alloc (Nat.le_refl _) _⟩
end Go.Proofs.YtjbmghfgbdnjjaaDoor
