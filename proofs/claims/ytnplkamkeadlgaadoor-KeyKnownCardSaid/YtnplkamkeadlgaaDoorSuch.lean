/-
  What is proved here: a contract of the reference's such; condition: at most 100000 children.
-/
import Derived.Test.YtnplkamkeadlgaaDoorSucha
import Derived.Test.YtnplkamkeadlgaaDoorSuchb
import Derived.Test.YtnplkamkeadlgaaDoorSuchc
import Derived.Test.YtnplkamkeadlgaaDoorSuchd
namespace Go.Proofs.YtnplkamkeadlgaaDoor
open Go.RowKit

set_option maxRecDepth 100000 in
set_option maxHeartbeats 4000000 in
theorem refSuch_any (t : T) (cs : List Value) (w : World) (hn : Nd w t cs) (hsz : t.l.length ≤ 100000) : Calls Tryd.prog 74 #[.agg cs.toArray] w fun e w' => e = .returned (.bool (suchT t)) ∧ Below w.heap.size w w' := by
  rcases t with ⟨k, n, u, s, ks, L⟩
  by_cases hk : 1 ≤ k ∧ k ≤ 17
  · obtain ⟨hk1, hk2⟩ := hk
    have hcases : k = 1 ∨ k = 2 ∨ k = 3 ∨ k = 4 ∨ k = 5 ∨ k = 6 ∨ k = 7 ∨ k = 8 ∨ k = 9 ∨ k = 10 ∨ k = 11 ∨ k = 12 ∨ k = 13 ∨ k = 14 ∨ k = 15 ∨ k = 16 ∨ k = 17 := by omega
    rcases hcases with rfl | rfl | rfl | rfl | rfl | rfl | rfl | rfl | rfl | rfl | rfl | rfl | rfl | rfl | rfl | rfl | rfl
    · exact refSuch_1 n u s ks L cs w hn hsz
    · exact refSuch_2 n u s ks L cs w hn hsz
    · exact refSuch_3 n u s ks L cs w hn hsz
    · exact refSuch_4 n u s ks L cs w hn hsz
    · exact refSuch_5 n u s ks L cs w hn hsz
    · exact refSuch_6 n u s ks L cs w hn hsz
    · exact refSuch_7 n u s ks L cs w hn hsz
    · exact refSuch_8 n u s ks L cs w hn hsz
    · exact refSuch_9 n u s ks L cs w hn hsz
    · exact refSuch_10 n u s ks L cs w hn hsz
    · exact refSuch_11 n u s ks L cs w hn hsz
    · exact refSuch_12 n u s ks L cs w hn hsz
    · exact refSuch_13 n u s ks L cs w hn hsz
    · exact refSuch_14 n u s ks L cs w hn hsz
    · exact refSuch_15 n u s ks L cs w hn hsz
    · exact refSuch_16 n u s ks L cs w hn hsz
    · exact refSuch_17 n u s ks L cs w hn hsz
  · have hf : suchT (.mk k n u s ks L) = false := by
      have : (decide (1 ≤ k) && decide (k ≤ 17)) = false := by
        by_cases h : 1 ≤ k
        · rw [decide_eq_true h, decide_eq_false (fun h2 => hk ⟨h, h2⟩)]; rfl
        · rw [decide_eq_false h]; rfl
      simp only [suchT, this, Bool.false_and]
    rw [hf]
    obtain ⟨hr, hs, kv, A, m, c, rfl, ⟨B, d, e, rfl, hkl, _, _, _, _⟩, hl, hm, hmm, hL⟩ := hn
    have HO0 := Lib.hid (OB.new w (.int .i64 k) (.int .i64 n) (.int .u64 u) (.string s) (.slice B d e) (.slice A m c))
    clear hL hr hs hm hmm hl hkl hf
    by_cases h1 : k < 1
    · go_enter Tryd.func74, Tryd.ntmps74
      go_wp2_with fail
      go_ret
      exact ⟨rfl, HO0.out.1⟩
    · have h2 : 17 < k := by omega
      go_enter Tryd.func74, Tryd.ntmps74
      go_wp2_with fail
      go_ret
      exact ⟨rfl, HO0.out.1⟩
end Go.Proofs.YtnplkamkeadlgaaDoor
