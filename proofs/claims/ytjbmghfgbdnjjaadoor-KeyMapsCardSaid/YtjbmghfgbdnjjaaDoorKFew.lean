/-
  What is proved here: contract of the law's own few; what the last line of a law with a list compares; condition: the table of package tree holds what is laid.
-/
import Derived.Test.YtjbmghfgbdnjjaaDoorKWorks
import Derived.Test.YtjbmghfgbdnjjaaDoorTexts
namespace Go.Proofs.YtjbmghfgbdnjjaaDoor
open Go.RowKit Go.Sort

theorem cutN_len (M K : Nat) (ks : List ByteArray) : (cutN M K ks).length ≤ M := by unfold cutN; rw [List.length_map, List.length_take]; omega
theorem cutN_small {M K : Nat} {ks : List ByteArray} : ∀ x ∈ cutN M K ks, x.size ≤ K := by
  intro x hx
  unfold cutN at hx
  obtain ⟨y, _, rfl⟩ := List.mem_map.1 hx
  exact shN_size K y
theorem few_any (ks : List ByteArray) (v : Value) (w : World) (h : RdS w v ks) : Calls Tryd.prog 13 #[v] w fun e w' => ∃ v', e = .returned v' ∧ Hid (RdS w' v' (cutN 60 40 ks)) ∧ Hid (Below w.heap.size w w') := by
  have HT : Hid (∀ W, Below w.heap.size w W → Calls Tryd.prog 41 #[v, .int .i64 60, .int .i64 40] W fun e w' => ∃ v', e = .returned v' ∧ Hid (RdS w' v' (cutN 60 40 ks)) ∧ Hid (Below W.heap.size W w')) := Lib.hid fun W hb => by
    refine (textsN_any 60 40 (by omega) (by omega) ks v W (h.below hb)).mono ?_
    rintro e w' ⟨⟨v', rfl, h1⟩, h2⟩
    exact ⟨v', rfl, Lib.hid (rds_own h1 rfl fun x hx => Nat.le_trans (cutN_small x hx) (by unfold maxLen; omega)), Lib.hid h2⟩
  obtain ⟨A, n, c, rfl, _⟩ := h
  go_enter Tryd.func13, Tryd.ntmps13
  go_wp2_with fail
  refine (HT.out w (Below.refl _ _)).mono ?_
  rintro e w1 ⟨v', rfl, h1, h2⟩
  go_wp2_with fail
  go_ret
  exact ⟨v', rfl, h1, h2⟩
end Go.Proofs.YtjbmghfgbdnjjaaDoor
