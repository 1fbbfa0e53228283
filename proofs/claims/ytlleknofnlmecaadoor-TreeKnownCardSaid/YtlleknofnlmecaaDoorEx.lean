/-
  What is proved here: the examples of the chapter as trees and what the program answers for them; Bring; no condition.
-/
import Derived.Test.YtlleknofnlmecaaDoorFew
import Derived.Test.YtlleknofnlmecaaDoorAt
import Derived.Test.YtlleknofnlmecaaDoorMake
namespace Go.Proofs.YtlleknofnlmecaaDoor
open Go.RowKit

def tA : ByteArray := ⟨#[97]⟩
def tB : ByteArray := ⟨#[98]⟩
def exF : T := nestT 63
def exD : T := nestT 64
def fineL : List T := [numT 5, vecT [numT 5, keyT ⟨#[97]⟩], tabT [⟨#[98]⟩, ⟨#[97]⟩] [numT 5, vecT []], exF]
def oddL : List T := [T0, .mk 2 2 0 ⟨#[]⟩ [] [], .mk 3 0 0 ⟨#[97]⟩ [] [], .mk 15 0 0 ⟨#[]⟩ [] [numT 1], .mk 11 0 0 ⟨#[]⟩ [] [keyT ⟨#[97]⟩], .mk 17 0 0 ⟨#[]⟩ [⟨#[97]⟩] []]
def ex5 : T := vecT [numT 5, vecT [numT 5, numT 5]]
def exK : T := keyT ⟨#[97, 0]⟩
def exT : T := tabT [⟨#[97]⟩, ⟨#[97]⟩] [numT 5, numT 5]
theorem nest_sm : ∀ n, sm 1000 1000 (nestT n)
  | 0 => ⟨Nat.zero_le _, Nat.zero_le _, fun x hx => by simp at hx, trivial⟩
  | n + 1 => ⟨Nat.zero_le _, Nat.zero_le _, fun x hx => by simp at hx, nest_sm n, trivial⟩
theorem nest_sz : ∀ n, sz (nestT n) = n + 1
  | 0 => rfl
  | n + 1 => by
    show 1 + (sz (nestT n) + 0) = n + 1 + 1
    rw [nest_sz n]; omega
theorem nest_dp : ∀ n, dp (nestT n) = n + 1
  | 0 => rfl
  | n + 1 => by
    show 1 + max (dp (nestT n)) 0 = n + 1 + 1
    rw [nest_dp n]; omega
theorem chkF : chk exF = 0 := by decide +kernel
theorem chkD : chk exD = 61 := by decide +kernel
theorem chkF0 : chk (numT 5) = 0 := by decide +kernel
theorem chkF1 : chk (vecT [numT 5, keyT ⟨#[97]⟩]) = 0 := by decide +kernel
theorem chkF2 : chk (tabT [⟨#[98]⟩, ⟨#[97]⟩] [numT 5, vecT []]) = 0 := by decide +kernel
theorem chkK : chk exK = 70 := by decide +kernel
theorem chkT : chk exT = 71 := by decide +kernel
theorem chkO : ∀ t ∈ oddL, chk t = 60 := by
  intro t ht
  simp only [oddL, List.mem_cons, List.not_mem_nil, or_false] at ht
  rcases ht with rfl | rfl | rfl | rfl | rfl | rfl <;> decide +kernel
theorem chkFs : ∀ t ∈ fineL, chk t = 0 := by
  intro t ht
  simp only [fineL, List.mem_cons, List.not_mem_nil, or_false] at ht
  rcases ht with rfl | rfl | rfl | rfl
  · exact chkF0
  · exact chkF1
  · exact chkF2
  · exact chkF
theorem sz5 : sz ex5 = 5 := by decide +kernel
theorem dp5 : dp ex5 = 3 := by decide +kernel
theorem at5_2 : atI ex5 2 = some (vecT [numT 5, numT 5]) := rfl
theorem at5_3 : atI ex5 3 = some (numT 5) := rfl
theorem at5_5 : atI ex5 5 = none := rfl
theorem qqF : QQ exF := ⟨by unfold exF; rw [nest_sz]; omega, nest_sm _⟩
theorem qqD : QQ exD := ⟨by unfold exD; rw [nest_sz]; omega, nest_sm _⟩
theorem qqFs : ∀ t ∈ fineL, QQ t := by
  intro t ht
  simp only [fineL, List.mem_cons, List.not_mem_nil, or_false] at ht
  rcases ht with rfl | rfl | rfl | rfl
  · exact ⟨by decide, by simp [sm, smL, numT] <;> decide⟩
  · exact ⟨by decide, by simp [sm, smL, numT, vecT, keyT] <;> decide⟩
  · exact ⟨by decide, by simp [sm, smL, numT, vecT, tabT] <;> decide⟩
  · exact qqF
theorem qqO : ∀ t ∈ oddL, QQ t := by
  intro t ht
  simp only [oddL, List.mem_cons, List.not_mem_nil, or_false] at ht
  rcases ht with rfl | rfl | rfl | rfl | rfl | rfl
  · exact ⟨by decide, by simp [sm, smL, T0] <;> decide⟩
  · exact ⟨by decide, by simp [sm, smL] <;> decide⟩
  · exact ⟨by decide, by simp [sm, smL] <;> decide⟩
  · exact ⟨by decide, by simp [sm, smL, numT] <;> decide⟩
  · exact ⟨by decide, by simp [sm, smL, keyT] <;> decide⟩
  · exact ⟨by decide, by simp [sm, smL] <;> decide⟩
theorem qq5 : QQ ex5 := ⟨by decide, by simp [sm, smL, numT, vecT, ex5] <;> decide⟩
theorem qqv : QQ (vecT [numT 5, numT 5]) := ⟨by decide, by simp [sm, smL, numT, vecT] <;> decide⟩
theorem qqn : QQ (numT 5) := ⟨by decide, by simp [sm, smL, numT] <;> decide⟩
theorem qqK : QQ exK := ⟨by decide, by simp [sm, smL, keyT, exK] <;> decide⟩
theorem qqT : QQ exT := ⟨by decide, by simp [sm, smL, numT, tabT, exT] <;> decide⟩
/-- Check at a node of a row laid down. -/
theorem row_check {w : World} {b off : Nat} {l : List T} {E : Nat} (hT : Tab w) (hN : NdL w b l off) (hb : b < w.heap.size) (hl : ∀ t ∈ l, chk t = E) (hq : ∀ t ∈ l, QQ t) (wr : World) (hB : Below w.heap.size w wr) (j : Nat) (t : T) (ht : l[j]? = some t) :
    ∃ v0 v1 v2 v3 v4 v5, Six wr b (off + j * 6) v0 v1 v2 v3 v4 v5 ∧ Calls Tryd.prog 15 #[.agg #[v0, v1, v2, v3, v4, v5]] wr fun e w' => e = .returned (.int .i64 (E : Int)) ∧ Hid (Below w.heap.size w w') := by
  obtain ⟨v0, v1, v2, v3, v4, v5, hS, hn⟩ := hN.six' hB hb ht
  refine ⟨v0, v1, v2, v3, v4, v5, hS, (check_any t _ wr (hT.keep hB) (hq t (List.mem_of_getElem? ht)).1 (hq t (List.mem_of_getElem? ht)).2 hn).mono ?_⟩
  rintro e w' ⟨rfl, h⟩
  exact ⟨by rw [hl t (List.mem_of_getElem? ht)], hB.trans (h.mono hB.size)⟩
end Go.Proofs.YtlleknofnlmecaaDoor
