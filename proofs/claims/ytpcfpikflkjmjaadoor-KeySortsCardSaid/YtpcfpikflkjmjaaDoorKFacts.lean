/-
  What is proved here: the examples of the chapter: orders, searches, sorted trees; no condition.
-/
import Derived.Test.YtpcfpikflkjmjaaDoorKTold
import Derived.Test.YtpcfpikflkjmjaaDoorSorted
import Derived.Test.YtpcfpikflkjmjaaDoorExB
namespace Go.Proofs.YtpcfpikflkjmjaaDoor
open Go.RowKit Go.Sort

def sE : ByteArray := ⟨#[]⟩
def sA : ByteArray := ⟨#[97]⟩
def sB : ByteArray := ⟨#[98]⟩
def sC : ByteArray := ⟨#[99]⟩
def sD : ByteArray := ⟨#[100]⟩
def sF : ByteArray := ⟨#[101]⟩
def sAB : ByteArray := ⟨#[97, 98]⟩
theorem lt_eq (a b : ByteArray) : lt a b = Op.bytesLess a.data.toList b.data.toList := by unfold lt; rw [ByteArray.toList_eq, ByteArray.toList_eq]
theorem sq4 : SQ [sB, sA, sE, sAB] [2, 1, 3, 0] 4 := ⟨by decide, by simp only [lt_eq]; decide +kernel⟩
theorem nd3 : ¬ [sA, sB, sA].Nodup := by decide +kernel
theorem sq0 : SQ [] [] 0 := ⟨by decide, List.Pairwise.nil⟩
theorem fdU1 : fdN [sA, sC, sF] sC = 1 ∧ fdB [sA, sC, sF] sC = true := by decide +kernel
theorem fdU2 : fdN [sA, sC, sF] sD = 0 ∧ fdB [sA, sC, sF] sD = false := by decide +kernel
theorem fdO1 : fdN [sC, sA, sB] sC = 0 ∧ fdB [sC, sA, sB] sC = false := by decide +kernel
theorem fdO2 : fdN [sC, sA, sB] sB = 2 ∧ fdB [sC, sA, sB] sB = true := by decide +kernel
theorem fdO3 : fdN [sC, sA, sB] sA = 0 ∧ fdB [sC, sA, sB] sA = false := by decide +kernel
def exI : T := tabT [sD, sC] [numT 1, numT 2]
def exM : T := tabT [sB, sA] [numT 5, exI]
def exV : T := vecT [exM]
def exW : T := vecT [tabT [sA, sB] [tabT [sC, sD] [numT 2, numT 1], numT 5]]
def exA : T := tabT [sA, sA] [numT 5, numT 5]
theorem chkV : chk exV = 0 := by decide +kernel
theorem chkA : chk exA = 71 := by decide +kernel
theorem qqV : QQ exV := ⟨by decide, by simp [sm, smL, numT, tabT, vecT, exV, exM, exI] <;> decide⟩
theorem qqW : QQ exW := ⟨by decide, by simp [sm, smL, numT, tabT, vecT, exW] <;> decide⟩
theorem qqA : QQ exA := ⟨by decide, by simp [sm, smL, numT, tabT, exA] <;> decide⟩
theorem srt_num (n : Int) : Srt (numT n) (numT n) := ⟨[], rfl, .inl ⟨by decide, rfl⟩⟩
theorem sq2 {x y : ByteArray} (h : lt y x = true) : SQ [x, y] [1, 0] 2 := ⟨by decide, by simpa [ky] using h⟩
theorem srtI : Srt exI (tabT [sC, sD] [numT 2, numT 1]) := ⟨[numT 1, numT 2], ⟨_, _, rfl, srt_num 1, _, _, rfl, srt_num 2, rfl⟩, .inr ⟨rfl, [1, 0], sq2 (by simp only [lt_eq]; decide +kernel), rfl⟩⟩
theorem srtM : Srt exM (tabT [sA, sB] [tabT [sC, sD] [numT 2, numT 1], numT 5]) := ⟨[numT 5, tabT [sC, sD] [numT 2, numT 1]], ⟨_, _, rfl, srt_num 5, _, _, rfl, srtI, rfl⟩, .inr ⟨rfl, [1, 0], sq2 (by simp only [lt_eq]; decide +kernel), rfl⟩⟩
theorem srtV : Srt exV exW := ⟨[tabT [sA, sB] [tabT [sC, sD] [numT 2, numT 1], numT 5]], ⟨_, _, rfl, srtM, rfl⟩, .inl ⟨by decide, rfl⟩⟩
theorem rds_blk {w : World} {g n : Nat} {xs : List ByteArray} {cs : Array Value} (hB : Blk w g 9 cs) (hc : cs = (xs.map Value.string).toArray) (hn : xs.length = n) (hm : n ≤ maxLen) (hs : ∀ x ∈ xs, x.size ≤ maxLen) : RdS w (.slice (some ⟨g, 0, none⟩) n n) xs := by
  subst hc
  refine ⟨_, n, n, rfl, hn, Nat.le_refl _, hm, hs, fun _ => ⟨g, 0, rfl, hB.lt, fun j s h => ?_⟩⟩
  rw [Nat.zero_add, Blk.cell hB]
  simp [h]
theorem rd_blk {w : World} {g n : Nat} {xs : List Int} {cs : Array Value} (hB : Blk w g 3 cs) (hc : cs = (bv xs).toArray) (hn : xs.length = n) : Rd w (.slice (some ⟨g, 0, none⟩) n n) xs := by
  subst hc
  refine ⟨_, n, n, rfl, hn, Nat.le_refl _, fun _ => ⟨g, 0, rfl, hB.lt, fun j s h => ?_⟩⟩
  rw [Nat.zero_add, Blk.cell hB]
  simp [bv, h]
theorem small1 {n : Nat} (h : n ≤ 10) : n ≤ maxLen := by unfold maxLen; omega
end Go.Proofs.YtpcfpikflkjmjaaDoor
