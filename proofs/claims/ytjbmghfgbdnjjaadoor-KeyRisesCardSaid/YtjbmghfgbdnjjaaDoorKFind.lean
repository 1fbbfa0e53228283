/-
  What is proved here: contracts of key.Find and of the reference's Find: both answer what the binary search of the chapter answers; condition: the list is one that the form reads.
-/
import Derived.Test.YtjbmghfgbdnjjaaDoorKBase
namespace Go.Proofs.YtjbmghfgbdnjjaaDoor
open Go.RowKit

/-- The order of keys. -/
def lt (a b : ByteArray) : Bool := Op.bytesLess a.toList b.toList
/-- The binary search of the chapter, in at most f steps. -/
def bs (l : List ByteArray) (k : ByteArray) : Nat → Nat → Nat → Nat
  | 0, lo, _ => lo
  | f + 1, lo, hi => if lo < hi then (if lt (l.getD (lo + (hi - lo) / 2) ⟨#[]⟩) k = true then bs l k f (lo + (hi - lo) / 2 + 1) hi else bs l k f lo (lo + (hi - lo) / 2)) else lo
/-- Where the search of a list ends. -/
def bsE (l : List ByteArray) (k : ByteArray) : Nat := bs l k l.length 0 l.length
/-- What Find answers. -/
def fdN (l : List ByteArray) (k : ByteArray) : Nat := if l[bsE l k]? = some k then bsE l k else 0
def fdB (l : List ByteArray) (k : ByteArray) : Bool := decide (l[bsE l k]? = some k)
/-- Between two rounds of the search. -/
def BS (l : List ByteArray) (k : ByteArray) (lo hi R : Nat) : Prop := ∃ f, hi - lo ≤ f ∧ bs l k f lo hi = R
theorem BS.start (l : List ByteArray) (k : ByteArray) : BS l k 0 l.length (bsE l k) := ⟨l.length, by omega, rfl⟩
theorem BS.stop {l : List ByteArray} {k : ByteArray} {lo hi R : Nat} (h : BS l k lo hi R) (hl : ¬ lo < hi) : R = lo := by
  obtain ⟨f, _, rfl⟩ := h
  cases f with
  | zero => rfl
  | succ f => unfold bs; rw [if_neg hl]
theorem BS.step {l : List ByteArray} {k x : ByteArray} {lo hi R : Nat} (h : BS l k lo hi R) (hl : lo < hi) (hx : l[lo + (hi - lo) / 2]? = some x) : (lt x k = true → BS l k (lo + (hi - lo) / 2 + 1) hi R) ∧ (lt x k = false → BS l k lo (lo + (hi - lo) / 2) R) := by
  obtain ⟨f, hf, rfl⟩ := h
  cases f with
  | zero => omega
  | succ f =>
    have e : l.getD (lo + (hi - lo) / 2) ⟨#[]⟩ = x := by rw [List.getD_eq_getElem?_getD, hx]; rfl
    refine ⟨fun h => ⟨f, by omega, ?_⟩, fun h => ⟨f, by omega, ?_⟩⟩
    · conv => rhs; unfold bs
      rw [if_pos hl, e, if_pos h]
    · conv => rhs; unfold bs
      rw [if_pos hl, e, if_neg (by rw [h]; simp)]

theorem mid_int {lo hi m : Nat} (h : lo ≤ hi) (hm : lo + (hi - lo) / 2 = m) : (lo : Int) + ((hi : Int) - (lo : Int)).tdiv 2 = (m : Int) := by
  have e : (hi : Int) - (lo : Int) = ((hi - lo : Nat) : Int) := by omega
  rw [e]
  have e2 : ((hi - lo : Nat) : Int).tdiv 2 = (((hi - lo) / 2 : Nat) : Int) := (Int.ofNat_tdiv (hi - lo) 2).symm
  rw [e2]
  omega
theorem fd_end {l : List ByteArray} {k : ByteArray} {R : Nat} (h : bsE l k = R) (hn : l.length ≤ R) : fdN l k = 0 ∧ fdB l k = false := by
  unfold fdN fdB
  rw [h, List.getElem?_eq_none hn]
  exact ⟨if_neg (by simp), by simp⟩
theorem fd_at {l : List ByteArray} {k x : ByteArray} {R : Nat} (h : bsE l k = R) (hx : l[R]? = some x) : (x = k → fdN l k = R ∧ fdB l k = true) ∧ (x ≠ k → fdN l k = 0 ∧ fdB l k = false) := by
  unfold fdN fdB
  rw [h, hx]
  refine ⟨fun e => ?_, fun e => ?_⟩
  · rw [e]; exact ⟨if_pos rfl, by simp⟩
  · exact ⟨if_neg (by simpa using e), by simpa using e⟩
set_option maxRecDepth 100000 in
set_option maxHeartbeats 2000000 in
theorem refFind_any (l : List ByteArray) (v : Value) (k : ByteArray) (w : World) (hl : RdS w v l) (hn : l.length ≤ 100000) (hk : k.size ≤ maxLen) :
    Calls Tryd.prog 24 #[v, .string k] w fun e w' => e = .returned (.tuple #[.int .i64 ((fdN l k : Nat) : Int), .bool (fdB l k)]) ∧ Below w.heap.size w w' := by
  obtain ⟨A, n, c, rfl, hln, hnc, hc, hsz, hA⟩ := hl.at
  have hn1 : (n : Int) ≤ 100000 := by omega
  obtain ⟨R, hR⟩ : ∃ R, bsE l k = R := ⟨_, rfl⟩
  have HS : Hid (BS l k 0 n R) := Lib.hid (by rw [← hR, ← hln]; exact BS.start l k)
  have HR := Lib.hid hR
  have HLS : Hid (∀ W x, x.size ≤ maxLen → Calls Tryd.prog 19 #[.string x, .string k] W fun e w' => e = .returned (.bool (lt x k)) ∧ Below W.heap.size W w') := Lib.hid fun W x h => refLess_any x k W h hk
  clear hR
  go_enter Tryd.func24, Tryd.ntmps24
  go_wp2_with fail
  go_loopw [6, 7] (fun a b wr => ∃ lo hi : Nat, lo ≤ hi ∧ hi ≤ n ∧ a = .int .i64 (lo : Int) ∧ b = .int .i64 (hi : Int) ∧ Hid (BS l k lo hi R) ∧ Hid (Below w.heap.size w wr)) (fun a b _ => (intOf b).toNat - (intOf a).toNat)
  case atStart => exact ⟨0, n, Nat.zero_le _, Nat.le_refl _, rfl, rfl, HS, Lib.hid (Below.refl _ _)⟩
  case round =>
    obtain ⟨lo, hi, hlh, hhn, rfl, rfl, HB, HW⟩ := hrel
    by_cases h1 : lo < hi
    · obtain ⟨b1, off1, rfl, _, hc1⟩ := hA (by omega)
      obtain ⟨m, hm⟩ : ∃ m, lo + (hi - lo) / 2 = m := ⟨_, rfl⟩
      obtain ⟨x, hx⟩ : ∃ x, l[m]? = some x := ⟨_, List.getElem?_eq_getElem (by omega)⟩
      have hcell := hc1 wr HW.out m x hx
      have hxs := hsz x (List.mem_of_getElem? hx)
      have HST := Lib.hid (HB.out.step h1 (by rw [hm]; exact hx))
      rw [hm] at HST
      have hmi := mid_int hlh hm
      have hmr : lo ≤ m ∧ m < hi := by omega
      obtain ⟨β, hβ⟩ : ∃ β, lt x k = β := ⟨_, rfl⟩
      have hcall := HLS.out wr x hxs
      rw [hβ] at hcall HST
      clear hc1 hx hm hβ hA
      cases β with
      | true =>
        have HN := Lib.hid (HST.out.1 rfl)
        go_wp2_with (go_at_call 19; refine hcall.mono ?_; clear hcall; rintro e w2 ⟨rfl, hb2⟩)
        go_roundw
        case rel => exact ⟨m + 1, hi, by omega, by omega, by simp, rfl, HN, Lib.hid (HW.out.trans (hb2.mono HW.out.size))⟩
        case measure => simp [intOf]; omega
      | false =>
        have HN := Lib.hid (HST.out.2 rfl)
        go_wp2_with (go_at_call 19; refine hcall.mono ?_; clear hcall; rintro e w2 ⟨rfl, hb2⟩)
        go_roundw
        case rel => exact ⟨lo, m, by omega, by omega, rfl, rfl, HN, Lib.hid (HW.out.trans (hb2.mono HW.out.size))⟩
        case measure => simp [intOf]; omega
    · have hRl := HB.out.stop h1
      subst hRl
      by_cases h2 : R < n
      · obtain ⟨b1, off1, rfl, _, hc1⟩ := hA (by omega)
        obtain ⟨x, hx⟩ : ∃ x, l[R]? = some x := ⟨_, List.getElem?_eq_getElem (by omega)⟩
        have hcell := hc1 wr HW.out R x hx
        have hf := fd_at HR.out hx
        clear hc1 hx
        by_cases hxk : x = k
        · have hT := strEq_true hxk
          obtain ⟨f1, f2⟩ := hf.1 hxk
          have HF1 := Lib.hid f1
          have HF2 := Lib.hid f2
          clear hf hxk f1 f2
          go_wp2_with fail
          go_ret2
          exact ⟨by rw [HF1.out, HF2.out]; rfl, HW.out⟩
        · have hF := strEq_false hxk
          obtain ⟨f1, f2⟩ := hf.2 hxk
          have HF1 := Lib.hid f1
          have HF2 := Lib.hid f2
          clear hf hxk f1 f2
          go_wp2_with fail
          go_ret2
          exact ⟨by rw [HF1.out, HF2.out]; rfl, HW.out⟩
      · obtain ⟨f1, f2⟩ := fd_end HR.out (by omega)
        have HF1 := Lib.hid f1
        have HF2 := Lib.hid f2
        clear f1 f2
        go_wp2_with fail
        go_ret2
        exact ⟨by rw [HF1.out, HF2.out]; rfl, HW.out⟩
end Go.Proofs.YtjbmghfgbdnjjaaDoor
