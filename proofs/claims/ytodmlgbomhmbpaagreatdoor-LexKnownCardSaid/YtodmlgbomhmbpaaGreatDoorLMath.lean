/-
  What is proved here: plain facts of the lexer: white space, digits, words, numbers and tokens over lists of bytes; no program in this text; no condition but those that each fact states.
-/
import Derived.Test.YtodmlgbomhmbpaaGreatDoorMach
import Derived.Lib.ParseIntB
namespace Go.Proofs.YtodmlgbomhmbpaaGreatDoor
namespace Lx
open Ut Go.Lib

def isin (a : List UInt8) (c : UInt8) : Bool := a.contains c
/-- How many bytes at the start are among a. -/
def cnt (a : List UInt8) : List UInt8 → Nat
  | [] => 0
  | c :: r => if isin a c = true then cnt a r + 1 else 0
/-- Does the list start with a byte of a? -/
def st (a : List UInt8) : List UInt8 → Bool
  | [] => false
  | c :: _ => isin a c
theorem cnt_le (a l : List UInt8) : cnt a l ≤ l.length := by
  induction l with
  | nil => simp [cnt]
  | cons c r ih => unfold cnt; split <;> simp <;> omega
theorem cnt_zero {a l : List UInt8} (h : st a l = false) : cnt a l = 0 := by
  cases l with
  | nil => rfl
  | cons c r => unfold cnt; rw [if_neg (by rw [show isin a c = false from h]; simp)]
theorem cnt_pos {a l : List UInt8} (h : st a l = true) : cnt a l = cnt a (l.drop 1) + 1 := by
  cases l with
  | nil => cases h
  | cons c r => conv => lhs; unfold cnt
                rw [if_pos (show isin a c = true from h)]; rfl
theorem cnt_stop (a l : List UInt8) : st a (l.drop (cnt a l)) = false := by
  induction l with
  | nil => rfl
  | cons c r ih =>
    unfold cnt
    by_cases h : isin a c = true
    · rw [if_pos h, List.drop_succ_cons]; exact ih
    · rw [if_neg h]; simpa [st] using h
theorem cnt_go {a l : List UInt8} {k : Nat} (h : k < cnt a l) : st a (l.drop k) = true := by
  induction l generalizing k with
  | nil => simp [cnt] at h
  | cons c r ih =>
    unfold cnt at h
    by_cases hc : isin a c = true
    · rw [if_pos hc] at h
      cases k with
      | zero => exact hc
      | succ k => rw [List.drop_succ_cons]; exact ih (by omega)
    · rw [if_neg hc] at h; omega
/-- As long as the bytes go on, so does the count. -/
theorem cnt_step {a l : List UInt8} {k : Nat} (hk : k ≤ cnt a l) (h : st a (l.drop k) = true) : k + 1 ≤ cnt a l := by
  rcases Nat.lt_or_ge k (cnt a l) with h1 | h1
  · exact h1
  · have : k = cnt a l := by omega
    rw [this, cnt_stop] at h; cases h
theorem cnt_end {a l : List UInt8} {k : Nat} (hk : k ≤ cnt a l) (h : st a (l.drop k) = false) : cnt a l = k := by
  rcases Nat.lt_or_ge k (cnt a l) with h1 | h1
  · rw [cnt_go h1] at h; cases h
  · omega

def wsL : List UInt8 := [32, 9, 10, 13]
def dgL : List UInt8 := [48, 49, 50, 51, 52, 53, 54, 55, 56, 57]
theorem dg_iff (c : UInt8) : isin dgL c = true ↔ 48 ≤ c.toNat ∧ c.toNat ≤ 57 := by
  have : ∀ n : Nat, n < 256 → (isin dgL (UInt8.ofNat n) = true ↔ 48 ≤ n ∧ n ≤ 57) := by decide +kernel
  have h := this c.toNat (UInt8.toNat_lt c)
  rwa [UInt8.ofNat_toNat] at h

/-- Digits from an offset on. -/
def skd (l : List UInt8) (k : Nat) : Nat × Bool := (k + cnt dgL (l.drop k), decide (0 < cnt dgL (l.drop k)))
def sgn (l : List UInt8) : Nat := if st [45] l = true then 1 else 0
def mI (l : List UInt8) : Nat × Bool := if st [48] (l.drop (sgn l)) = true then (sgn l + 1, true) else skd l (sgn l)
def mF (l : List UInt8) : Nat × Bool := if ((mI l).2 && st [46] (l.drop (mI l).1)) = true then skd l ((mI l).1 + 1) else mI l
def mS (l : List UInt8) (k : Nat) : Nat := if st [43, 45] (l.drop k) = true then k + 1 else k
def mX (l : List UInt8) : Nat × Bool := if ((mF l).2 && st [101, 69] (l.drop (mF l).1)) = true then skd l (mS l ((mF l).1 + 1)) else mF l

structure RD where
  k : Nat
  n : Nat
  N : Int
  U : Nat
  x : List UInt8
  e : Nat
def ok0 (k n : Nat) : RD := ⟨k, n, 0, 0, [], 0⟩
def bad (n e : Nat) : RD := ⟨0, n, 0, 0, [], e⟩
def num (l : List UInt8) : RD :=
  if (mX l).2 = false then bad (mX l).1 100 else match parseIntB 64 (l.take (mX l).1) with
  | .ok v => ⟨10, (mX l).1, v, 0, [], 0⟩
  | _ => match parseUintB 64 (l.take (mX l).1) with
    | .ok u => ⟨11, (mX l).1, 0, u, [], 0⟩
    | _ => bad 0 101
def txt (l : List UInt8) : RD := if (unq l).2.2.2 = 0 then ⟨12, (unq l).2.1, 0, 0, (unq l).1, 0⟩ else bad (unq l).2.2.1 (unq l).2.2.2
def wordL (k : Nat) : List UInt8 :=
  if k = 1 then [123] else if k = 2 then [125] else if k = 3 then [91] else if k = 4 then [93] else if k = 5 then [44] else if k = 6 then [58] else
  if k = 7 then [110, 117, 108, 108] else if k = 8 then [102, 97, 108, 115, 101] else if k = 9 then [116, 114, 117, 101] else []
def com : List UInt8 → List UInt8 → Nat
  | a :: x, b :: y => if a = b then com x y + 1 else 0
  | _, _ => 0
def wrd (k : Nat) (l : List UInt8) : RD := if com l (wordL k) = (wordL k).length then ok0 k (wordL k).length else bad (com l (wordL k)) 100
def kd (c : Nat) : Nat :=
  if c = 123 then 1 else if c = 125 then 2 else if c = 91 then 3 else if c = 93 then 4 else if c = 44 then 5 else if c = 58 then 6 else
  if c = 110 then 7 else if c = 102 then 8 else if c = 116 then 9 else if c = 45 ∨ (48 ≤ c ∧ c ≤ 57) then 10 else if c = 34 then 12 else 0
def rd : List UInt8 → RD
  | [] => bad 0 100
  | c :: r => if kd c.toNat = 0 then bad 0 100 else if kd c.toNat = 10 then num (c :: r) else if kd c.toNat = 12 then txt (c :: r) else wrd (kd c.toNat) (c :: r)
structure TK where
  k : Nat
  f : Nat
  t : Nat
  N : Int
  U : Nat
  x : List UInt8
  e : Nat
def tokR (f : Nat) (d : RD) : TK := if d.e = 0 then ⟨d.k, f, f + d.n, d.N, d.U, d.x, 0⟩ else ⟨0, f + d.n, f + d.n, 0, 0, [], d.e⟩
def tok (l : List UInt8) (k : Nat) : TK :=
  if l.length ≤ k + cnt wsL (l.drop k) then ⟨0, k + cnt wsL (l.drop k), k + cnt wsL (l.drop k), 0, 0, [], 0⟩
  else tokR (k + cnt wsL (l.drop k)) (rd (l.drop (k + cnt wsL (l.drop k))))

theorem skd_le {l : List UInt8} {k : Nat} (h : k ≤ l.length) : (skd l k).1 ≤ l.length ∧ k ≤ (skd l k).1 := by
  have := cnt_le dgL (l.drop k)
  rw [List.length_drop] at this
  unfold skd
  exact ⟨by show k + _ ≤ _; omega, by show k ≤ k + _; omega⟩
theorem st_pos {a l : List UInt8} {k : Nat} (h : st a (l.drop k) = true) : k < l.length := by
  rcases Nat.lt_or_ge k l.length with h1 | h1
  · exact h1
  · rw [List.drop_of_length_le h1] at h; cases h
theorem sgn_le (l : List UInt8) : sgn l ≤ l.length := by
  unfold sgn
  split
  · rename_i h
    have := st_pos (l := l) (k := 0) h
    omega
  · omega
theorem mI_le (l : List UInt8) : (mI l).1 ≤ l.length := by
  unfold mI
  split
  · rename_i h; exact st_pos h
  · exact (skd_le (sgn_le l)).1
theorem mI_pos (l : List UInt8) (h : (mI l).2 = true) : 0 < (mI l).1 := by
  unfold mI at h ⊢
  split
  · show 0 < sgn l + 1; omega
  · rename_i h0
    rw [if_neg h0] at h
    unfold skd at h ⊢
    have := of_decide_eq_true h
    show 0 < sgn l + _
    omega
theorem mF_le (l : List UInt8) : (mF l).1 ≤ l.length ∧ (mI l).1 ≤ (mF l).1 := by
  unfold mF
  split
  · rename_i h
    rw [Bool.and_eq_true] at h
    have h2 := st_pos h.2
    have := skd_le (l := l) (k := (mI l).1 + 1) h2
    exact ⟨this.1, by omega⟩
  · exact ⟨mI_le l, Nat.le_refl _⟩
theorem mF_pos (l : List UInt8) (h : (mF l).2 = true) : 0 < (mF l).1 := by
  unfold mF at h ⊢
  split
  · unfold skd; show 0 < _ + 1 + _; omega
  · rename_i h0
    rw [if_neg h0] at h
    exact mI_pos l h
theorem mS_le {l : List UInt8} {k : Nat} (h : k ≤ l.length) : mS l k ≤ l.length ∧ k ≤ mS l k := by
  unfold mS
  split
  · rename_i h1; have := st_pos h1; omega
  · omega
theorem mX_le (l : List UInt8) : (mX l).1 ≤ l.length ∧ (mF l).1 ≤ (mX l).1 := by
  unfold mX
  split
  · rename_i h
    rw [Bool.and_eq_true] at h
    have h2 := st_pos h.2
    have h3 := mS_le (l := l) (k := (mF l).1 + 1) h2
    have := skd_le (l := l) (k := mS l ((mF l).1 + 1)) h3.1
    exact ⟨this.1, by omega⟩
  · exact ⟨(mF_le l).1, Nat.le_refl _⟩
theorem mX_pos (l : List UInt8) (h : (mX l).2 = true) : 0 < (mX l).1 := by
  unfold mX at h ⊢
  split
  · rename_i h0
    rw [Bool.and_eq_true] at h0
    have h3 := mS_le (l := l) (k := (mF l).1 + 1) (st_pos h0.2)
    unfold skd; show 0 < mS l ((mF l).1 + 1) + _; omega
  · rename_i h0
    rw [if_neg h0] at h
    exact mF_pos l h

theorem com_le : ∀ (l w : List UInt8), com l w ≤ l.length ∧ com l w ≤ w.length
  | [], _ => by simp [com]
  | _ :: _, [] => by simp [com]
  | a :: x, b :: y => by
    have := com_le x y
    unfold com
    split <;> simp <;> omega
theorem com_go : ∀ {l w : List UInt8} {i : Nat}, i < com l w → l[i]? = w[i]? ∧ i < l.length ∧ i < w.length
  | [], _, i, h => by simp [com] at h
  | _ :: _, [], i, h => by simp [com] at h
  | a :: x, b :: y, i, h => by
    unfold com at h
    by_cases hab : a = b
    · rw [if_pos hab] at h
      cases i with
      | zero => simp [hab]
      | succ i =>
        have := com_go (l := x) (w := y) (i := i) (by omega)
        simp; exact this
    · rw [if_neg hab] at h; omega
theorem com_step : ∀ {l w : List UInt8} {i : Nat}, i ≤ com l w → i < l.length → i < w.length → l[i]? = w[i]? → i + 1 ≤ com l w
  | [], _, i, _, h, _, _ => by simp at h
  | _ :: _, [], i, _, _, h, _ => by simp at h
  | a :: x, b :: y, 0, _, _, _, h => by
    unfold com
    simp at h
    rw [if_pos h]; omega
  | a :: x, b :: y, i + 1, h0, h1, h2, h => by
    unfold com at h0 ⊢
    by_cases hab : a = b
    · rw [if_pos hab] at h0 ⊢
      have := com_step (l := x) (w := y) (i := i) (by omega) (by simpa using h1) (by simpa using h2) (by simpa using h)
      omega
    · rw [if_neg hab] at h0; omega
theorem com_stop : ∀ {l w : List UInt8}, com l w < l.length → com l w < w.length → l[com l w]? ≠ w[com l w]? := by
  intro l w h1 h2 h
  have := com_step (Nat.le_refl _) h1 h2 h
  omega

theorem kd_le (c : Nat) : kd c ≤ 12 ∧ kd c ≠ 11 := by
  unfold kd
  repeat' split
  all_goals omega
theorem kd_word {c : Nat} (h0 : kd c ≠ 0) (h1 : kd c ≠ 10) (h2 : kd c ≠ 12) : 1 ≤ kd c ∧ kd c ≤ 9 := by
  unfold kd at *
  repeat' split at h0
  all_goals simp_all
theorem wordL_len {k : Nat} (h : 1 ≤ k) (h9 : k ≤ 9) : 1 ≤ (wordL k).length ∧ (wordL k).length ≤ 5 := by
  unfold wordL
  repeat' split
  all_goals first | (simp; done) | omega

/-- What a token's bytes give, whatever is read. -/
def RF (l : List UInt8) (d : RD) : Prop :=
  (d.e = 0 ∧ 0 < d.n ∧ d.n ≤ l.length ∧ 1 ≤ d.k ∧ d.k ≤ 12) ∨ (d.e ≠ 0 ∧ d = bad d.n d.e ∧ d.n ≤ l.length)
theorem rd_cons (c : UInt8) (r : List UInt8) : rd (c :: r) = if kd c.toNat = 0 then bad 0 100 else if kd c.toNat = 10 then num (c :: r) else if kd c.toNat = 12 then txt (c :: r) else wrd (kd c.toNat) (c :: r) := rfl
theorem bad_facts (l : List UInt8) {n e : Nat} (he : e ≠ 0) (hn : n ≤ l.length) : RF l (bad n e) := Or.inr ⟨he, rfl, hn⟩
theorem num_facts (l : List UInt8) : RF l (num l) := by
  have hle := (mX_le l).1
  unfold num
  by_cases hc : (mX l).2 = false
  · rw [if_pos hc]; exact bad_facts l (by decide) hle
  · rw [if_neg hc]
    have hpos := mX_pos l (by simpa using hc)
    split
    · left; exact ⟨rfl, hpos, hle, by show 1 ≤ 10; omega, by show 10 ≤ 12; omega⟩
    · split
      · left; exact ⟨rfl, hpos, hle, by show 1 ≤ 11; omega, by show 11 ≤ 12; omega⟩
      · exact bad_facts l (by decide) (Nat.zero_le _)
theorem txt_facts (l : List UInt8) : RF l (txt l) := by
  unfold txt
  by_cases hu : (unq l).2.2.2 = 0
  · rw [if_pos hu]
    have := unq_two hu
    left; exact ⟨rfl, by show 0 < (unq l).2.1; omega, this.2, by show 1 ≤ 12; omega, by show 12 ≤ 12; omega⟩
  · rw [if_neg hu]
    rcases go_facts l q0 0 with ⟨h, _⟩ | ⟨_, _, _, h4, _⟩
    · exact absurd h hu
    · exact bad_facts l hu (by rw [Nat.zero_add] at h4; exact h4)
theorem wrd_facts {k : Nat} (l : List UInt8) (h1 : 1 ≤ k) (h9 : k ≤ 9) : RF l (wrd k l) := by
  have hl := wordL_len h1 h9
  have hc := com_le l (wordL k)
  unfold wrd
  split
  · rename_i he
    left; exact ⟨rfl, by show 0 < (wordL k).length; omega, by show (wordL k).length ≤ _; omega, h1, by show k ≤ 12; omega⟩
  · exact bad_facts l (by decide) hc.1
theorem rd_facts (l : List UInt8) : RF l (rd l) := by
  match l with
  | [] => exact bad_facts [] (by decide) (Nat.zero_le _)
  | c :: r =>
    rw [rd_cons]
    by_cases h0 : kd c.toNat = 0
    · rw [if_pos h0]; exact bad_facts _ (by decide) (Nat.zero_le _)
    rw [if_neg h0]
    by_cases h1 : kd c.toNat = 10
    · rw [if_pos h1]; exact num_facts _
    rw [if_neg h1]
    by_cases h2 : kd c.toNat = 12
    · rw [if_pos h2]; exact txt_facts _
    rw [if_neg h2]
    have hw := kd_word h0 h1 h2
    exact wrd_facts _ hw.1 hw.2
end Lx
end Go.Proofs.YtodmlgbomhmbpaaGreatDoor
