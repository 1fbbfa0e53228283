/-
  What is proved here: plain facts of the lexer: a token is told by its own bytes alone; no program in this text; no condition but those that each fact states.
-/
import Derived.Test.YtfmoiknpadilaaaDoorLPl
namespace Go.Proofs.YtfmoiknpadilaaaDoor
namespace Lx
open Ut Go.Lib

theorem go_own (l : List UInt8) : ∀ (q : Q) (k : Nat), (go q l k).2.2.2 = 0 → go q (l.take ((go q l k).2.1 - k)) k = go q l k := by
  induction l with
  | nil => intro q k _; rw [List.take_nil]
  | cons c r ih =>
    intro q k h0
    by_cases h : q.st = 8
    · rw [go_8 h, go_8 h]
    · by_cases hs : (Ut.step q c).2 = 0
      · rw [go_ok h hs] at h0 ⊢
        have e := ih _ _ h0
        rcases go_facts r (Ut.step q c).1 (k + 1) with ⟨_, h2, _⟩ | ⟨h1, _⟩
        · generalize hat : (go (Ut.step q c).1 r (k + 1)).2.1 = at_ at *
          have e1 : at_ - k = (at_ - (k + 1)) + 1 := by omega
          rw [e1, List.take_succ_cons, go_ok h hs]
          exact e
        · exact absurd h0 h1
      · rw [go_err h hs] at h0
        exact absurd h0 hs
theorem com_own : ∀ (l w : List UInt8), com l w = w.length → com (l.take w.length) w = w.length
  | l, [], _ => by
    have : ∀ z : List UInt8, com z [] = 0 := fun z => by cases z <;> rfl
    rw [this]; rfl
  | [], b :: y, h => by rw [com_nil] at h; simp at h
  | a :: x, b :: y, h => by
    by_cases hab : a = b
    · rw [com_cons, if_pos hab] at h
      rw [List.length_cons, List.take_succ_cons, com_cons, if_pos hab, com_own x y (by simpa using h)]
    · rw [com_cons, if_neg hab] at h
      simp at h
theorem com_len : ∀ (l w : List UInt8), com l w ≤ l.length
  | [], w => by rw [com_nil]; exact Nat.zero_le _
  | a :: x, [] => by
    have : ∀ z : List UInt8, com z [] = 0 := fun z => by cases z <;> rfl
    rw [this]; exact Nat.zero_le _
  | a :: x, b :: y => by
    rw [com_cons]
    split
    · have := com_len x y
      rw [List.length_cons]; omega
    · exact Nat.zero_le _
/-- A token's own bytes give it. -/
theorem rd_own (c : UInt8) (r : List UInt8) (he : (rd (c :: r)).e = 0) : 0 < (rd (c :: r)).n ∧ (rd (c :: r)).n ≤ (c :: r).length ∧ 1 ≤ (rd (c :: r)).k ∧ (rd (c :: r)).k ≤ 12 ∧ rd ((c :: r).take (rd (c :: r)).n) = rd (c :: r) := by
  by_cases h0 : kd c.toNat = 0
  · rw [rd_cons, if_pos h0] at he; cases he
  · by_cases h10 : kd c.toNat = 10
    · have e : ∀ r', rd (c :: r') = num (c :: r') := fun r' => by rw [rd_cons, if_neg h0, if_pos h10]
      rw [e] at he ⊢
      have hc : (mX (c :: r)).2 = true := by
        rcases hb : (mX (c :: r)).2 with _ | _
        · rw [num_inc hb] at he; cases he
        · rfl
      have hpos := mX_pos (c :: r) hc
      have hle := (mX_le (c :: r)).1
      have hnM : num (c :: r) = numM (mX (c :: r)).1 ((c :: r).take (mX (c :: r)).1) := num_M hc
      have hn : (num (c :: r)).n = (mX (c :: r)).1 ∧ 1 ≤ (num (c :: r)).k ∧ (num (c :: r)).k ≤ 12 := by
        rw [hnM] at he ⊢
        unfold numM at he ⊢
        rcases hi : parseIntB 64 ((c :: r).take (mX (c :: r)).1) with v | _ | _
        · exact ⟨rfl, by show 1 ≤ 10; decide, by show 10 ≤ 12; decide⟩
        all_goals
          rcases hu : parseUintB 64 ((c :: r).take (mX (c :: r)).1) with u | _ | _
          · exact ⟨rfl, by show 1 ≤ 11; decide, by show 11 ≤ 12; decide⟩
          all_goals
            rw [hi, hu] at he
            cases he
      rw [hn.1]
      refine ⟨hpos, hle, hn.2.1, hn.2.2, ?_⟩
      have hm := (Loc.tk (c :: r) (mX (c :: r)).1).mX (Nat.le_refl _)
      obtain ⟨r', hr⟩ := take_hd (c := c) (r := r) hpos
      rw [hnM]
      have h2 : (mX ((c :: r).take (mX (c :: r)).1)).2 = true := by rw [hm]; exact hc
      have h3 := num_M h2
      rw [hm, List.take_take, Nat.min_self] at h3
      rw [← h3, hr, e]
    · by_cases h12 : kd c.toNat = 12
      · have e : ∀ r', rd (c :: r') = Lx.txt (c :: r') := fun r' => by rw [rd_cons, if_neg h0, if_neg h10, if_pos h12]
        rw [e] at he ⊢
        have hu : (unq (c :: r)).2.2.2 = 0 := by
          rcases Nat.eq_zero_or_pos (unq (c :: r)).2.2.2 with h | h
          · exact h
          · unfold Lx.txt at he
            rw [if_neg (by omega)] at he
            exact he
        have ht : ∀ l, (unq l).2.2.2 = 0 → Lx.txt l = ⟨12, (unq l).2.1, 0, 0, (unq l).1, 0⟩ := fun l h => by unfold Lx.txt; rw [if_pos h]
        have h2 := unq_two hu
        rw [ht _ hu]
        refine ⟨by show 0 < (unq (c :: r)).2.1; omega, h2.2, by show 1 ≤ 12; decide, by show 12 ≤ 12; decide, ?_⟩
        have ho := go_own (c :: r) q0 0 hu
        rw [Nat.sub_zero] at ho
        change unq ((c :: r).take (unq (c :: r)).2.1) = unq (c :: r) at ho
        obtain ⟨r', hr⟩ := take_hd (c := c) (r := r) (n := (unq (c :: r)).2.1) (by omega)
        show rd ((c :: r).take (unq (c :: r)).2.1) = _
        rw [hr] at ho ⊢
        rw [e, ht _ (by rw [ho]; exact hu), ho]
      · have hw := kd_word h0 h10 h12
        have e : ∀ r', rd (c :: r') = wrd (kd c.toNat) (c :: r') := fun r' => by rw [rd_cons, if_neg h0, if_neg h10, if_neg h12]
        rw [e] at he ⊢
        have hc : com (c :: r) (wordL (kd c.toNat)) = (wordL (kd c.toNat)).length := by
          rcases Nat.decEq (com (c :: r) (wordL (kd c.toNat))) (wordL (kd c.toNat)).length with h | h
          · unfold wrd at he; rw [if_neg h] at he; cases he
          · exact h
        have ht : wrd (kd c.toNat) (c :: r) = ok0 (kd c.toNat) (wordL (kd c.toNat)).length := by unfold wrd; rw [if_pos hc]
        have hl : ∀ k : Nat, k < 10 → 1 ≤ k → 0 < (wordL k).length := by decide +kernel
        have hp := hl _ (by omega) hw.1
        have hlen := com_len (c :: r) (wordL (kd c.toNat))
        rw [ht]
        refine ⟨hp, by show (wordL (kd c.toNat)).length ≤ _; omega, hw.1, by show kd c.toNat ≤ 12; omega, ?_⟩
        have ho := com_own (c :: r) (wordL (kd c.toNat)) hc
        obtain ⟨r', hr⟩ := take_hd (c := c) (r := r) hp
        show rd ((c :: r).take (wordL (kd c.toNat)).length) = _
        rw [hr] at ho ⊢
        rw [e]
        unfold wrd
        rw [if_pos ho]
theorem kd_ws {c : UInt8} (h : kd c.toNat ≠ 0) : isin wsL c = false := by
  have : ∀ n : Nat, n < 256 → kd n ≠ 0 → isin wsL (UInt8.ofNat n) = false := by decide +kernel
  have h2 := this c.toNat (UInt8.toNat_lt c) h
  rwa [UInt8.ofNat_toNat] at h2
/-- A token's own bytes behind a blank and a line's end. -/
theorem own_next (c : UInt8) (r : List UInt8) (he : (rd (c :: r)).e = 0) :
    tok (32 :: 10 :: (c :: r).take (rd (c :: r)).n) 0 = ⟨(rd (c :: r)).k, 2, 2 + (rd (c :: r)).n, (rd (c :: r)).N, (rd (c :: r)).U, (rd (c :: r)).x, 0⟩ := by
  obtain ⟨h1, _, _, _, h5⟩ := rd_own c r he
  have hk : kd c.toNat ≠ 0 := by
    intro h0
    rw [rd_cons, if_pos h0] at he
    cases he
  obtain ⟨r', hr⟩ := take_hd (c := c) (r := r) h1
  rw [hr] at h5 ⊢
  have hc : cnt wsL (32 :: 10 :: c :: r') = 2 := by
    have h0 : cnt wsL (c :: r') = 0 := cnt_zero (kd_ws hk)
    show cnt wsL (32 :: 10 :: c :: r') = 2
    unfold cnt
    rw [if_pos (by decide)]
    unfold cnt
    rw [if_pos (by decide), h0]
  have := tok_eq (l := 32 :: 10 :: c :: r') (c := c) (r := r') (by rw [hc]; rfl)
  rw [this, hc, h5]
  unfold tokR
  rw [if_pos he]
/-- A token that is there: what lies before it, and its bytes. -/
theorem tok_there (l : List UInt8) (k : Nat) (he : (tok l k).e = 0) (hk : (tok l k).k ≠ 0) :
    ∃ c r, l.drop (tok l k).f = c :: r ∧ (tok l k).f = k + cnt wsL (l.drop k) ∧ (rd (c :: r)).e = 0 ∧ tok l k = ⟨(rd (c :: r)).k, (tok l k).f, (tok l k).f + (rd (c :: r)).n, (rd (c :: r)).N, (rd (c :: r)).U, (rd (c :: r)).x, 0⟩ := by
  unfold tok at he hk
  by_cases h : l.length ≤ k + cnt wsL (l.drop k)
  · rw [if_pos h] at hk
    exact absurd rfl hk
  · rw [if_neg h] at he hk
    have ht : tok l k = tokR (k + cnt wsL (l.drop k)) (rd (l.drop (k + cnt wsL (l.drop k)))) := by unfold tok; rw [if_neg h]
    have he2 : (rd (l.drop (k + cnt wsL (l.drop k)))).e = 0 := by
      rcases Nat.eq_zero_or_pos (rd (l.drop (k + cnt wsL (l.drop k)))).e with h0 | h0
      · exact h0
      · unfold tokR at he
        rw [if_neg (by omega)] at he
        exact he
    have ht2 : tok l k = ⟨(rd (l.drop (k + cnt wsL (l.drop k)))).k, k + cnt wsL (l.drop k), k + cnt wsL (l.drop k) + (rd (l.drop (k + cnt wsL (l.drop k)))).n, (rd (l.drop (k + cnt wsL (l.drop k)))).N, (rd (l.drop (k + cnt wsL (l.drop k)))).U, (rd (l.drop (k + cnt wsL (l.drop k)))).x, 0⟩ := by
      rw [ht]; unfold tokR; rw [if_pos he2]
    cases hd : l.drop (k + cnt wsL (l.drop k)) with
    | nil =>
      have := congrArg List.length hd
      rw [List.length_drop, List.length_nil] at this
      omega
    | cons c r =>
      rw [hd] at he2 ht2
      refine ⟨c, r, ?_, ?_, he2, ?_⟩
      · rw [ht2]; exact hd
      · rw [ht2]
      · rw [ht2]
end Lx
end Go.Proofs.YtfmoiknpadilaaaDoor
