/-
  What is proved here: plain facts of the lexer's errors: an error's offset is the least, and what stands behind it does not matter; no program in this text; no condition but those that each fact states.
-/
import Derived.Test.YtodmlgbomhmbpaaGreatDoorLRefB
namespace Go.Proofs.YtodmlgbomhmbpaaGreatDoor
namespace Lx
open Ut Go.Lib

theorem skd_ge (l : List UInt8) (k : Nat) : k ≤ (skd l k).1 := by unfold skd; show k ≤ k + _; omega
theorem mS_ge (l : List UInt8) (k : Nat) : k ≤ mS l k := by unfold mS; split <;> omega
theorem st_app {a l b : List UInt8} (h : l ≠ []) : st a (l ++ b) = st a l := by
  cases l with
  | nil => exact absurd rfl h
  | cons x r => rfl
theorem st_take {a l : List UInt8} {n : Nat} (h : 0 < n) : st a (l.take n) = st a l := by
  cases l with
  | nil => simp
  | cons x r =>
    cases n with
    | zero => omega
    | succ n => rfl
/-- The list is cut behind n + 1 bytes and goes on otherwise. -/
def cutT (l : List UInt8) (n : Nat) (b : List UInt8) : List UInt8 := l.take (n + 1) ++ b
theorem cut_len {l : List UInt8} {n : Nat} (b : List UInt8) (h : n < l.length) : n < (cutT l n b).length := by
  unfold cutT; rw [List.length_append, List.length_take]; omega
theorem cut_drop {l : List UInt8} {n k : Nat} (b : List UInt8) (h : n < l.length) (hk : k ≤ n) : (cutT l n b).drop k = cutT (l.drop k) (n - k) b := by
  unfold cutT
  rw [List.drop_append_of_le_length (by rw [List.length_take]; omega), List.drop_take]
  congr 2
  omega
theorem st_cut {a l : List UInt8} {n k : Nat} (b : List UInt8) (h : n < l.length) (hk : k ≤ n) : st a ((cutT l n b).drop k) = st a (l.drop k) := by
  rw [cut_drop b h hk]
  unfold cutT
  have hne : (l.drop k).take (n - k + 1) ≠ [] := by
    intro e
    have := congrArg List.length e
    rw [List.length_take, List.length_drop, List.length_nil] at this
    omega
  rw [st_app hne, st_take (by omega)]
theorem st_tk {a l : List UInt8} {n k : Nat} (hk : k < n) : st a ((l.take n).drop k) = st a (l.drop k) := by
  rw [List.drop_take, st_take (by omega)]
theorem cnt_tk {a l : List UInt8} {n k : Nat} (hk : k + cnt a (l.drop k) ≤ n) : cnt a ((l.take n).drop k) = cnt a (l.drop k) := by
  have hstep : ∀ j, j ≤ cnt a (l.drop k) → j ≤ cnt a ((l.take n).drop k) := by
    intro j
    induction j with
    | zero => intro _; omega
    | succ j ih =>
      intro hj
      refine cnt_step (ih (by omega)) ?_
      rw [List.drop_drop, st_tk (by omega)]
      have := cnt_go (a := a) (l := l.drop k) (k := j) (by omega)
      rwa [List.drop_drop] at this
  refine cnt_end (hstep _ (Nat.le_refl _)) ?_
  rw [List.drop_drop]
  rcases Nat.lt_or_ge (k + cnt a (l.drop k)) n with h1 | h1
  · rw [st_tk h1]
    have := cnt_stop a (l.drop k)
    rwa [List.drop_drop] at this
  · rw [List.drop_of_length_le (by rw [List.length_take]; omega)]; rfl
/-- l' is l up to n, and starts nothing at n that l doesn't. -/
structure Loc (l l' : List UInt8) (n : Nat) : Prop where
  S : ∀ a k, k < n → st a (l'.drop k) = st a (l.drop k)
  E : ∀ a, st a (l.drop n) = false → st a (l'.drop n) = false
theorem Loc.cut {l : List UInt8} {n : Nat} (b : List UInt8) (h : n < l.length) : Loc l (cutT l n b) n :=
  ⟨fun a k hk => st_cut b h (by omega), fun a ha => by rw [st_cut b h (Nat.le_refl _)]; exact ha⟩
theorem Loc.tk (l : List UInt8) (n : Nat) : Loc l (l.take n) n :=
  ⟨fun a k hk => st_tk hk, fun a _ => by rw [List.drop_of_length_le (by rw [List.length_take]; omega)]; rfl⟩
section
variable {l l' : List UInt8} {n : Nat}
theorem Loc.st (h : Loc l l' n) {a : List UInt8} {k : Nat} (hk : k ≤ n) (hc : Lx.st a (l.drop k) = true → k < n) : Lx.st a (l'.drop k) = Lx.st a (l.drop k) := by
  rcases Nat.lt_or_ge k n with h1 | h1
  · exact h.S a k h1
  · have hkn : k = n := by omega
    subst hkn
    rcases hb : Lx.st a (l.drop k) with _ | _
    · exact h.E a hb
    · have := hc hb; omega
theorem Loc.cnt (h : Loc l l' n) {a : List UInt8} {k : Nat} (hk : k + Lx.cnt a (l.drop k) ≤ n) : Lx.cnt a (l'.drop k) = Lx.cnt a (l.drop k) := by
  have hstep : ∀ j, j ≤ Lx.cnt a (l.drop k) → j ≤ Lx.cnt a (l'.drop k) := by
    intro j
    induction j with
    | zero => intro _; omega
    | succ j ih =>
      intro hj
      refine cnt_step (ih (by omega)) ?_
      rw [List.drop_drop, h.S a (k + j) (by omega)]
      have := cnt_go (a := a) (l := l.drop k) (k := j) (by omega)
      rwa [List.drop_drop] at this
  refine cnt_end (hstep _ (Nat.le_refl _)) ?_
  have hs := cnt_stop a (l.drop k)
  rw [List.drop_drop] at hs ⊢
  rw [h.st hk (fun h2 => by rw [hs] at h2; cases h2)]
  exact hs
theorem Loc.skd (h : Loc l l' n) {k : Nat} (hk : (Lx.skd l k).1 ≤ n) : Lx.skd l' k = Lx.skd l k := by
  unfold Lx.skd at hk ⊢
  rw [h.cnt hk]
theorem Loc.mX (h : Loc l l' n) (hn : (Lx.mX l).1 ≤ n) : Lx.mX l' = Lx.mX l := by
  have h1 := (mX_le l).2
  have h2 := (mF_le l).2
  have h3 := sgn_mI l
  have hs : sgn l' = sgn l := by
    unfold sgn
    have := h.st (a := [45]) (k := 0) (Nat.zero_le _) (fun h4 => by
      have h5 : sgn l = 1 := by unfold sgn; rw [List.drop_zero] at h4; rw [if_pos h4]
      omega)
    rw [List.drop_zero, List.drop_zero] at this
    rw [this]
  have hI : mI l' = mI l := by
    unfold mI
    rw [hs]
    have e := h.st (a := [48]) (k := sgn l) (by omega) (fun h4 => by
      have h5 : (mI l).1 = sgn l + 1 := by unfold mI; rw [if_pos h4]
      omega)
    rw [e]
    split
    · rfl
    · rename_i h4
      have h5 : (mI l).1 = (Lx.skd l (sgn l)).1 := by unfold mI; rw [if_neg h4]
      exact h.skd (by omega)
  have hF : mF l' = mF l := by
    unfold mF
    rw [hI]
    rcases hc : (mI l).2 with _ | _
    · rfl
    · have e := h.st (a := [46]) (k := (mI l).1) (by omega) (fun h4 => by
        have h5 : (mF l).1 = (Lx.skd l ((mI l).1 + 1)).1 := by unfold mF; rw [hc, h4]; rfl
        have h6 := skd_ge l ((mI l).1 + 1)
        omega)
      rw [e]
      split
      · rename_i h4
        have h5 : (mF l).1 = (Lx.skd l ((mI l).1 + 1)).1 := by unfold mF; rw [hc, if_pos h4]
        exact h.skd (by omega)
      · rfl
  unfold Lx.mX at hn ⊢
  rw [hF]
  rcases hc : (mF l).2 with _ | _
  · rfl
  · have hX : (Lx.mX l).1 ≤ n := hn
    have e := h.st (a := [101, 69]) (k := (mF l).1) (by omega) (fun h4 => by
      have h5 : (Lx.mX l).1 = (Lx.skd l (mS l ((mF l).1 + 1))).1 := by unfold Lx.mX; rw [hc, h4]; rfl
      have h6 := skd_ge l (mS l ((mF l).1 + 1))
      have h7 := mS_ge l ((mF l).1 + 1)
      omega)
    rw [e]
    split
    · rename_i h4
      have h5 : (Lx.mX l).1 = (Lx.skd l (mS l ((mF l).1 + 1))).1 := by unfold Lx.mX; rw [hc, if_pos h4]
      have h6 := skd_ge l (mS l ((mF l).1 + 1))
      have h7 := mS_ge l ((mF l).1 + 1)
      have hm : mS l' ((mF l).1 + 1) = mS l ((mF l).1 + 1) := by
        unfold mS
        have e2 := h.st (a := [43, 45]) (k := (mF l).1 + 1) (by omega) (fun h8 => by
          have h9 : mS l ((mF l).1 + 1) = (mF l).1 + 1 + 1 := by unfold mS; rw [if_pos h8]
          omega)
        rw [e2]
      rw [hm]
      exact h.skd (by omega)
    · rfl
end
theorem take_hd {c : UInt8} {r : List UInt8} {n : Nat} (h : 0 < n) : ∃ r', (c :: r).take n = c :: r' := by
  cases n with
  | zero => omega
  | succ n => exact ⟨r.take n, by simp⟩
theorem cut_hd (c : UInt8) (r : List UInt8) (n : Nat) (b : List UInt8) : ∃ r', cutT (c :: r) n b = c :: r' := ⟨r.take n ++ b, by unfold cutT; simp⟩
theorem com_cons (a c : UInt8) (x y : List UInt8) : com (a :: x) (c :: y) = if a = c then com x y + 1 else 0 := rfl
theorem com_nil (w : List UInt8) : com [] w = 0 := by cases w <;> rfl
theorem com_tk : ∀ (l w : List UInt8), com (l.take (com l w)) w = com l w
  | [], w => by rw [List.take_nil]
  | a :: x, [] => by
    have : ∀ z : List UInt8, com z [] = 0 := fun z => by cases z <;> rfl
    rw [this, this]
  | a :: x, b :: y => by
    by_cases h : a = b
    · have e : com (a :: x) (b :: y) = com x y + 1 := by rw [com_cons, if_pos h]
      rw [e, List.take_succ_cons, com_cons, if_pos h, com_tk x y]
    · have e : com (a :: x) (b :: y) = 0 := by rw [com_cons, if_neg h]
      rw [e, List.take_zero, com_nil]
theorem com_cut (b : List UInt8) : ∀ (l w : List UInt8), com l w < l.length → com (cutT l (com l w) b) w = com l w
  | [], w, h => by rw [com_nil] at h; cases h
  | a :: x, [], _ => by
    have : ∀ z : List UInt8, com z [] = 0 := fun z => by cases z <;> rfl
    rw [this, this]
  | a :: x, c :: y, h => by
    by_cases hac : a = c
    · have e : com (a :: x) (c :: y) = com x y + 1 := by rw [com_cons, if_pos hac]
      rw [e] at h ⊢
      have e2 : cutT (a :: x) (com x y + 1) b = a :: cutT x (com x y) b := by unfold cutT; rw [List.take_succ_cons]; rfl
      rw [e2, com_cons, if_pos hac, com_cut b x y (by simp at h; omega)]
    · have e : com (a :: x) (c :: y) = 0 := by rw [com_cons, if_neg hac]
      rw [e]
      have e2 : cutT (a :: x) 0 b = a :: b := by unfold cutT; simp
      rw [e2, com_cons, if_neg hac]
/-- The least offset of an error; what stands behind it does not matter. -/
theorem rd_loc (c : UInt8) (r : List UInt8) (he : (rd (c :: r)).e ≠ 0) (h1 : (rd (c :: r)).e ≠ 101) :
    (0 < (rd (c :: r)).n → ∃ x, x ≠ 0 ∧ rd ((c :: r).take (rd (c :: r)).n) = bad (rd (c :: r)).n x) ∧
    ((rd (c :: r)).n < (c :: r).length → ∀ b, rd (cutT (c :: r) (rd (c :: r)).n b) = rd (c :: r)) := by
  by_cases h0 : kd c.toNat = 0
  · have e : rd (c :: r) = bad 0 100 := by rw [rd_cons, if_pos h0]
    rw [e]
    refine ⟨fun h => absurd h (by decide), fun _ b => ?_⟩
    obtain ⟨r', hr⟩ := cut_hd c r 0 b
    show rd (cutT (c :: r) 0 b) = _
    rw [hr, rd_cons, if_pos h0]
  · by_cases h10 : kd c.toNat = 10
    · have e : ∀ r', rd (c :: r') = num (c :: r') := fun r' => by rw [rd_cons, if_neg h0, if_pos h10]
      rw [e] at he h1 ⊢
      have hc : (mX (c :: r)).2 = false := by
        rcases hb : (mX (c :: r)).2 with _ | _
        · rfl
        · exfalso
          unfold num at he h1
          rw [if_neg (by rw [hb]; simp)] at he h1
          revert he h1
          split
          · intro he _; exact he rfl
          · split
            · intro he _; exact he rfl
            · intro _ h1; exact h1 rfl
      have hn := num_inc hc
      rw [hn]
      show (0 < (mX (c :: r)).1 → ∃ x, x ≠ 0 ∧ rd ((c :: r).take (mX (c :: r)).1) = bad (mX (c :: r)).1 x) ∧ ((mX (c :: r)).1 < (c :: r).length → ∀ b, rd (cutT (c :: r) (mX (c :: r)).1 b) = bad (mX (c :: r)).1 100)
      refine ⟨fun hp => ⟨100, by decide, ?_⟩, fun hlt b => ?_⟩
      · have hm := (Loc.tk (c :: r) (mX (c :: r)).1).mX (Nat.le_refl _)
        obtain ⟨r', hr⟩ := take_hd (c := c) (r := r) hp
        rw [hr] at hm ⊢
        rw [e, num_inc (by rw [hm]; exact hc), hm]
      · have hm := (Loc.cut b hlt).mX (Nat.le_refl _)
        obtain ⟨r', hr⟩ := cut_hd c r (mX (c :: r)).1 b
        rw [hr] at hm ⊢
        rw [e, num_inc (by rw [hm]; exact hc), hm]
    · by_cases h12 : kd c.toNat = 12
      · have e : ∀ r', rd (c :: r') = Lx.txt (c :: r') := fun r' => by rw [rd_cons, if_neg h0, if_neg h10, if_pos h12]
        rw [e] at he h1 ⊢
        have hu : (unq (c :: r)).2.2.2 ≠ 0 := by
          intro h
          unfold Lx.txt at he
          rw [if_pos h] at he
          exact he rfl
        have ht : Lx.txt (c :: r) = bad (unq (c :: r)).2.2.1 (unq (c :: r)).2.2.2 := by unfold Lx.txt; rw [if_neg hu]
        rw [ht]
        rcases go_facts (c :: r) q0 0 with ⟨h, _⟩ | ⟨_, _, _, h4, _, _, h7, h8⟩
        · exact absurd h hu
        · change (unq (c :: r)).2.2.1 ≤ 0 + (c :: r).length at h4
          change go q0 ((c :: r).take ((unq (c :: r)).2.2.1 - 0)) 0 = ([], 0, (unq (c :: r)).2.2.1, 3) at h7
          change (unq (c :: r)).2.2.1 < 0 + (c :: r).length → ∀ b, go q0 ((c :: r).take ((unq (c :: r)).2.2.1 - 0 + 1) ++ b) 0 = unq (c :: r) at h8
          rw [Nat.sub_zero] at h7 h8
          rw [Nat.zero_add] at h8
          refine ⟨fun hp => ⟨3, by decide, ?_⟩, fun hlt b => ?_⟩
          · have hp' : 0 < (unq (c :: r)).2.2.1 := hp
            obtain ⟨r', hr⟩ := take_hd (c := c) (r := r) hp'
            show rd ((c :: r).take (unq (c :: r)).2.2.1) = bad (unq (c :: r)).2.2.1 3
            rw [hr] at h7 ⊢
            rw [e]
            unfold Lx.txt
            have h7' : unq (c :: r') = ([], 0, (unq (c :: r)).2.2.1, 3) := h7
            rw [h7', if_neg (show ¬ (3 : Nat) = 0 by decide)]
          · have h8' := h8 hlt b
            obtain ⟨r', hr⟩ := cut_hd c r (unq (c :: r)).2.2.1 b
            show rd (cutT (c :: r) (unq (c :: r)).2.2.1 b) = _
            have h9 : unq (c :: r') = unq (c :: r) := by rw [← hr]; exact h8'
            rw [hr, e]
            unfold Lx.txt
            rw [h9, if_neg hu]
      · have hw := kd_word h0 h10 h12
        have e : ∀ r', rd (c :: r') = wrd (kd c.toNat) (c :: r') := fun r' => by rw [rd_cons, if_neg h0, if_neg h10, if_neg h12]
        rw [e] at he h1 ⊢
        have hne : com (c :: r) (wordL (kd c.toNat)) ≠ (wordL (kd c.toNat)).length := by
          intro h
          unfold wrd at he
          rw [if_pos h] at he
          exact he rfl
        have ht : wrd (kd c.toNat) (c :: r) = bad (com (c :: r) (wordL (kd c.toNat))) 100 := by unfold wrd; rw [if_neg hne]
        rw [ht]
        show (0 < com (c :: r) (wordL (kd c.toNat)) → ∃ x, x ≠ 0 ∧ rd ((c :: r).take (com (c :: r) (wordL (kd c.toNat)))) = bad (com (c :: r) (wordL (kd c.toNat))) x) ∧
          (com (c :: r) (wordL (kd c.toNat)) < (c :: r).length → ∀ b, rd (cutT (c :: r) (com (c :: r) (wordL (kd c.toNat))) b) = bad (com (c :: r) (wordL (kd c.toNat))) 100)
        refine ⟨fun hp => ⟨100, by decide, ?_⟩, fun hlt b => ?_⟩
        · have hm := com_tk (c :: r) (wordL (kd c.toNat))
          obtain ⟨r', hr⟩ := take_hd (c := c) (r := r) hp
          rw [hr] at hm ⊢
          rw [e]
          unfold wrd
          rw [hm, if_neg hne]
        · have hm := com_cut b (c :: r) (wordL (kd c.toNat)) hlt
          obtain ⟨r', hr⟩ := cut_hd c r (com (c :: r) (wordL (kd c.toNat))) b
          rw [hr] at hm ⊢
          rw [e]
          unfold wrd
          rw [hm, if_neg hne]
theorem tok_eq {l : List UInt8} {c : UInt8} {r : List UInt8} (h : l.drop (cnt wsL l) = c :: r) : tok l 0 = tokR (cnt wsL l) (rd (c :: r)) := by
  have hl : cnt wsL l < l.length := by
    have := congrArg List.length h
    rw [List.length_drop, List.length_cons] at this
    omega
  unfold tok
  rw [List.drop_zero, Nat.zero_add, if_neg (by omega), h]
theorem tokR_bad (f n x : Nat) (h : x ≠ 0) : tokR f (bad n x) = ⟨0, f + n, f + n, 0, 0, [], x⟩ := by unfold tokR; rw [if_neg (show (bad n x).e ≠ 0 from h)]; rfl
/-- LexPlace, plainly. -/
theorem tok_place (l : List UInt8) (he : (tok l 0).e ≠ 0) (h1 : (tok l 0).e ≠ 101) :
    (tok l 0).f ≤ l.length ∧ tok l 0 = ⟨0, (tok l 0).f, (tok l 0).f, 0, 0, [], (tok l 0).e⟩ ∧
    ((tok (l.take (tok l 0).f) 0).e = 0 ∨ (tok (l.take (tok l 0).f) 0).f = (tok l 0).f) ∧
    ((tok l 0).f < l.length → ∀ b, tok (cutT l (tok l 0).f b) 0 = tok l 0) := by
  have hB := cnt_le wsL l
  cases hd : l.drop (cnt wsL l) with
  | nil =>
    exfalso
    have hl := congrArg List.length hd
    rw [List.length_drop, List.length_nil] at hl
    apply he
    unfold tok
    rw [List.drop_zero, Nat.zero_add, if_pos (by omega)]
  | cons c r =>
    have hws : st wsL (c :: r) = false := by have := cnt_stop wsL l; rwa [hd] at this
    have hlen : (c :: r).length = l.length - cnt wsL l := by rw [← hd, List.length_drop]
    rw [tok_eq hd] at he h1 ⊢
    have hre : (rd (c :: r)).e ≠ 0 := by intro h; apply he; unfold tokR; rw [if_pos h]
    have hbad : rd (c :: r) = bad (rd (c :: r)).n (rd (c :: r)).e := by
      rcases rd_facts (c :: r) with h | h
      · exact absurd h.1 hre
      · exact h.2.1
    have hnle : (rd (c :: r)).n ≤ (c :: r).length := by
      rcases rd_facts (c :: r) with h | h
      · exact h.2.2.1
      · exact h.2.2
    obtain ⟨n, hn⟩ : ∃ n, (rd (c :: r)).n = n := ⟨_, rfl⟩
    obtain ⟨x, hx⟩ : ∃ x, (rd (c :: r)).e = x := ⟨_, rfl⟩
    have hT : tokR (cnt wsL l) (rd (c :: r)) = ⟨0, cnt wsL l + n, cnt wsL l + n, 0, 0, [], x⟩ := by rw [hbad, hn, hx]; exact tokR_bad _ _ _ (by rw [← hx]; exact hre)
    have h101 : (rd (c :: r)).e ≠ 101 := by
      rw [hT] at h1; rw [hx]; exact h1
    obtain ⟨p1, p2⟩ := rd_loc c r hre h101
    rw [hn] at p1 p2 hnle
    rw [hT]
    show cnt wsL l + n ≤ l.length ∧ _ ∧ ((tok (l.take (cnt wsL l + n)) 0).e = 0 ∨ (tok (l.take (cnt wsL l + n)) 0).f = cnt wsL l + n) ∧ (cnt wsL l + n < l.length → ∀ b, tok (cutT l (cnt wsL l + n) b) 0 = _)
    have hle1 : cnt wsL l + n ≤ l.length := by clear p1 p2; omega
    refine ⟨hle1, rfl, ?_, fun hlt b => ?_⟩
    · have hc : cnt wsL (l.take (cnt wsL l + n)) = cnt wsL l := by
        have := cnt_tk (a := wsL) (l := l) (n := cnt wsL l + n) (k := 0) (by rw [List.drop_zero, Nat.zero_add]; omega)
        rwa [List.drop_zero, List.drop_zero] at this
      rcases Nat.eq_zero_or_pos n with h0 | h0
      · left
        unfold tok
        rw [List.drop_zero, Nat.zero_add, hc, if_pos (by rw [List.length_take]; omega)]
      · right
        obtain ⟨x', hx', hr'⟩ := p1 h0
        obtain ⟨r', hr⟩ := take_hd (c := c) (r := r) h0
        have hdd : (l.take (cnt wsL l + n)).drop (cnt wsL (l.take (cnt wsL l + n))) = c :: r' := by
          rw [hc, List.drop_take, hd, show cnt wsL l + n - cnt wsL l = n by omega, hr]
        rw [tok_eq hdd, hc, ← hr, hr', tokR_bad _ _ _ hx']
    · have hc : cnt wsL (cutT l (cnt wsL l + n) b) = cnt wsL l := by
        have h := (Loc.cut b hlt).cnt (a := wsL) (k := 0) (by rw [List.drop_zero, Nat.zero_add]; omega)
        rwa [List.drop_zero, List.drop_zero] at h
      obtain ⟨r', hr⟩ := cut_hd c r n b
      have hdd : (cutT l (cnt wsL l + n) b).drop (cnt wsL (cutT l (cnt wsL l + n) b)) = c :: r' := by
        rw [hc, cut_drop b hlt (by omega), hd, show cnt wsL l + n - cnt wsL l = n by omega, hr]
      have hlt2 : n < (c :: r).length := by clear p1 p2; omega
      rw [tok_eq hdd, hc, ← hr, p2 hlt2 b, hT]
end Lx
end Go.Proofs.YtodmlgbomhmbpaaGreatDoor
