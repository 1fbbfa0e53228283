/-
  What is proved here: plain facts of the decoder: where it stops, what it says of prefixes; no program in this text; no condition but those that each fact states.
-/
import Derived.Test.YtddgmpmfdgfcdaaGetW
namespace Go.Proofs.Ytddgmpmfdgfcdaa
open Bs

theorem dec_one (c0 : UInt8) : dec [c0] = (none, (grp [c0]).2) := rfl
theorem dec_two (c0 c1 : UInt8) : dec [c0, c1] = (none, (grp [c0, c1]).2) := rfl
theorem dec_three (c0 c1 c2 : UInt8) : dec [c0, c1, c2] = (none, (grp [c0, c1, c2]).2) := rfl
theorem dec_none {c0 c1 c2 c3 : UInt8} {r : List UInt8} {n : Nat} (h : grp [c0, c1, c2, c3] = (none, n)) : dec (c0 :: c1 :: c2 :: c3 :: r) = (none, n) := by simp [dec, h]
theorem dec_pad {c0 c1 c2 c3 : UInt8} {r p : List UInt8} {n : Nat} (h : grp [c0, c1, c2, c3] = (some p, n)) (hp : p.length < 3) (hr : r ≠ []) : dec (c0 :: c1 :: c2 :: c3 :: r) = (none, 4) := by simp [dec, h, hp, hr]
theorem dec_last {c0 c1 c2 c3 : UInt8} {p : List UInt8} {n : Nat} (h : grp [c0, c1, c2, c3] = (some p, n)) : dec [c0, c1, c2, c3] = (some p, 0) := by
  by_cases hp : p.length < 3 <;> simp [dec, h, hp]
theorem dec_full {c0 c1 c2 c3 : UInt8} {r p : List UInt8} {n : Nat} (h : grp [c0, c1, c2, c3] = (some p, n)) (hp : ¬ p.length < 3) :
    dec (c0 :: c1 :: c2 :: c3 :: r) = (match dec r with | (none, k) => (none, k + 4) | (some q, _) => (some (p ++ q), 0)) := by
  rcases hd : dec r with ⟨_ | q, k⟩ <;> simp [dec, h, hp, hd]

/-- Prefixes of an encoding. -/
theorem dec_cut : ∀ (b : List UInt8) (k : Nat), k ≤ (enc b).length → dec ((enc b).take k) = if k % 4 = 0 then (some (b.take (k / 4 * 3)), 0) else (none, k)
  | [], k, h => by
    have : k = 0 := by simpa [enc] using h
    subst this
    rfl
  | [a], k, h => by
    have h4 : k ≤ 4 := by simpa [enc, g1] using h
    have hm : a.toNat % 4 * 16 % 16 = 0 := by omega
    rcases (show k = 0 ∨ k = 1 ∨ k = 2 ∨ k = 3 ∨ k = 4 by omega) with rfl | rfl | rfl | rfl | rfl
    · rfl
    · show dec [al (a.toNat / 4)] = _
      rw [dec_one]; simp only [grp, nu_e0]; rfl
    · show dec [al (a.toNat / 4), al (a.toNat % 4 * 16)] = _
      rw [dec_two]; simp only [grp, nu_e0, nu_e1']; rfl
    · show dec [al (a.toNat / 4), al (a.toNat % 4 * 16), 61] = _
      rw [dec_three]; simp only [grp, nu_e0, nu_e1', nu_61, hm, and_self, if_true]; rfl
    · rw [List.take_of_length_le (by simp [enc, g1]), dec_enc]; rfl
  | [a, b], k, h => by
    have h4 : k ≤ 4 := by simpa [enc, g2] using h
    rcases (show k = 0 ∨ k = 1 ∨ k = 2 ∨ k = 3 ∨ k = 4 by omega) with rfl | rfl | rfl | rfl | rfl
    · rfl
    · show dec [al (a.toNat / 4)] = _
      rw [dec_one]; simp only [grp, nu_e0]; rfl
    · show dec [al (a.toNat / 4), al (a.toNat % 4 * 16 + b.toNat / 16)] = _
      rw [dec_two]; simp only [grp, nu_e0, nu_e1]; rfl
    · show dec [al (a.toNat / 4), al (a.toNat % 4 * 16 + b.toNat / 16), al (b.toNat % 16 * 4)] = _
      rw [dec_three]; simp only [grp, nu_e0, nu_e1, nu_e2']; rfl
    · rw [List.take_of_length_le (by simp [enc, g2]), dec_enc]; rfl
  | a :: b :: c :: t, k, h => by
    have e : enc (a :: b :: c :: t) = al (a.toNat / 4) :: al (a.toNat % 4 * 16 + b.toNat / 16) :: al (b.toNat % 16 * 4 + c.toNat / 64) :: al (c.toNat % 64) :: enc t := rfl
    rw [e] at h ⊢
    by_cases h4 : k < 4
    · rcases (show k = 0 ∨ k = 1 ∨ k = 2 ∨ k = 3 by omega) with rfl | rfl | rfl | rfl
      · rfl
      · show dec [al (a.toNat / 4)] = _
        rw [dec_one]; simp only [grp, nu_e0]; rfl
      · show dec [al (a.toNat / 4), al (a.toNat % 4 * 16 + b.toNat / 16)] = _
        rw [dec_two]; simp only [grp, nu_e0, nu_e1]; rfl
      · show dec [al (a.toNat / 4), al (a.toNat % 4 * 16 + b.toNat / 16), al (b.toNat % 16 * 4 + c.toNat / 64)] = _
        rw [dec_three]; simp only [grp, nu_e0, nu_e1, nu_e2]; rfl
    · obtain ⟨j, rfl⟩ : ∃ j, k = j + 4 := ⟨k - 4, by omega⟩
      have ih := dec_cut t j (by simpa using h)
      simp only [List.take_succ_cons]
      have hg := grp_g3 a b c
      unfold g3 at hg
      rw [dec_full hg (by simp), ih]
      by_cases hj : j % 4 = 0
      · rw [if_pos hj, if_pos (by omega), show (j + 4) / 4 * 3 = (j / 4 * 3) + 3 by omega]
        rfl
      · rw [if_neg hj, if_neg (by omega)]

def moreL : List (List UInt8) := [[], [65], [61], [65, 65], [65, 61], [61, 61], [65, 65, 65], [65, 65, 61], [65, 61, 61]]
theorem nu_A : nu 65 = some 0 := by decide
/-- Where a group stops. -/
theorem grp_place {l : List UInt8} {n : Nat} (h : grp l = (none, n)) : n ≤ l.length ∧ (∃ m ∈ moreL, (dec (l.take n ++ m)).1.isSome = true) ∧ (n < l.length → ∀ t, grp (l.take (n + 1) ++ t) = (none, n)) := by
  rcases l with _ | ⟨c0, l1⟩
  · obtain rfl : n = 0 := by simp [grp] at h; omega
    exact ⟨Nat.le_refl _, ⟨[], by simp [moreL], rfl⟩, fun h => by simp at h⟩
  rcases h0 : nu c0 with _ | v0
  · obtain rfl : n = 0 := by simp [grp, h0] at h; omega
    exact ⟨Nat.zero_le _, ⟨[], by simp [moreL], rfl⟩, fun _ t => by simp [grp, h0]⟩
  have one : (dec [c0, 65, 61, 61]).1.isSome = true := by simp [dec, grp, h0, nu_A, nu_61]
  rcases l1 with _ | ⟨c1, l2⟩
  · obtain rfl : n = 1 := by simp [grp, h0] at h; omega
    exact ⟨Nat.le_refl _, ⟨[65, 61, 61], by simp [moreL], one⟩, fun h => by simp at h⟩
  rcases h1 : nu c1 with _ | v1
  · obtain rfl : n = 1 := by simp [grp, h0, h1] at h; omega
    exact ⟨by simp, ⟨[65, 61, 61], by simp [moreL], one⟩, fun _ t => by simp [grp, h0, h1]⟩
  clear one
  have two : (dec [c0, c1, 65, 65]).1.isSome = true := by simp [dec, grp, h0, h1, nu_A]
  rcases l2 with _ | ⟨c2, l3⟩
  · obtain rfl : n = 2 := by simp [grp, h0, h1] at h; omega
    exact ⟨Nat.le_refl _, ⟨[65, 65], by simp [moreL], two⟩, fun h => by simp at h⟩
  rcases h2 : nu c2 with _ | v2
  · by_cases hc : c2 = 61 ∧ v1 % 16 = 0
    · obtain ⟨rfl, hv⟩ := hc
      have three : (dec [c0, c1, 61, 61]).1.isSome = true := by simp [dec, grp, h0, h1, nu_61, hv]
      rcases l3 with _ | ⟨c3, r⟩
      · obtain rfl : n = 3 := by simp [grp, h0, h1, nu_61, hv] at h; omega
        exact ⟨Nat.le_refl _, ⟨[61], by simp [moreL], three⟩, fun h => by simp at h⟩
      · by_cases h3 : c3 = 61
        · simp [grp, h0, h1, nu_61, hv, h3] at h
        · obtain rfl : n = 3 := by simp [grp, h0, h1, nu_61, hv, h3] at h; omega
          exact ⟨by simp, ⟨[61], by simp [moreL], three⟩, fun _ t => by simp [grp, h0, h1, nu_61, hv, h3]⟩
    · obtain rfl : n = 2 := by simp [grp, h0, h1, h2, hc] at h; omega
      exact ⟨by simp, ⟨[65, 65], by simp [moreL], two⟩, fun _ t => by simp [grp, h0, h1, h2, hc]⟩
  clear two
  have three : (dec [c0, c1, c2, 65]).1.isSome = true := by simp [dec, grp, h0, h1, h2, nu_A]
  rcases l3 with _ | ⟨c3, r⟩
  · obtain rfl : n = 3 := by simp [grp, h0, h1, h2] at h; omega
    exact ⟨Nat.le_refl _, ⟨[65], by simp [moreL], three⟩, fun h => by simp at h⟩
  rcases h3 : nu c3 with _ | v3
  · by_cases hc : c3 = 61 ∧ v2 % 4 = 0
    · simp [grp, h0, h1, h2, nu_61, hc] at h
    · obtain rfl : n = 3 := by simp [grp, h0, h1, h2, h3, hc] at h; omega
      exact ⟨by simp, ⟨[65], by simp [moreL], three⟩, fun _ t => by simp [grp, h0, h1, h2, h3, hc]⟩
  · simp [grp, h0, h1, h2, h3] at h
theorem dec_place : ∀ (l : List UInt8) (k : Nat), dec l = (none, k) → k ≤ l.length ∧ (∃ m ∈ moreL, (dec (l.take k ++ m)).1.isSome = true) ∧ (k < l.length → ∀ t, dec (l.take (k + 1) ++ t) = (none, k))
  | [], k, h => by simp [dec] at h
  | [c0], k, h => by
    rcases hg : grp [c0] with ⟨_ | p, n⟩
    · rw [dec_one, hg] at h
      injection h with _ h
      subst h
      obtain ⟨h1, h2, h3⟩ := grp_place hg
      exact ⟨h1, h2, fun hk t => dec_err (by simp) (h3 hk t)⟩
    · have := (grp_len hg).1; simp at this
  | [c0, c1], k, h => by
    rcases hg : grp [c0, c1] with ⟨_ | p, n⟩
    · rw [dec_two, hg] at h
      injection h with _ h
      subst h
      obtain ⟨h1, h2, h3⟩ := grp_place hg
      exact ⟨h1, h2, fun hk t => dec_err (by simp) (h3 hk t)⟩
    · have := (grp_len hg).1; simp at this
  | [c0, c1, c2], k, h => by
    rcases hg : grp [c0, c1, c2] with ⟨_ | p, n⟩
    · rw [dec_three, hg] at h
      injection h with _ h
      subst h
      obtain ⟨h1, h2, h3⟩ := grp_place hg
      exact ⟨h1, h2, fun hk t => dec_err (by simp) (h3 hk t)⟩
    · have := (grp_len hg).1; simp at this
  | c0 :: c1 :: c2 :: c3 :: r, k, h => by
    rcases hg : grp [c0, c1, c2, c3] with ⟨_ | p, n⟩
    · rw [dec_none hg] at h
      injection h with _ h
      subst h
      rw [← grp_four c0 c1 c2 c3 r] at hg
      obtain ⟨h1, h2, h3⟩ := grp_place hg
      exact ⟨h1, h2, fun hk t => dec_err (by simp) (h3 hk t)⟩
    · by_cases hp : p.length < 3
      · rcases r with _ | ⟨c4, r⟩
        · rw [dec_last hg] at h; cases h
        · rw [dec_pad hg hp (by simp)] at h
          injection h with _ h
          subst h
          refine ⟨by simp, ⟨[], by simp [moreL], ?_⟩, fun _ t => ?_⟩
          · show (dec [c0, c1, c2, c3]).1.isSome = true
            rw [dec_last hg]; rfl
          · show dec (c0 :: c1 :: c2 :: c3 :: c4 :: t) = _
            exact dec_pad hg hp (by simp)
      · rw [dec_full hg hp] at h
        rcases hd : dec r with ⟨_ | q, j⟩
        · rw [hd] at h
          injection h with _ h
          subst h
          obtain ⟨h1, ⟨m, hm, h2⟩, h3⟩ := dec_place r j hd
          refine ⟨by simpa using h1, ⟨m, hm, ?_⟩, fun hk t => ?_⟩
          · show (dec (c0 :: c1 :: c2 :: c3 :: (r.take j ++ m))).1.isSome = true
            rw [dec_full hg hp]
            rcases hq : dec (r.take j ++ m) with ⟨_ | q, i⟩
            · rw [hq] at h2; cases h2
            · rfl
          · show dec (c0 :: c1 :: c2 :: c3 :: (r.take (j + 1) ++ t)) = _
            rw [dec_full hg hp, h3 (by simpa using hk) t]
        · rw [hd] at h; cases h
end Go.Proofs.Ytddgmpmfdgfcdaa
