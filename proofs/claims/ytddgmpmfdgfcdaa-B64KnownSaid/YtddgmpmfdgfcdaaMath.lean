/-
  What is proved here: plain facts of base64 over lists of bytes; no program in this text; no condition but those that each fact states.
-/
import Derived.Lib.Bytealg
namespace Go.Proofs.Ytddgmpmfdgfcdaa
namespace Bs

/-- The character of a number, the number of a character. -/
def alN (n : Nat) : Nat := if n < 26 then 65 + n else if n < 52 then 71 + n else if n < 62 then n - 4 else if n = 62 then 43 else 47
def al (n : Nat) : UInt8 := UInt8.ofNat (alN n)
def nuN (c : Nat) : Option Nat :=
  if 65 ≤ c ∧ c ≤ 90 then some (c - 65) else if 97 ≤ c ∧ c ≤ 122 then some (c - 71) else if 48 ≤ c ∧ c ≤ 57 then some (c + 4) else if c = 43 then some 62 else if c = 47 then some 63 else none
def nu (c : UInt8) : Option Nat := nuN c.toNat
theorem alN_lt {n : Nat} (h : n < 64) : alN n < 256 := by
  have : ∀ m : Fin 64, alN m.val < 256 := by decide
  exact this ⟨n, h⟩
theorem al_toNat {n : Nat} (h : n < 64) : (al n).toNat = alN n := by
  unfold al
  rw [UInt8.toNat_ofNat']
  have := alN_lt h
  have e : (2 : Nat) ^ 8 = 256 := by decide
  rw [e, Nat.mod_eq_of_lt this]
theorem nu_lt {c : UInt8} {v : Nat} (h : nu c = some v) : v < 64 := by
  unfold nu nuN at h
  repeat' split at h
  all_goals first | (injection h with h; omega) | cases h
theorem nuN_alN {n : Nat} (h : n < 64) : nuN (alN n) = some n := by
  have : ∀ m : Fin 64, nuN (alN m.val) = some m.val := by decide
  exact this ⟨n, h⟩
theorem nu_al {n : Nat} (h : n < 64) : nu (al n) = some n := by unfold nu; rw [al_toNat h]; exact nuN_alN h
theorem al_nu {c : UInt8} {v : Nat} (h : nu c = some v) : al v = c := by
  have hv := nu_lt h
  apply UInt8.toNat_inj.1
  rw [al_toNat hv]
  unfold nu nuN at h
  unfold alN
  repeat' split at h
  all_goals first
    | (cases h; done)
    | (injection h with h; subst h; repeat' split)
  all_goals omega
theorem nu_61 : nu 61 = none := by decide
theorem al_ne {n : Nat} (h : n < 64) : al n ≠ 61 := by
  intro e
  have := nu_al h
  rw [e, nu_61] at this
  cases this

/-- The groups of three bytes, of two and of one. -/
def g3 (a b c : Nat) : List UInt8 := [al (a / 4), al (a % 4 * 16 + b / 16), al (b % 16 * 4 + c / 64), al (c % 64)]
def g2 (a b : Nat) : List UInt8 := [al (a / 4), al (a % 4 * 16 + b / 16), al (b % 16 * 4), 61]
def g1 (a : Nat) : List UInt8 := [al (a / 4), al (a % 4 * 16), 61, 61]
def enc : List UInt8 → List UInt8
  | [] => []
  | [a] => g1 a.toNat
  | [a, b] => g2 a.toNat b.toNat
  | a :: b :: c :: t => g3 a.toNat b.toNat c.toNat ++ enc t
def b1 (v0 v1 : Nat) : UInt8 := UInt8.ofNat (v0 * 4 + v1 / 16)
def b2 (v1 v2 : Nat) : UInt8 := UInt8.ofNat (v1 % 16 * 16 + v2 / 4)
def b3 (v2 v3 : Nat) : UInt8 := UInt8.ofNat (v2 % 4 * 64 + v3)

/-- One group: its bytes, or how many bytes are the start of one. -/
def grp : List UInt8 → Option (List UInt8) × Nat
  | [] => (none, 0)
  | c0 :: l1 => match nu c0 with
    | none => (none, 0)
    | some v0 => match l1 with
      | [] => (none, 1)
      | c1 :: l2 => match nu c1 with
        | none => (none, 1)
        | some v1 => match l2 with
          | [] => (none, 2)
          | c2 :: l3 => match nu c2 with
            | none => if c2 = 61 ∧ v1 % 16 = 0 then (match l3 with
                | [] => (none, 3)
                | c3 :: _ => if c3 = 61 then (some [b1 v0 v1], 4) else (none, 3)) else (none, 2)
            | some v2 => match l3 with
              | [] => (none, 3)
              | c3 :: _ => match nu c3 with
                | none => if c3 = 61 ∧ v2 % 4 = 0 then (some [b1 v0 v1, b2 v1 v2], 4) else (none, 3)
                | some v3 => (some [b1 v0 v1, b2 v1 v2, b3 v2 v3], 4)
def dec : List UInt8 → Option (List UInt8) × Nat
  | c0 :: c1 :: c2 :: c3 :: r => match grp [c0, c1, c2, c3] with
    | (none, n) => (none, n)
    | (some p, _) => if p.length < 3 then (if r = [] then (some p, 0) else (none, 4)) else match dec r with
      | (none, k) => (none, k + 4)
      | (some q, _) => (some (p ++ q), 0)
  | [] => (some [], 0)
  | [c0] => (none, (grp [c0]).2)
  | [c0, c1] => (none, (grp [c0, c1]).2)
  | [c0, c1, c2] => (none, (grp [c0, c1, c2]).2)

theorem ofNat_of {n : Nat} {x : UInt8} (h : n = x.toNat) : UInt8.ofNat n = x := by subst h; simp
theorem lt256 (x : UInt8) : x.toNat < 256 := x.toNat_lt
theorem b1_of (a b : UInt8) : b1 (a.toNat / 4) (a.toNat % 4 * 16 + b.toNat / 16) = a := ofNat_of (by have := lt256 b; omega)
theorem b1_of' (a : UInt8) : b1 (a.toNat / 4) (a.toNat % 4 * 16) = a := ofNat_of (by omega)
theorem b2_of (a b c : UInt8) : b2 (a.toNat % 4 * 16 + b.toNat / 16) (b.toNat % 16 * 4 + c.toNat / 64) = b := ofNat_of (by have := lt256 b; have := lt256 c; omega)
theorem b2_of' (a b : UInt8) : b2 (a.toNat % 4 * 16 + b.toNat / 16) (b.toNat % 16 * 4) = b := ofNat_of (by have := lt256 b; omega)
theorem b3_of (b c : UInt8) : b3 (b.toNat % 16 * 4 + c.toNat / 64) (c.toNat % 64) = c := ofNat_of (by have := lt256 c; omega)

theorem nu_e0 (a : UInt8) : nu (al (a.toNat / 4)) = some (a.toNat / 4) := nu_al (by have := lt256 a; omega)
theorem nu_e1 (a b : UInt8) : nu (al (a.toNat % 4 * 16 + b.toNat / 16)) = some (a.toNat % 4 * 16 + b.toNat / 16) := nu_al (by have := lt256 b; omega)
theorem nu_e1' (a : UInt8) : nu (al (a.toNat % 4 * 16)) = some (a.toNat % 4 * 16) := nu_al (by omega)
theorem nu_e2 (b c : UInt8) : nu (al (b.toNat % 16 * 4 + c.toNat / 64)) = some (b.toNat % 16 * 4 + c.toNat / 64) := nu_al (by have := lt256 c; omega)
theorem nu_e2' (b : UInt8) : nu (al (b.toNat % 16 * 4)) = some (b.toNat % 16 * 4) := nu_al (by omega)
theorem nu_e3 (c : UInt8) : nu (al (c.toNat % 64)) = some (c.toNat % 64) := nu_al (by omega)

theorem grp_g3 (a b c : UInt8) : grp (g3 a.toNat b.toNat c.toNat) = (some [a, b, c], 4) := by
  simp only [grp, g3, nu_e0, nu_e1, nu_e2, nu_e3, b1_of, b2_of, b3_of]
theorem grp_g2 (a b : UInt8) : grp (g2 a.toNat b.toNat) = (some [a, b], 4) := by
  have h : b.toNat % 16 * 4 % 4 = 0 := by omega
  simp only [grp, g2, nu_e0, nu_e1, nu_e2', nu_61, b1_of, b2_of', h, true_and, if_true]
theorem grp_g1 (a : UInt8) : grp (g1 a.toNat) = (some [a], 4) := by
  have h : a.toNat % 4 * 16 % 16 = 0 := by omega
  simp only [grp, g1, nu_e0, nu_e1', nu_61, b1_of', h, true_and, if_true]

/-- Decoding inverts encoding. -/
theorem dec_enc : ∀ b : List UInt8, dec (enc b) = (some b, 0)
  | [] => rfl
  | [a] => by
    have h := grp_g1 a
    unfold g1 at h
    simp only [enc, g1, dec, h]
    rfl
  | [a, b] => by
    have h := grp_g2 a b
    unfold g2 at h
    simp only [enc, g2, dec, h]
    rfl
  | a :: b :: c :: t => by
    have h := grp_g3 a b c
    have ih := dec_enc t
    unfold g3 at h
    simp only [enc, g3, List.cons_append, List.nil_append, dec, h, ih]
    rfl
theorem enc_len : ∀ b : List UInt8, (enc b).length = (b.length + 2) / 3 * 4
  | [] => rfl
  | [_] => by simp [enc, g1]
  | [_, _] => by simp [enc, g2]
  | a :: b :: c :: t => by
    have ih := enc_len t
    simp only [enc, g3, List.cons_append, List.nil_append, List.length_cons, ih]
    omega
theorem enc_app : ∀ (a b : List UInt8), a.length % 3 = 0 → enc (a ++ b) = enc a ++ enc b
  | [], b, _ => rfl
  | [_], _, h => by simp at h
  | [_, _], _, h => by simp at h
  | x :: y :: z :: t, b, h => by
    have ih := enc_app t b (by simp only [List.length_cons] at h; omega)
    simp only [enc, g3, List.cons_append, List.nil_append, ih]

/-- What a group that is accepted looks like. -/
inductive Grp : UInt8 → UInt8 → UInt8 → UInt8 → List UInt8 → Prop
  | three (a b c : UInt8) (c0 c1 c2 c3 : UInt8) (h : [c0, c1, c2, c3] = g3 a.toNat b.toNat c.toNat) : Grp c0 c1 c2 c3 [a, b, c]
  | two (a b : UInt8) (c0 c1 c2 c3 : UInt8) (h : [c0, c1, c2, c3] = g2 a.toNat b.toNat) : Grp c0 c1 c2 c3 [a, b]
  | one (a : UInt8) (c0 c1 c2 c3 : UInt8) (h : [c0, c1, c2, c3] = g1 a.toNat) : Grp c0 c1 c2 c3 [a]
theorem tn {n : Nat} (h : n < 256) : (UInt8.ofNat n).toNat = n := by
  rw [UInt8.toNat_ofNat']
  have e : (2 : Nat) ^ 8 = 256 := by decide
  rw [e, Nat.mod_eq_of_lt h]
theorem grp_some {c0 c1 c2 c3 : UInt8} {r p : List UInt8} {n : Nat} (h : grp (c0 :: c1 :: c2 :: c3 :: r) = (some p, n)) : n = 4 ∧ Grp c0 c1 c2 c3 p := by
  rcases h0 : nu c0 with _ | v0
  · simp [grp, h0] at h
  rcases h1 : nu c1 with _ | v1
  · simp [grp, h0, h1] at h
  have l0 := nu_lt h0
  have l1 := nu_lt h1
  have e0 := al_nu h0
  have e1 := al_nu h1
  rcases h2 : nu c2 with _ | v2
  · simp only [grp, h0, h1, h2] at h
    split at h
    · rename_i hz
      obtain ⟨z1, z2⟩ := hz
      split at h
      · rename_i z3
        injection h with h3 h4
        injection h3 with h3
        subst h3 h4 z1 z3
        refine ⟨rfl, Grp.one _ _ _ _ _ ?_⟩
        unfold b1 g1
        rw [tn (by omega), show (v0 * 4 + v1 / 16) / 4 = v0 by omega, show (v0 * 4 + v1 / 16) % 4 * 16 = v1 by omega, e0, e1]
      · cases h
    · cases h
  have l2 := nu_lt h2
  have e2 := al_nu h2
  rcases h3 : nu c3 with _ | v3
  · simp only [grp, h0, h1, h2, h3] at h
    split at h
    · rename_i hz
      obtain ⟨z1, z2⟩ := hz
      injection h with h3 h4
      injection h3 with h3
      subst h3 h4 z1
      refine ⟨rfl, Grp.two _ _ _ _ _ _ ?_⟩
      unfold b1 b2 g2
      rw [tn (by omega), tn (by omega), show (v0 * 4 + v1 / 16) / 4 = v0 by omega, show (v0 * 4 + v1 / 16) % 4 * 16 + (v1 % 16 * 16 + v2 / 4) / 16 = v1 by omega,
        show (v1 % 16 * 16 + v2 / 4) % 16 * 4 = v2 by omega, e0, e1, e2]
    · cases h
  have l3 := nu_lt h3
  have e3 := al_nu h3
  simp only [grp, h0, h1, h2, h3] at h
  injection h with h5 h4
  injection h5 with h5
  subst h5 h4
  refine ⟨rfl, Grp.three _ _ _ _ _ _ _ ?_⟩
  unfold b1 b2 b3 g3
  rw [tn (by omega), tn (by omega), tn (by omega), show (v0 * 4 + v1 / 16) / 4 = v0 by omega, show (v0 * 4 + v1 / 16) % 4 * 16 + (v1 % 16 * 16 + v2 / 4) / 16 = v1 by omega,
    show (v1 % 16 * 16 + v2 / 4) % 16 * 4 + (v2 % 4 * 64 + v3) / 64 = v2 by omega, show (v2 % 4 * 64 + v3) % 64 = v3 by omega, e0, e1, e2, e3]
/-- What is decoded encodes to the string. -/
theorem enc_dec : ∀ (l b : List UInt8) (k : Nat), dec l = (some b, k) → k = 0 ∧ enc b = l
  | [], b, k, h => by
    simp only [dec] at h
    injection h with h1 h2
    injection h1 with h1
    subst h1 h2
    exact ⟨rfl, rfl⟩
  | [_], b, k, h => by simp [dec] at h
  | [_, _], b, k, h => by simp [dec] at h
  | [_, _, _], b, k, h => by simp [dec] at h
  | c0 :: c1 :: c2 :: c3 :: r, b, k, h => by
    rcases hg : grp [c0, c1, c2, c3] with ⟨_ | p, n⟩
    · simp [dec, hg] at h
    obtain ⟨_, hp⟩ := grp_some hg
    rcases hd : dec r with ⟨_ | q, m⟩
    · simp only [dec, hg, hd] at h
      split at h
      · rename_i hlt
        split at h
        · rename_i hr
          subst hr
          injection h with h1 h2
          injection h1 with h1
          subst h1 h2
          refine ⟨rfl, ?_⟩
          cases hp with
          | three a b c _ _ _ _ h => simp at hlt
          | two a b _ _ _ _ h => exact h.symm
          | one a _ _ _ _ h => exact h.symm
        · cases h
      · cases h
    · have ih := enc_dec r q m hd
      simp only [dec, hg, hd] at h
      split at h
      · rename_i hlt
        split at h
        · rename_i hr
          subst hr
          injection h with h1 h2
          injection h1 with h1
          subst h1 h2
          refine ⟨rfl, ?_⟩
          cases hp with
          | three a b c _ _ _ _ h => simp at hlt
          | two a b _ _ _ _ h => exact h.symm
          | one a _ _ _ _ h => exact h.symm
        · cases h
      · rename_i hlt
        injection h with h1 h2
        injection h1 with h1
        subst h1 h2
        refine ⟨rfl, ?_⟩
        cases hp with
        | three a b c _ _ _ _ h =>
          simp only [List.cons_append, List.nil_append, enc, ih.2, ← h]
        | two a b _ _ _ _ h => simp at hlt
        | one a _ _ _ _ h => simp at hlt
end Bs
end Go.Proofs.Ytddgmpmfdgfcdaa
