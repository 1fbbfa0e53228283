/-
  What is proved here: plain facts of trees of nodes: size, depth, the node of a number, the first error in preorder; no program in this text; no condition but those that each fact states.
-/
import Derived.Test.YtjbmghfgbdnjjaaDoorNode
namespace Go.Proofs.YtjbmghfgbdnjjaaDoor

mutual
def sz : T → Nat
  | .mk _ _ _ _ _ l => 1 + szL l
def szL : List T → Nat
  | [] => 0
  | t :: ts => sz t + szL ts
end
mutual
def dp : T → Nat
  | .mk _ _ _ _ _ l => 1 + dpL l
def dpL : List T → Nat
  | [] => 0
  | t :: ts => max (dp t) (dpL ts)
end
mutual
/-- The node of a number, in preorder. -/
def atT : T → Nat → Option T
  | .mk k n u s ks l, i => if i = 0 then some (.mk k n u s ks l) else atL l (i - 1)
def atL : List T → Nat → Option T
  | [], _ => none
  | t :: ts, i => if i < sz t then atT t i else atL ts (i - sz t)
end
theorem sz_pos (t : T) : 0 < sz t := by cases t; simp only [sz]; omega
theorem dp_pos (t : T) : 0 < dp t := by cases t; simp only [dp]; omega
mutual
theorem atT_some : ∀ (t : T) (i : Nat), i < sz t → ∃ x, atT t i = some x
  | .mk k n u s ks l, i, h => by
    unfold atT
    by_cases h0 : i = 0
    · rw [if_pos h0]; exact ⟨_, rfl⟩
    · rw [if_neg h0]
      unfold sz at h
      exact atL_some l (i - 1) (by omega)
theorem atL_some : ∀ (l : List T) (i : Nat), i < szL l → ∃ x, atL l i = some x
  | [], i, h => by simp [szL] at h
  | t :: ts, i, h => by
    unfold atL
    by_cases h1 : i < sz t
    · rw [if_pos h1]; exact atT_some t i h1
    · rw [if_neg h1]
      unfold szL at h
      exact atL_some ts (i - sz t) (by omega)
end
mutual
theorem atT_none : ∀ (t : T) (i : Nat), sz t ≤ i → atT t i = none
  | .mk k n u s ks l, i, h => by
    unfold sz at h
    unfold atT
    rw [if_neg (by omega)]
    exact atL_none l (i - 1) (by omega)
theorem atL_none : ∀ (l : List T) (i : Nat), szL l ≤ i → atL l i = none
  | [], _, _ => rfl
  | t :: ts, i, h => by
    unfold szL at h
    unfold atL
    rw [if_neg (by have := sz_pos t; omega)]
    exact atL_none ts (i - sz t) (by omega)
end

/-- The first error of a list of keys: a byte 00, an earlier key. -/
def hasZ (s : ByteArray) : Bool := s.data.toList.any fun c => c == 0
def keysE : List ByteArray → List ByteArray → Nat
  | _, [] => 0
  | done, k :: ks => if hasZ k = true then 70 else if (done.any fun d => d.data.toList == k.data.toList) = true then 71 else keysE (done ++ [k]) ks
/-- The required kind of the children: none if there may be none, some 0 for any. -/
def partK (k : Int) : Int := if k = 10 ∨ k = 17 then 0 else if k = 11 ∨ k = 15 then 3 else if k = 12 ∨ k = 16 then 4 else if k = 13 then 5 else if k = 14 then 2 else -1
/-- A node as the table asks, apart from the contents of keys. -/
def suchT : T → Bool
  | .mk k n u s ks l => decide (1 ≤ k) && decide (k ≤ 17) && (decide (k = 2 ∨ k = 3 ∨ k = 8) || decide (n = 0)) && (decide (k = 4 ∨ k = 9) || decide (u = 0)) && (decide (k = 5 ∨ k = 6 ∨ k = 7) || decide (s.size = 0)) &&
      (decide (k = 17) || decide (ks.length = 0)) && (!(decide (1 ≤ k) && decide (k ≤ 9)) || decide (l.length = 0)) && (!decide (k = 2) || decide (n = 0) || decide (n = 1)) && (!decide (k = 17) || decide (ks.length = l.length)) &&
      (!decide (k = 15 ∨ k = 16) || (decide (2 ≤ l.length) && decide (l.length ≤ 4))) && (decide (partK k ≤ 0) || l.all fun t => decide (t.k = partK k))
def ownE (t : T) : Nat := if suchT t = false then 60 else if t.k = 5 ∧ hasZ t.s = true then 70 else keysE [] t.ks
mutual
/-- The first error in preorder, the number of nodes apart. -/
def ck : T → Nat → Nat
  | .mk k n u s ks l, b => if 64 ≤ b then 61 else if ownE (.mk k n u s ks l) ≠ 0 then ownE (.mk k n u s ks l) else ckL l (b + 1)
def ckL : List T → Nat → Nat
  | [], _ => 0
  | t :: ts, b => if ck t b ≠ 0 then ck t b else ckL ts b
end
mutual
/-- Every node of the tree is as it must be. -/
def okT : T → Prop
  | .mk k n u s ks l => ownE (.mk k n u s ks l) = 0 ∧ okL l
def okL : List T → Prop
  | [] => True
  | t :: ts => okT t ∧ okL ts
end
mutual
theorem ck_zero : ∀ (t : T) (b : Nat), ck t b = 0 ↔ okT t ∧ b + dp t ≤ 64
  | .mk k n u s ks l, b => by
    have ih := ckL_zero l (b + 1)
    unfold ck okT dp
    by_cases hb : 64 ≤ b
    · rw [if_pos hb]
      constructor
      · intro h; omega
      · rintro ⟨_, h⟩; omega
    · rw [if_neg hb]
      by_cases ho : ownE (.mk k n u s ks l) = 0
      · rw [if_neg (by simp [ho]), ih]
        constructor
        · rintro ⟨h1, h2⟩; exact ⟨⟨ho, h1⟩, by rcases h2 with h2 | h2; (· omega); (· subst h2; simp only [dpL]; omega)⟩
        · rintro ⟨⟨_, h1⟩, h2⟩; exact ⟨h1, .inl (by omega)⟩
      · rw [if_pos ho]
        constructor
        · intro h; exact absurd h ho
        · rintro ⟨⟨h, _⟩, _⟩; exact absurd h ho
theorem ckL_zero : ∀ (l : List T) (b : Nat), ckL l b = 0 ↔ okL l ∧ (b + dpL l ≤ 64 ∨ l = [])
  | [], b => by simp [ckL, okL]
  | t :: ts, b => by
    have i1 := ck_zero t b
    have i2 := ckL_zero ts b
    unfold ckL okL dpL
    by_cases h : ck t b = 0
    · rw [if_neg (by simp [h]), i2]
      have ht := i1.1 h
      constructor
      · rintro ⟨h1, h2⟩
        refine ⟨⟨ht.1, h1⟩, .inl ?_⟩
        rcases h2 with h2 | h2
        · omega
        · subst h2; simp only [dpL]; omega
      · rintro ⟨⟨_, h1⟩, h2⟩
        refine ⟨h1, ?_⟩
        rcases h2 with h2 | h2
        · exact .inl (by omega)
        · cases h2
    · rw [if_pos h]
      constructor
      · intro h2; exact absurd h2 h
      · rintro ⟨⟨h1, _⟩, h2⟩
        rcases h2 with h2 | h2
        · exact absurd (i1.2 ⟨h1, by omega⟩) h
        · cases h2
end
mutual
theorem at_ok : ∀ (t : T) (i : Nat) (x : T), okT t → atT t i = some x → okT x ∧ dp x ≤ dp t
  | .mk k n u s ks l, i, x, h, ha => by
    unfold atT at ha
    by_cases h0 : i = 0
    · rw [if_pos h0] at ha
      obtain rfl := Option.some.inj ha
      exact ⟨h, Nat.le_refl _⟩
    · rw [if_neg h0] at ha
      unfold okT at h
      obtain ⟨h1, h2⟩ := atL_ok l (i - 1) x h.2 ha
      refine ⟨h1, ?_⟩
      have e : dp (.mk k n u s ks l) = 1 + dpL l := by simp only [dp]
      omega
theorem atL_ok : ∀ (l : List T) (i : Nat) (x : T), okL l → atL l i = some x → okT x ∧ dp x ≤ dpL l
  | [], _, _, _, ha => by simp [atL] at ha
  | t :: ts, i, x, h, ha => by
    unfold okL at h
    unfold atL at ha
    unfold dpL
    by_cases h1 : i < sz t
    · rw [if_pos h1] at ha
      obtain ⟨h2, h3⟩ := at_ok t i x h.1 ha
      exact ⟨h2, by omega⟩
    · rw [if_neg h1] at ha
      obtain ⟨h2, h3⟩ := atL_ok ts (i - sz t) x h.2 ha
      exact ⟨h2, by omega⟩
end
/-- Every subtree of a valid tree is valid. -/
theorem ck_sub {t x : T} {i : Nat} (h : ck t 0 = 0) (ha : atT t i = some x) : ck x 0 = 0 := by
  rw [ck_zero] at h ⊢
  obtain ⟨h1, h2⟩ := at_ok t i x h.1 ha
  exact ⟨h1, by omega⟩
theorem szL_app : ∀ (a b : List T), szL (a ++ b) = szL a + szL b
  | [], b => by simp [szL]
  | t :: ts, b => by
    have ih := szL_app ts b
    simp only [List.cons_append, szL, ih]
    omega
theorem dpL_app : ∀ (a b : List T), dpL (a ++ b) = max (dpL a) (dpL b)
  | [], b => by simp [dpL]
  | t :: ts, b => by
    have ih := dpL_app ts b
    simp only [List.cons_append, dpL, ih]
    omega
theorem okL_app : ∀ (a b : List T), okL (a ++ b) ↔ okL a ∧ okL b
  | [], b => by simp [okL]
  | t :: ts, b => by
    have ih := okL_app ts b
    simp only [List.cons_append, okL, ih]
    constructor
    · rintro ⟨h1, h2, h3⟩; exact ⟨⟨h1, h2⟩, h3⟩
    · rintro ⟨⟨h1, h2⟩, h3⟩; exact ⟨h1, h2, h3⟩
end Go.Proofs.YtjbmghfgbdnjjaaDoor
