/-
  What is proved here: plain facts of the texts of paths; no program in this text; no condition but those that each fact states; and: plain facts: the text of a path of valid steps parses to the path; no program in this text; no condition but those that each fact states.
-/
import Derived.Test.YtdnkebfmjlbdgaaGreatDoorUQuote
import Derived.Test.YtdnkebfmjlbdgaaGreatDoorPf
import Derived.Test.YtdnkebfmjlbdgaaGreatDoorUBack
namespace Go.Proofs.YtdnkebfmjlbdgaaGreatDoor
open U U.Ut Go.Lib

/-- What follows the opening bracket: the step and the length of its text, or an offset and an error. -/
def stIn (l : List UInt8) : (Stp × Nat) ⊕ (Nat × Nat) :=
  if (dgs l).length ≠ 0 then (if 9 < (dgs l).length ∨ (1 < (dgs l).length ∧ l.head? = some 48) then .inr (0, 4) else .inl (⟨⟨#[]⟩, (dgV (dgs l) : Int), false⟩, (dgs l).length))
  else if l.head? = some 34 then
    (if (unq l).2.2.2 ≠ 0 then .inr ((unq l).2.2.1, (unq l).2.2.2) else if hasZ (str (unq l).1) = true then .inr (0, 70) else .inl (⟨str (unq l).1, 0, true⟩, (unq l).2.1))
  else .inr (0, 4)
def stp (r : List UInt8) : (Stp × Nat) ⊕ (Nat × Nat) :=
  if r.head? = some 91 then
    match stIn (r.drop 1) with
    | .inr (o, e) => .inr (1 + o, e)
    | .inl (s, n) => if (r.drop (1 + n)).head? = some 93 then .inl (s, n + 2) else .inr (1 + n, 4)
  else .inr (0, 4)
def prs : Nat → List UInt8 → Nat → List Stp → List Stp × Nat × Nat
  | 0, _, k, _ => ([], k, 4)
  | f + 1, r, k, ps => if r = [] then (ps, 0, 0) else if ps.length = 64 then ([], k, 5) else
    match stp r with
    | .inr (o, e) => ([], k + o, e)
    | .inl (s, n) => prs f (r.drop n) (k + n) (ps ++ [s])
def parseP (l : List UInt8) : List Stp × Nat × Nat := prs (l.length + 1) l 0 []

theorem stp_pos {r : List UInt8} {s : Stp} {n : Nat} (h : stp r = .inl (s, n)) : 2 ≤ n := by
  unfold stp at h
  split at h
  · split at h
    · cases h
    · split at h
      · injection h with h; injection h with h1 h2; omega
      · cases h
  · cases h
/-- The fuel does not matter, if there is enough. -/
theorem prs_fuel : ∀ (f g : Nat) (r : List UInt8) (k : Nat) (ps : List Stp), r.length < f → r.length < g → prs f r k ps = prs g r k ps
  | 0, _, r, _, _, h, _ => by omega
  | f + 1, 0, r, _, _, _, h => by omega
  | f + 1, g + 1, r, k, ps, h1, h2 => by
    unfold prs
    by_cases h0 : r = []
    · rw [if_pos h0, if_pos h0]
    · rw [if_neg h0, if_neg h0]
      by_cases h6 : ps.length = 64
      · rw [if_pos h6, if_pos h6]
      · rw [if_neg h6, if_neg h6]
        cases hs : stp r with
        | inr x => rfl
        | inl x =>
          obtain ⟨s, n⟩ := x
          have := stp_pos hs
          have h0' : 0 < r.length := List.length_pos_iff.2 h0
          exact prs_fuel f g _ _ _ (by rw [List.length_drop]; omega) (by rw [List.length_drop]; omega)

/-- The rest of the work, from an offset on. -/
def PR (l : List UInt8) (k : Nat) (ps : List Stp) : List Stp × Nat × Nat := prs (l.length + 1 - k) (l.drop k) k ps
theorem pr_start (l : List UInt8) : parseP l = PR l 0 [] := rfl
theorem pr_end {l : List UInt8} {k : Nat} (ps : List Stp) (h : k = l.length) : PR l k ps = (ps, 0, 0) := by
  subst h
  unfold PR
  rw [show l.length + 1 - l.length = 0 + 1 by omega, List.drop_length]
  rfl
theorem pr_limit {l : List UInt8} {k : Nat} {ps : List Stp} (h : k < l.length) (h6 : ps.length = 64) : PR l k ps = ([], k, 5) := by
  unfold PR
  rw [show l.length + 1 - k = (l.length - k) + 1 by omega]
  unfold prs
  rw [if_neg (by intro e; have := congrArg List.length e; rw [List.length_drop] at this; simp at this; omega), if_pos h6]
theorem pr_bad {l : List UInt8} {k o e : Nat} {ps : List Stp} (h : k < l.length) (h6 : ps.length ≠ 64) (hs : stp (l.drop k) = .inr (o, e)) : PR l k ps = ([], k + o, e) := by
  unfold PR
  rw [show l.length + 1 - k = (l.length - k) + 1 by omega]
  unfold prs
  rw [if_neg (by intro e; have := congrArg List.length e; rw [List.length_drop] at this; simp at this; omega), if_neg h6, hs]
theorem pr_step {l : List UInt8} {k n : Nat} {ps : List Stp} {s : Stp} (h : k < l.length) (h6 : ps.length ≠ 64) (hs : stp (l.drop k) = .inl (s, n)) : PR l k ps = PR l (k + n) (ps ++ [s]) := by
  unfold PR
  rw [show l.length + 1 - k = (l.length - k) + 1 by omega]
  rw [prs]
  rw [if_neg (by intro e; have := congrArg List.length e; rw [List.length_drop] at this; simp at this; omega), if_neg h6, hs]
  have := stp_pos hs
  simp only [List.drop_drop]
  by_cases hk : k + n ≤ l.length
  · exact prs_fuel _ _ _ _ _ (by rw [List.length_drop]; omega) (by rw [List.length_drop]; omega)
  · rw [List.drop_eq_nil_of_le (by omega)]
    obtain ⟨f, hf⟩ : ∃ f, l.length - k = f + 1 := ⟨l.length - k - 1, by omega⟩
    rw [hf]
    by_cases h0 : l.length + 1 - (k + n) = 0
    · exfalso
      revert hs
      unfold stp
      split
      · split
        · intro hs; cases hs
        · split
          · rename_i hh
            intro hs
            injection hs with hs; injection hs with h1 h2
            rw [List.drop_drop] at hh
            rename_i n' _
            have : (l.drop (k + (1 + n'))).length ≠ 0 := by intro e; rw [List.eq_nil_of_length_eq_zero e] at hh; simp at hh
            rw [List.length_drop] at this
            omega
          · intro hs; cases hs
      · intro hs; cases hs
    · obtain ⟨g, hg⟩ : ∃ g, l.length + 1 - (k + n) = g + 1 := ⟨_, (Nat.succ_pred_eq_of_pos (by omega)).symm⟩
      rw [hg]
      rfl

/-- A valid step, and its text. -/
def okS (s : Stp) : Bool := if s.b = true then decide (s.a = 0) && (validD s.k.data.toList && !hasZ s.k) else decide (s.k.size = 0) && (decide (0 ≤ s.a) && decide (s.a ≤ 999999999))
def txtS (s : Stp) : List UInt8 := 91 :: ((if s.b = true then quo s.k.data.toList else decDigits s.a.toNat) ++ [93])
def showR (ps : List Stp) : List UInt8 × Nat := if 64 < ps.length then ([], 5) else if ps.all okS = true then (ps.flatMap txtS, 0) else ([], 2)

end Go.Proofs.YtdnkebfmjlbdgaaGreatDoor
namespace Go.Proofs.YtdnkebfmjlbdgaaGreatDoor
open U U.Ut Go.Lib

/-- Valid bytes are the encodings of scalar values. -/
theorem valid_txt : ∀ (n : Nat) (l : List UInt8), l.length ≤ n → validGoD n l = true → ∃ L, U.txt L = l
  | n, [], _, _ => ⟨[], rfl⟩
  | 0, c :: r, h, _ => by simp at h
  | n + 1, c :: r, hl, h => by
    have hne : (c :: r) ≠ [] := by simp
    obtain ⟨h1, h2⟩ := validGoD_step (n + 1) _ hl h hne
    obtain ⟨hs, he, hle, h0⟩ := valid_head hne h1
    obtain ⟨L, hL⟩ := valid_txt n ((c :: r).drop (decodeL (c :: r)).2) (by rw [List.length_drop]; omega) h2
    generalize hR : (decodeL (c :: r)).1 = R at *
    obtain ⟨i, hi⟩ : ∃ i : Int, rn i = R := by
      unfold scal at hs
      by_cases hr : R < 55296
      · refine ⟨(R : Int), ?_⟩
        have : brg (R : Int) = R := by unfold brg; omega
        unfold rn
        rw [this, if_pos hr]
      · refine ⟨((R - 2048 : Nat) : Int), ?_⟩
        have : brg ((R - 2048 : Nat) : Int) = R - 2048 := by unfold brg; omega
        unfold rn
        rw [this, if_neg (by omega)]
        omega
    exact ⟨i :: L, by rw [txt_cons, hL, hi, he, List.take_append_drop]⟩
theorem unq_valid {l : List UInt8} (h : validD l = true) (b : List UInt8) : unq (quo l ++ b) = (l, (quo l).length, 0, 0) := by
  obtain ⟨L, rfl⟩ := valid_txt l.length l (Nat.le_refl _) h
  exact unq_quo L b

theorem isDg_of {d : Nat} (h : d < 10) : isDg (UInt8.ofNat (48 + d)) = true := by
  have : ∀ d : Nat, d < 10 → isDg (UInt8.ofNat (48 + d)) = true := by decide +kernel
  exact this d h
theorem dD_big {u : Nat} (h : ¬ u < 10) : decDigits u = decDigits (u / 10) ++ [UInt8.ofNat (48 + u % 10)] := by rw [decDigits, dif_neg h]
theorem dD_all (u : Nat) : ∀ c ∈ decDigits u, isDg c = true := by
  induction u using Nat.strongRecOn with
  | _ u ih =>
    by_cases h : u < 10
    · rw [decDigits_one h]
      intro c hc
      rw [List.mem_singleton] at hc
      subst hc
      exact isDg_of h
    · rw [dD_big h]
      intro c hc
      rcases List.mem_append.1 hc with hc | hc
      · exact ih _ (by omega) c hc
      · rw [List.mem_singleton] at hc
        subst hc
        exact isDg_of (by omega)
theorem decFrom_app : ∀ (a b : List UInt8) (n : Nat), decFrom n (a ++ b) = (decFrom n a).bind fun m => decFrom m b
  | [], _, _ => rfl
  | c :: r, b, n => by
    simp only [List.cons_append, decFrom]
    cases digitVal c with
    | none => rfl
    | some d => exact decFrom_app r b _
theorem dig_one {d : Nat} (h : d < 10) : digitVal (UInt8.ofNat (48 + d)) = some d := by
  have : ∀ d : Nat, d < 10 → digitVal (UInt8.ofNat (48 + d)) = some d := by decide +kernel
  exact this d h
theorem dD_val (u : Nat) : decFrom 0 (decDigits u) = some u := by
  induction u using Nat.strongRecOn with
  | _ u ih =>
    by_cases h : u < 10
    · rw [decDigits_one h]
      show (match digitVal (UInt8.ofNat (48 + u)) with | some d => decFrom (0 * 10 + d) [] | none => none) = some u
      rw [dig_one h]
      simp [decFrom]
    · rw [dD_big h, decFrom_app, ih _ (by omega)]
      simp only [Option.bind_some, decFrom, dig_one (show u % 10 < 10 by omega)]
      congr 1
      omega
theorem dgs_app {a : List UInt8} {c : UInt8} (b : List UInt8) (ha : ∀ x ∈ a, isDg x = true) (hc : isDg c = false) : dgs (a ++ c :: b) = a := by
  induction a with
  | nil => simp [dgs, hc]
  | cons x a ih =>
    have h1 := ha x (by simp)
    have h2 := ih fun y hy => ha y (by simp [hy])
    unfold dgs at h2 ⊢
    rw [List.cons_append, List.takeWhile_cons, if_pos h1, h2]
theorem dD_len {u : Nat} (h : u ≤ 999999999) : (decDigits u).length ≤ 9 := by
  rw [decDigits_length]
  have := lt_pow_nDigits u
  rcases Nat.lt_or_ge 9 (nDigits u) with hb | hb
  · exfalso
    have h10 : ∀ n v : Nat, n + 1 ≤ nDigits v → 10 ^ n ≤ v ∨ n = 0 := by
      intro n
      induction n with
      | zero => intro v _; right; rfl
      | succ n ih =>
        intro v hv
        left
        by_cases hs : v < 10
        · rw [nDigits_small hs] at hv; omega
        · rw [nDigits_big hs] at hv
          rw [Nat.pow_succ]
          rcases ih (v / 10) (by omega) with h | h
          · omega
          · subst h; simp; omega
    rcases h10 9 u (by omega) with h | h
    · omega
    · omega
  · exact hb
theorem dD_ne (u : Nat) : (decDigits u).length ≠ 0 := by
  rw [decDigits_length]
  have := nDigits_pos u
  omega
theorem dD_head (u : Nat) (h : 1 < (decDigits u).length) (r : List UInt8) : (decDigits u ++ r).head? ≠ some 48 := by
  induction u using Nat.strongRecOn generalizing r with
  | _ u ih =>
    by_cases hs : u < 10
    · rw [decDigits_one hs] at h; simp at h
    · rw [dD_big hs, List.append_assoc]
      by_cases h1 : 1 < (decDigits (u / 10)).length
      · exact ih _ (by omega) h1 _
      · have hs2 : u / 10 < 10 := by
          by_cases h2 : u / 10 < 10
          · exact h2
          · exfalso
            apply h1
            rw [dD_big h2, List.length_append]
            have := dD_ne (u / 10 / 10)
            simp; omega
        rw [decDigits_one hs2]
        have : ∀ d : Nat, d < 10 → 0 < d → UInt8.ofNat (48 + d) ≠ 48 := by decide +kernel
        have := this _ hs2 (by omega)
        simpa using this

theorem stIn_dig {u : Nat} (h : u ≤ 999999999) (r : List UInt8) : stIn (decDigits u ++ 93 :: r) = .inl (⟨⟨#[]⟩, (u : Int), false⟩, (decDigits u).length) := by
  have e : dgs (decDigits u ++ 93 :: r) = decDigits u := dgs_app r (dD_all u) (by decide)
  unfold stIn
  rw [e, if_pos (dD_ne u), if_neg]
  · rw [show dgV (decDigits u) = u by unfold dgV; rw [dD_val]; rfl]
  · rintro (h1 | ⟨h1, h2⟩)
    · have := dD_len h; omega
    · exact dD_head u h1 _ h2
theorem stIn_quo {l : List UInt8} (h : validD l = true) (hz : hasZ (str l) = false) (r : List UInt8) : stIn (quo l ++ r) = .inl (⟨str l, 0, true⟩, (quo l).length) := by
  have e : (dgs (quo l ++ r)).length = 0 := by
    unfold quo dgs
    rw [List.cons_append, List.cons_append, List.takeWhile_cons, if_neg (by decide)]
    rfl
  have e2 : (quo l ++ r).head? = some 34 := rfl
  unfold stIn
  rw [if_neg (by omega), if_pos e2, unq_valid h, if_neg (by simp), if_neg (by simp [hz])]
theorem stp_txt {s : Stp} (h : okS s = true) (r : List UInt8) : stp (txtS s ++ r) = .inl (s, (txtS s).length) := by
  obtain ⟨k, a, b⟩ := s
  unfold okS at h
  cases b with
  | true =>
    simp only [if_true, Bool.and_eq_true, decide_eq_true_eq, Bool.not_eq_true'] at h
    obtain ⟨rfl, hv, hz⟩ := h
    have hk : str k.data.toList = k := str_list k
    have e := stIn_quo hv (by rw [hk]; exact hz) (93 :: r)
    unfold stp txtS
    simp only [if_true, List.cons_append, List.append_assoc, List.nil_append, List.head?_cons, List.drop_succ_cons, List.drop_zero]
    rw [e]
    simp only [hk]
    rw [Nat.add_comm 1, List.drop_succ_cons, List.drop_left]
    simp [Nat.add_assoc]
  | false =>
    simp only [Bool.false_eq_true, if_false, Bool.and_eq_true, decide_eq_true_eq] at h
    obtain ⟨hk, h0, h9⟩ := h
    obtain ⟨u, rfl⟩ : ∃ u : Nat, a = (u : Int) := ⟨a.toNat, by omega⟩
    have e := stIn_dig (show u ≤ 999999999 by omega) r
    have hke : k = ⟨#[]⟩ := by
      cases k with
      | mk d =>
        have : d = #[] := Array.eq_empty_of_size_eq_zero hk
        rw [this]
    subst hke
    unfold stp txtS
    simp only [Bool.false_eq_true, if_false, List.cons_append, List.append_assoc, List.nil_append, List.head?_cons, if_true, List.drop_succ_cons, List.drop_zero, Int.toNat_natCast]
    rw [e]
    simp only
    rw [Nat.add_comm 1, List.drop_succ_cons, List.drop_left]
    simp [Nat.add_assoc]

theorem prs_txt : ∀ (ps qs : List Stp) (f k : Nat), (∀ s ∈ ps, okS s = true) → qs.length + ps.length ≤ 64 → (ps.flatMap txtS).length < f → prs f (ps.flatMap txtS) k qs = (qs ++ ps, 0, 0)
  | [], qs, 0, _, _, _, h => by omega
  | [], qs, f + 1, k, _, _, _ => by unfold prs; simp
  | s :: ps, qs, 0, _, _, _, h => by omega
  | s :: ps, qs, f + 1, k, ho, hl, hf => by
    have h1 := stp_txt (ho s (by simp)) (ps.flatMap txtS)
    have h2 := stp_pos h1
    simp only [List.length_cons] at hl
    simp only [List.flatMap_cons, List.length_append] at hf
    unfold prs
    rw [if_neg (by simp [txtS]), if_neg (by omega), List.flatMap_cons, h1]
    simp only [List.drop_left]
    rw [prs_txt ps (qs ++ [s]) f _ (fun x hx => ho x (by simp [hx])) (by simp; omega) (by omega)]
    simp
/-- The text of a path parses to the path. -/
theorem parse_show {ps : List Stp} (h6 : ps.length ≤ 64) (ho : ps.all okS = true) : parseP (ps.flatMap txtS) = (ps, 0, 0) := by
  unfold parseP
  rw [prs_txt ps [] _ _ (List.all_eq_true.1 ho) (by simpa using h6) (by omega)]
  rfl
end Go.Proofs.YtdnkebfmjlbdgaaGreatDoor
