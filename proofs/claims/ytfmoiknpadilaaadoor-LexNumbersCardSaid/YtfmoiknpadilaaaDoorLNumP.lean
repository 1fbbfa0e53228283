/-
  What is proved here: plain facts of the digits of a number as the lexer reads them; no program in this text; no condition but those that each fact states.
-/
import Derived.Test.YtfmoiknpadilaaaDoorLPl
import Derived.Lib.ItoaNum
namespace Go.Proofs.YtfmoiknpadilaaaDoor
namespace Lx
open Ut Go.Lib

theorem valG_app : ∀ (a b : List UInt8) (n : Nat), valG n (a ++ b) = match valG n a with | none => none | some m => valG m b
  | [], _, _ => rfl
  | c :: r, b, n => by
    have e1 : ∀ l, valG n (c :: l) = if (18446744073709551615 - (c.toNat - 48)) / 10 < n then none else valG (10 * n + (c.toNat - 48)) l := fun l => rfl
    show valG n (c :: (r ++ b)) = _
    rw [e1, e1]
    split
    · rfl
    · exact valG_app r b _
theorem dig_nat {d : Nat} (h : d < 10) : (UInt8.ofNat (48 + d)).toNat = 48 + d := by
  rw [UInt8.toNat_ofNat', Nat.mod_eq_of_lt (by omega)]
theorem dD_big {u : Nat} (h : ¬ u < 10) : decDigits u = decDigits (u / 10) ++ [UInt8.ofNat (48 + u % 10)] := by rw [decDigits, dif_neg h]
theorem dD_ne (u : Nat) : decDigits u ≠ [] := by
  intro h
  have := congrArg List.length h
  rw [decDigits_length] at this
  have := nDigits_pos u
  simp at *
  omega
theorem dD_dg (u : Nat) : Dg (decDigits u) := by
  induction u using Nat.strongRecOn with
  | _ u ih =>
    by_cases h : u < 10
    · rw [decDigits_one h]
      intro c hc
      rw [List.mem_singleton] at hc
      subst hc
      rw [dig_nat h]; omega
    · rw [dD_big h]
      intro c hc
      rcases List.mem_append.1 hc with hc | hc
      · exact ih _ (by omega) c hc
      · rw [List.mem_singleton] at hc
        subst hc
        rw [dig_nat (by omega)]; omega
theorem dD_val (u : Nat) (hu : u < 18446744073709551616) : valG 0 (decDigits u) = some u := by
  induction u using Nat.strongRecOn with
  | _ u ih =>
    by_cases h : u < 10
    · rw [decDigits_one h]
      unfold valG
      rw [dig_nat h, if_neg (by omega)]
      unfold valG
      congr 1
      omega
    · rw [dD_big h, valG_app, ih _ (by omega) (by omega)]
      show valG (u / 10) [UInt8.ofNat (48 + u % 10)] = some u
      unfold valG
      rw [dig_nat (by omega), if_neg (by omega)]
      unfold valG
      congr 1
      omega
theorem st_dig {d : Nat} (h : d < 10) : isin [48] (UInt8.ofNat (48 + d)) = decide (d = 0) := by
  have : ∀ d : Nat, d < 10 → isin [48] (UInt8.ofNat (48 + d)) = decide (d = 0) := by decide +kernel
  exact this d h
theorem dD_head (u : Nat) (hu : 0 < u) : st [48] (decDigits u) = false := by
  induction u using Nat.strongRecOn with
  | _ u ih =>
    by_cases h : u < 10
    · rw [decDigits_one h]
      show isin [48] (UInt8.ofNat (48 + u)) = false
      rw [st_dig h]
      exact decide_eq_false (by omega)
    · rw [dD_big h, st_app (dD_ne _)]
      exact ih _ (by omega) (by omega)
theorem dD_zero : decDigits 0 = [48] := decDigits_one (by omega)
theorem cnt_dig : ∀ (t rest : List UInt8), Dg t → st dgL rest = false → cnt dgL (t ++ rest) = t.length
  | [], rest, _, h => cnt_zero h
  | c :: r, rest, hd, h => by
    show cnt dgL (c :: (r ++ rest)) = _
    unfold cnt
    rw [if_pos ((dg_iff c).2 (hd c (List.mem_cons_self ..))), cnt_dig r rest hd.tail h]
    rfl
/-- No number goes on with this. -/
structure Ends (t rest : List UInt8) : Prop where
  dot : st [46] rest = false
  ex : st [101, 69] rest = false
  d : t = [48] ∨ (st [48] t = false ∧ st dgL rest = false)
theorem dg_45 {c : UInt8} (h : 48 ≤ c.toNat) : isin [45] c = false := by
  rcases hb : isin [45] c with _ | _
  · rfl
  · have : c = 45 := by simpa [isin] using hb
    subst this
    exact absurd h (by decide)
theorem num_lit (q : Nat) (pre t rest : List UInt8) (hp : (q = 0 ∧ pre = []) ∨ (q = 1 ∧ pre = [45])) (ht : t ≠ []) (hd : Dg t) (he : Ends t rest) :
    num (pre ++ (t ++ rest)) = match valG 0 t with | none => bad 0 101 | some u => numR q (q + t.length) u := by
  have hlen : pre.length = q := by rcases hp with ⟨rfl, rfl⟩ | ⟨rfl, rfl⟩ <;> rfl
  have hs : sgn (pre ++ (t ++ rest)) = q := by
    rcases hp with ⟨rfl, rfl⟩ | ⟨rfl, rfl⟩
    · cases t with
      | nil => exact absurd rfl ht
      | cons c r =>
        unfold sgn
        rw [if_neg]
        show ¬ isin [45] c = true
        rw [dg_45 (hd c (List.mem_cons_self ..)).1]
        simp
    · rfl
  have hdr : (pre ++ (t ++ rest)).drop q = t ++ rest := by rw [← hlen, List.drop_left]
  have hdr2 : (pre ++ (t ++ rest)).drop (q + t.length) = rest := by rw [← List.drop_drop, hdr, List.drop_left]
  have hI : mI (pre ++ (t ++ rest)) = (q + t.length, true) := by
    unfold mI
    rw [hs, hdr]
    rcases he.d with rfl | ⟨h1, h2⟩
    · rfl
    · rw [if_neg (by rw [st_app ht, h1]; simp)]
      unfold skd
      rw [hdr, cnt_dig t rest hd h2]
      have : 0 < t.length := List.length_pos_iff.2 ht
      rw [decide_eq_true this]
  have hF : mF (pre ++ (t ++ rest)) = (q + t.length, true) := by
    unfold mF
    rw [hI]
    show (if (true && st [46] ((pre ++ (t ++ rest)).drop (q + t.length))) = true then _ else _) = _
    rw [hdr2, he.dot]
    rfl
  have hX : mX (pre ++ (t ++ rest)) = (q + t.length, true) := by
    unfold mX
    rw [hF]
    show (if (true && st [101, 69] ((pre ++ (t ++ rest)).drop (q + t.length))) = true then _ else _) = _
    rw [hdr2, he.ex]
    rfl
  have hg : dgs (pre ++ (t ++ rest)) = t := by
    rw [dgs_eq, hI, hs, hdr]
    show (t ++ rest).take (q + t.length - q) = t
    rw [show q + t.length - q = t.length by omega, List.take_left]
  rw [num_eq (by rw [hX]), hI, hX, hs, hg, if_neg (Nat.lt_irrefl _)]
  cases valG 0 t <;> rfl
theorem kd_dig {c : UInt8} (h : 48 ≤ c.toNat ∧ c.toNat ≤ 57) : kd c.toNat = 10 ∧ isin wsL c = false := by
  have : ∀ n : Nat, n < 256 → 48 ≤ n ∧ n ≤ 57 → kd n = 10 ∧ isin wsL (UInt8.ofNat n) = false := by decide +kernel
  have h2 := this c.toNat (UInt8.toNat_lt c) h
  rwa [UInt8.ofNat_toNat] at h2
theorem tok_lit (q : Nat) (pre t rest : List UInt8) (hp : (q = 0 ∧ pre = []) ∨ (q = 1 ∧ pre = [45])) (ht : t ≠ []) (hd : Dg t) (he : Ends t rest) :
    tok (pre ++ (t ++ rest)) 0 = tokR 0 (match valG 0 t with | none => bad 0 101 | some u => numR q (q + t.length) u) := by
  rw [← num_lit q pre t rest hp ht hd he]
  obtain ⟨c, r, hl, hk, hw⟩ : ∃ c r, pre ++ (t ++ rest) = c :: r ∧ kd c.toNat = 10 ∧ isin wsL c = false := by
    rcases hp with ⟨rfl, rfl⟩ | ⟨rfl, rfl⟩
    · cases t with
      | nil => exact absurd rfl ht
      | cons c r => exact ⟨c, r ++ rest, rfl, kd_dig (hd c (List.mem_cons_self ..))⟩
    · exact ⟨45, t ++ rest, rfl, by decide +kernel⟩
  rw [hl]
  have h0 : cnt wsL (c :: r) = 0 := cnt_zero hw
  have := tok_eq (l := c :: r) (c := c) (r := r) (by rw [h0]; rfl)
  rw [this, h0, rd_cons, if_neg (by rw [hk]; decide), if_pos hk]
theorem ends_of (t rest : List UInt8) (ht : t = [48] ∨ st [48] t = false) (hr : rest = [] ∨ rest = [44] ∨ rest = [45]) : Ends t rest := by
  rcases hr with rfl | rfl | rfl
  · exact ⟨rfl, rfl, ht.imp id (fun h => ⟨h, rfl⟩)⟩
  · exact ⟨by decide, by decide, ht.imp id (fun h => ⟨h, by decide⟩)⟩
  · exact ⟨by decide, by decide, ht.imp id (fun h => ⟨h, by decide⟩)⟩
theorem dD_or (u : Nat) : decDigits u = [48] ∨ st [48] (decDigits u) = false := by
  rcases Nat.eq_zero_or_pos u with rfl | h
  · exact Or.inl dD_zero
  · exact Or.inr (dD_head u h)
/-- The digits of u, and what may stand behind. -/
theorem tok_pos (u : Nat) (hu : u < 18446744073709551616) (rest : List UInt8) (hr : rest = [] ∨ rest = [44] ∨ rest = [45]) :
    tok (decDigits u ++ rest) 0 = tokR 0 (numR 0 (decDigits u).length u) := by
  have := tok_lit 0 [] (decDigits u) rest (Or.inl ⟨rfl, rfl⟩) (dD_ne u) (dD_dg u) (ends_of _ _ (dD_or u) hr)
  rw [dD_val u hu] at this
  rw [Nat.zero_add] at this
  exact this
theorem tok_neg (u : Nat) (hu : u < 18446744073709551616) : tok (45 :: decDigits u) 0 = tokR 0 (numR 1 (1 + (decDigits u).length) u) := by
  have := tok_lit 1 [45] (decDigits u) [] (Or.inr ⟨rfl, rfl⟩) (dD_ne u) (dD_dg u) (ends_of _ _ (dD_or u) (Or.inl rfl))
  rw [dD_val u hu, List.append_nil] at this
  exact this
/-- One digit more. -/
theorem tok_more (u d : Nat) (hu : u < 18446744073709551616) (h0 : 0 < u) (hd : d < 10) :
    tok (decDigits u ++ [UInt8.ofNat (48 + d)]) 0 = tokR 0 (if (18446744073709551615 - d) / 10 < u then bad 0 101 else numR 0 ((decDigits u).length + 1) (10 * u + d)) := by
  have hne : decDigits u ++ [UInt8.ofNat (48 + d)] ≠ [] := by simp
  have hdd : Dg (decDigits u ++ [UInt8.ofNat (48 + d)]) := fun c hc => by
    rcases List.mem_append.1 hc with hc | hc
    · exact dD_dg u c hc
    · rw [List.mem_singleton] at hc
      subst hc
      rw [dig_nat hd]; omega
  have := tok_lit 0 [] (decDigits u ++ [UInt8.ofNat (48 + d)]) [] (Or.inl ⟨rfl, rfl⟩) hne hdd (ends_of _ _ (Or.inr (by rw [st_app (dD_ne u)]; exact dD_head u h0)) (Or.inl rfl))
  rw [List.append_nil] at this
  rw [show ([] : List UInt8) ++ (decDigits u ++ [UInt8.ofNat (48 + d)]) = decDigits u ++ [UInt8.ofNat (48 + d)] from rfl] at this
  rw [this, valG_app, dD_val u hu]
  show tokR 0 (match valG u [UInt8.ofNat (48 + d)] with | none => bad 0 101 | some v => numR 0 (0 + (decDigits u ++ [UInt8.ofNat (48 + d)]).length) v) = _
  have e1 : valG u [UInt8.ofNat (48 + d)] = if (18446744073709551615 - d) / 10 < u then none else some (10 * u + d) := by
    unfold valG
    rw [dig_nat hd, show 48 + d - 48 = d by omega]
    rfl
  rw [e1, List.length_append, Nat.zero_add]
  by_cases h : (18446744073709551615 - d) / 10 < u
  · rw [if_pos h, if_pos h]
  · rw [if_neg h, if_neg h]; rfl
/-- .. behind nought: the nought alone is the number. -/
theorem tok_more0 (x : UInt8) (h1 : st [46] [x] = false) (h2 : st [101, 69] [x] = false) : tok ([48] ++ [x]) 0 = tokR 0 (numR 0 1 0) :=
  tok_lit 0 [] [48] [x] (Or.inl ⟨rfl, rfl⟩) (by simp) (fun c hc => by rw [List.mem_singleton] at hc; subst hc; decide) ⟨h1, h2, Or.inl rfl⟩
end Lx
end Go.Proofs.YtfmoiknpadilaaaDoor
