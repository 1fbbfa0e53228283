/-
  What is proved here: plain facts of numbers: what a number's bytes give, by its sign and the value of its digits; no program in this text; no condition but those that each fact states; and: contracts of the reference's is, digits, value and wrong; condition: a string of at most 2^40 bytes; and: contracts of the reference's value, wrong and number; condition: a string of at most 2^40 bytes.
-/
import Derived.Test.YtodmlgbomhmbpaaGreatDoorLMath
import Derived.Test.YtodmlgbomhmbpaaGreatDoorLMeasM
import Derived.BigQuiet
import Derived.Deep.QuietTactic
import Derived.IntWalk
namespace Go.Proofs.YtodmlgbomhmbpaaGreatDoor
namespace Lx
open Ut Go.Lib

/-- The value of digits, where it fits 64 bits. -/
def valG (n : Nat) : List UInt8 → Option Nat
  | [] => some n
  | c :: r => if (18446744073709551615 - (c.toNat - 48)) / 10 < n then none else valG (10 * n + (c.toNat - 48)) r
def Dg (l : List UInt8) : Prop := ∀ c ∈ l, 48 ≤ c.toNat ∧ c.toNat ≤ 57
theorem Dg.tail {c : UInt8} {r : List UInt8} (h : Dg (c :: r)) : Dg r := fun x hx => h x (List.mem_cons_of_mem _ hx)
theorem valG_lt : ∀ (l : List UInt8) (n u : Nat), Dg l → n < 18446744073709551616 → valG n l = some u → u < 18446744073709551616
  | [], n, u, _, hn, h => by unfold valG at h; injection h with h; omega
  | c :: r, n, u, hd, hn, h => by
    have hc := hd c (List.mem_cons_self ..)
    unfold valG at h
    split at h
    · cases h
    · exact valG_lt r _ u hd.tail (by omega) h
theorem valG_parse : ∀ (l : List UInt8) (n : Nat), Dg l → (∀ u, valG n l = some u → parseUintM 18446744073709551615 n l = .ok u) ∧ (valG n l = none → ∀ u, parseUintM 18446744073709551615 n l ≠ .ok u)
  | [], n, _ => ⟨fun u h => by unfold valG at h; injection h with h; rw [← h]; rfl, fun h => by cases h⟩
  | c :: r, n, hd => by
    have hc := hd c (List.mem_cons_self ..)
    unfold valG parseUintM
    rw [if_pos hc]
    by_cases h : (18446744073709551615 - (c.toNat - 48)) / 10 < n
    · rw [if_pos h]
      refine ⟨(fun u h => by cases h), fun _ u => ?_⟩
      split
      · simp
      · rw [if_pos (by omega)]; simp
    · rw [if_neg h, if_neg (by omega), if_neg (by omega)]
      have e : n * 10 + (c.toNat - 48) = 10 * n + (c.toNat - 48) := by omega
      rw [e]
      exact valG_parse r _ hd.tail
theorem parse_bad : ∀ (ds : List UInt8) (x : UInt8) (r : List UInt8) (n u : Nat), Dg ds → ¬ (48 ≤ x.toNat ∧ x.toNat ≤ 57) → parseUintM 18446744073709551615 n (ds ++ x :: r) ≠ .ok u
  | [], x, r, n, u, _, hx => by
    show parseUintM 18446744073709551615 n (x :: r) ≠ .ok u
    unfold parseUintM
    rw [if_neg hx]; simp
  | c :: ds, x, r, n, u, hd, hx => by
    show parseUintM 18446744073709551615 n (c :: (ds ++ x :: r)) ≠ .ok u
    unfold parseUintM
    rw [if_pos (hd c (List.mem_cons_self ..))]
    split
    · simp
    · split
      · simp
      · exact parse_bad ds x r _ u hd.tail hx

theorem cnt_mem (a : List UInt8) : ∀ (l : List UInt8), ∀ c ∈ l.take (cnt a l), isin a c = true
  | [], c, h => by simp at h
  | x :: r, c, h => by
    unfold cnt at h
    by_cases hx : isin a x = true
    · rw [if_pos hx, List.take_succ_cons] at h
      rcases List.mem_cons.1 h with rfl | h
      · exact hx
      · exact cnt_mem a r c h
    · rw [if_neg hx] at h; simp at h
/-- The digits of a number. -/
def dgs (l : List UInt8) : List UInt8 := (l.take (mI l).1).drop (sgn l)
theorem dgs_eq (l : List UInt8) : dgs l = (l.drop (sgn l)).take ((mI l).1 - sgn l) := by unfold dgs; rw [List.drop_take]
theorem sgn_mI (l : List UInt8) : sgn l ≤ (mI l).1 := by
  unfold mI
  split
  · show sgn l ≤ sgn l + 1; omega
  · unfold skd; show sgn l ≤ sgn l + _; omega
theorem dgs_dg (l : List UInt8) : Dg (dgs l) := by
  rw [dgs_eq]
  intro c hc
  unfold mI at hc
  split at hc
  · rename_i h
    rw [show (sgn l + 1, true).1 - sgn l = 1 by show sgn l + 1 - sgn l = 1; omega] at hc
    cases hl : l.drop (sgn l) with
    | nil => rw [hl] at h; cases h
    | cons x r =>
      rw [hl] at h hc
      simp at hc
      have hx : isin [48] x = true := h
      have : x = 48 := by simpa [isin] using hx
      subst hc; subst this
      decide
  · rw [show (skd l (sgn l)).1 - sgn l = cnt dgL (l.drop (sgn l)) by unfold skd; show sgn l + _ - sgn l = _; omega] at hc
    exact (dg_iff c).1 (cnt_mem dgL _ c hc)
theorem dgs_ne {l : List UInt8} (h : (mI l).2 = true) : dgs l ≠ [] := by
  have hle := mI_le l
  have hp : sgn l < (mI l).1 := by
    unfold mI at h ⊢
    split
    · show sgn l < sgn l + 1; omega
    · rename_i h0
      rw [if_neg h0] at h
      unfold skd at h ⊢
      have := of_decide_eq_true h
      show sgn l < sgn l + _
      omega
  intro he
  have := congrArg List.length he
  rw [dgs_eq, List.length_take, List.length_drop, List.length_nil] at this
  omega
theorem mX_true {l : List UInt8} (h : (mX l).2 = true) : (mF l).2 = true := by
  unfold mX at h
  split at h
  · rename_i h1; rw [Bool.and_eq_true] at h1; exact h1.1
  · exact h
theorem mF_true {l : List UInt8} (h : (mF l).2 = true) : (mI l).2 = true := by
  unfold mF at h
  split at h
  · rename_i h1; rw [Bool.and_eq_true] at h1; exact h1.1
  · exact h
theorem mI_mX (l : List UInt8) : (mI l).1 ≤ (mX l).1 := Nat.le_trans (mF_le l).2 (mX_le l).2
theorem more_at {l : List UInt8} (h : (mI l).1 < (mX l).1) : ∃ x r, l.drop (mI l).1 = x :: r ∧ ¬ (48 ≤ x.toNat ∧ x.toNat ≤ 57) := by
  have key : ∀ a : List UInt8, (∀ x ∈ a, ¬ (48 ≤ x.toNat ∧ x.toNat ≤ 57)) → st a (l.drop (mI l).1) = true → ∃ x r, l.drop (mI l).1 = x :: r ∧ ¬ (48 ≤ x.toNat ∧ x.toNat ≤ 57) := by
    intro a ha hs
    cases hl : l.drop (mI l).1 with
    | nil => rw [hl] at hs; cases hs
    | cons x r =>
      rw [hl] at hs
      have hx : isin a x = true := hs
      exact ⟨x, r, rfl, ha x (by simpa [isin] using hx)⟩
  by_cases h1 : ((mI l).2 && st [46] (l.drop (mI l).1)) = true
  · rw [Bool.and_eq_true] at h1
    exact key [46] (by decide) h1.2
  · have e : mF l = mI l := by unfold mF; rw [if_neg h1]
    by_cases h2 : ((mF l).2 && st [101, 69] (l.drop (mF l).1)) = true
    · rw [Bool.and_eq_true, e] at h2
      exact key [101, 69] (by decide) h2.2
    · have e2 : mX l = mF l := by unfold mX; rw [if_neg h2]
      rw [e2, e] at h
      omega
theorem sgn_head {l : List UInt8} (h : sgn l = 1) : ∃ r, l = 45 :: r := by
  unfold sgn at h
  cases l with
  | nil => cases h
  | cons x r =>
    by_cases hx : isin [45] x = true
    · have : x = 45 := by simpa [isin] using hx
      exact ⟨r, by rw [this]⟩
    · rw [show st [45] (x :: r) = isin [45] x from rfl, if_neg hx] at h; cases h
theorem sgn_or (l : List UInt8) : sgn l = 0 ∨ sgn l = 1 := by unfold sgn; split <;> simp
/-- What a complete number gives. -/
def numR (p n u : Nat) : RD := if p = 1 then (if 9223372036854775808 < u then bad 0 101 else ⟨10, n, -(u : Int), 0, [], 0⟩) else if 9223372036854775808 ≤ u then ⟨11, n, 0, u, [], 0⟩ else ⟨10, n, u, 0, [], 0⟩
theorem parseU (l : List UInt8) (h : l ≠ []) : parseUintB 64 l = parseUintM 18446744073709551615 0 l := by unfold parseUintB; rw [if_neg h]
theorem take_sgn {l : List UInt8} {n : Nat} (h1 : sgn l = 1) (hn : 0 < n) : ∃ t, l.take n = 45 :: t ∧ t = (l.drop 1).take (n - 1) := by
  obtain ⟨r, rfl⟩ := sgn_head h1
  cases n with
  | zero => omega
  | succ n => exact ⟨r.take n, by simp, by simp⟩
theorem parse_45 (t : List UInt8) (u : Nat) : parseUintB 64 (45 :: t) ≠ .ok u := by
  rw [parseU _ (by simp)]
  unfold parseUintM
  rw [if_neg (by decide)]; simp
theorem parseI_neg (t : List UInt8) : parseIntB 64 (45 :: t) = match parseUintB 64 t with | .ok u => if 9223372036854775808 < u then .range else .ok (-(u : Int)) | .range => .range | _ => parseIntB 64 [] := by
  unfold parseIntB
  simp
  cases parseUintB 64 t <;> simp
theorem parseI_pos (c : UInt8) (r : List UInt8) (h : 48 ≤ c.toNat) : parseIntB 64 (c :: r) = match parseUintB 64 (c :: r) with | .ok u => if 9223372036854775808 ≤ u then .range else .ok (u : Int) | .range => .range | _ => parseIntB 64 [] := by
  unfold parseIntB
  have h1 : ¬ c.toNat = 43 := by omega
  have h2 : ¬ c.toNat = 45 := by omega
  simp [h1, h2]
  cases parseUintB 64 (c :: r) <;> simp
def numM (n : Nat) (t : List UInt8) : RD := match parseIntB 64 t with | .ok v => ⟨10, n, v, 0, [], 0⟩ | _ => match parseUintB 64 t with | .ok u => ⟨11, n, 0, u, [], 0⟩ | _ => bad 0 101
theorem num_M {l : List UInt8} (h : (mX l).2 = true) : num l = numM (mX l).1 (l.take (mX l).1) := by unfold num; rw [if_neg (by simp [h])]; rfl
theorem numM_bad {n : Nat} {t : List UInt8} (h1 : ∀ v, parseIntB 64 t ≠ .ok v) (h2 : ∀ u, parseUintB 64 t ≠ .ok u) : numM n t = bad 0 101 := by
  unfold numM
  rcases ha : parseIntB 64 t with v | _ | _
  · exact absurd ha (h1 v)
  all_goals
    rcases hb : parseUintB 64 t with u | _ | _
    · exact absurd hb (h2 u)
    all_goals rfl
theorem intB_neg_no {t : List UInt8} (h : ∀ u, parseUintB 64 t ≠ .ok u) (v : Int) : parseIntB 64 (45 :: t) ≠ .ok v := by
  rw [parseI_neg]
  rcases hb : parseUintB 64 t with u | _ | _
  · exact absurd hb (h u)
  · show parseIntB 64 [] ≠ _; unfold parseIntB; simp
  · simp
theorem intB_pos_no {c : UInt8} {r : List UInt8} (hc : 48 ≤ c.toNat) (h : ∀ u, parseUintB 64 (c :: r) ≠ .ok u) (v : Int) : parseIntB 64 (c :: r) ≠ .ok v := by
  rw [parseI_pos c r hc]
  rcases hb : parseUintB 64 (c :: r) with u | _ | _
  · exact absurd hb (h u)
  · show parseIntB 64 [] ≠ _; unfold parseIntB; simp
  · simp
theorem numM_neg {n : Nat} {t : List UInt8} (ht : t ≠ []) (hd : Dg t) : numM n (45 :: t) = match valG 0 t with | none => bad 0 101 | some u => numR 1 n u := by
  obtain ⟨a, b⟩ := valG_parse t 0 hd
  rw [← parseU t ht] at a b
  cases hv : valG 0 t with
  | none => exact numM_bad (intB_neg_no (b hv)) (parse_45 t)
  | some u =>
    have hu := a u hv
    show numM n (45 :: t) = numR 1 n u
    unfold numR
    rw [if_pos rfl]
    by_cases h : 9223372036854775808 < u
    · rw [if_pos h]
      refine numM_bad (fun v => ?_) (parse_45 t)
      rw [parseI_neg, hu]; simp [h]
    · rw [if_neg h]
      unfold numM
      rw [parseI_neg, hu]; simp [h]
theorem numM_pos {n : Nat} {t : List UInt8} (ht : t ≠ []) (hd : Dg t) : numM n t = match valG 0 t with | none => bad 0 101 | some u => numR 0 n u := by
  obtain ⟨a, b⟩ := valG_parse t 0 hd
  rw [← parseU t ht] at a b
  cases t with
  | nil => exact absurd rfl ht
  | cons c r =>
    have hc := (hd c (List.mem_cons_self ..)).1
    cases hv : valG 0 (c :: r) with
    | none => exact numM_bad (intB_pos_no hc (b hv)) (b hv)
    | some u =>
      have hu := a u hv
      show numM n (c :: r) = numR 0 n u
      unfold numR
      rw [if_neg (by decide)]
      by_cases h : 9223372036854775808 ≤ u
      · rw [if_pos h]
        unfold numM
        rw [parseI_pos c r hc, hu]; simp [h]
      · rw [if_neg h]
        unfold numM
        rw [parseI_pos c r hc, hu]; simp [h]
theorem num_eq {l : List UInt8} (h : (mX l).2 = true) : num l = if (mI l).1 < (mX l).1 then bad 0 101 else match valG 0 (dgs l) with | none => bad 0 101 | some u => numR (sgn l) (mX l).1 u := by
  have hne := dgs_ne (mF_true (mX_true h))
  have hdd := dgs_dg l
  have hle := mX_le l
  have hmm := mI_mX l
  have hpos := mX_pos l h
  rw [num_M h]
  by_cases hlt : (mI l).1 < (mX l).1
  · rw [if_pos hlt]
    obtain ⟨x, r, hx, hxn⟩ := more_at hlt
    obtain ⟨r', hr'⟩ : ∃ r', (l.drop (mI l).1).take ((mX l).1 - (mI l).1) = x :: r' := by
      rw [hx]
      cases hd : (mX l).1 - (mI l).1 with
      | zero => omega
      | succ m => exact ⟨r.take m, by simp⟩
    have hsplit : l.take (mX l).1 = l.take (mI l).1 ++ x :: r' := by
      rw [← hr', ← List.take_add]; congr 1; omega
    rcases sgn_or l with hp | hp
    · have e : l.take (mI l).1 = dgs l := by unfold dgs; rw [hp]; rfl
      rw [hsplit, e]
      have hu : ∀ u, parseUintB 64 (dgs l ++ x :: r') ≠ .ok u := fun u => by
        rw [parseU _ (by simp)]; exact parse_bad _ _ _ _ _ hdd hxn
      refine numM_bad ?_ hu
      cases hdl : dgs l with
      | nil => exact absurd hdl hne
      | cons c ds =>
        rw [hdl] at hu hdd
        exact intB_pos_no (hdd c (List.mem_cons_self ..)).1 hu
    · have hi : 0 < (mI l).1 := by have := sgn_mI l; omega
      obtain ⟨t, ht, ht2⟩ := take_sgn hp hi
      have e : t = dgs l := by
        rw [ht2, dgs_eq, hp]
      rw [hsplit, ht, List.cons_append, e]
      have hu : ∀ u, parseUintB 64 (dgs l ++ x :: r') ≠ .ok u := fun u => by
        rw [parseU _ (by simp)]; exact parse_bad _ _ _ _ _ hdd hxn
      exact numM_bad (intB_neg_no hu) (parse_45 _)
  · rw [if_neg hlt]
    have hi : (mI l).1 = (mX l).1 := by omega
    rcases sgn_or l with hp | hp
    · have e : l.take (mX l).1 = dgs l := by unfold dgs; rw [hp, hi]; rfl
      rw [e, hp]
      exact numM_pos hne hdd
    · obtain ⟨t, ht, ht2⟩ := take_sgn hp hpos
      have e : t = dgs l := by
        rw [ht2, dgs_eq, hp, hi]
      rw [ht, e, hp]
      exact numM_neg hne hdd
theorem skd_c (l : List UInt8) (k : Nat) : (skd l k).2 = decide (k < (skd l k).1) := by
  unfold skd
  show decide (0 < cnt dgL (l.drop k)) = decide (k < k + cnt dgL (l.drop k))
  congr 1
  simp
theorem mI_c (l : List UInt8) : (mI l).2 = decide (sgn l < (mI l).1) := by
  unfold mI
  split
  · show true = decide (sgn l < sgn l + 1); simp
  · exact skd_c l (sgn l)
theorem num_inc {l : List UInt8} (h : (mX l).2 = false) : num l = bad (mX l).1 100 := by unfold num; rw [if_pos h]
theorem mX_cut1 {l : List UInt8} (h : (mI l).2 = false) : mX l = mI l := by
  have e : mF l = mI l := by unfold mF; rw [h]; rfl
  unfold mX
  rw [e, h]; rfl
theorem mX_cut2 {l : List UInt8} (h : (mF l).2 = false) : mX l = mF l := by
  unfold mX
  rw [h]; rfl
end Lx
end Go.Proofs.YtodmlgbomhmbpaaGreatDoor
namespace Go.Proofs.YtodmlgbomhmbpaaGreatDoor
open Go.RowKit Ut Lx

theorem lx_at {s : ByteArray} {l : List UInt8} {k : Nat} {c : UInt8} (hl : s.data.toList = l) (hc : l[k]? = some c) (hk : k < s.size) : s[k]'hk = c := by
  subst hl
  rw [List.getElem?_eq_some_iff] at hc
  obtain ⟨_, h⟩ := hc
  exact h
theorem lx_some (l : List UInt8) {k : Nat} (h : k < l.length) : ∃ c, l[k]? = some c := ⟨_, List.getElem?_eq_getElem h⟩
theorem st_at {l : List UInt8} {k : Nat} {c : UInt8} (hc : l[k]? = some c) (a : List UInt8) : st a (l.drop k) = isin a c := by
  obtain ⟨h, rfl⟩ := List.getElem?_eq_some_iff.1 hc
  rw [List.drop_eq_getElem_cons h]
  rfl
theorem st_end {l : List UInt8} {k : Nat} (h : l.length ≤ k) (a : List UInt8) : st a (l.drop k) = false := by
  rw [List.drop_of_length_le h]; rfl
theorem isin_mem (a : List UInt8) (c : UInt8) : isin a c = true ↔ c ∈ a := by unfold isin; simp
theorem isin_snoc {a : List UInt8} {k : Nat} {x : UInt8} (h : a[k]? = some x) (c : UInt8) : isin (a.take (k + 1)) c = (isin (a.take k) c || decide (c = x)) := by
  rw [Bool.eq_iff_iff, Bool.or_eq_true, isin_mem, isin_mem, decide_eq_true_iff, List.take_add_one, h]
  simp
theorem isin_yes {a : List UInt8} {k : Nat} {x : UInt8} (h : a[k]? = some x) : isin a x = true := by
  rw [isin_mem]; exact List.mem_of_getElem? h
def QB (w : World) (v : Value) (e : Ending) (w' : World) : Prop := e = .returned v ∧ ∃ n, w' = w.drewN n
def IH (w : World) (l a : List UInt8) (at_ : Nat) (v : Value) (wr : World) : Prop := ∃ k n : Nat, k ≤ a.length ∧ v = .int .i64 k ∧ st (a.take k) (l.drop at_) = false ∧ wr = w.drewN n
set_option maxHeartbeats 1000000 in
set_option maxRecDepth 100000 in
theorem is_any (s a : ByteArray) (l la : List UInt8) (k : Nat) (w : World) (hl : s.data.toList = l) (ha : a.data.toList = la) (_hs : s.size ≤ 1099511627776) (hk : k ≤ 1099511627776) (has : a.size ≤ 1000) :
    Calls Tryz.prog 26 #[.string s, .int .i64 k, .string a] w (QB w (.bool (st la (l.drop k)))) := by
  have HSZ := Lib.hid (show s.size = l.length by rw [Lib.size_eq, hl])
  have HAZ := Lib.hid (show a.size = la.length by rw [Lib.size_eq, ha])
  have HL := Lib.hid hl
  have HA := Lib.hid ha
  clear hl ha
  obtain ⟨b, hb⟩ : ∃ b, st la (l.drop k) = b := ⟨_, rfl⟩
  rw [hb]
  have HB := Lib.hid hb
  clear hb
  have z0 : (0 : Int) ≤ (k : Int) := by omega
  go_enter Tryz.func26, Tryz.ntmps26
  go_wp2
  go_loopw [7] (fun v wr => ∃ j n : Nat, j ≤ a.size ∧ v = .int .i64 j ∧ Hid (st (la.take j) (l.drop k) = false) ∧ wr = w.drewN n) (fun v _ => a.size + 1 - (RowKit.intOf v).toNat)
  case atStart => exact ⟨0, 0, Nat.zero_le _, rfl, by show st [] _ = false; cases l.drop k <;> rfl, rfl⟩
  case round =>
    obtain ⟨j, n, hj, rfl, HST, rfl⟩ := hrel
    have j0 : (0 : Int) ≤ (j : Int) := by omega
    by_cases hja : j < a.size
    · have d1 : decide ((j : Int) < (a.size : Int)) = true := decide_eq_true (by omega)
      have d2 : decide (j < a.size) = true := decide_eq_true hja
      have j1 : (j : Int) < (a.size : Int) := by omega
      obtain ⟨x, hx⟩ := lx_some la (k := j) (by rw [← HAZ.out]; exact hja)
      have ax : a[j] = x := lx_at HA.out hx hja
      by_cases hks : k < s.size
      · have d3 : decide ((k : Int) < (s.size : Int)) = true := decide_eq_true (by omega)
        have d4 : decide (k < s.size) = true := decide_eq_true hks
        have k1 : (k : Int) < (s.size : Int) := by omega
        obtain ⟨c, hc⟩ := lx_some l (k := k) (by rw [← HSZ.out]; exact hks)
        have sx : s[k] = c := lx_at HL.out hc hks
        by_cases hcx : c = x
        · have q : ((c.toNat : Int) == (x.toNat : Int)) = true := by rw [hcx]; simp
          have HR := Lib.hid (show true = b by rw [← HB.out, st_at hc, hcx, isin_yes hx])
          clear hcx hc hx
          go_wp2
          go_quiet (fail)
          go_wp2
          go_ret
          exact ⟨by first | (rw [HR.out]; done) | (rw [HR.out]; rfl), _, by first | rfl | rw [World.drewN_drewN]⟩
        · have hne : c.toNat ≠ x.toNat := fun h => hcx (UInt8.toNat_inj.1 h)
          have q : ((c.toNat : Int) == (x.toNat : Int)) = false := by simp; omega
          have HR := Lib.hid (show st (la.take (j + 1)) (l.drop k) = false by
            rw [st_at hc, isin_snoc hx]
            have := HST.out
            rw [st_at hc] at this
            rw [this]; simpa using hcx)
          clear hcx hc hx hne
          go_wp2
          go_quiet (fail)
          go_wp2
          go_roundw
          case rel => exact ⟨j + 1, _, by omega, by go_num, HR.out, by first | rfl | rw [World.drewN_drewN]⟩
          case measure => simp [RowKit.intOf]; omega
      · have d3 : decide ((k : Int) < (s.size : Int)) = false := decide_eq_false (by omega)
        have d4 : decide (k < s.size) = false := decide_eq_false hks
        have HR := Lib.hid (show st (la.take (j + 1)) (l.drop k) = false from st_end (by rw [← HSZ.out]; omega) _)
        clear hks hx
        go_wp2
        go_quiet (fail)
        go_wp2
        go_roundw
        case rel => exact ⟨j + 1, _, by omega, by go_num, HR.out, by first | rfl | rw [World.drewN_drewN]⟩
        case measure => simp [RowKit.intOf]; omega
    · have d1 : decide ((j : Int) < (a.size : Int)) = false := decide_eq_false (by omega)
      have d2 : decide (j < a.size) = false := decide_eq_false hja
      have HR := Lib.hid (show false = b by
        rw [← HB.out, ← HST.out, List.take_of_length_le (by rw [← HAZ.out]; omega)])
      clear hja
      go_wp2
      go_ret
      exact ⟨by first | (rw [HR.out]; done) | (rw [HR.out]; rfl), _, rfl⟩
set_option maxHeartbeats 1000000 in
set_option maxRecDepth 100000 in
theorem digits_any (s : ByteArray) (l : List UInt8) (k : Nat) (w : World) (hl : s.data.toList = l) (hs : s.size ≤ 1099511627776) (_hk : k ≤ 1099511627776) :
    Calls Tryz.prog 36 #[.string s, .int .i64 k] w (QB w (.int .i64 ((k + cnt dgL (l.drop k) : Nat)))) := by
  have HSZ := Lib.hid (show s.size = l.length by rw [Lib.size_eq, hl])
  have HL := Lib.hid hl
  obtain ⟨C, hC⟩ : ∃ C, cnt dgL (l.drop k) = C := ⟨_, rfl⟩
  have hle : k + C ≤ s.size ∨ C = 0 := by
    have := cnt_le dgL (l.drop k)
    rw [hC, List.length_drop, ← HSZ.out] at this
    omega
  rw [hC]
  have HC := Lib.hid hC
  clear hl hC
  go_enter Tryz.func36, Tryz.ntmps36
  go_wp2
  go_loopw [1] (fun v wr => ∃ j n : Nat, k ≤ j ∧ j ≤ k + C ∧ v = .int .i64 j ∧ wr = w.drewN n) (fun v _ => k + C + 1 - (RowKit.intOf v).toNat)
  case atStart => exact ⟨k, 0, Nat.le_refl _, Nat.le_add_right _ _, rfl, rfl⟩
  case round =>
    obtain ⟨j, n, hkj, hjC, rfl, rfl⟩ := hrel
    have j0 : (0 : Int) ≤ (j : Int) := by omega
    by_cases hjs : j < s.size
    · have d1 : decide ((j : Int) < (s.size : Int)) = true := decide_eq_true (by omega)
      have d2 : decide (j < s.size) = true := decide_eq_true hjs
      have j1 : (j : Int) < (s.size : Int) := by omega
      obtain ⟨c, hc⟩ := lx_some l (k := j) (by rw [← HSZ.out]; exact hjs)
      have sx : s[j] = c := lx_at HL.out hc hjs
      have hdj : (l.drop k).drop (j - k) = l.drop j := by rw [List.drop_drop]; congr 1; omega
      by_cases hd : 48 ≤ c.toNat ∧ c.toNat ≤ 57
      · have e1 : decide (48 ≤ (c.toNat : Int)) = true := decide_eq_true (by omega)
        have e2 : decide ((c.toNat : Int) ≤ 57) = true := decide_eq_true (by omega)
        have HG := Lib.hid (show j + 1 ≤ k + C by
          have := cnt_step (a := dgL) (l := l.drop k) (k := j - k) (by rw [HC.out]; omega) (by rw [hdj, st_at hc]; exact (dg_iff c).2 hd)
          rw [HC.out] at this; omega)
        clear hd hc hdj
        go_wp2
        go_roundw
        case rel => exact ⟨j + 1, _, by omega, HG.out, by go_num, by first | rfl | rw [World.drewN_drewN]⟩
        case measure => have := HG.out; simp [RowKit.intOf]; omega
      · have HR := Lib.hid (show j = k + C by
          have := cnt_end (a := dgL) (l := l.drop k) (k := j - k) (by rw [HC.out]; omega) (by rw [hdj, st_at hc, Bool.eq_false_iff, ne_eq, dg_iff]; exact hd)
          rw [HC.out] at this; omega)
        by_cases h48 : 48 ≤ c.toNat
        · have e1 : decide (48 ≤ (c.toNat : Int)) = true := decide_eq_true (by omega)
          have e2 : decide ((c.toNat : Int) ≤ 57) = false := decide_eq_false (by omega)
          clear hd hc hdj h48
          go_wp2
          go_ret
          exact ⟨by rw [← HR.out]; rfl, _, rfl⟩
        · have e1 : decide (48 ≤ (c.toNat : Int)) = false := decide_eq_false (by omega)
          clear hd hc hdj h48
          go_wp2
          go_ret
          exact ⟨by rw [← HR.out]; rfl, _, rfl⟩
    · have d1 : decide ((j : Int) < (s.size : Int)) = false := decide_eq_false (by omega)
      have d2 : decide (j < s.size) = false := decide_eq_false hjs
      have HR := Lib.hid (show j = k + C by
        have hz : l.drop j = [] := List.drop_of_length_le (by rw [← HSZ.out]; omega)
        have hdj : (l.drop k).drop (j - k) = l.drop j := by rw [List.drop_drop]; congr 1; omega
        have := cnt_end (a := dgL) (l := l.drop k) (k := j - k) (by rw [HC.out]; omega) (by rw [hdj, hz]; rfl)
        rw [HC.out] at this; omega)
      clear hjs
      go_wp2
      go_ret
      exact ⟨by rw [← HR.out]; rfl, _, rfl⟩
end Go.Proofs.YtodmlgbomhmbpaaGreatDoor
namespace Go.Proofs.YtodmlgbomhmbpaaGreatDoor
open Go.RowKit Ut Lx

theorem lx_drop1 {l : List UInt8} {k : Nat} {c : UInt8} (hc : l[k]? = some c) : l.drop k = c :: l.drop (k + 1) := by
  obtain ⟨h, rfl⟩ := List.getElem?_eq_some_iff.1 hc
  exact List.drop_eq_getElem_cons h
theorem valG_cons (n : Nat) (c : UInt8) (r : List UInt8) : valG n (c :: r) = if (18446744073709551615 - (c.toNat - 48)) / 10 < n then none else valG (10 * n + (c.toNat - 48)) r := rfl
def valV (o : Option Nat) : Value := match o with | some u => .tuple #[.int .u64 u, .bool true] | none => .tuple #[.int .u64 0, .bool false]
set_option maxHeartbeats 1000000 in
set_option maxRecDepth 100000 in
theorem value_any (s : ByteArray) (l : List UInt8) (w : World) (hl : s.data.toList = l) (hd : Dg l) (hs : s.size ≤ 1099511627776) :
    Calls Tryz.prog 37 #[.string s] w (QB w (valV (valG 0 l))) := by
  have HSZ := Lib.hid (show s.size = l.length by rw [Lib.size_eq, hl])
  have HL := Lib.hid hl
  have HD := Lib.hid hd
  clear hl hd
  go_enter Tryz.func37, Tryz.ntmps37
  go_wp2
  go_loopw [4, 5] (fun a v wr => ∃ k u n : Nat, k ≤ s.size ∧ v = .int .i64 k ∧ a = .int .u64 u ∧ Hid (valG 0 l = valG u (l.drop k)) ∧ Hid (u < 18446744073709551616) ∧ wr = w.drewN n) (fun _ v _ => s.size + 1 - (RowKit.intOf v).toNat)
  case atStart => exact ⟨0, 0, 0, Nat.zero_le _, rfl, rfl, rfl, Lib.hid (by omega), rfl⟩
  case round =>
    obtain ⟨k, u, n, hk, rfl, rfl, HV, HU, rfl⟩ := hrel
    have k0 : (0 : Int) ≤ (k : Int) := by omega
    by_cases hks : k < s.size
    · have d1 : decide ((k : Int) < (s.size : Int)) = true := decide_eq_true (by omega)
      have d2 : decide (k < s.size) = true := decide_eq_true hks
      have k1 : (k : Int) < (s.size : Int) := by omega
      obtain ⟨c, hc⟩ := lx_some l (k := k) (by rw [← HSZ.out]; exact hks)
      have sx : s[k] = c := lx_at HL.out hc hks
      have hcd := HD.out c (List.mem_of_getElem? hc)
      have c1 : (48 : Int) ≤ (c.toNat : Int) := by omega
      have c2 : (c.toNat : Int) ≤ 57 := by omega
      have hdr := lx_drop1 hc
      by_cases hb : (18446744073709551615 - (c.toNat - 48)) / 10 < u
      · have q : decide ((18446744073709551615 - ((c.toNat : Int) - 48)) / 10 < (u : Int)) = true := decide_eq_true (by omega)
        have HR := Lib.hid (show valG 0 l = none by rw [HV.out, hdr]; unfold valG; rw [if_pos hb])
        clear hc hb hdr hcd
        go_wp2
        go_ret2
        exact ⟨by rw [HR.out]; rfl, _, rfl⟩
      · have q : decide ((18446744073709551615 - ((c.toNat : Int) - 48)) / 10 < (u : Int)) = false := decide_eq_false (by omega)
        have HR := Lib.hid (show valG 0 l = valG (10 * u + (c.toNat - 48)) (l.drop (k + 1)) by rw [HV.out, hdr, valG_cons, if_neg hb])
        have HU2 := Lib.hid (show 10 * u + (c.toNat - 48) < 18446744073709551616 by omega)
        have HI := Lib.hid (show IntKind.u64.wrap (IntKind.u64.wrap (10 * (u : Int)) + ((c.toNat : Int) - 48)) = ((10 * u + (c.toNat - 48) : Nat) : Int) by rw [IntWalk.u64_in (10 * (u : Int)) (by omega), IntWalk.u64_in _ (by omega)]; omega)
        clear hc hb hdr hcd
        go_wp2
        exact ⟨⟨k + 1, _, _, by omega, by go_num, by rw [HI.out], HR.out, HU2.out, rfl⟩, by simp [RowKit.intOf]; omega⟩
    · have d1 : decide ((k : Int) < (s.size : Int)) = false := decide_eq_false (by omega)
      have d2 : decide (k < s.size) = false := decide_eq_false hks
      have HR := Lib.hid (show valG 0 l = some u by rw [HV.out, List.drop_of_length_le (by rw [← HSZ.out]; omega)]; rfl)
      clear hks
      go_wp2
      go_ret2
      exact ⟨by rw [HR.out]; rfl, _, rfl⟩
end Go.Proofs.YtodmlgbomhmbpaaGreatDoor
