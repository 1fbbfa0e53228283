/-
  What is proved here: plain facts of the reader of literals as the reference reads: digits, the four digits of an escape, the first bytes of an encoding; no program in this text; no condition but those that each fact states.
-/
import Derived.Test.YtoifjbhjclglmaaDoorEnc
namespace Go.Proofs.YtoifjbhjclglmaaDoor
namespace Ut
open Go.Lib Go.RowKit

def smL : List UInt8 := [48, 49, 50, 51, 52, 53, 54, 55, 56, 57, 97, 98, 99, 100, 101, 102]
def grL : List UInt8 := [48, 49, 50, 51, 52, 53, 54, 55, 56, 57, 65, 66, 67, 68, 69, 70]
theorem dg_yes : ∀ n : Fin 256, ∀ k : Fin 16, (smL.getD k.val 0 = UInt8.ofNat n.val ∨ grL.getD k.val 0 = UInt8.ofNat n.val) → dv n.val = some k.val := by decide +kernel
theorem dg_no : ∀ n : Fin 256, (∀ k : Fin 16, smL.getD k.val 0 ≠ UInt8.ofNat n.val ∧ grL.getD k.val 0 ≠ UInt8.ofNat n.val) → dv n.val = none := by decide +kernel
theorem dv_yes {c : UInt8} {k : Nat} (hk : k < 16) (h : smL.getD k 0 = c ∨ grL.getD k 0 = c) : dv c.toNat = some k :=
  dg_yes ⟨c.toNat, c.toNat_lt⟩ ⟨k, hk⟩ (by simpa using h)
theorem dv_no {c : UInt8} (h : ∀ k, k < 16 → smL.getD k 0 ≠ c ∧ grL.getD k 0 ≠ c) : dv c.toNat = none :=
  dg_no ⟨c.toNat, c.toNat_lt⟩ (fun k => by simpa using h k.val k.isLt)
def dI (c : UInt8) : Int := match dv c.toNat with
  | none => -1
  | some d => (d : Int)
theorem dI_some {c : UInt8} {d : Nat} (h : dv c.toNat = some d) : dI c = (d : Int) := by unfold dI; rw [h]
theorem dI_none {c : UInt8} (h : dv c.toNat = none) : dI c = -1 := by unfold dI; rw [h]

/-- The reader within the digits of an escape. -/
def F1 (t : List UInt8) (code dig h : Nat) : Q := ⟨4, t, [], code, dig, h⟩
def F2 (t : List UInt8) (code dig h : Nat) : Q := ⟨7, t, [], code, dig, h⟩
theorem step_F1 (t : List UInt8) (code dig h : Nat) (c : UInt8) : step (F1 t code dig h) c = firstS (F1 t code dig h) c.toNat := rfl
theorem step_F2 (t : List UInt8) (code dig h : Nat) (c : UInt8) : step (F2 t code dig h) c = secondS (F2 t code dig h) c.toNat := rfl
theorem p0 : (16 : Nat) ^ 0 = 1 := by decide
theorem p1 : (16 : Nat) ^ 1 = 16 := by decide
theorem p2 : (16 : Nat) ^ 2 = 256 := by decide
theorem p3 : (16 : Nat) ^ 3 = 4096 := by decide
theorem p4 : (16 : Nat) ^ 4 = 65536 := by decide
def half (n : Nat) : Prop := 220 ≤ n ∧ n ≤ 223
instance (n : Nat) : Decidable (half n) := by unfold half; infer_instance
/-- A digit of the first number. -/
theorem first_more {t : List UInt8} {N j h d : Nat} {c : UInt8} (hj : j < 3) (hd : dv c.toNat = some d) (hN : N < 16 ^ j) (h1 : j = 1 → ¬ half (16 * N + d)) (h2 : j = 2 → ¬ half N) :
    step (F1 t N j h) c = (F1 t (16 * N + d) (j + 1) h, 0) := by
  have hd16 := dv_lt hd
  rw [step_F1]
  unfold firstS
  rw [hd]
  dsimp only
  unfold half at h1 h2
  have e : (F1 t N j h).code * 16 + d = 16 * N + d := by show N * 16 + d = _; omega
  rw [e, show (F1 t N j h).dig = j from rfl]
  have hc : ¬ (56320 ≤ lo (16 * N + d) (j + 1) ∧ hi (16 * N + d) (j + 1) ≤ 57343) := by
    unfold lo hi
    rcases (show j = 0 ∨ j = 1 ∨ j = 2 by omega) with rfl | rfl | rfl
    · rw [p0] at hN; rw [show 4 - (0 + 1) = 3 from rfl, p3]; omega
    · rw [p1] at hN; have := h1 rfl; rw [show 4 - (1 + 1) = 2 from rfl, p2]; omega
    · rw [p2] at hN; have := h2 rfl; rw [show 4 - (2 + 1) = 1 from rfl, p1]; omega
  rw [if_neg hc, if_pos (by omega)]
  rfl
theorem first_half {t : List UInt8} {N h d : Nat} {c : UInt8} (hd : dv c.toNat = some d) (h1 : half (16 * N + d)) : (step (F1 t N 1 h) c).2 = 41 := by
  rw [step_F1]
  unfold firstS
  rw [hd]
  dsimp only
  unfold half at h1
  have e : (F1 t N 1 h).code * 16 + d = 16 * N + d := by show N * 16 + d = _; omega
  rw [e, show (F1 t N 1 h).dig = 1 from rfl]
  have hc : 56320 ≤ lo (16 * N + d) (1 + 1) ∧ hi (16 * N + d) (1 + 1) ≤ 57343 := by
    unfold lo hi
    rw [show 4 - (1 + 1) = 2 from rfl, p2]; omega
  rw [if_pos hc]
theorem first_none {t : List UInt8} {N j h : Nat} {c : UInt8} (hd : dv c.toNat = none) : (step (F1 t N j h) c).2 = 41 := by
  rw [step_F1]
  unfold firstS
  rw [hd]
theorem first_last {t : List UInt8} {N h d : Nat} {c : UInt8} (hd : dv c.toNat = some d) (_hN : N < 4096) (h2 : ¬ half (N / 16)) :
    step (F1 t N 3 h) c = (if 55296 ≤ 16 * N + d ∧ 16 * N + d < 56320 then ⟨5, t, [], 0, 0, 16 * N + d⟩ else Q1 (t ++ enc (16 * N + d)) h, 0) := by
  have hd16 := dv_lt hd
  rw [step_F1]
  unfold firstS
  rw [hd]
  dsimp only
  unfold half at h2
  have e : (F1 t N 3 h).code * 16 + d = 16 * N + d := by show N * 16 + d = _; omega
  rw [e, show (F1 t N 3 h).dig = 3 from rfl]
  have el : lo (16 * N + d) (3 + 1) = 16 * N + d := by unfold lo; rw [show 4 - (3 + 1) = 0 from rfl, p0]; omega
  have eh : hi (16 * N + d) (3 + 1) = 16 * N + d := by unfold hi; rw [show 4 - (3 + 1) = 0 from rfl, p0]; omega
  rw [el, eh, if_neg (by omega), if_neg (by omega)]
  split
  · rfl
  · rfl
/-- A digit of the second number. -/
theorem second_more {t : List UInt8} {N j h d : Nat} {c : UInt8} (hj : j < 3) (hd : dv c.toNat = some d) (h0 : j = 0 → N = 0 ∧ d = 13) (h1 : j = 1 → half (16 * N + d)) (h2 : j = 2 → half N) :
    step (F2 t N j h) c = (F2 t (16 * N + d) (j + 1) h, 0) := by
  have hd16 := dv_lt hd
  rw [step_F2]
  unfold secondS
  rw [hd]
  dsimp only
  unfold half at h1 h2
  have e : (F2 t N j h).code * 16 + d = 16 * N + d := by show N * 16 + d = _; omega
  rw [e, show (F2 t N j h).dig = j from rfl]
  have hc : ¬ (hi (16 * N + d) (j + 1) < 56320 ∨ 57343 < lo (16 * N + d) (j + 1)) := by
    unfold lo hi
    rcases (show j = 0 ∨ j = 1 ∨ j = 2 by omega) with rfl | rfl | rfl
    · have := h0 rfl; rw [show 4 - (0 + 1) = 3 from rfl, p3]; omega
    · have := h1 rfl; rw [show 4 - (1 + 1) = 2 from rfl, p2]; omega
    · have := h2 rfl; rw [show 4 - (2 + 1) = 1 from rfl, p1]; omega
  rw [if_neg hc, if_pos (by omega)]
  rfl
theorem second_bad {t : List UInt8} {N j h d : Nat} {c : UInt8} (hd : dv c.toNat = some d) (hb : (j = 0 ∧ N = 0 ∧ d ≠ 13) ∨ (j = 1 ∧ ¬ half (16 * N + d))) : (step (F2 t N j h) c).2 = 41 := by
  have hd16 := dv_lt hd
  rw [step_F2]
  unfold secondS
  rw [hd]
  dsimp only
  unfold half at hb
  have e : (F2 t N j h).code * 16 + d = 16 * N + d := by show N * 16 + d = _; omega
  rw [e, show (F2 t N j h).dig = j from rfl]
  have hc : hi (16 * N + d) (j + 1) < 56320 ∨ 57343 < lo (16 * N + d) (j + 1) := by
    unfold lo hi
    rcases hb with ⟨rfl, rfl, hb⟩ | ⟨rfl, hb⟩
    · rw [show 4 - (0 + 1) = 3 from rfl, p3]; omega
    · rw [show 4 - (1 + 1) = 2 from rfl, p2]; omega
  rw [if_pos hc]
theorem second_none {t : List UInt8} {N j h : Nat} {c : UInt8} (hd : dv c.toNat = none) : (step (F2 t N j h) c).2 = 41 := by
  rw [step_F2]
  unfold secondS
  rw [hd]
theorem second_last {t : List UInt8} {N h d : Nat} {c : UInt8} (hd : dv c.toNat = some d) (h2 : half (N / 16)) :
    step (F2 t N 3 h) c = (Q1 (t ++ enc (65536 + 1024 * (h - 55296) + (16 * N + d) - 56320)) h, 0) := by
  have hd16 := dv_lt hd
  rw [step_F2]
  unfold secondS
  rw [hd]
  dsimp only
  unfold half at h2
  have e : (F2 t N 3 h).code * 16 + d = 16 * N + d := by show N * 16 + d = _; omega
  rw [e, show (F2 t N 3 h).dig = 3 from rfl]
  have el : lo (16 * N + d) (3 + 1) = 16 * N + d := by unfold lo; rw [show 4 - (3 + 1) = 0 from rfl, p0]; omega
  have eh : hi (16 * N + d) (3 + 1) = 16 * N + d := by unfold hi; rw [show 4 - (3 + 1) = 0 from rfl, p0]; omega
  rw [el, eh, if_neg (by omega), if_neg (by omega)]
  rfl

theorem drop_at {l : List UInt8} {k : Nat} {c : UInt8} (h : l[k]? = some c) : l.drop k = c :: l.drop (k + 1) := by
  rw [List.getElem?_eq_some_iff] at h
  obtain ⟨hk, h⟩ := h
  rw [List.drop_eq_getElem_cons hk, h]
theorem drop_end {l : List UInt8} {k : Nat} (h : l.length ≤ k) : l.drop k = [] := List.drop_of_length_le h
/-- What an error at an offset gives. -/
def er (l : List UInt8) (k e : Nat) : List UInt8 × Nat × Nat × Nat := ([], 0, k, if l.length ≤ k then 3 else e)
theorem er_end {l : List UInt8} {k e : Nat} {q : Q} (hq : q.st ≠ 8) (h : l.length ≤ k) : go q (l.drop k) k = er l k e := by
  rw [drop_end h, go_nil hq]
  unfold er
  rw [if_pos h]
theorem er_bad {l : List UInt8} {k e : Nat} {q : Q} {c : UInt8} (hq : q.st ≠ 8) (h : l[k]? = some c) (he : (step q c).2 = e) (h0 : e ≠ 0) : go q (l.drop k) k = er l k e := by
  rw [drop_at h, go_err hq (by rw [he]; exact h0), he]
  unfold er
  have hk : k < l.length := (List.getElem?_eq_some_iff.1 h).1
  rw [if_neg (by omega)]
theorem go_one {l : List UInt8} {k : Nat} {q q' : Q} {c : UInt8} (hq : q.st ≠ 8) (h : l[k]? = some c) (he : step q c = (q', 0)) : go q (l.drop k) k = go q' (l.drop (k + 1)) (k + 1) := by
  rw [drop_at h, go_step hq he]

/-- Between two digits of the first number. -/
def F4 (l : List UInt8) (at_ j N : Nat) : Prop :=
  N < 16 ^ j ∧ (j = 2 → ¬ half N) ∧ (j = 3 → ¬ half (N / 16)) ∧ (j = 4 → ¬ half (N / 256)) ∧
    ∀ t h, go (F1 t 0 0 h) (l.drop at_) at_ = if j < 4 then go (F1 t N j h) (l.drop (at_ + j)) (at_ + j) else if 55296 ≤ N ∧ N < 56320 then go ⟨5, t, [], 0, 0, N⟩ (l.drop (at_ + 4)) (at_ + 4) else go (Q1 (t ++ enc N) h) (l.drop (at_ + 4)) (at_ + 4)
theorem F4.start (l : List UInt8) (at_ : Nat) : F4 l at_ 0 0 := ⟨by decide, by decide, by decide, by decide, fun t h => rfl⟩
theorem F4.lt {l : List UInt8} {at_ j N : Nat} (h : F4 l at_ j N) (hj : j ≤ 4) : N < 65536 := by
  have := h.1
  rcases (show j = 0 ∨ j = 1 ∨ j = 2 ∨ j = 3 ∨ j = 4 by omega) with rfl | rfl | rfl | rfl | rfl
  · rw [p0] at this; omega
  · rw [p1] at this; omega
  · rw [p2] at this; omega
  · rw [p3] at this; omega
  · rw [p4] at this; omega
theorem F4.next {l : List UInt8} {at_ j N d : Nat} {c : UInt8} (h : F4 l at_ j N) (hj : j < 4) (hc : l[at_ + j]? = some c) (hd : dv c.toNat = some d) (h1 : j = 1 → ¬ half (16 * N + d)) : F4 l at_ (j + 1) (16 * N + d) := by
  obtain ⟨hN, h2, h3, _, hg⟩ := h
  have hd16 := dv_lt hd
  have hN' : 16 * N + d < 16 ^ (j + 1) := by rw [Nat.pow_succ]; omega
  have e16 : (16 * N + d) / 16 = N := by omega
  refine ⟨hN', fun e => h1 (by omega), fun e => by rw [e16]; exact h2 (by omega), fun e => ?_, fun t h => ?_⟩
  · have : (16 * N + d) / 256 = N / 16 := by omega
    rw [this]
    exact h3 (by omega)
  · rw [hg t h, if_pos hj]
    by_cases hj3 : j < 3
    · rw [if_pos (by omega), go_one (q := F1 t N j h) (by show 4 ≠ 8; decide) hc (first_more hj3 hd hN h1 h2), Nat.add_assoc]
    · obtain rfl : j = 3 := by omega
      rw [if_neg (by omega), go_one (q := F1 t N 3 h) (by show 4 ≠ 8; decide) hc (first_last hd (by rw [p3] at hN; exact hN) (h3 rfl)), Nat.add_assoc]
      split
      · rfl
      · rfl
theorem F4.none {l : List UInt8} {at_ j N : Nat} {c : UInt8} (h : F4 l at_ j N) (hj : j < 4) (hc : l[at_ + j]? = some c) (hd : dv c.toNat = none) (t : List UInt8) (H : Nat) : go (F1 t 0 0 H) (l.drop at_) at_ = er l (at_ + j) 41 := by
  rw [h.2.2.2.2 t H, if_pos hj, er_bad (q := F1 t N j H) (by show 4 ≠ 8; decide) hc (first_none hd) (by decide)]
theorem F4.half {l : List UInt8} {at_ N d : Nat} {c : UInt8} (h : F4 l at_ 1 N) (hc : l[at_ + 1]? = some c) (hd : dv c.toNat = some d) (h1 : half (16 * N + d)) (t : List UInt8) (H : Nat) : go (F1 t 0 0 H) (l.drop at_) at_ = er l (at_ + 1) 41 := by
  rw [h.2.2.2.2 t H, if_pos (by decide), er_bad (q := F1 t N 1 H) (by show 4 ≠ 8; decide) hc (first_half hd h1) (by decide)]
theorem F4.stop {l : List UInt8} {at_ j N : Nat} (h : F4 l at_ j N) (hj : j < 4) (hc : l.length ≤ at_ + j) (t : List UInt8) (H : Nat) : go (F1 t 0 0 H) (l.drop at_) at_ = er l (at_ + j) 41 := by
  rw [h.2.2.2.2 t H, if_pos hj]
  exact er_end (by show 4 ≠ 8; decide) hc
/-- Between two digits of the second number. -/
def S4 (l : List UInt8) (at_ j N : Nat) : Prop :=
  N < 16 ^ j ∧ (j = 0 → N = 0) ∧ (j = 2 → half N) ∧ (j = 3 → half (N / 16)) ∧ (j = 4 → half (N / 256)) ∧
    ∀ t h, go (F2 t 0 0 h) (l.drop at_) at_ = if j < 4 then go (F2 t N j h) (l.drop (at_ + j)) (at_ + j) else go (Q1 (t ++ enc (65536 + 1024 * (h - 55296) + N - 56320)) h) (l.drop (at_ + 4)) (at_ + 4)
theorem S4.start (l : List UInt8) (at_ : Nat) : S4 l at_ 0 0 := ⟨by decide, fun _ => rfl, by decide, by decide, by decide, fun t h => rfl⟩
theorem S4.lt {l : List UInt8} {at_ j N : Nat} (h : S4 l at_ j N) (hj : j ≤ 4) : N < 65536 := by
  have := h.1
  rcases (show j = 0 ∨ j = 1 ∨ j = 2 ∨ j = 3 ∨ j = 4 by omega) with rfl | rfl | rfl | rfl | rfl
  · rw [p0] at this; omega
  · rw [p1] at this; omega
  · rw [p2] at this; omega
  · rw [p3] at this; omega
  · rw [p4] at this; omega
theorem S4.next {l : List UInt8} {at_ j N d : Nat} {c : UInt8} (h : S4 l at_ j N) (hj : j < 4) (hc : l[at_ + j]? = some c) (hd : dv c.toNat = some d) (h0 : j = 0 → d = 13) (h1 : j = 1 → half (16 * N + d)) : S4 l at_ (j + 1) (16 * N + d) := by
  obtain ⟨hN, hz, h2, h3, _, hg⟩ := h
  have hd16 := dv_lt hd
  have hN' : 16 * N + d < 16 ^ (j + 1) := by rw [Nat.pow_succ]; omega
  have e16 : (16 * N + d) / 16 = N := by omega
  refine ⟨hN', fun e => by omega, fun e => h1 (by omega), fun e => by rw [e16]; exact h2 (by omega), fun e => ?_, fun t h => ?_⟩
  · have : (16 * N + d) / 256 = N / 16 := by omega
    rw [this]
    exact h3 (by omega)
  · rw [hg t h, if_pos hj]
    by_cases hj3 : j < 3
    · rw [if_pos (by omega), go_one (q := F2 t N j h) (by show 7 ≠ 8; decide) hc (second_more hj3 hd (fun e => ⟨hz e, h0 e⟩) h1 h2), Nat.add_assoc]
    · obtain rfl : j = 3 := by omega
      rw [if_neg (by omega), go_one (q := F2 t N 3 h) (by show 7 ≠ 8; decide) hc (second_last hd (h3 rfl)), Nat.add_assoc]
theorem S4.none {l : List UInt8} {at_ j N : Nat} {c : UInt8} (h : S4 l at_ j N) (hj : j < 4) (hc : l[at_ + j]? = some c) (hd : dv c.toNat = none) (t : List UInt8) (H : Nat) : go (F2 t 0 0 H) (l.drop at_) at_ = er l (at_ + j) 41 := by
  rw [h.2.2.2.2.2 t H, if_pos hj, er_bad (q := F2 t N j H) (by show 7 ≠ 8; decide) hc (second_none hd) (by decide)]
theorem S4.bad {l : List UInt8} {at_ j N d : Nat} {c : UInt8} (h : S4 l at_ j N) (hj : j < 4) (hc : l[at_ + j]? = some c) (hd : dv c.toNat = some d) (hb : (j = 0 ∧ d ≠ 13) ∨ (j = 1 ∧ ¬ half (16 * N + d))) (t : List UInt8) (H : Nat) : go (F2 t 0 0 H) (l.drop at_) at_ = er l (at_ + j) 41 := by
  have hz := h.2.1
  rw [h.2.2.2.2.2 t H, if_pos hj, er_bad (q := F2 t N j H) (by show 7 ≠ 8; decide) hc (second_bad hd (hb.imp (fun ⟨a, b⟩ => ⟨a, hz a, b⟩) id)) (by decide)]
theorem S4.stop {l : List UInt8} {at_ j N : Nat} (h : S4 l at_ j N) (hj : j < 4) (hc : l.length ≤ at_ + j) (t : List UInt8) (H : Nat) : go (F2 t 0 0 H) (l.drop at_) at_ = er l (at_ + j) 41 := by
  rw [h.2.2.2.2.2 t H, if_pos hj]
  exact er_end (by show 7 ≠ 8; decide) hc
end Ut
end Go.Proofs.YtoifjbhjclglmaaDoor
