/-
  What is proved here: plain facts of the reader of literals as the reference reads: digits, the four digits of an escape, the first bytes of an encoding; no program in this text; no condition but those that each fact states; and: contracts of the reference's digit, four and wrong; condition: a string of at most 60000 bytes.
-/
import Derived.Test.YtodmlgbomhmbpaaGreatDoorEnc
namespace Go.Proofs.YtodmlgbomhmbpaaGreatDoor
namespace Ut
open Go.Lib Go.RowKit

def smL : List UInt8 := [48, 49, 50, 51, 52, 53, 54, 55, 56, 57, 97, 98, 99, 100, 101, 102]
def grL : List UInt8 := [48, 49, 50, 51, 52, 53, 54, 55, 56, 57, 65, 66, 67, 68, 69, 70]
theorem dg_yes : ∀ n : Fin 256, ∀ k : Fin 16, (smL.getD k.val 0 = UInt8.ofNat n.val ∨ grL.getD k.val 0 = UInt8.ofNat n.val) → dv n.val = some k.val := by decide +kernel
theorem dg_no : ∀ n : Fin 256, (∀ k : Fin 16, smL.getD k.val 0 ≠ UInt8.ofNat n.val ∧ grL.getD k.val 0 ≠ UInt8.ofNat n.val) → dv n.val = none := by decide +kernel
theorem dv_yes {c : UInt8} {k : Nat} (hk : k < 16) (h : smL.getD k 0 = c ∨ grL.getD k 0 = c) : dv c.toNat = some k :=
  dg_yes ⟨c.toNat, c.toNat_lt⟩ ⟨k, hk⟩ (by simpa using h)
theorem dv_no {c : UInt8} (h : ∀ k, k < 16 → smL.getD k 0 ≠ c ∧ grL.getD k 0 ≠ c) : dv c.toNat = none :=
  dg_no ⟨c.toNat, c.toNat_lt⟩ (fun k => by simpa using h k.val k.isLt)
def dI (c : UInt8) : Int := match dv c.toNat with
  | none => -1
  | some d => (d : Int)
theorem dI_some {c : UInt8} {d : Nat} (h : dv c.toNat = some d) : dI c = (d : Int) := by unfold dI; rw [h]
theorem dI_none {c : UInt8} (h : dv c.toNat = none) : dI c = -1 := by unfold dI; rw [h]

/-- The reader within the digits of an escape. -/
def F1 (t : List UInt8) (code dig h : Nat) : Q := ⟨4, t, [], code, dig, h⟩
def F2 (t : List UInt8) (code dig h : Nat) : Q := ⟨7, t, [], code, dig, h⟩
theorem step_F1 (t : List UInt8) (code dig h : Nat) (c : UInt8) : step (F1 t code dig h) c = firstS (F1 t code dig h) c.toNat := rfl
theorem step_F2 (t : List UInt8) (code dig h : Nat) (c : UInt8) : step (F2 t code dig h) c = secondS (F2 t code dig h) c.toNat := rfl
theorem p0 : (16 : Nat) ^ 0 = 1 := by decide
theorem p1 : (16 : Nat) ^ 1 = 16 := by decide
theorem p2 : (16 : Nat) ^ 2 = 256 := by decide
theorem p3 : (16 : Nat) ^ 3 = 4096 := by decide
theorem p4 : (16 : Nat) ^ 4 = 65536 := by decide
def half (n : Nat) : Prop := 220 ≤ n ∧ n ≤ 223
instance (n : Nat) : Decidable (half n) := by unfold half; infer_instance
/-- A digit of the first number. -/
theorem first_more {t : List UInt8} {N j h d : Nat} {c : UInt8} (hj : j < 3) (hd : dv c.toNat = some d) (hN : N < 16 ^ j) (h1 : j = 1 → ¬ half (16 * N + d)) (h2 : j = 2 → ¬ half N) :
    step (F1 t N j h) c = (F1 t (16 * N + d) (j + 1) h, 0) := by
  have hd16 := dv_lt hd
  rw [step_F1]
  unfold firstS
  rw [hd]
  dsimp only
  unfold half at h1 h2
  have e : (F1 t N j h).code * 16 + d = 16 * N + d := by show N * 16 + d = _; omega
  rw [e, show (F1 t N j h).dig = j from rfl]
  have hc : ¬ (56320 ≤ lo (16 * N + d) (j + 1) ∧ hi (16 * N + d) (j + 1) ≤ 57343) := by
    unfold lo hi
    rcases (show j = 0 ∨ j = 1 ∨ j = 2 by omega) with rfl | rfl | rfl
    · rw [p0] at hN; rw [show 4 - (0 + 1) = 3 from rfl, p3]; omega
    · rw [p1] at hN; have := h1 rfl; rw [show 4 - (1 + 1) = 2 from rfl, p2]; omega
    · rw [p2] at hN; have := h2 rfl; rw [show 4 - (2 + 1) = 1 from rfl, p1]; omega
  rw [if_neg hc, if_pos (by omega)]
  rfl
theorem first_half {t : List UInt8} {N h d : Nat} {c : UInt8} (hd : dv c.toNat = some d) (h1 : half (16 * N + d)) : (step (F1 t N 1 h) c).2 = 41 := by
  rw [step_F1]
  unfold firstS
  rw [hd]
  dsimp only
  unfold half at h1
  have e : (F1 t N 1 h).code * 16 + d = 16 * N + d := by show N * 16 + d = _; omega
  rw [e, show (F1 t N 1 h).dig = 1 from rfl]
  have hc : 56320 ≤ lo (16 * N + d) (1 + 1) ∧ hi (16 * N + d) (1 + 1) ≤ 57343 := by
    unfold lo hi
    rw [show 4 - (1 + 1) = 2 from rfl, p2]; omega
  rw [if_pos hc]
theorem first_none {t : List UInt8} {N j h : Nat} {c : UInt8} (hd : dv c.toNat = none) : (step (F1 t N j h) c).2 = 41 := by
  rw [step_F1]
  unfold firstS
  rw [hd]
theorem first_last {t : List UInt8} {N h d : Nat} {c : UInt8} (hd : dv c.toNat = some d) (_hN : N < 4096) (h2 : ¬ half (N / 16)) :
    step (F1 t N 3 h) c = (if 55296 ≤ 16 * N + d ∧ 16 * N + d < 56320 then ⟨5, t, [], 0, 0, 16 * N + d⟩ else Q1 (t ++ enc (16 * N + d)) h, 0) := by
  have hd16 := dv_lt hd
  rw [step_F1]
  unfold firstS
  rw [hd]
  dsimp only
  unfold half at h2
  have e : (F1 t N 3 h).code * 16 + d = 16 * N + d := by show N * 16 + d = _; omega
  rw [e, show (F1 t N 3 h).dig = 3 from rfl]
  have el : lo (16 * N + d) (3 + 1) = 16 * N + d := by unfold lo; rw [show 4 - (3 + 1) = 0 from rfl, p0]; omega
  have eh : hi (16 * N + d) (3 + 1) = 16 * N + d := by unfold hi; rw [show 4 - (3 + 1) = 0 from rfl, p0]; omega
  rw [el, eh, if_neg (by omega), if_neg (by omega)]
  split
  · rfl
  · rfl
/-- A digit of the second number. -/
theorem second_more {t : List UInt8} {N j h d : Nat} {c : UInt8} (hj : j < 3) (hd : dv c.toNat = some d) (h0 : j = 0 → N = 0 ∧ d = 13) (h1 : j = 1 → half (16 * N + d)) (h2 : j = 2 → half N) :
    step (F2 t N j h) c = (F2 t (16 * N + d) (j + 1) h, 0) := by
  have hd16 := dv_lt hd
  rw [step_F2]
  unfold secondS
  rw [hd]
  dsimp only
  unfold half at h1 h2
  have e : (F2 t N j h).code * 16 + d = 16 * N + d := by show N * 16 + d = _; omega
  rw [e, show (F2 t N j h).dig = j from rfl]
  have hc : ¬ (hi (16 * N + d) (j + 1) < 56320 ∨ 57343 < lo (16 * N + d) (j + 1)) := by
    unfold lo hi
    rcases (show j = 0 ∨ j = 1 ∨ j = 2 by omega) with rfl | rfl | rfl
    · have := h0 rfl; rw [show 4 - (0 + 1) = 3 from rfl, p3]; omega
    · have := h1 rfl; rw [show 4 - (1 + 1) = 2 from rfl, p2]; omega
    · have := h2 rfl; rw [show 4 - (2 + 1) = 1 from rfl, p1]; omega
  rw [if_neg hc, if_pos (by omega)]
  rfl
theorem second_bad {t : List UInt8} {N j h d : Nat} {c : UInt8} (hd : dv c.toNat = some d) (hb : (j = 0 ∧ N = 0 ∧ d ≠ 13) ∨ (j = 1 ∧ ¬ half (16 * N + d))) : (step (F2 t N j h) c).2 = 41 := by
  have hd16 := dv_lt hd
  rw [step_F2]
  unfold secondS
  rw [hd]
  dsimp only
  unfold half at hb
  have e : (F2 t N j h).code * 16 + d = 16 * N + d := by show N * 16 + d = _; omega
  rw [e, show (F2 t N j h).dig = j from rfl]
  have hc : hi (16 * N + d) (j + 1) < 56320 ∨ 57343 < lo (16 * N + d) (j + 1) := by
    unfold lo hi
    rcases hb with ⟨rfl, rfl, hb⟩ | ⟨rfl, hb⟩
    · rw [show 4 - (0 + 1) = 3 from rfl, p3]; omega
    · rw [show 4 - (1 + 1) = 2 from rfl, p2]; omega
  rw [if_pos hc]
theorem second_none {t : List UInt8} {N j h : Nat} {c : UInt8} (hd : dv c.toNat = none) : (step (F2 t N j h) c).2 = 41 := by
  rw [step_F2]
  unfold secondS
  rw [hd]
theorem second_last {t : List UInt8} {N h d : Nat} {c : UInt8} (hd : dv c.toNat = some d) (h2 : half (N / 16)) :
    step (F2 t N 3 h) c = (Q1 (t ++ enc (65536 + 1024 * (h - 55296) + (16 * N + d) - 56320)) h, 0) := by
  have hd16 := dv_lt hd
  rw [step_F2]
  unfold secondS
  rw [hd]
  dsimp only
  unfold half at h2
  have e : (F2 t N 3 h).code * 16 + d = 16 * N + d := by show N * 16 + d = _; omega
  rw [e, show (F2 t N 3 h).dig = 3 from rfl]
  have el : lo (16 * N + d) (3 + 1) = 16 * N + d := by unfold lo; rw [show 4 - (3 + 1) = 0 from rfl, p0]; omega
  have eh : hi (16 * N + d) (3 + 1) = 16 * N + d := by unfold hi; rw [show 4 - (3 + 1) = 0 from rfl, p0]; omega
  rw [el, eh, if_neg (by omega), if_neg (by omega)]
  rfl

theorem drop_at {l : List UInt8} {k : Nat} {c : UInt8} (h : l[k]? = some c) : l.drop k = c :: l.drop (k + 1) := by
  rw [List.getElem?_eq_some_iff] at h
  obtain ⟨hk, h⟩ := h
  rw [List.drop_eq_getElem_cons hk, h]
theorem drop_end {l : List UInt8} {k : Nat} (h : l.length ≤ k) : l.drop k = [] := List.drop_of_length_le h
/-- What an error at an offset gives. -/
def er (l : List UInt8) (k e : Nat) : List UInt8 × Nat × Nat × Nat := ([], 0, k, if l.length ≤ k then 3 else e)
theorem er_end {l : List UInt8} {k e : Nat} {q : Q} (hq : q.st ≠ 8) (h : l.length ≤ k) : go q (l.drop k) k = er l k e := by
  rw [drop_end h, go_nil hq]
  unfold er
  rw [if_pos h]
theorem er_bad {l : List UInt8} {k e : Nat} {q : Q} {c : UInt8} (hq : q.st ≠ 8) (h : l[k]? = some c) (he : (step q c).2 = e) (h0 : e ≠ 0) : go q (l.drop k) k = er l k e := by
  rw [drop_at h, go_err hq (by rw [he]; exact h0), he]
  unfold er
  have hk : k < l.length := (List.getElem?_eq_some_iff.1 h).1
  rw [if_neg (by omega)]
theorem go_one {l : List UInt8} {k : Nat} {q q' : Q} {c : UInt8} (hq : q.st ≠ 8) (h : l[k]? = some c) (he : step q c = (q', 0)) : go q (l.drop k) k = go q' (l.drop (k + 1)) (k + 1) := by
  rw [drop_at h, go_step hq he]

/-- Between two digits of the first number. -/
def F4 (l : List UInt8) (at_ j N : Nat) : Prop :=
  N < 16 ^ j ∧ (j = 2 → ¬ half N) ∧ (j = 3 → ¬ half (N / 16)) ∧ (j = 4 → ¬ half (N / 256)) ∧
    ∀ t h, go (F1 t 0 0 h) (l.drop at_) at_ = if j < 4 then go (F1 t N j h) (l.drop (at_ + j)) (at_ + j) else if 55296 ≤ N ∧ N < 56320 then go ⟨5, t, [], 0, 0, N⟩ (l.drop (at_ + 4)) (at_ + 4) else go (Q1 (t ++ enc N) h) (l.drop (at_ + 4)) (at_ + 4)
theorem F4.start (l : List UInt8) (at_ : Nat) : F4 l at_ 0 0 := ⟨by decide, by decide, by decide, by decide, fun t h => rfl⟩
theorem F4.lt {l : List UInt8} {at_ j N : Nat} (h : F4 l at_ j N) (hj : j ≤ 4) : N < 65536 := by
  have := h.1
  rcases (show j = 0 ∨ j = 1 ∨ j = 2 ∨ j = 3 ∨ j = 4 by omega) with rfl | rfl | rfl | rfl | rfl
  · rw [p0] at this; omega
  · rw [p1] at this; omega
  · rw [p2] at this; omega
  · rw [p3] at this; omega
  · rw [p4] at this; omega
theorem F4.next {l : List UInt8} {at_ j N d : Nat} {c : UInt8} (h : F4 l at_ j N) (hj : j < 4) (hc : l[at_ + j]? = some c) (hd : dv c.toNat = some d) (h1 : j = 1 → ¬ half (16 * N + d)) : F4 l at_ (j + 1) (16 * N + d) := by
  obtain ⟨hN, h2, h3, _, hg⟩ := h
  have hd16 := dv_lt hd
  have hN' : 16 * N + d < 16 ^ (j + 1) := by rw [Nat.pow_succ]; omega
  have e16 : (16 * N + d) / 16 = N := by omega
  refine ⟨hN', fun e => h1 (by omega), fun e => by rw [e16]; exact h2 (by omega), fun e => ?_, fun t h => ?_⟩
  · have : (16 * N + d) / 256 = N / 16 := by omega
    rw [this]
    exact h3 (by omega)
  · rw [hg t h, if_pos hj]
    by_cases hj3 : j < 3
    · rw [if_pos (by omega), go_one (q := F1 t N j h) (by show 4 ≠ 8; decide) hc (first_more hj3 hd hN h1 h2), Nat.add_assoc]
    · obtain rfl : j = 3 := by omega
      rw [if_neg (by omega), go_one (q := F1 t N 3 h) (by show 4 ≠ 8; decide) hc (first_last hd (by rw [p3] at hN; exact hN) (h3 rfl)), Nat.add_assoc]
      split
      · rfl
      · rfl
theorem F4.none {l : List UInt8} {at_ j N : Nat} {c : UInt8} (h : F4 l at_ j N) (hj : j < 4) (hc : l[at_ + j]? = some c) (hd : dv c.toNat = none) (t : List UInt8) (H : Nat) : go (F1 t 0 0 H) (l.drop at_) at_ = er l (at_ + j) 41 := by
  rw [h.2.2.2.2 t H, if_pos hj, er_bad (q := F1 t N j H) (by show 4 ≠ 8; decide) hc (first_none hd) (by decide)]
theorem F4.half {l : List UInt8} {at_ N d : Nat} {c : UInt8} (h : F4 l at_ 1 N) (hc : l[at_ + 1]? = some c) (hd : dv c.toNat = some d) (h1 : half (16 * N + d)) (t : List UInt8) (H : Nat) : go (F1 t 0 0 H) (l.drop at_) at_ = er l (at_ + 1) 41 := by
  rw [h.2.2.2.2 t H, if_pos (by decide), er_bad (q := F1 t N 1 H) (by show 4 ≠ 8; decide) hc (first_half hd h1) (by decide)]
theorem F4.stop {l : List UInt8} {at_ j N : Nat} (h : F4 l at_ j N) (hj : j < 4) (hc : l.length ≤ at_ + j) (t : List UInt8) (H : Nat) : go (F1 t 0 0 H) (l.drop at_) at_ = er l (at_ + j) 41 := by
  rw [h.2.2.2.2 t H, if_pos hj]
  exact er_end (by show 4 ≠ 8; decide) hc
/-- Between two digits of the second number. -/
def S4 (l : List UInt8) (at_ j N : Nat) : Prop :=
  N < 16 ^ j ∧ (j = 0 → N = 0) ∧ (j = 2 → half N) ∧ (j = 3 → half (N / 16)) ∧ (j = 4 → half (N / 256)) ∧
    ∀ t h, go (F2 t 0 0 h) (l.drop at_) at_ = if j < 4 then go (F2 t N j h) (l.drop (at_ + j)) (at_ + j) else go (Q1 (t ++ enc (65536 + 1024 * (h - 55296) + N - 56320)) h) (l.drop (at_ + 4)) (at_ + 4)
theorem S4.start (l : List UInt8) (at_ : Nat) : S4 l at_ 0 0 := ⟨by decide, fun _ => rfl, by decide, by decide, by decide, fun t h => rfl⟩
theorem S4.lt {l : List UInt8} {at_ j N : Nat} (h : S4 l at_ j N) (hj : j ≤ 4) : N < 65536 := by
  have := h.1
  rcases (show j = 0 ∨ j = 1 ∨ j = 2 ∨ j = 3 ∨ j = 4 by omega) with rfl | rfl | rfl | rfl | rfl
  · rw [p0] at this; omega
  · rw [p1] at this; omega
  · rw [p2] at this; omega
  · rw [p3] at this; omega
  · rw [p4] at this; omega
theorem S4.next {l : List UInt8} {at_ j N d : Nat} {c : UInt8} (h : S4 l at_ j N) (hj : j < 4) (hc : l[at_ + j]? = some c) (hd : dv c.toNat = some d) (h0 : j = 0 → d = 13) (h1 : j = 1 → half (16 * N + d)) : S4 l at_ (j + 1) (16 * N + d) := by
  obtain ⟨hN, hz, h2, h3, _, hg⟩ := h
  have hd16 := dv_lt hd
  have hN' : 16 * N + d < 16 ^ (j + 1) := by rw [Nat.pow_succ]; omega
  have e16 : (16 * N + d) / 16 = N := by omega
  refine ⟨hN', fun e => by omega, fun e => h1 (by omega), fun e => by rw [e16]; exact h2 (by omega), fun e => ?_, fun t h => ?_⟩
  · have : (16 * N + d) / 256 = N / 16 := by omega
    rw [this]
    exact h3 (by omega)
  · rw [hg t h, if_pos hj]
    by_cases hj3 : j < 3
    · rw [if_pos (by omega), go_one (q := F2 t N j h) (by show 7 ≠ 8; decide) hc (second_more hj3 hd (fun e => ⟨hz e, h0 e⟩) h1 h2), Nat.add_assoc]
    · obtain rfl : j = 3 := by omega
      rw [if_neg (by omega), go_one (q := F2 t N 3 h) (by show 7 ≠ 8; decide) hc (second_last hd (h3 rfl)), Nat.add_assoc]
theorem S4.none {l : List UInt8} {at_ j N : Nat} {c : UInt8} (h : S4 l at_ j N) (hj : j < 4) (hc : l[at_ + j]? = some c) (hd : dv c.toNat = none) (t : List UInt8) (H : Nat) : go (F2 t 0 0 H) (l.drop at_) at_ = er l (at_ + j) 41 := by
  rw [h.2.2.2.2.2 t H, if_pos hj, er_bad (q := F2 t N j H) (by show 7 ≠ 8; decide) hc (second_none hd) (by decide)]
theorem S4.bad {l : List UInt8} {at_ j N d : Nat} {c : UInt8} (h : S4 l at_ j N) (hj : j < 4) (hc : l[at_ + j]? = some c) (hd : dv c.toNat = some d) (hb : (j = 0 ∧ d ≠ 13) ∨ (j = 1 ∧ ¬ half (16 * N + d))) (t : List UInt8) (H : Nat) : go (F2 t 0 0 H) (l.drop at_) at_ = er l (at_ + j) 41 := by
  have hz := h.2.1
  rw [h.2.2.2.2.2 t H, if_pos hj, er_bad (q := F2 t N j H) (by show 7 ≠ 8; decide) hc (second_bad hd (hb.imp (fun ⟨a, b⟩ => ⟨a, hz a, b⟩) id)) (by decide)]
theorem S4.stop {l : List UInt8} {at_ j N : Nat} (h : S4 l at_ j N) (hj : j < 4) (hc : l.length ≤ at_ + j) (t : List UInt8) (H : Nat) : go (F2 t 0 0 H) (l.drop at_) at_ = er l (at_ + j) 41 := by
  rw [h.2.2.2.2.2 t H, if_pos hj]
  exact er_end (by show 7 ≠ 8; decide) hc
end Ut
end Go.Proofs.YtodmlgbomhmbpaaGreatDoor
namespace Go.Proofs.YtodmlgbomhmbpaaGreatDoor
open Go.RowKit Ut Go.Lib

def smS : ByteArray := ⟨#[48, 49, 50, 51, 52, 53, 54, 55, 56, 57, 97, 98, 99, 100, 101, 102]⟩
def grS : ByteArray := ⟨#[48, 49, 50, 51, 52, 53, 54, 55, 56, 57, 65, 66, 67, 68, 69, 70]⟩
theorem sm_at (j : Nat) (hj : j < 16) (h : j < smS.size) : smS[j]'h = smL.getD j 0 := by
  rw [List.getD_eq_getElem?_getD, List.getElem?_eq_getElem (by exact hj)]
  rfl
theorem gr_at (j : Nat) (hj : j < 16) (h : j < grS.size) : grS[j]'h = grL.getD j 0 := by
  rw [List.getD_eq_getElem?_getD, List.getElem?_eq_getElem (by exact hj)]
  rfl
theorem ne8 {a b : UInt8} (h : a ≠ b) : ((a.toNat : Int) == (b.toNat : Int)) = false ∧ (a.toNat == b.toNat) = false := by
  have h2 : a.toNat ≠ b.toNat := fun e => h (UInt8.toNat_inj.1 e)
  refine ⟨?_, by simp [h2]⟩
  rw [Bool.eq_false_iff, ne_eq, beq_iff_eq]
  omega
theorem ret_int {k : IntKind} {a b : Int} (h : a = b) : Ending.returned (.int k a) = .returned (.int k b) := by rw [h]
set_option maxHeartbeats 2000000 in
set_option maxRecDepth 100000 in
theorem digit_any (c : UInt8) (w : World) : Calls Tryz.prog 56 #[.int .u8 (c.toNat : Int)] w fun e w' => e = .returned (.int .i64 (dI c)) ∧ w = w' := by
  go_enter Tryz.func56, Tryz.ntmps56
  go_wp2
  go_loop [3] (fun i => ∃ k : Nat, k ≤ 16 ∧ i = .int .i64 k ∧ Hid (∀ j, j < k → smL.getD j 0 ≠ c ∧ grL.getD j 0 ≠ c)) (fun i => 17 - (RowKit.intOf i).toNat)
  case atStart => exact ⟨0, by omega, rfl, fun j h => by omega⟩
  case round =>
    obtain ⟨k, hk, rfl, HN⟩ := hrel
    by_cases hlt : k < 16
    · have d1 : decide ((k : Int) < 16) = true := decide_eq_true (by omega)
      obtain ⟨x, hx⟩ : ∃ x, smL.getD k 0 = x := ⟨_, rfl⟩
      obtain ⟨y, hy⟩ : ∃ y, grL.getD k 0 = y := ⟨_, rfl⟩
      have hal : ∀ h, (⟨#[48, 49, 50, 51, 52, 53, 54, 55, 56, 57, 97, 98, 99, 100, 101, 102]⟩ : ByteArray)[k]'h = x := fun h => (sm_at k hlt h).trans hx
      have hal2 : ∀ h, (⟨#[48, 49, 50, 51, 52, 53, 54, 55, 56, 57, 65, 66, 67, 68, 69, 70]⟩ : ByteArray)[k]'h = y := fun h => (gr_at k hlt h).trans hy
      have HX := Lib.hid hx
      have HY := Lib.hid hy
      clear hx hy
      by_cases he : x = c
      · subst he
        have HV := Lib.hid (show dI x = (k : Int) from dI_some (dv_yes hlt (.inl HX.out)))
        have d2 : ((x.toNat : Int) == (x.toNat : Int)) = true := beq_self_eq_true _
        go_wp2
        go_ret
        exact ⟨ret_int HV.out.symm, rfl⟩
      · obtain ⟨d2, d3⟩ := ne8 he
        by_cases he2 : y = c
        · subst he2
          have HV := Lib.hid (show dI y = (k : Int) from dI_some (dv_yes hlt (.inr HY.out)))
          have d4 : ((y.toNat : Int) == (y.toNat : Int)) = true := beq_self_eq_true _
          clear he
          go_wp2
          go_ret
          exact ⟨ret_int HV.out.symm, rfl⟩
        · obtain ⟨d4, d5⟩ := ne8 he2
          have HE := Lib.hid (show smL.getD k 0 ≠ c ∧ grL.getD k 0 ≠ c by rw [HX.out, HY.out]; exact ⟨he, he2⟩)
          clear he he2
          go_wp2
          go_round
          case rel =>
            refine ⟨k + 1, by omega, by go_num, fun j h => ?_⟩
            by_cases hj : j < k
            · exact HN.out j hj
            · have : j = k := by omega
              subst this
              exact HE.out
          case measure => simp [RowKit.intOf]; omega
    · have hk16 : k = 16 := by omega
      have HV := Lib.hid (show dI c = -1 from dI_none (dv_no (by rw [← hk16]; exact HN.out)))
      have d1 : decide ((k : Int) < 16) = false := decide_eq_false (by omega)
      clear hk16 hlt hk
      go_wp2
      go_ret
      exact ⟨ret_int HV.out.symm, rfl⟩

theorem byte_at {s : ByteArray} {l : List UInt8} {k : Nat} {c : UInt8} (hl : s.data.toList = l) (hc : l[k]? = some c) (hk : k < s.size) : s[k]'hk = c := by
  subst hl
  rw [List.getElem?_eq_some_iff] at hc
  obtain ⟨_, h⟩ := hc
  exact h
theorem eqB {a b : Int} (h : a = b) : (a == b) = true ∧ (a != b) = false := by subst h; simp
theorem neB {a b : Int} (h : a ≠ b) : (a == b) = false ∧ (a != b) = true := by simp [h]
theorem getN (l : List UInt8) {k : Nat} (h : k < l.length) : ∃ c, l[k]? = some c := ⟨_, List.getElem?_eq_getElem h⟩
/-- What four answers. -/
def Four1 (l : List UInt8) (at_ : Nat) (w : World) (e : Ending) (w' : World) : Prop :=
  w = w' ∧ ((∃ k : Nat, e = .returned (.tuple #[.int .i64 0, .int .i64 (k : Nat), .bool false]) ∧ at_ ≤ k ∧ k ≤ l.length ∧ ∀ t h, go (F1 t 0 0 h) (l.drop at_) at_ = er l k 41) ∨
    (∃ n : Nat, e = .returned (.tuple #[.int .i64 (n : Nat), .int .i64 0, .bool true]) ∧ at_ + 4 ≤ l.length ∧ F4 l at_ 4 n))
def Four2 (l : List UInt8) (at_ : Nat) (w : World) (e : Ending) (w' : World) : Prop :=
  w = w' ∧ ((∃ k : Nat, e = .returned (.tuple #[.int .i64 0, .int .i64 (k : Nat), .bool false]) ∧ at_ ≤ k ∧ k ≤ l.length ∧ ∀ t h, go (F2 t 0 0 h) (l.drop at_) at_ = er l k 41) ∨
    (∃ n : Nat, e = .returned (.tuple #[.int .i64 (n : Nat), .int .i64 0, .bool true]) ∧ at_ + 4 ≤ l.length ∧ S4 l at_ 4 n))
theorem four1_no {l : List UInt8} {at_ k : Nat} {w : World} (h1 : at_ ≤ k) (h2 : k ≤ l.length) (h : ∀ t h, go (F1 t 0 0 h) (l.drop at_) at_ = er l k 41) : Four1 l at_ w (.returned (.tuple #[.int .i64 0, .int .i64 (k : Nat), .bool false])) w := ⟨rfl, .inl ⟨k, rfl, h1, h2, h⟩⟩
theorem four2_no {l : List UInt8} {at_ k : Nat} {w : World} (h1 : at_ ≤ k) (h2 : k ≤ l.length) (h : ∀ t h, go (F2 t 0 0 h) (l.drop at_) at_ = er l k 41) : Four2 l at_ w (.returned (.tuple #[.int .i64 0, .int .i64 (k : Nat), .bool false])) w := ⟨rfl, .inl ⟨k, rfl, h1, h2, h⟩⟩
theorem four1_yes {l : List UInt8} {at_ n : Nat} {w : World} (h1 : at_ + 4 ≤ l.length) (h : F4 l at_ 4 n) : Four1 l at_ w (.returned (.tuple #[.int .i64 (n : Nat), .int .i64 0, .bool true])) w := ⟨rfl, .inr ⟨n, rfl, h1, h⟩⟩
theorem four2_yes {l : List UInt8} {at_ n : Nat} {w : World} (h1 : at_ + 4 ≤ l.length) (h : S4 l at_ 4 n) : Four2 l at_ w (.returned (.tuple #[.int .i64 (n : Nat), .int .i64 0, .bool true])) w := ⟨rfl, .inr ⟨n, rfl, h1, h⟩⟩
set_option maxHeartbeats 8000000 in
set_option maxRecDepth 100000 in
theorem four1_any (s : ByteArray) (l : List UInt8) (at_ : Nat) (hl : s.data.toList = l) (ha : at_ ≤ l.length) (hs : s.size ≤ 60000) (w : World) :
    Calls Tryz.prog 48 #[.string s, .int .i64 (at_ : Nat), .bool false] w (Four1 l at_ w) := by
  have HSZ := Lib.hid (show s.size = l.length by rw [Lib.size_eq, hl])
  have ha' : at_ ≤ s.size := by have := HSZ.out; omega
  have HL := Lib.hid hl
  clear hl ha
  go_enter Tryz.func48, Tryz.ntmps48
  go_wp2
  go_loop [9, 10] (fun n i => ∃ m j N : Nat, i = .int .i64 m ∧ n = .int .i64 (N : Nat) ∧ at_ ≤ m ∧ m ≤ s.size ∧ j ≤ 4 ∧ Hid (m = at_ + j) ∧ Hid (F4 l at_ j N)) (fun _ i => s.size + 1 - (RowKit.intOf i).toNat)
  case atStart => exact ⟨at_, 0, 0, rfl, rfl, Nat.le_refl _, ha', by omega, rfl, F4.start l at_⟩
  case round =>
    obtain ⟨m, j, N, rfl, rfl, hm1, hm2, hj4, HM, HF⟩ := hrel
    have hN := HF.out.lt hj4
    have hmj := HM.out
    by_cases hj : j < 4
    · have d1 : decide ((m : Int) < (at_ : Int) + 4) = true := decide_eq_true (by omega)
      by_cases hlt : m < s.size
      · obtain ⟨c, hc⟩ := getN l (k := m) (by rw [← HSZ.out]; exact hlt)
        have hx : s[m] = c := byte_at HL.out hc hlt
        have HC := Lib.hid (show l[at_ + j]? = some c by rw [← hmj]; exact hc)
        have d2 : decide ((s.size : Int) ≤ (m : Int)) = false := decide_eq_false (by omega)
        have d3 : decide (s.size ≤ m) = false := decide_eq_false (by omega)
        have HD := Lib.hid (digit_any c w)
        clear hc
        rcases hv : dv c.toNat with _ | d
        · have HR := Lib.hid (fun t h => HF.out.none hj HC.out hv t h)
          rw [dI_none hv, ← hmj] at *
          clear hv hmj
          go_wp2_with (go_at_call 56; (with_reducible refine HD.out.mono ?_); rintro e w2 ⟨rfl, rfl⟩)
          go_ret3
          exact four1_no hm1 (by rw [← HSZ.out]; exact hm2) HR.out
        · have hd16 := dv_lt hv
          rw [dI_some hv] at HD
          have HV := Lib.hid hv
          clear hv
          by_cases hj1 : j = 1
          · obtain ⟨e1, e1'⟩ := eqB (show (m : Int) = (at_ : Int) + 1 by omega)
            by_cases hh : half (16 * N + d)
            · have HR := Lib.hid (fun t h => (show F4 l at_ 1 N by rw [← hj1]; exact HF.out).half (by rw [← hj1]; exact HC.out) HV.out hh t h)
              have hm : m = at_ + 1 := by omega
              rw [← hm] at HR
              unfold half at hh
              have h1 : (220 : Int) ≤ 16 * (N : Int) + (d : Int) := by omega
              have h2 : 16 * (N : Int) + (d : Int) ≤ 223 := by omega
              clear hj1 hmj hm hh
              go_wp2_with (go_at_call 56; (with_reducible refine HD.out.mono ?_); rintro e w2 ⟨rfl, rfl⟩)
              go_ret3
              exact four1_no hm1 (by rw [← HSZ.out]; exact hm2) HR.out
            · have HP := Lib.hid (HF.out.next hj HC.out HV.out (fun _ => hh))
              have hm : m + 1 = at_ + (j + 1) := by omega
              have HMM := Lib.hid hm
              unfold half at hh
              rcases (show 16 * N + d < 220 ∨ 223 < 16 * N + d by omega) with h1 | h1
              · have h2 : decide ((220 : Int) ≤ 16 * (N : Int) + (d : Int)) = false := decide_eq_false (by omega)
                clear hj1 hmj hm hh h1
                go_wp2_with (go_at_call 56; (with_reducible refine HD.out.mono ?_); rintro e w2 ⟨rfl, rfl⟩)
                go_round
                case rel => exact ⟨m + 1, j + 1, 16 * N + d, by go_num, by go_num, by omega, by omega, by omega, HMM.out, HP.out⟩
                case measure => simp [RowKit.intOf]; omega
              · have h2 : decide (16 * (N : Int) + (d : Int) ≤ 223) = false := decide_eq_false (by omega)
                have h3 : decide ((220 : Int) ≤ 16 * (N : Int) + (d : Int)) = true := decide_eq_true (by omega)
                clear hj1 hmj hm hh h1
                go_wp2_with (go_at_call 56; (with_reducible refine HD.out.mono ?_); rintro e w2 ⟨rfl, rfl⟩)
                go_round
                case rel => exact ⟨m + 1, j + 1, 16 * N + d, by go_num, by go_num, by omega, by omega, by omega, HMM.out, HP.out⟩
                case measure => simp [RowKit.intOf]; omega
          · obtain ⟨e1, e1'⟩ := neB (show (m : Int) ≠ (at_ : Int) + 1 by omega)
            have HP := Lib.hid (HF.out.next hj HC.out HV.out (fun h => absurd h hj1))
            have HMM := Lib.hid (show m + 1 = at_ + (j + 1) by omega)
            clear hj1 hmj
            go_wp2_with (go_at_call 56; (with_reducible refine HD.out.mono ?_); rintro e w2 ⟨rfl, rfl⟩)
            go_round
            case rel => exact ⟨m + 1, j + 1, 16 * N + d, by go_num, by go_num, by omega, by omega, by omega, HMM.out, HP.out⟩
            case measure => simp [RowKit.intOf]; omega
      · have d2 : decide ((s.size : Int) ≤ (m : Int)) = true := decide_eq_true (by omega)
        have d3 : decide (s.size ≤ m) = true := decide_eq_true (by omega)
        have HR := Lib.hid (fun t h => HF.out.stop hj (by have := HSZ.out; omega) t h)
        rw [← hmj] at HR
        clear hmj
        go_wp2
        go_ret3
        exact four1_no hm1 (by rw [← HSZ.out]; exact hm2) HR.out
    · have hj' : j = 4 := by omega
      have d1 : decide ((m : Int) < (at_ : Int) + 4) = false := decide_eq_false (by omega)
      have HE := Lib.hid (show F4 l at_ 4 N by rw [← hj']; exact HF.out)
      have HA := Lib.hid (show at_ + 4 ≤ l.length by have := HSZ.out; omega)
      clear hj hj' hmj
      go_wp2
      go_ret3
      exact four1_yes HA.out HE.out
set_option maxHeartbeats 8000000 in
set_option maxRecDepth 100000 in
theorem four2_any (s : ByteArray) (l : List UInt8) (at_ : Nat) (hl : s.data.toList = l) (ha : at_ ≤ l.length) (hs : s.size ≤ 60000) (w : World) :
    Calls Tryz.prog 48 #[.string s, .int .i64 (at_ : Nat), .bool true] w (Four2 l at_ w) := by
  have HSZ := Lib.hid (show s.size = l.length by rw [Lib.size_eq, hl])
  have ha' : at_ ≤ s.size := by have := HSZ.out; omega
  have HL := Lib.hid hl
  clear hl ha
  go_enter Tryz.func48, Tryz.ntmps48
  go_wp2
  go_loop [9, 10] (fun n i => ∃ m j N : Nat, i = .int .i64 m ∧ n = .int .i64 (N : Nat) ∧ at_ ≤ m ∧ m ≤ s.size ∧ j ≤ 4 ∧ Hid (m = at_ + j) ∧ Hid (S4 l at_ j N)) (fun _ i => s.size + 1 - (RowKit.intOf i).toNat)
  case atStart => exact ⟨at_, 0, 0, rfl, rfl, Nat.le_refl _, ha', by omega, rfl, S4.start l at_⟩
  case round =>
    obtain ⟨m, j, N, rfl, rfl, hm1, hm2, hj4, HM, HF⟩ := hrel
    have hN := HF.out.lt hj4
    have hmj := HM.out
    by_cases hj : j < 4
    · have d1 : decide ((m : Int) < (at_ : Int) + 4) = true := decide_eq_true (by omega)
      by_cases hlt : m < s.size
      · obtain ⟨c, hc⟩ := getN l (k := m) (by rw [← HSZ.out]; exact hlt)
        have hx : s[m] = c := byte_at HL.out hc hlt
        have HC := Lib.hid (show l[at_ + j]? = some c by rw [← hmj]; exact hc)
        have d2 : decide ((s.size : Int) ≤ (m : Int)) = false := decide_eq_false (by omega)
        have d3 : decide (s.size ≤ m) = false := decide_eq_false (by omega)
        have HD := Lib.hid (digit_any c w)
        clear hc
        rcases hv : dv c.toNat with _ | d
        · have HR := Lib.hid (fun t h => HF.out.none hj HC.out hv t h)
          rw [dI_none hv, ← hmj] at *
          clear hv hmj
          go_wp2_with (go_at_call 56; (with_reducible refine HD.out.mono ?_); rintro e w2 ⟨rfl, rfl⟩)
          go_ret3
          exact four2_no hm1 (by rw [← HSZ.out]; exact hm2) HR.out
        · have hd16 := dv_lt hv
          rw [dI_some hv] at HD
          have HV := Lib.hid hv
          clear hv
          by_cases hj0 : j = 0
          · obtain ⟨e0, e0'⟩ := eqB (show (m : Int) = (at_ : Int) by omega)
            obtain ⟨e1, e1'⟩ := neB (show (m : Int) ≠ (at_ : Int) + 1 by omega)
            have hN0 := HF.out.2.1 hj0
            by_cases hd : d = 13
            · obtain ⟨e2, e2'⟩ := eqB (show 16 * (N : Int) + (d : Int) = 13 by omega)
              have HP := Lib.hid (HF.out.next hj HC.out HV.out (fun _ => hd) (fun h => by omega))
              have HMM := Lib.hid (show m + 1 = at_ + (j + 1) by omega)
              clear hj0 hmj hN0 hd
              go_wp2_with (go_at_call 56; (with_reducible refine HD.out.mono ?_); rintro e w2 ⟨rfl, rfl⟩)
              go_round
              case rel => exact ⟨m + 1, j + 1, 16 * N + d, by go_num, by go_num, by omega, by omega, by omega, HMM.out, HP.out⟩
              case measure => simp [RowKit.intOf]; omega
            · obtain ⟨e2, e2'⟩ := neB (show 16 * (N : Int) + (d : Int) ≠ 13 by omega)
              have HR := Lib.hid (fun t h => HF.out.bad hj HC.out HV.out (.inl ⟨hj0, hd⟩) t h)
              rw [← hmj] at HR
              clear hj0 hmj hN0 hd
              go_wp2_with (go_at_call 56; (with_reducible refine HD.out.mono ?_); rintro e w2 ⟨rfl, rfl⟩)
              go_ret3
              exact four2_no hm1 (by rw [← HSZ.out]; exact hm2) HR.out
          · obtain ⟨e0, e0'⟩ := neB (show (m : Int) ≠ (at_ : Int) by omega)
            by_cases hj1 : j = 1
            · obtain ⟨e1, e1'⟩ := eqB (show (m : Int) = (at_ : Int) + 1 by omega)
              by_cases hh : half (16 * N + d)
              · have HP := Lib.hid (HF.out.next hj HC.out HV.out (fun h => absurd h hj0) (fun _ => hh))
                have HMM := Lib.hid (show m + 1 = at_ + (j + 1) by omega)
                unfold half at hh
                have h1 : (220 : Int) ≤ 16 * (N : Int) + (d : Int) := by omega
                have h2 : 16 * (N : Int) + (d : Int) ≤ 223 := by omega
                clear hj0 hj1 hmj hh
                go_wp2_with (go_at_call 56; (with_reducible refine HD.out.mono ?_); rintro e w2 ⟨rfl, rfl⟩)
                go_round
                case rel => exact ⟨m + 1, j + 1, 16 * N + d, by go_num, by go_num, by omega, by omega, by omega, HMM.out, HP.out⟩
                case measure => simp [RowKit.intOf]; omega
              · have HR := Lib.hid (fun t h => HF.out.bad hj HC.out HV.out (.inr ⟨hj1, hh⟩) t h)
                rw [← hmj] at HR
                unfold half at hh
                rcases (show 16 * N + d < 220 ∨ 223 < 16 * N + d by omega) with h1 | h1
                · have h2 : decide ((220 : Int) ≤ 16 * (N : Int) + (d : Int)) = false := decide_eq_false (by omega)
                  clear hj0 hj1 hmj hh h1
                  go_wp2_with (go_at_call 56; (with_reducible refine HD.out.mono ?_); rintro e w2 ⟨rfl, rfl⟩)
                  go_ret3
                  exact four2_no hm1 (by rw [← HSZ.out]; exact hm2) HR.out
                · have h2 : decide (16 * (N : Int) + (d : Int) ≤ 223) = false := decide_eq_false (by omega)
                  have h3 : decide ((220 : Int) ≤ 16 * (N : Int) + (d : Int)) = true := decide_eq_true (by omega)
                  clear hj0 hj1 hmj hh h1
                  go_wp2_with (go_at_call 56; (with_reducible refine HD.out.mono ?_); rintro e w2 ⟨rfl, rfl⟩)
                  go_ret3
                  exact four2_no hm1 (by rw [← HSZ.out]; exact hm2) HR.out
            · obtain ⟨e1, e1'⟩ := neB (show (m : Int) ≠ (at_ : Int) + 1 by omega)
              have HP := Lib.hid (HF.out.next hj HC.out HV.out (fun h => absurd h hj0) (fun h => absurd h hj1))
              have HMM := Lib.hid (show m + 1 = at_ + (j + 1) by omega)
              clear hj0 hj1 hmj
              go_wp2_with (go_at_call 56; (with_reducible refine HD.out.mono ?_); rintro e w2 ⟨rfl, rfl⟩)
              go_round
              case rel => exact ⟨m + 1, j + 1, 16 * N + d, by go_num, by go_num, by omega, by omega, by omega, HMM.out, HP.out⟩
              case measure => simp [RowKit.intOf]; omega
      · have d2 : decide ((s.size : Int) ≤ (m : Int)) = true := decide_eq_true (by omega)
        have d3 : decide (s.size ≤ m) = true := decide_eq_true (by omega)
        have HR := Lib.hid (fun t h => HF.out.stop hj (by have := HSZ.out; omega) t h)
        rw [← hmj] at HR
        clear hmj
        go_wp2
        go_ret3
        exact four2_no hm1 (by rw [← HSZ.out]; exact hm2) HR.out
    · have hj' : j = 4 := by omega
      have d1 : decide ((m : Int) < (at_ : Int) + 4) = false := decide_eq_false (by omega)
      have HE := Lib.hid (show S4 l at_ 4 N by rw [← hj']; exact HF.out)
      have HA := Lib.hid (show at_ + 4 ≤ l.length by have := HSZ.out; omega)
      clear hj hj' hmj
      go_wp2
      go_ret3
      exact four2_yes HA.out HE.out
set_option maxHeartbeats 2000000 in
set_option maxRecDepth 100000 in
theorem wrong_any (s : ByteArray) (l : List UInt8) (k e E : Nat) (hl : s.data.toList = l) (hk : k ≤ l.length) (hE : (if l.length ≤ k then 3 else e) = E) (w : World) :
    Calls Tryz.prog 38 #[.string s, .int .i64 (k : Nat), .int .i64 (e : Nat)] w fun r w' => r = .returned (.tuple #[.string ⟨#[]⟩, .int .i64 0, .int .i64 (k : Nat), .int .i64 (E : Nat)]) ∧ w = w' := by
  have hsz : s.size = l.length := by rw [Lib.size_eq, hl]
  by_cases h : l.length ≤ k
  · have he : k = s.size := by omega
    rw [if_pos h] at hE
    have HE := Lib.hid hE
    have HK := Lib.hid he
    have d2 : decide ((s.size : Int) ≤ (k : Int)) = true := decide_eq_true (by omega)
    have d3 : decide (s.size ≤ k) = true := decide_eq_true (by omega)
    clear hsz h he hl hE hk
    go_enter Tryz.func38, Tryz.ntmps38
    go_wp2
    exact bodyPost_ret (v := .tuple #[.string ⟨#[]⟩, .int .i64 0, .int .i64 (s.size : Nat), .int .i64 3]) (by simp [results, Tryz.results38, go_sem]) rfl ⟨by rw [← HE.out, HK.out]; rfl, rfl⟩
  · rw [if_neg h] at hE
    have HE := Lib.hid hE
    have d2 : decide ((s.size : Int) ≤ (k : Int)) = false := decide_eq_false (by omega)
    have d3 : decide (s.size ≤ k) = false := decide_eq_false (by omega)
    clear hsz h hl hE hk
    go_enter Tryz.func38, Tryz.ntmps38
    go_wp2
    exact bodyPost_ret (v := .tuple #[.string ⟨#[]⟩, .int .i64 0, .int .i64 (k : Nat), .int .i64 (e : Nat)]) (by simp [results, Tryz.results38, go_sem]) rfl ⟨by rw [HE.out], rfl⟩
theorem uR_er (l : List UInt8) (k e E : Nat) (hE : (if l.length ≤ k then 3 else e) = E) : uR (er l k e) = .tuple #[.string ⟨#[]⟩, .int .i64 0, .int .i64 (k : Nat), .int .i64 (E : Nat)] := by
  unfold uR er
  rw [hE]
  rfl
end Go.Proofs.YtodmlgbomhmbpaaGreatDoor
