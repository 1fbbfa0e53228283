/-
  What is proved here: plain facts of encodings: the decoder inverts them, the reader of literals takes each encoding and each shortest item; no program in this text; no condition but those that each fact states.
-/
import Derived.Test.YtodmlgbomhmbpaaGreatDoorQuote
namespace Go.Proofs.YtodmlgbomhmbpaaGreatDoor
namespace Ut
open Go.Lib

theorem ofNat_toNat {n : Nat} (h : n < 256) : (UInt8.ofNat n).toNat = n := by rw [UInt8.toNat_ofNat']; omega
inductive EncShape (r : Nat) : List UInt8 → Prop
  | one (h : r < 128) : EncShape r [UInt8.ofNat r]
  | two (h : 128 ≤ r) (h2 : r < 2048) : EncShape r [UInt8.ofNat (192 + r / 64), UInt8.ofNat (128 + r % 64)]
  | three (h : 2048 ≤ r) (h2 : r < 65536) : EncShape r [UInt8.ofNat (224 + r / 4096), UInt8.ofNat (128 + r / 64 % 64), UInt8.ofNat (128 + r % 64)]
  | four (h : 65536 ≤ r) : EncShape r [UInt8.ofNat (240 + r / 262144), UInt8.ofNat (128 + r / 4096 % 64), UInt8.ofNat (128 + r / 64 % 64), UInt8.ofNat (128 + r % 64)]
theorem enc_shape (r : Nat) : EncShape r (enc r) := by
  unfold enc encN
  by_cases h : r < 128
  · rw [if_pos h]; exact .one h
  · rw [if_neg h]
    by_cases h2 : r < 2048
    · rw [if_pos h2]; exact .two (by omega) h2
    · rw [if_neg h2]
      by_cases h3 : r < 65536
      · rw [if_pos h3]; exact .three (by omega) h3
      · rw [if_neg h3]; exact .four (by omega)

theorem decode_enc {r : Nat} (hs : scal r) (t : List UInt8) : decodeL (enc r ++ t) = (r, (enc r).length) := by
  rw [decodeL_N]
  unfold scal at hs
  have hsh := enc_shape r
  revert hsh
  generalize enc r = l
  intro hsh
  cases hsh with
  | one h =>
    simp only [List.cons_append, List.nil_append, List.getD_cons_zero, List.length_cons, List.length_nil]
    rw [ofNat_toNat (by omega)]
    unfold decodeN
    rw [if_pos h]
  | two h h2 =>
    simp only [List.cons_append, List.nil_append, List.getD_cons_zero, List.getD_cons_succ, List.length_cons, List.length_nil]
    rw [ofNat_toNat (by omega), ofNat_toNat (by omega)]
    unfold decodeN
    rw [if_neg (by omega), if_pos (by omega), if_pos (by omega)]
    apply Prod.ext <;> simp only <;> omega
  | three h h2 =>
    simp only [List.cons_append, List.nil_append, List.getD_cons_zero, List.getD_cons_succ, List.length_cons, List.length_nil]
    rw [ofNat_toNat (by omega), ofNat_toNat (by omega), ofNat_toNat (by omega)]
    unfold decodeN
    rw [if_neg (by omega), if_neg (by omega), if_pos (by omega), if_pos (by omega)]
    apply Prod.ext <;> simp only <;> omega
  | four h =>
    simp only [List.cons_append, List.nil_append, List.getD_cons_zero, List.getD_cons_succ, List.length_cons, List.length_nil]
    rw [ofNat_toNat (by omega), ofNat_toNat (by omega), ofNat_toNat (by omega), ofNat_toNat (by omega)]
    unfold decodeN
    rw [if_neg (by omega), if_neg (by omega), if_neg (by omega), if_pos (by omega), if_pos (by omega)]
    apply Prod.ext <;> simp only <;> omega
theorem valid_enc {r : Nat} (hs : scal r) (t : List UInt8) (n : Nat) (ht : t.length ≤ n) (h : validGoD n t = true) : validGoD (n + (enc r).length) (enc r ++ t) = true := by
  have hl := enc_len r
  obtain ⟨m, hm⟩ : ∃ m, n + (enc r).length = m + 1 := ⟨n + (enc r).length - 1, by omega⟩
  rw [hm]
  unfold validGoD
  rw [if_neg (by intro h0; have := congrArg List.length h0; rw [List.length_append, List.length_nil] at this; omega), decode_enc hs]
  rw [if_neg (by
    intro h1
    dsimp only at h1
    obtain ⟨h2, h3⟩ := h1
    subst h2
    revert h3
    decide)]
  dsimp only
  rw [List.drop_left]
  exact validGoD_more h ht

theorem firstT_two {b : Nat} (h : 194 ≤ b) (h2 : b < 224) : firstT b = 2 := by
  unfold firstT
  rw [if_neg (by omega), if_neg (by omega), if_pos h2]
/-- The bytes of an encoding, one by one. -/
theorem full_two {a b : UInt8} (h : 194 ≤ a.toNat) (h2 : a.toNat < 224) (hb : 128 ≤ b.toNat) (hb2 : b.toNat ≤ 191) : full [a] = false ∧ full [a, b] = true ∧ val [a, b] = true := by
  have hF := firstT_two h h2
  unfold full val fullN valN
  simp [hF, accLo, accHi]
  omega
theorem full_three {a b c : UInt8} (h : 224 ≤ a.toNat) (h2 : a.toNat < 240) (hb : 128 ≤ b.toNat) (hb2 : b.toNat ≤ 191) (hc : 128 ≤ c.toNat) (hc2 : c.toNat ≤ 191) (h3 : a.toNat = 224 → 160 ≤ b.toNat) (h4 : a.toNat = 237 → b.toNat ≤ 159) :
    full [a] = false ∧ full [a, b] = false ∧ full [a, b, c] = true ∧ val [a, b, c] = true := by
  have hF : (a.toNat = 224 ∧ firstT a.toNat = 19) ∨ (a.toNat = 237 ∧ firstT a.toNat = 35) ∨ firstT a.toNat = 3 := by
    unfold firstT
    repeat' split
    all_goals omega
  unfold full val fullN valN
  rcases hF with ⟨h0, hF⟩ | ⟨h0, hF⟩ | hF <;> simp [hF, accLo, accHi] <;> omega
theorem full_four {a b c d : UInt8} (h : 240 ≤ a.toNat) (h2 : a.toNat < 245) (hb : 128 ≤ b.toNat) (hb2 : b.toNat ≤ 191) (hc : 128 ≤ c.toNat) (hc2 : c.toNat ≤ 191) (hd : 128 ≤ d.toNat) (hd2 : d.toNat ≤ 191) (h3 : a.toNat = 240 → 144 ≤ b.toNat) (h4 : a.toNat = 244 → b.toNat ≤ 143) :
    full [a] = false ∧ full [a, b] = false ∧ full [a, b, c] = false ∧ full [a, b, c, d] = true ∧ val [a, b, c, d] = true := by
  have hF : (a.toNat = 240 ∧ firstT a.toNat = 52) ∨ (a.toNat = 244 ∧ firstT a.toNat = 68) ∨ firstT a.toNat = 4 := by
    unfold firstT
    repeat' split
    all_goals omega
  unfold full val fullN valN
  rcases hF with ⟨h0, hF⟩ | ⟨h0, hF⟩ | hF <;> simp [hF, accLo, accHi] <;> omega

theorem u8_ne {c : UInt8} {n : Nat} (h : n < 256) (hc : c = UInt8.ofNat n) : c.toNat = n := by rw [hc]; exact ofNat_toNat h
/-- The reader between two items. -/
def Q1 (t : List UInt8) (h : Nat) : Q := ⟨1, t, [], 0, 0, h⟩
theorem step_item {t : List UInt8} {h : Nat} {c : UInt8} : step (Q1 t h) c = itemS (Q1 t h) c := rfl
theorem step_enc {t p : List UInt8} {h : Nat} {c : UInt8} : step ⟨2, t, p, 0, 0, h⟩ c = encS ⟨2, t, p, 0, 0, h⟩ c := rfl
theorem item_plain_step {t : List UInt8} {h : Nat} {c : UInt8} (h1 : c.toNat ≠ 34) (h2 : c.toNat ≠ 92) (h3 : 32 ≤ c.toNat) : step (Q1 t h) c = encS ⟨2, t, [], 0, 0, h⟩ c := by
  rw [step_item]
  unfold itemS
  rw [if_neg h1, if_neg h2, if_neg (by omega)]
  rfl
theorem encS_more {q : Q} {c : UInt8} (h : full (q.part ++ [c]) = false) : encS q c = ({ q with part := q.part ++ [c] }, 0) := by unfold encS; rw [if_pos h]
theorem encS_done {q : Q} {c : UInt8} (h : full (q.part ++ [c]) = true) (hv : val (q.part ++ [c]) = true) : encS q c = ({ q with st := 1, text := q.text ++ (q.part ++ [c]), part := [] }, 0) := by
  unfold encS; rw [if_neg (by rw [h]; decide), if_neg (by rw [hv]; decide)]
theorem go_step {q q' : Q} {c : UInt8} {l : List UInt8} {k : Nat} (h8 : q.st ≠ 8) (h : step q c = (q', 0)) : go q (c :: l) k = go q' l (k + 1) := by
  have := go_ok (q := q) (c := c) (r := l) h8 (by rw [h]) k
  rw [this, h]

/-- The reader takes an encoding that stands for itself. -/
theorem go_enc {r : Nat} (hs : scal r) (h32 : 32 ≤ r) (h34 : r ≠ 34) (h92 : r ≠ 92) (t : List UInt8) (h : Nat) (l : List UInt8) (k : Nat) :
    go (Q1 t h) (enc r ++ l) k = go (Q1 (t ++ enc r) h) l (k + (enc r).length) := by
  unfold scal at hs
  have hsh := enc_shape r
  revert hsh
  generalize enc r = e
  intro hsh
  have h8 : (Q1 t h).st ≠ 8 := by show 1 ≠ 8; decide
  cases hsh with
  | one hr =>
    have e0 := ofNat_toNat (n := r) (by omega)
    have hF : firstT r = 240 := by unfold firstT; rw [if_pos hr]
    have hf : full [UInt8.ofNat r] = true := by unfold full fullN; simp [ofNat_toNat (show r < 256 by omega), hF]
    have hv : val [UInt8.ofNat r] = true := by unfold val valN; simp [ofNat_toNat (show r < 256 by omega), hr]
    rw [List.cons_append, List.nil_append]
    rw [go_step h8 ((item_plain_step (by omega) (by omega) (by omega)).trans (encS_done hf hv))]
    rfl
  | two hr hr2 =>
    have a0 := ofNat_toNat (n := 192 + r / 64) (by omega)
    have b0 := ofNat_toNat (n := 128 + r % 64) (by omega)
    generalize UInt8.ofNat (192 + r / 64) = a at *
    generalize UInt8.ofNat (128 + r % 64) = b at *
    obtain ⟨f1, f2, f3⟩ := full_two (a := a) (b := b) (by omega) (by omega) (by omega) (by omega)
    simp only [List.cons_append, List.nil_append]
    rw [go_step h8 ((item_plain_step (by omega) (by omega) (by omega)).trans (encS_more f1))]
    rw [go_step (by show 2 ≠ 8; decide) (step_enc.trans (encS_done (q := ⟨2, t, [] ++ [a], 0, 0, h⟩) (c := b) (by simpa using f2) (by simpa using f3)))]
    rfl
  | three hr hr2 =>
    have a0 := ofNat_toNat (n := 224 + r / 4096) (by omega)
    have b0 := ofNat_toNat (n := 128 + r / 64 % 64) (by omega)
    have c0 := ofNat_toNat (n := 128 + r % 64) (by omega)
    generalize UInt8.ofNat (224 + r / 4096) = a at *
    generalize UInt8.ofNat (128 + r / 64 % 64) = b at *
    generalize UInt8.ofNat (128 + r % 64) = c at *
    obtain ⟨f1, f2, f3, f4⟩ := full_three (a := a) (b := b) (c := c) (by omega) (by omega) (by omega) (by omega) (by omega) (by omega) (by omega) (by omega)
    simp only [List.cons_append, List.nil_append]
    rw [go_step h8 ((item_plain_step (by omega) (by omega) (by omega)).trans (encS_more f1))]
    rw [go_step (by show 2 ≠ 8; decide) (step_enc.trans (encS_more (q := ⟨2, t, [] ++ [a], 0, 0, h⟩) (c := b) (by simpa using f2)))]
    rw [go_step (by show 2 ≠ 8; decide) (step_enc.trans (encS_done (q := ⟨2, t, [] ++ [a] ++ [b], 0, 0, h⟩) (c := c) (by simpa using f3) (by simpa using f4)))]
    rfl
  | four hr =>
    have a0 := ofNat_toNat (n := 240 + r / 262144) (by omega)
    have b0 := ofNat_toNat (n := 128 + r / 4096 % 64) (by omega)
    have c0 := ofNat_toNat (n := 128 + r / 64 % 64) (by omega)
    have d0 := ofNat_toNat (n := 128 + r % 64) (by omega)
    generalize UInt8.ofNat (240 + r / 262144) = a at *
    generalize UInt8.ofNat (128 + r / 4096 % 64) = b at *
    generalize UInt8.ofNat (128 + r / 64 % 64) = c at *
    generalize UInt8.ofNat (128 + r % 64) = d at *
    obtain ⟨f1, f2, f3, f4, f5⟩ := full_four (a := a) (b := b) (c := c) (d := d) (by omega) (by omega) (by omega) (by omega) (by omega) (by omega) (by omega) (by omega) (by omega) (by omega)
    simp only [List.cons_append, List.nil_append]
    rw [go_step h8 ((item_plain_step (by omega) (by omega) (by omega)).trans (encS_more f1))]
    rw [go_step (by show 2 ≠ 8; decide) (step_enc.trans (encS_more (q := ⟨2, t, [] ++ [a], 0, 0, h⟩) (c := b) (by simpa using f2)))]
    rw [go_step (by show 2 ≠ 8; decide) (step_enc.trans (encS_more (q := ⟨2, t, [] ++ [a] ++ [b], 0, 0, h⟩) (c := c) (by simpa using f3)))]
    rw [go_step (by show 2 ≠ 8; decide) (step_enc.trans (encS_done (q := ⟨2, t, [] ++ [a] ++ [b] ++ [c], 0, 0, h⟩) (c := d) (by simpa using f4) (by simpa using f5)))]
    rfl
/-- The reader takes an item of two bytes. -/
theorem go_esc {l d : Nat} (hl : l < 256) (hd : esc l = some d) (h117 : l ≠ 117) (t : List UInt8) (h : Nat) (r : List UInt8) (k : Nat) :
    go (Q1 t h) (92 :: UInt8.ofNat l :: r) k = go (Q1 (t ++ enc d) h) r (k + 2) := by
  have s1 : step (Q1 t h) 92 = (⟨3, t, [], 0, 0, h⟩, 0) := rfl
  have s2 : step ⟨3, t, [], 0, 0, h⟩ (UInt8.ofNat l) = (Q1 (t ++ enc d) h, 0) := by
    show escS ⟨3, t, [], 0, 0, h⟩ (UInt8.ofNat l).toNat = _
    rw [ofNat_toNat hl]
    unfold escS
    rw [if_neg h117, hd]
    rfl
  rw [go_step (by show 1 ≠ 8; decide) s1, go_step (by show 3 ≠ 8; decide) s2]
theorem step4 {t p : List UInt8} {code dig h : Nat} (c : UInt8) : step ⟨4, t, p, code, dig, h⟩ c = firstS ⟨4, t, p, code, dig, h⟩ c.toNat := rfl
theorem go_ctl {r : Nat} (hr : r < 32) (t : List UInt8) (h : Nat) (l : List UInt8) (k : Nat) :
    go (Q1 t h) ([92, 117, 48, 48, hexB (r / 16), hexB (r % 16)] ++ l) k = go (Q1 (t ++ enc r) h) l (k + 6) := by
  have hx : dv (hexB (r / 16)).toNat = some (r / 16) := by
    have key : ∀ x : Fin 16, dv (hexB x.val).toNat = some x.val := by decide +kernel
    exact key ⟨r / 16, by omega⟩
  have hy : dv (hexB (r % 16)).toNat = some (r % 16) := by
    have key : ∀ x : Fin 16, dv (hexB x.val).toNat = some x.val := by decide +kernel
    exact key ⟨r % 16, by omega⟩
  generalize hexB (r / 16) = x at *
  generalize hexB (r % 16) = y at *
  have s1 : step (Q1 t h) 92 = (⟨3, t, [], 0, 0, h⟩, 0) := rfl
  have s2 : step ⟨3, t, [], 0, 0, h⟩ 117 = (⟨4, t, [], 0, 0, h⟩, 0) := rfl
  have s3 : step ⟨4, t, [], 0, 0, h⟩ 48 = (⟨4, t, [], 0, 1, h⟩, 0) := by
    rw [step4]
    unfold firstS
    rw [show dv (48 : UInt8).toNat = some 0 by decide]
    dsimp only
    have h1 : ¬ (56320 ≤ lo (0 * 16 + 0) (0 + 1) ∧ hi (0 * 16 + 0) (0 + 1) ≤ 57343) := by unfold lo hi; omega
    rw [if_neg h1, if_pos (show 0 + 1 ≠ 4 by decide)]
  have s4 : step ⟨4, t, [], 0, 1, h⟩ 48 = (⟨4, t, [], 0, 2, h⟩, 0) := by
    rw [step4]
    unfold firstS
    rw [show dv (48 : UInt8).toNat = some 0 by decide]
    dsimp only
    have h1 : ¬ (56320 ≤ lo (0 * 16 + 0) (1 + 1) ∧ hi (0 * 16 + 0) (1 + 1) ≤ 57343) := by unfold lo hi; omega
    rw [if_neg h1, if_pos (show 1 + 1 ≠ 4 by decide)]
  have s5 : step ⟨4, t, [], 0, 2, h⟩ x = (⟨4, t, [], r / 16, 3, h⟩, 0) := by
    show firstS ⟨4, t, [], 0, 2, h⟩ x.toNat = _
    unfold firstS
    rw [hx]
    dsimp only
    have h1 : ¬ (56320 ≤ lo (0 * 16 + r / 16) (2 + 1) ∧ hi (0 * 16 + r / 16) (2 + 1) ≤ 57343) := by unfold lo hi; omega
    rw [if_neg h1, if_pos (show 2 + 1 ≠ 4 by decide), Nat.zero_mul, Nat.zero_add]
  have s6 : step ⟨4, t, [], r / 16, 3, h⟩ y = (Q1 (t ++ enc r) h, 0) := by
    show firstS ⟨4, t, [], r / 16, 3, h⟩ y.toNat = _
    unfold firstS
    rw [hy]
    dsimp only
    have e : lo (r / 16 * 16 + r % 16) (3 + 1) = r := by unfold lo; omega
    rw [e, if_neg (by omega), if_neg (by decide), if_neg (by omega)]
    rfl
  simp only [List.cons_append, List.nil_append]
  rw [go_step (by show 1 ≠ 8; decide) s1, go_step (by show 3 ≠ 8; decide) s2, go_step (by show 4 ≠ 8; decide) s3, go_step (by show 4 ≠ 8; decide) s4, go_step (by show 4 ≠ 8; decide) s5, go_step (by show 4 ≠ 8; decide) s6]

/-- The reader takes the shortest item of a scalar value. -/
theorem go_item {r : Nat} (hs : scal r) (t : List UInt8) (h : Nat) (l : List UInt8) (k : Nat) :
    go (Q1 t h) (itemR r ++ l) k = go (Q1 (t ++ enc r) h) l (k + (itemR r).length) := by
  by_cases hsp : special r
  · rcases hsp with rfl | rfl | rfl | rfl | rfl | rfl | rfl
    · exact go_esc (l := 34) (by decide) rfl (by decide) t h l k
    · exact go_esc (l := 92) (by decide) rfl (by decide) t h l k
    · exact go_esc (l := 98) (by decide) rfl (by decide) t h l k
    · exact go_esc (l := 102) (by decide) rfl (by decide) t h l k
    · exact go_esc (l := 110) (by decide) rfl (by decide) t h l k
    · exact go_esc (l := 114) (by decide) rfl (by decide) t h l k
    · exact go_esc (l := 116) (by decide) rfl (by decide) t h l k
  · by_cases h32 : r < 32
    · have he : itemR r = [92, 117, 48, 48, hexB (r / 16), hexB (r % 16)] := by
        unfold special at hsp
        unfold itemR itemN
        rw [if_pos (by omega)]
        repeat rw [if_neg (by omega)]
        rw [if_pos h32]
      rw [he]
      exact go_ctl h32 t h l k
    · have he : itemR r = enc r := by
        unfold special at hsp
        unfold itemR itemN enc encN
        by_cases h : r < 128
        · rw [if_pos h, if_pos h]
          repeat rw [if_neg (by omega)]
          rfl
        · rw [if_neg h]
      rw [he]
      unfold special at hsp
      exact go_enc hs (by omega) (by omega) (by omega) t h l k
end Ut
end Go.Proofs.YtodmlgbomhmbpaaGreatDoor
