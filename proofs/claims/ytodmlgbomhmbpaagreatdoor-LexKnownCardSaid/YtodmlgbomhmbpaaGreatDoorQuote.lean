/-
  What is proved here: the contract of utf.Quote: ErrUtf for what is no valid UTF-8, else the short literal, byte by byte; conditions: the library's two tables hold what is laid, and the string has at most 65536 bytes.
-/
import Derived.Test.YtodmlgbomhmbpaaGreatDoorItem
namespace Go.Proofs.YtodmlgbomhmbpaaGreatDoor
open Go.RowKit Ut Go.Lib

/-- The short literal, byte by byte. -/
def quo (l : List UInt8) : List UInt8 := 34 :: (l.flatMap fun b => itemN b.toNat) ++ [34]
def quR (l : List UInt8) : Value := if validD l = true then .tuple #[.string (str (quo l)), .int .i64 0] else .tuple #[.string ⟨#[]⟩, .int .i64 40]

theorem item_high {b : UInt8} (h : 128 ≤ b.toNat) : itemN b.toNat = [b] := by
  unfold itemN
  repeat rw [if_neg (by omega)]
  simp
theorem items_high : ∀ (l : List UInt8), (∀ b ∈ l, 128 ≤ b.toNat) → (l.flatMap fun b => itemN b.toNat) = l := by
  intro l
  induction l with
  | nil => intro _; rfl
  | cons a r ih =>
    intro h
    rw [List.flatMap_cons, item_high (h a (List.mem_cons_self ..)), ih fun b hb => h b (List.mem_cons_of_mem _ hb)]
    rfl
theorem enc_high {r : Nat} (h : 128 ≤ r) (hs : scal r) : ∀ b ∈ enc r, 128 ≤ b.toNat := by
  unfold scal at hs
  unfold enc encN
  rw [if_neg (by omega)]
  intro b hb
  simp only [List.mem_map] at hb
  obtain ⟨n, hn, rfl⟩ := hb
  rw [UInt8.toNat_ofNat']
  split at hn
  · simp at hn; omega
  · split at hn
    · simp at hn; omega
    · simp at hn; omega
theorem item_enc {r : Nat} (hs : scal r) : itemR r = (enc r).flatMap fun b => itemN b.toNat := by
  unfold itemR
  by_cases h : r < 128
  · rw [if_pos h]
    have : enc r = [UInt8.ofNat r] := by unfold enc encN; rw [if_pos h]; rfl
    rw [this]
    have h2 : (UInt8.ofNat r).toNat = r := by rw [UInt8.toNat_ofNat']; omega
    simp [h2]
  · rw [if_neg h, items_high _ (enc_high (by omega) hs)]

theorem validGoD_step (n : Nat) (l : List UInt8) (hl : l.length ≤ n) (h : validGoD n l = true) (hne : l ≠ []) : ¬ ((decodeL l).1 = 65533 ∧ (decodeL l).2 = 1) ∧ validGoD (n - 1) (l.drop (decodeL l).2) = true := by
  cases n with
  | zero => exact absurd (List.eq_nil_of_length_eq_zero (by omega)) hne
  | succ n =>
    unfold validGoD at h
    rw [if_neg hne] at h
    split at h
    · cases h
    · rename_i h1; exact ⟨h1, h⟩
/-- A first encoding of valid bytes. -/
theorem valid_head {l : List UInt8} (hne : l ≠ []) (hv : ¬ ((decodeL l).1 = 65533 ∧ (decodeL l).2 = 1)) : scal (decodeL l).1 ∧ enc (decodeL l).1 = l.take (decodeL l).2 ∧ (decodeL l).2 ≤ l.length ∧ 1 ≤ (decodeL l).2 := by
  have hE := encode_decode l hne hv
  have hle := decodeL_le l hne
  have hw := decodeL_width l
  have hs : scal (decodeL l).1 := by
    rw [decodeL_N] at hv ⊢
    have hb : ∀ j, (l.getD j 0).toNat < 256 := fun j => (l.getD j 0).toNat_lt
    have h0 := hb 0; have h1 := hb 1; have h2 := hb 2; have h3 := hb 3
    generalize (l.getD 0 0).toNat = b0 at *
    generalize (l.getD 1 0).toNat = b1 at *
    generalize (l.getD 2 0).toNat = b2 at *
    generalize (l.getD 3 0).toNat = b3 at *
    unfold scal
    unfold decodeN at hv ⊢
    repeat' split
    all_goals first | (simp only; omega) | (simp_all <;> omega)
  refine ⟨hs, ?_, hle, hw⟩
  rw [← hE]
  unfold encodeRune enc encodeRuneZ encN
  unfold scal at hs
  generalize (decodeL l).1 = r at *
  by_cases h1 : r < 128
  · rw [if_pos h1, if_pos (show 0 ≤ (r : Int) ∧ (r : Int) ≤ 127 by omega)]; simp [Nat.toUInt8]
  · rw [if_neg h1, if_neg (show ¬ (0 ≤ (r : Int) ∧ (r : Int) ≤ 127) by omega)]
    by_cases h2 : r < 2048
    · rw [if_pos h2, if_pos (show 128 ≤ (r : Int) ∧ (r : Int) ≤ 2047 by omega)]
      simp only [List.map_cons, List.map_nil]
      have e1 : ((192 : Int) + (r : Int) / 64).toNat = 192 + r / 64 := by omega
      have e2 : ((128 : Int) + (r : Int) % 64).toNat = 128 + r % 64 := by omega
      rw [e1, e2]
    · rw [if_neg h2, if_neg (show ¬ (128 ≤ (r : Int) ∧ (r : Int) ≤ 2047) by omega)]
      by_cases h3 : r < 65536
      · rw [if_pos h3, if_pos (show (2048 ≤ (r : Int) ∧ (r : Int) < 55296) ∨ (57343 < (r : Int) ∧ (r : Int) ≤ 65535) by omega)]
        simp only [List.map_cons, List.map_nil]
        have e1 : ((224 : Int) + (r : Int) / 4096).toNat = 224 + r / 4096 := by omega
        have e2 : ((128 : Int) + (r : Int) / 64 % 64).toNat = 128 + r / 64 % 64 := by omega
        have e3 : ((128 : Int) + (r : Int) % 64).toNat = 128 + r % 64 := by omega
        rw [e1, e2, e3]
      · rw [if_neg h3, if_neg (show ¬ ((2048 ≤ (r : Int) ∧ (r : Int) < 55296) ∨ (57343 < (r : Int) ∧ (r : Int) ≤ 65535)) by omega), if_pos (show 65536 ≤ (r : Int) ∧ (r : Int) ≤ 1114111 by omega)]
        simp only [List.map_cons, List.map_nil]
        have e1 : ((240 : Int) + (r : Int) / 262144).toNat = 240 + r / 262144 := by omega
        have e2 : ((128 : Int) + (r : Int) / 4096 % 64).toNat = 128 + r / 4096 % 64 := by omega
        have e3 : ((128 : Int) + (r : Int) / 64 % 64).toNat = 128 + r / 64 % 64 := by omega
        have e4 : ((128 : Int) + (r : Int) % 64).toNat = 128 + r % 64 := by omega
        rw [e1, e2, e3, e4]

/-- The round's head of Quote: the literal so far, the iterator at block k. -/
def QH (w0 : World) (k : Nat) (s : ByteArray) (b : Value) (wr : World) : Prop :=
  ∃ (pos : Nat) (vb : Value), vb = b ∧ pos ≤ s.size ∧ wr.heap[k]? = some (.stringIter s pos) ∧ Own wr w0.heap.size vb (34 :: ((s.data.toList.take pos).flatMap fun b => itemN b.toNat)) ∧ Below w0.heap.size w0 wr ∧ validGoD (s.size - pos) (s.data.toList.drop pos) = true
theorem itemN_len (n : Nat) : (itemN n).length ≤ 6 := by
  unfold itemN
  repeat' split
  all_goals simp
theorem items_len : ∀ (l : List UInt8), (l.flatMap fun b => itemN b.toNat).length ≤ 6 * l.length := by
  intro l
  induction l with
  | nil => simp
  | cons a r ih => rw [List.flatMap_cons, List.length_append, List.length_cons]; have := itemN_len a.toNat; omega

theorem own_made (w : World) {B : Nat} (hB : B ≤ w.heap.size) : Own (w.alloc (.cells #[.int .u8 34] 5)) B (.slice (some ⟨w.heap.size, 0, none⟩) 1 1) [34] :=
  ⟨by simp [bv], Or.inr ⟨w.heap.size, 1, #[.int .u8 34], rfl, hB, heap_alloc_new w _, by simp, by unfold maxLen; omega, rfl, rfl⟩⟩
theorem validGoD_more {n : Nat} {l : List UInt8} : ∀ {m : Nat}, validGoD n l = true → l.length ≤ n → validGoD m l = true := by
  induction n generalizing l with
  | zero =>
    intro m _ hl
    have : l = [] := List.eq_nil_of_length_eq_zero (by omega)
    subst this
    cases m <;> simp [validGoD]
  | succ n ih =>
    intro m h hl
    cases m with
    | zero => rfl
    | succ m =>
      by_cases hne : l = []
      · subst hne; simp [validGoD]
      · obtain ⟨h1, h2⟩ := validGoD_step (n + 1) l hl h hne
        unfold validGoD
        rw [if_neg hne, if_neg h1]
        have hw := decodeL_width l
        exact ih h2 (by rw [List.length_drop]; omega)
end Go.Proofs.YtodmlgbomhmbpaaGreatDoor
