/-
  What is proved here: the contract of the reference's Unquote: it answers what the reader of literals answers; condition: a string of at most 60000 bytes.
-/
import Derived.Test.YtoifjbhjclglmaaDoorRdE
import Derived.Test.YtoifjbhjclglmaaDoorRdD
import Derived.Test.YtoifjbhjclglmaaDoorBack
namespace Go.Proofs.YtoifjbhjclglmaaDoor
open Go.RowKit Ut Go.Lib

theorem nx_split {l : List UInt8} (hne : l ≠ []) : (nx l = (0, 0, false) ∧ (decodeL l).1 = 65533 ∧ (decodeL l).2 = 1) ∨ (∃ r n : Nat, nx l = (r, n, true) ∧ scal r ∧ enc r = l.take n ∧ n ≤ l.length ∧ 1 ≤ n ∧ (enc r).length = n) := by
  have hd : dec l = decodeL l := by unfold dec; rw [if_neg hne]
  by_cases hv : (decodeL l).1 = 65533 ∧ (decodeL l).2 = 1
  · exact .inl ⟨by unfold nx; rw [hd, if_pos ⟨hv.1, by omega⟩], hv⟩
  · obtain ⟨hsc, henc, hle, h1⟩ := valid_head hne hv
    have h5 : l = enc (decodeL l).1 ++ l.drop (decodeL l).2 := by rw [henc, List.take_append_drop]
    have hlen : (enc (decodeL l).1).length = (decodeL l).2 := by rw [henc, List.length_take]; omega
    have h8 := nx_enc hsc (l.drop (decodeL l).2)
    rw [← h5, hlen] at h8
    exact .inr ⟨_, _, h8, hsc, henc, hle, h1, hlen⟩
/-- An encoding that stands for itself. -/
theorem go_self {l : List UInt8} {k r n : Nat} {c : UInt8} (hc : l[k]? = some c) (h34 : c.toNat ≠ 34) (h92 : c.toNat ≠ 92) (h32 : 32 ≤ c.toNat) (hs : scal r) (he : enc r = (l.drop k).take n) (hl : (enc r).length = n) (T : List UInt8) (h : Nat) :
    go (Q1 T h) (l.drop k) k = go (Q1 (T ++ (l.drop k).take n) h) (l.drop (k + n)) (k + n) := by
  have hd : l.drop k = enc r ++ l.drop (k + n) := by rw [he, ← List.drop_drop, List.take_append_drop]
  have hhead : r < 128 → c.toNat = r := by
    intro hr
    have e1 : enc r = [UInt8.ofNat r] := by unfold enc encN; rw [if_pos hr]; rfl
    have e2 := drop_at hc
    rw [hd, e1] at e2
    simp only [List.cons_append, List.nil_append, List.cons.injEq] at e2
    rw [← e2.1]
    exact ofNat_toNat (by omega)
  have := go_enc hs (by omega) (by omega) (by omega) T h (l.drop (k + n)) k
  rw [hl] at this
  rw [hd, this, ← hd, he]
/-- Within the first bytes of what is no encoding. -/
def BS (l T : List UInt8) (h k j : Nat) : Prop :=
  (0 < j → full ((l.drop k).take j) = false) ∧ go (Q1 T h) (l.drop k) k = if j = 0 then go (Q1 T h) (l.drop k) k else go ⟨2, T, (l.drop k).take j, 0, 0, h⟩ (l.drop (k + j)) (k + j)
theorem BS.start (l T : List UInt8) (h k : Nat) : BS l T h k 0 := ⟨by omega, rfl⟩
theorem take_j {l : List UInt8} {k j : Nat} {c : UInt8} (hc : l[k + j]? = some c) : (l.drop k).take (j + 1) = (l.drop k).take j ++ [c] := by
  rw [List.take_add_one, List.getElem?_drop, hc]
  rfl
theorem bs_step {l T : List UInt8} {h k j : Nat} {c : UInt8} (hb : BS l T h k j) (hc : l[k + j]? = some c) (hp : j = 0 → c.toNat ≠ 34 ∧ c.toNat ≠ 92 ∧ 32 ≤ c.toNat) :
    ∃ q : Q, q.st ≠ 8 ∧ Ut.step q c = encS ⟨2, T, (l.drop k).take j, 0, 0, h⟩ c ∧ go (Q1 T h) (l.drop k) k = go q (l.drop (k + j)) (k + j) := by
  by_cases hj : j = 0
  · subst hj
    obtain ⟨h1, h2, h3⟩ := hp rfl
    exact ⟨Q1 T h, by show 1 ≠ 8; decide, item_plain_step h1 h2 h3, rfl⟩
  · refine ⟨⟨2, T, (l.drop k).take j, 0, 0, h⟩, by show 2 ≠ 8; decide, rfl, ?_⟩
    have := hb.2
    rw [if_neg hj] at this
    exact this
theorem BS.next {l T : List UInt8} {h k j : Nat} {c : UInt8} (hb : BS l T h k j) (hc : l[k + j]? = some c) (hp : j = 0 → c.toNat ≠ 34 ∧ c.toNat ≠ 92 ∧ 32 ≤ c.toNat) (hf : full ((l.drop k).take (j + 1)) = false) : BS l T h k (j + 1) := by
  obtain ⟨q, hq, hst, hg⟩ := bs_step hb hc hp
  refine ⟨fun _ => hf, ?_⟩
  rw [if_neg (by omega), hg]
  rw [take_j hc] at hf ⊢
  have := encS_more (q := ⟨2, T, (l.drop k).take j, 0, 0, h⟩) (c := c) hf
  rw [this] at hst
  rw [go_one hq hc hst, Nat.add_assoc]
theorem BS.bad {l T : List UInt8} {h k j : Nat} {c : UInt8} (hb : BS l T h k j) (hc : l[k + j]? = some c) (hp : j = 0 → c.toNat ≠ 34 ∧ c.toNat ≠ 92 ∧ 32 ≤ c.toNat) (hf : full ((l.drop k).take (j + 1)) = true)
    (hd : (decodeL (l.drop k)).1 = 65533 ∧ (decodeL (l.drop k)).2 = 1) : go (Q1 T h) (l.drop k) k = er l (k + j) 40 := by
  obtain ⟨q, hq, hst, hg⟩ := bs_step hb hc hp
  have hlt : k + j < l.length := (List.getElem?_eq_some_iff.1 hc).1
  have hv : val ((l.drop k).take (j + 1)) = false := by
    rcases hv : val ((l.drop k).take (j + 1)) with _ | _
    · rfl
    · exact absurd hd (val_dec (by omega) (by rw [List.length_drop]; omega) hv)
  rw [take_j hc] at hf hv
  rw [hg]
  refine er_bad hq hc ?_ (by decide)
  rw [hst]
  unfold encS
  rw [if_neg (by rw [hf]; decide), if_pos hv]
theorem BS.stop {l T : List UInt8} {h k j : Nat} (hb : BS l T h k j) (hl : l.length ≤ k + j) : go (Q1 T h) (l.drop k) k = er l (k + j) 40 := by
  by_cases hj : j = 0
  · subst hj
    exact er_end (by show 1 ≠ 8; decide) hl
  · have := hb.2
    rw [if_neg hj] at this
    rw [this]
    exact er_end (by show 2 ≠ 8; decide) hl
theorem ctl_bad {l : List UInt8} {k : Nat} {c : UInt8} (hc : l[k]? = some c) (h34 : c.toNat ≠ 34) (h92 : c.toNat ≠ 92) (h32 : c.toNat < 32) (T : List UInt8) (h : Nat) : go (Q1 T h) (l.drop k) k = er l k 41 := by
  refine er_bad (q := Q1 T h) (by show 1 ≠ 8; decide) hc ?_ (by decide)
  rw [step_item]
  unfold itemS
  rw [if_neg h34, if_neg h92, if_pos h32]
theorem q0_bad {l : List UInt8} {c : UInt8} (hc : l[0]? = some c) (h34 : c.toNat ≠ 34) : unq l = er l 0 41 := by
  have := er_bad (q := q0) (e := 41) (by decide) hc (by show (expS q0 c.toNat 34 1).2 = 41; unfold expS; rw [if_neg h34]) (by decide)
  rw [List.drop_zero] at this
  exact this
theorem q0_open {l : List UInt8} {c : UInt8} (hc : l[0]? = some c) (h34 : c.toNat = 34) : unq l = go (Q1 [] 0) (l.drop 1) 1 := by
  have h1 := drop_at hc
  rw [List.drop_zero] at h1
  have e : c = 34 := UInt8.toNat_inj.1 h34
  rw [e] at h1
  rw [h1, unq_open]
  rfl
theorem q_close {l : List UInt8} {k : Nat} {c : UInt8} (hc : l[k]? = some c) (h34 : c.toNat = 34) (T : List UInt8) (h : Nat) : go (Q1 T h) (l.drop k) k = (T, k + 1, 0, 0) := by
  have e : c = 34 := UInt8.toNat_inj.1 h34
  rw [drop_at hc, e, go_close]
theorem extract_list (s : ByteArray) (l : List UInt8) (hl : s.data.toList = l) (k m : Nat) : (s.extract k m).data.toList = (l.drop k).take (m - k) := by
  subst hl
  rw [ByteArray.data_extract, Array.toList_extract, List.extract_eq_take_drop]
theorem extract_str2 (s : ByteArray) (l : List UInt8) (hl : s.data.toList = l) (k m : Nat) : s.extract k m = str ((l.drop k).take (m - k)) := by
  rw [← str_list (s.extract k m), extract_list s l hl]
end Go.Proofs.YtoifjbhjclglmaaDoor
