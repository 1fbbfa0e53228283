/-
  What is proved here: plain facts of literals with any spelling: the reader takes each spelling of a scalar value, and a proper prefix of a literal ends too early; no program in this text; no condition but those that each fact states.
-/
import Derived.Test.YtoifjbhjclglmaaDoorRdE
import Derived.Test.YtoifjbhjclglmaaDoorBack
namespace Go.Proofs.YtoifjbhjclglmaaDoor
open Go.RowKit Ut Go.Lib

/-- A spelling of a scalar value. -/
def Sp (r : Nat) (x : List UInt8) : Prop := ∀ (t : List UInt8) (h : Nat) (rest : List UInt8) (k : Nat), ∃ h', go (Q1 t h) (x ++ rest) k = go (Q1 (t ++ enc r) h') rest (k + x.length)
def un (bl : List UInt8) (n : Nat) : List UInt8 := [92, 117, bl.getD (n / 4096 % 16) 0, bl.getD (n / 256 % 16) 0, bl.getD (n / 16 % 16) 0, bl.getD (n % 16) 0]
def Base (bl : List UInt8) : Prop := ∀ d, d < 16 → dv (bl.getD d 0).toNat = some d
theorem base_sm : Base smL := fun _ h => dv_yes h (.inl rfl)
theorem base_gr : Base grL := fun _ h => dv_yes h (.inr rfl)
theorem go_unit {bl : List UInt8} (hb : Base bl) {n : Nat} (hn : n < 65536) (hh : ¬ half (n / 256)) (t : List UInt8) (h : Nat) (rest : List UInt8) (k : Nat) :
    go (Q1 t h) (un bl n ++ rest) k = if 55296 ≤ n ∧ n < 56320 then go ⟨5, t, [], 0, 0, n⟩ rest (k + 6) else go (Q1 (t ++ enc n) h) rest (k + 6) := by
  have v3 := hb (n / 4096 % 16) (by omega)
  have v2 := hb (n / 256 % 16) (by omega)
  have v1 := hb (n / 16 % 16) (by omega)
  have v0 := hb (n % 16) (by omega)
  unfold un
  generalize bl.getD (n / 4096 % 16) 0 = c3 at *
  generalize bl.getD (n / 256 % 16) 0 = c2 at *
  generalize bl.getD (n / 16 % 16) 0 = c1 at *
  generalize bl.getD (n % 16) 0 = c0 at *
  have hh2 := hh
  unfold half at hh2
  have f3 := first_more (t := t) (N := 0) (j := 0) (h := h) (by decide) v3 (by decide) (fun e => absurd e (by decide)) (fun e => absurd e (by decide))
  rw [show 16 * 0 + n / 4096 % 16 = n / 4096 by omega] at f3
  have f2 := first_more (t := t) (N := n / 4096) (j := 1) (h := h) (by decide) v2 (by rw [p1]; omega) (fun _ => by unfold half; omega) (fun e => absurd e (by decide))
  rw [show 16 * (n / 4096) + n / 256 % 16 = n / 256 by omega] at f2
  have f1 := first_more (t := t) (N := n / 256) (j := 2) (h := h) (by decide) v1 (by rw [p2]; omega) (fun e => absurd e (by decide)) (fun _ => hh)
  rw [show 16 * (n / 256) + n / 16 % 16 = n / 16 by omega] at f1
  have f0 := first_last (t := t) (N := n / 16) (h := h) v0 (by omega) (by unfold half; omega)
  rw [show 16 * (n / 16) + n % 16 = n by omega] at f0
  simp only [List.cons_append, List.nil_append]
  rw [go_step (q := Q1 t h) (by show 1 ≠ 8; decide) (step_back rfl), go_step (q := Q3 t h) (by show 3 ≠ 8; decide) (step_u rfl),
    go_step (q := F1 t 0 0 h) (by show 4 ≠ 8; decide) f3, go_step (q := F1 t (n / 4096) (0 + 1) h) (by show 4 ≠ 8; decide) f2, go_step (q := F1 t (n / 256) (1 + 1) h) (by show 4 ≠ 8; decide) f1,
    go_step (q := F1 t (n / 16) (2 + 1) h) (by show 4 ≠ 8; decide) f0]
  split
  · rfl
  · rfl
theorem go_unit2 {bl : List UInt8} (hb : Base bl) {n H : Nat} (_hn : n < 65536) (hh : half (n / 256)) (t : List UInt8) (rest : List UInt8) (k : Nat) :
    go ⟨5, t, [], 0, 0, H⟩ (un bl n ++ rest) k = go (Q1 (t ++ enc (65536 + 1024 * (H - 55296) + n - 56320)) H) rest (k + 6) := by
  have v3 := hb (n / 4096 % 16) (by omega)
  have v2 := hb (n / 256 % 16) (by omega)
  have v1 := hb (n / 16 % 16) (by omega)
  have v0 := hb (n % 16) (by omega)
  unfold un
  generalize bl.getD (n / 4096 % 16) 0 = c3 at *
  generalize bl.getD (n / 256 % 16) 0 = c2 at *
  generalize bl.getD (n / 16 % 16) 0 = c1 at *
  generalize bl.getD (n % 16) 0 = c0 at *
  have hh2 := hh
  unfold half at hh2
  have f3 := second_more (t := t) (N := 0) (j := 0) (h := H) (by decide) v3 (fun _ => ⟨rfl, by omega⟩) (fun e => absurd e (by decide)) (fun e => absurd e (by decide))
  rw [show 16 * 0 + n / 4096 % 16 = n / 4096 by omega] at f3
  have f2 := second_more (t := t) (N := n / 4096) (j := 1) (h := H) (by decide) v2 (fun e => absurd e (by decide)) (fun _ => by unfold half; omega) (fun e => absurd e (by decide))
  rw [show 16 * (n / 4096) + n / 256 % 16 = n / 256 by omega] at f2
  have f1 := second_more (t := t) (N := n / 256) (j := 2) (h := H) (by decide) v1 (fun e => absurd e (by decide)) (fun e => absurd e (by decide)) (fun _ => hh)
  rw [show 16 * (n / 256) + n / 16 % 16 = n / 16 by omega] at f1
  have f0 := second_last (t := t) (N := n / 16) (h := H) v0 (by unfold half; omega)
  rw [show 16 * (n / 16) + n % 16 = n by omega] at f0
  simp only [List.cons_append, List.nil_append]
  rw [go_step (q := ⟨5, t, [], 0, 0, H⟩) (q' := ⟨6, t, [], 0, 0, H⟩) (by show 5 ≠ 8; decide) rfl, go_step (q := ⟨6, t, [], 0, 0, H⟩) (q' := F2 t 0 0 H) (by show 6 ≠ 8; decide) rfl,
    go_step (q := F2 t 0 0 H) (by show 7 ≠ 8; decide) f3, go_step (q := F2 t (n / 4096) (0 + 1) H) (by show 7 ≠ 8; decide) f2, go_step (q := F2 t (n / 256) (1 + 1) H) (by show 7 ≠ 8; decide) f1,
    go_step (q := F2 t (n / 16) (2 + 1) H) (by show 7 ≠ 8; decide) f0]
theorem sp_unit {bl : List UInt8} (hb : Base bl) {r : Nat} (hs : scal r) (hr : r < 65536) : Sp r (un bl r) := by
  intro t h rest k
  unfold scal at hs
  refine ⟨h, ?_⟩
  rw [go_unit hb hr (by unfold half; omega), if_neg (by omega)]
  rfl
theorem sp_pair {bl : List UInt8} (hb : Base bl) {r : Nat} (hs : scal r) (hr : 65536 ≤ r) : Sp r (un bl (55296 + (r - 65536) / 1024) ++ un bl (56320 + r % 1024)) := by
  intro t h rest k
  unfold scal at hs
  refine ⟨55296 + (r - 65536) / 1024, ?_⟩
  rw [List.append_assoc, go_unit hb (by omega) (by unfold half; omega), if_pos (by omega), go_unit2 hb (by omega) (by unfold half; omega),
    show 65536 + 1024 * (55296 + (r - 65536) / 1024 - 55296) + (56320 + r % 1024) - 56320 = r by omega, List.length_append]
  rfl
theorem sp_self {r : Nat} (hs : scal r) (h32 : 32 ≤ r) (h34 : r ≠ 34) (h92 : r ≠ 92) : Sp r (enc r) := fun t h rest k => ⟨h, go_enc hs h32 h34 h92 t h rest k⟩
theorem sp_esc {j : Nat} (hj : j < 8) : Sp (mtL.getD j 0).toNat [92, mkL.getD j 0] := by
  intro t h rest k
  obtain ⟨he, hd, h117⟩ := esc_yes hj (rfl : mkL.getD j 0 = mkL.getD j 0)
  refine ⟨h, ?_⟩
  simp only [List.cons_append, List.nil_append]
  rw [go_step (q := Q1 t h) (by show 1 ≠ 8; decide) (step_back rfl), go_step (q := Q3 t h) (by show 3 ≠ 8; decide) (step_esc he h117)]
  rfl
theorem itemR_len (r : Nat) : (itemR r).length ≤ 6 := by
  unfold itemR
  split
  · exact itemN_len r
  · have := (enc_len r).2; omega
theorem itemR_self {r : Nat} (h32 : 32 ≤ r) (h34 : r ≠ 34) (h92 : r ≠ 92) : (itemR r).length ≤ (enc r).length := by
  unfold itemR
  split
  · have e : itemN r = [UInt8.ofNat r] := by
      unfold itemN
      rw [if_neg h34, if_neg h92, if_neg (by omega), if_neg (by omega), if_neg (by omega), if_neg (by omega), if_neg (by omega), if_neg (by omega)]
    rw [e]
    exact (enc_len r).1
  · exact Nat.le_refl _
theorem itemR_esc {j : Nat} (hj : j < 8) : (itemR (mtL.getD j 0).toNat).length ≤ 2 := by
  have : ∀ k : Fin 8, (itemR (mtL.getD k.val 0).toNat).length ≤ 2 := by decide +kernel
  exact this ⟨j, hj⟩
/-- A literal's body. -/
def LitP (xs : List Int) (X : List UInt8) : Prop :=
  (∀ (t : List UInt8) (h : Nat) (rest : List UInt8) (k : Nat), ∃ h', go (Q1 t h) (X ++ rest) k = go (Q1 (t ++ txt xs) h') rest (k + X.length)) ∧ (itemsL xs).length ≤ X.length ∧ X.length ≤ 12 * xs.length
theorem LitP.nil : LitP [] [] := ⟨fun t h rest k => ⟨h, by simp [txt]⟩, by simp [itemsL], by simp⟩
theorem LitP.snoc {xs : List Int} {X x : List UInt8} {i : Int} (h : LitP xs X) (hx : Sp (rn i) x) (h1 : (itemR (rn i)).length ≤ x.length) (h2 : x.length ≤ 12) : LitP (xs ++ [i]) (X ++ x) := by
  obtain ⟨hg, ha, hb⟩ := h
  refine ⟨fun t H rest k => ?_, ?_, ?_⟩
  · obtain ⟨h', e⟩ := hg t H (x ++ rest) k
    obtain ⟨h'', e2⟩ := hx (t ++ txt xs) h' rest (k + X.length)
    refine ⟨h'', ?_⟩
    rw [List.append_assoc, e, e2, List.length_append, Nat.add_assoc, List.append_assoc]
    simp [txt]
  · have e : itemsL (xs ++ [i]) = itemsL xs ++ itemR (rn i) := by simp [itemsL]
    rw [e, List.length_append, List.length_append]
    omega
  · rw [List.length_append, List.length_append]
    simp only [List.length_cons, List.length_nil]
    omega
theorem lit_unq {xs : List Int} {X : List UInt8} (h : LitP xs X) (b : List UInt8) : unq (34 :: X ++ [34] ++ b) = (txt xs, X.length + 2, 0, 0) := by
  obtain ⟨h', e⟩ := h.1 [] 0 (34 :: b) 1
  simp only [List.cons_append, List.append_assoc, List.nil_append] at e ⊢
  rw [unq_open, e, go_close]
  simp
  omega
theorem go_ext : ∀ (l : List UInt8) (q : Q) (k : Nat) (b : List UInt8), (go q l k).2.2.2 = 0 → go q (l ++ b) k = go q l k
  | [], q, k, b, h => by
    by_cases h8 : q.st = 8
    · rw [go_8 h8, go_8 h8]
    · rw [go_nil h8] at h; cases h
  | c :: r, q, k, b, h => by
    by_cases h8 : q.st = 8
    · rw [go_8 h8, go_8 h8]
    · by_cases hs : (Ut.step q c).2 = 0
      · rw [go_ok h8 hs] at h
        rw [List.cons_append, go_ok h8 hs, go_ok h8 hs]
        exact go_ext r _ _ b h
      · rw [go_err h8 hs] at h
        exact absurd h hs
/-- A proper prefix of a literal. -/
theorem unq_prefix {L : List UInt8} {T : List UInt8} (h : unq L = (T, L.length, 0, 0)) {k : Nat} (hk : k < L.length) : unq (L.take k) = ([], 0, k, 3) := by
  have hl : (L.take k).length = k := by rw [List.length_take]; omega
  have hL : L = L.take k ++ L.drop k := (List.take_append_drop k L).symm
  unfold unq at h ⊢
  rcases go_facts (L.take k) q0 0 with ⟨h1, h2, h3, _⟩ | ⟨h1, h2, h3, h4, h5, _, _, h8⟩
  · have e := go_ext (L.take k) q0 0 (L.drop k) h1
    rw [← hL] at e
    rw [← e, h] at h3
    dsimp only at h3
    omega
  · rw [hl] at h4 h5 h8
    by_cases hlt : (go q0 (L.take k) 0).2.2.1 < k
    · have e := h8 (by omega) ((L.take k).drop ((go q0 (L.take k) 0).2.2.1 - 0 + 1) ++ L.drop k)
      rw [← List.append_assoc, List.take_append_drop, ← hL] at e
      rw [← e, h] at h1
      exact absurd rfl h1
    · have e1 : (go q0 (L.take k) 0).2.2.1 = k := by omega
      rw [e1] at h2 h5
      rw [h2, h5.2 (by omega)]
end Go.Proofs.YtoifjbhjclglmaaDoor
