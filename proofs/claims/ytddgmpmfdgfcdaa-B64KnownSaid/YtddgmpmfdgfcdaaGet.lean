/-
  What is proved here: the contract of b64.getGroup in the words of the plain decoder, and that of b64.Get; condition: strings of at most 65536 bytes.
-/
import Derived.Test.YtddgmpmfdgfcdaaGrp
namespace Go.Proofs.Ytddgmpmfdgfcdaa
open Go.RowKit Bs

theorem bts2 (a b : Nat) : bts [a, b] = a * 67108864 + b * 1048576 + 0 * 16384 + 0 * 256 := by
  simp only [bts, List.getD_cons_zero, List.getD_cons_succ, List.getD_nil]
theorem bts3 (a b c : Nat) : bts [a, b, c] = a * 67108864 + b * 1048576 + c * 16384 + 0 * 256 := by
  simp only [bts, List.getD_cons_zero, List.getD_cons_succ, List.getD_nil]
theorem bts4 (a b c d : Nat) : bts [a, b, c, d] = a * 67108864 + b * 1048576 + c * 16384 + d * 256 := by
  simp only [bts, List.getD_cons_zero, List.getD_cons_succ]
theorem left2 {a b Z : Nat} (hZ : a * 67108864 + b * 1048576 + 0 * 16384 + 0 * 256 = Z) (_ha : a < 64) (_hb : b < 64) : ((Z : Int) * 256 % 4294967296 == 0) = decide (b % 16 = 0) := by
  subst hZ
  rw [Bool.eq_iff_iff]
  simp only [beq_iff_eq, decide_eq_true_eq]
  omega
theorem left3 {a b c Z : Nat} (hZ : a * 67108864 + b * 1048576 + c * 16384 + 0 * 256 = Z) (_ha : a < 64) (_hb : b < 64) (_hc : c < 64) : ((Z : Int) * 65536 % 4294967296 == 0) = decide (c % 4 = 0) := by
  subst hZ
  rw [Bool.eq_iff_iff]
  simp only [beq_iff_eq, decide_eq_true_eq]
  omega
theorem left4 {a b c d Z : Nat} (hZ : a * 67108864 + b * 1048576 + c * 16384 + d * 256 = Z) (_ha : a < 64) (_hb : b < 64) (_hc : c < 64) (_hd : d < 64) : ((Z : Int) * 16777216 % 4294967296 == 0) = true := by
  subst hZ
  rw [beq_iff_eq]
  omega
theorem z_lt {a b c d Z : Nat} (hZ : a * 67108864 + b * 1048576 + c * 16384 + d * 256 = Z) (_ha : a < 64) (_hb : b < 64) (_hc : c < 64) (_hd : d < 64) : Z < 4294967296 := by omega
theorem by1 {a b c d Z : Nat} (hZ : a * 67108864 + b * 1048576 + c * 16384 + d * 256 = Z) (_ha : a < 64) (_hb : b < 64) (_hc : c < 64) (_hd : d < 64) : Z / 16777216 = a * 4 + b / 16 := by omega
theorem by2 {a b c d Z : Nat} (hZ : a * 67108864 + b * 1048576 + c * 16384 + d * 256 = Z) (_ha : a < 64) (_hb : b < 64) (_hc : c < 64) (_hd : d < 64) : Z / 65536 % 256 = b % 16 * 16 + c / 4 := by omega
theorem by3 {a b c d Z : Nat} (hZ : a * 67108864 + b * 1048576 + c * 16384 + d * 256 = Z) (_ha : a < 64) (_hb : b < 64) (_hc : c < 64) (_hd : d < 64) : Z / 256 % 256 = c % 4 * 64 + d := by omega
theorem byt_of {a b c d Z : Nat} (hZ : a * 67108864 + b * 1048576 + c * 16384 + d * 256 = Z) (ha : a < 64) (hb : b < 64) (hc : c < 64) (hd : d < 64) : byt Z = [b1 a b, b2 b c, b3 c d] := by
  unfold byt b1 b2 b3
  rw [by1 hZ ha hb hc hd, by2 hZ ha hb hc hd, by3 hZ ha hb hc hd]

/-- The result of a group, and what has turned in memory. -/
def GP (w : World) (R : Nat) (l : List UInt8) (e : Ending) (w' : World) : Prop :=
  ∃ v, e = .returned (.tuple #[v, .int .i64 ((grp l).2 : Nat)]) ∧ (∃ a b c, Blk w' R 46 #[a, b, c]) ∧ w.grownBy w' (some R) ∧ w'.heap.size = w.heap.size ∧
    (((grp l).1 = none ∧ (grp l).2 < 4 ∧ v = .slice none 0 0) ∨ (∃ p, (grp l).1 = some p ∧ (grp l).2 = 4 ∧ v = .slice (some ⟨R, 0, none⟩) p.length p.length ∧ Rds w' (some ⟨R, 0, none⟩) p.length p.length p))
theorem gp_none {w : World} {R n : Nat} {l : List UInt8} {a b c : Value} (hb : Blk w R 46 #[a, b, c]) (hg : grp l = (none, n)) (hn : n < 4) {e : Ending} {w' : World}
    (h : e = .returned (.tuple #[.slice none 0 0, .int .i64 (n : Nat)]) ∧ w = w') : GP w R l e w' := by
  obtain ⟨rfl, rfl⟩ := h
  refine ⟨_, by rw [hg], ⟨a, b, c, hb⟩, World.grownBy.refl w _, rfl, .inl ⟨by rw [hg], by rw [hg]; exact hn, rfl⟩⟩
theorem gp_w3 {w : World} {R k Z m : Nat} {l : List UInt8} {a b c : Value} (hb : Blk w R 46 #[a, b, c]) (hZ : Z < 4294967296) (hm : m ≤ 3) {e : Ending} {w' : World}
    (h : w' = W3 w R Z ∧ ((k < 4 ∧ grp l = (none, k) ∧ e = .returned (.tuple #[.slice none 0 0, .int .i64 (k : Nat)])) ∨ (k = 4 ∧ grp l = (some ((byt Z).take m), 4) ∧ e = .returned (.tuple #[.slice (some ⟨R, 0, none⟩) m m, .int .i64 (k : Nat)])))) : GP w R l e w' := by
  obtain ⟨rfl, h⟩ := h
  have hblk := W3_blk hb hZ
  rcases h with ⟨h1, h2, rfl⟩ | ⟨rfl, h2, rfl⟩
  · exact ⟨_, by rw [h2], ⟨_, _, _, hblk⟩, W3_grown w R Z, W3_size w R Z, .inl ⟨by rw [h2], by rw [h2]; exact h1, rfl⟩⟩
  · have hl : ((byt Z).take m).length = m := by rw [List.length_take]; simp [byt]; omega
    refine ⟨_, by rw [h2], ⟨_, _, _, hblk⟩, W3_grown w R Z, W3_size w R Z, .inr ⟨_, by rw [h2], by rw [h2], by rw [hl], rfl, Nat.le_refl _, fun _ => ⟨R, 0, rfl, hblk.lt, fun j x hx => ?_⟩⟩⟩
    rw [List.getElem?_take] at hx
    split at hx
    · rw [Nat.zero_add, hblk.cell j, List.getElem?_toArray, bv_get hx]
    · cases hx

theorem grp2_left {c0 c1 : UInt8} {l2 : List UInt8} {v0 v1 : Nat} (h0 : nu c0 = some v0) (h1 : nu c1 = some v1) (h2 : ∀ c2 l3, l2 = c2 :: l3 → nu c2 = none) (hz : ¬ v1 % 16 = 0) : grp (c0 :: c1 :: l2) = (none, 2) := by
  rcases l2 with _ | ⟨c2, l3⟩
  · simp only [grp, h0, h1]
  · simp only [grp, h0, h1, h2 c2 l3 rfl, hz, and_false, if_false]
theorem grp2_stop {c0 c1 : UInt8} {l2 : List UInt8} {v0 v1 k : Nat} (h0 : nu c0 = some v0) (h1 : nu c1 = some v1) (h2 : ∀ c2 l3, l2 = c2 :: l3 → nu c2 = none) (hz : v1 % 16 = 0)
    (hk : 2 ≤ k) (hk4 : k < 4) (hp : ∀ j, 2 ≤ j → j < k → (c0 :: c1 :: l2)[j]? = some 61) (hn : ¬ (c0 :: c1 :: l2)[k]? = some 61) : grp (c0 :: c1 :: l2) = (none, k) := by
  rcases l2 with _ | ⟨c2, l3⟩
  · rcases (show k = 2 ∨ k = 3 by omega) with rfl | rfl
    · simp only [grp, h0, h1]
    · have := hp 2 (by omega) (by omega); simp at this
  · have hc := h2 c2 l3 rfl
    rcases (show k = 2 ∨ k = 3 by omega) with rfl | rfl
    · have : ¬ c2 = 61 := by simpa using hn
      simp only [grp, h0, h1, hc, this, false_and, if_false]
    · have h61 : c2 = 61 := by simpa using hp 2 (by omega) (by omega)
      rcases l3 with _ | ⟨c3, r⟩
      · simp only [grp, h0, h1, nu_61, h61, hz, and_self, if_true]
      · have : ¬ c3 = 61 := by simpa using hn
        simp only [grp, h0, h1, nu_61, h61, hz, and_self, if_true, this, if_false]
theorem grp2_done {c0 c1 : UInt8} {l2 : List UInt8} {v0 v1 : Nat} (h0 : nu c0 = some v0) (h1 : nu c1 = some v1) (h2 : ∀ c2 l3, l2 = c2 :: l3 → nu c2 = none) (hz : v1 % 16 = 0)
    (hp : ∀ j, 2 ≤ j → j < 4 → (c0 :: c1 :: l2)[j]? = some 61) : grp (c0 :: c1 :: l2) = (some [b1 v0 v1], 4) := by
  have e2 := hp 2 (by omega) (by omega)
  have e3 := hp 3 (by omega) (by omega)
  rcases l2 with _ | ⟨c2, _ | ⟨c3, r⟩⟩
  · simp at e2
  · simp at e3
  · have h61 : c2 = 61 := by simpa using e2
    have h61' : c3 = 61 := by simpa using e3
    simp only [grp, h0, h1, nu_61, h61, h61', hz, and_self, if_true]
theorem grp3_left {c0 c1 c2 : UInt8} {l3 : List UInt8} {v0 v1 v2 : Nat} (h0 : nu c0 = some v0) (h1 : nu c1 = some v1) (h2 : nu c2 = some v2) (h3 : ∀ c3 r, l3 = c3 :: r → nu c3 = none) (hz : ¬ v2 % 4 = 0) : grp (c0 :: c1 :: c2 :: l3) = (none, 3) := by
  rcases l3 with _ | ⟨c3, r⟩
  · simp only [grp, h0, h1, h2]
  · simp only [grp, h0, h1, h2, h3 c3 r rfl, hz, and_false, if_false]
theorem grp3_stop {c0 c1 c2 : UInt8} {l3 : List UInt8} {v0 v1 v2 k : Nat} (h0 : nu c0 = some v0) (h1 : nu c1 = some v1) (h2 : nu c2 = some v2) (h3 : ∀ c3 r, l3 = c3 :: r → nu c3 = none)
    (hk : 3 ≤ k) (hk4 : k < 4) (hn : ¬ (c0 :: c1 :: c2 :: l3)[k]? = some 61) : grp (c0 :: c1 :: c2 :: l3) = (none, k) := by
  obtain rfl : k = 3 := by omega
  rcases l3 with _ | ⟨c3, r⟩
  · simp only [grp, h0, h1, h2]
  · have : ¬ c3 = 61 := by simpa using hn
    simp only [grp, h0, h1, h2, h3 c3 r rfl, this, false_and, if_false]
theorem grp3_done {c0 c1 c2 : UInt8} {l3 : List UInt8} {v0 v1 v2 : Nat} (h0 : nu c0 = some v0) (h1 : nu c1 = some v1) (h2 : nu c2 = some v2) (h3 : ∀ c3 r, l3 = c3 :: r → nu c3 = none) (hz : v2 % 4 = 0)
    (hp : ∀ j, 3 ≤ j → j < 4 → (c0 :: c1 :: c2 :: l3)[j]? = some 61) : grp (c0 :: c1 :: c2 :: l3) = (some [b1 v0 v1, b2 v1 v2], 4) := by
  have e3 := hp 3 (by omega) (by omega)
  rcases l3 with _ | ⟨c3, r⟩
  · simp at e3
  · have h61 : c3 = 61 := by simpa using e3
    simp only [grp, h0, h1, h2, h61, nu_61, hz, and_self, if_true]
theorem at61 {s : ByteArray} {l : List UInt8} (hl : s.data.toList = l) {j : Nat} : At61 s j ↔ l[j]? = some 61 := by subst hl; rfl
theorem getGroup_any (s : ByteArray) (R : Nat) (a b c : Value) (w : World) (hb : Blk w R 46 #[a, b, c]) :
    Calls Try.prog 27 #[.string s, .pointer (some ⟨R, 0, none⟩)] w (GP w R s.data.toList) := by
  obtain ⟨l, hl⟩ : ∃ l, s.data.toList = l := ⟨_, rfl⟩
  have hsz : s.size = l.length := by rw [Lib.size_eq, hl]
  have H := fun W => getBits_any s W
  rw [hl] at H ⊢
  rcases l with _ | ⟨c0, l1⟩
  · exact (gg_short s _ w 0 _ (by decide) H).mono fun e w' h => gp_none hb rfl (by decide) h
  rcases h0 : nu c0 with _ | v0
  · simp only [pre, h0] at H
    exact (gg_short s _ w 0 _ (by decide) H).mono fun e w' h => gp_none hb (by simp only [grp, h0]) (by decide) h
  have k0 := nu_lt h0
  rcases l1 with _ | ⟨c1, l2⟩
  · simp only [pre, h0] at H
    exact (gg_short s _ w 1 _ (by decide) H).mono fun e w' h => gp_none hb (by simp only [grp, h0]) (by decide) h
  rcases h1 : nu c1 with _ | v1
  · simp only [pre, h0, h1] at H
    exact (gg_short s _ w 1 _ (by decide) H).mono fun e w' h => gp_none hb (by simp only [grp, h0, h1]) (by decide) h
  have k1 := nu_lt h1
  simp only [List.length_cons] at hsz
  have two : (∀ c2 l3, l2 = c2 :: l3 → nu c2 = none) → pre 2 l2 = [] → Calls Try.prog 27 #[.string s, .pointer (some ⟨R, 0, none⟩)] w (GP w R (c0 :: c1 :: l2)) := by
    intro h2 hp
    simp only [pre, h0, h1, hp, List.length_cons, List.length_nil] at H
    rw [bts2] at H
    obtain ⟨Z, hZ⟩ : ∃ Z, v0 * 67108864 + v1 * 1048576 + 0 * 16384 + 0 * 256 = Z := ⟨_, rfl⟩
    rw [hZ] at H
    have hz := left2 hZ k0 k1
    by_cases hv : v1 % 16 = 0
    · rw [decide_eq_true hv] at hz
      refine (gg_go2 s R a b c w Z hb (z_lt hZ k0 k1 (by decide) (by decide)) (by omega) hz H).mono ?_
      rintro e w' ⟨hw, k, hk, hp, hor⟩
      refine gp_w3 (k := k) (m := 1) hb (z_lt hZ k0 k1 (by decide) (by decide)) (by decide) ⟨hw, ?_⟩
      rcases hor with ⟨h4, hne, he⟩ | ⟨h4, he⟩
      · exact .inl ⟨h4, grp2_stop h0 h1 h2 hv hk h4 (fun j a b => (at61 hl).1 (hp j a b)) (fun h => hne ((at61 hl).2 h)), he⟩
      · subst h4
        refine .inr ⟨rfl, ?_, he⟩
        rw [grp2_done h0 h1 h2 hv (fun j a b => (at61 hl).1 (hp j a b)), byt_of hZ k0 k1 (by decide) (by decide)]
        rfl
    · rw [decide_eq_false hv] at hz
      exact (gg_left2 s _ w Z hz H).mono fun e w' h => gp_none hb (grp2_left h0 h1 h2 hv) (by decide) h
  rcases l2 with _ | ⟨c2, l3⟩
  · exact two (fun _ _ h => by cases h) rfl
  rcases h2 : nu c2 with _ | v2
  · exact two (fun _ _ h => by injection h with h _; rw [← h]; exact h2) (by simp only [pre, h2])
  clear two
  have k2 := nu_lt h2
  simp only [List.length_cons] at hsz
  have three : (∀ c3 r, l3 = c3 :: r → nu c3 = none) → pre 1 l3 = [] → Calls Try.prog 27 #[.string s, .pointer (some ⟨R, 0, none⟩)] w (GP w R (c0 :: c1 :: c2 :: l3)) := by
    intro h3 hp
    simp only [pre, h0, h1, h2, hp, List.length_cons, List.length_nil] at H
    rw [bts3] at H
    obtain ⟨Z, hZ⟩ : ∃ Z, v0 * 67108864 + v1 * 1048576 + v2 * 16384 + 0 * 256 = Z := ⟨_, rfl⟩
    rw [hZ] at H
    have hz := left3 hZ k0 k1 k2
    by_cases hv : v2 % 4 = 0
    · rw [decide_eq_true hv] at hz
      refine (gg_go3 s R a b c w Z hb (z_lt hZ k0 k1 k2 (by decide)) (by omega) hz H).mono ?_
      rintro e w' ⟨hw, k, hk, hp, hor⟩
      refine gp_w3 (k := k) (m := 2) hb (z_lt hZ k0 k1 k2 (by decide)) (by decide) ⟨hw, ?_⟩
      rcases hor with ⟨h4, hne, he⟩ | ⟨h4, he⟩
      · exact .inl ⟨h4, grp3_stop h0 h1 h2 h3 hk h4 (fun h => hne ((at61 hl).2 h)), he⟩
      · subst h4
        refine .inr ⟨rfl, ?_, he⟩
        rw [grp3_done h0 h1 h2 h3 hv (fun j a b => (at61 hl).1 (hp j a b)), byt_of hZ k0 k1 k2 (by decide)]
        rfl
    · rw [decide_eq_false hv] at hz
      exact (gg_left3 s _ w Z hz H).mono fun e w' h => gp_none hb (grp3_left h0 h1 h2 h3 hv) (by decide) h
  rcases l3 with _ | ⟨c3, r⟩
  · exact three (fun _ _ h => by cases h) rfl
  rcases h3 : nu c3 with _ | v3
  · exact three (fun _ _ h => by injection h with h _; rw [← h]; exact h3) (by simp only [pre, h3])
  clear three
  have k3 := nu_lt h3
  simp only [List.length_cons] at hsz
  simp only [pre, h0, h1, h2, h3, List.length_cons, List.length_nil] at H
  rw [bts4] at H
  obtain ⟨Z, hZ⟩ : ∃ Z, v0 * 67108864 + v1 * 1048576 + v2 * 16384 + v3 * 256 = Z := ⟨_, rfl⟩
  rw [hZ] at H
  refine (gg_go4 s R a b c w Z hb (z_lt hZ k0 k1 k2 k3) (by omega) (left4 hZ k0 k1 k2 k3) H).mono ?_
  rintro e w' ⟨hw, k, hk, hp, hor⟩
  refine gp_w3 (k := k) (m := 3) hb (z_lt hZ k0 k1 k2 k3) (by decide) ⟨hw, ?_⟩
  rcases hor with ⟨h4, hne, he⟩ | ⟨h4, he⟩
  · omega
  · subst h4
    refine .inr ⟨rfl, ?_, he⟩
    rw [byt_of hZ k0 k1 k2 k3]
    simp only [grp, h0, h1, h2, h3]
    rfl
end Go.Proofs.Ytddgmpmfdgfcdaa
