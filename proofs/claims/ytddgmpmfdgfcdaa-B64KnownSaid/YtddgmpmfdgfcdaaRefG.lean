/-
  What is proved here: contracts of the reference's number and group; condition: a string of at most four bytes for group.
-/
import Derived.Test.YtddgmpmfdgfcdaaWorksB
namespace Go.Proofs.Ytddgmpmfdgfcdaa
open Go.RowKit Bs

theorem ret_int {k : IntKind} {a b : Int} (h : a = b) : Ending.returned (.int k a) = .returned (.int k b) := by rw [h]
theorem alpha_at2 (v : Nat) (hv : v < 64) (h : v < alphaS.size) : alphaS[v]'h = al v := by
  have h1 := alpha_get ⟨v, hv⟩
  rw [List.getElem?_eq_some_iff] at h1
  obtain ⟨_, h1⟩ := h1
  exact h1
theorem nu_no {c : UInt8} (h : ∀ j, j < 64 → al j ≠ c) : nu c = none := by
  rcases hc : nu c with _ | v
  · rfl
  · exact absurd (al_nu hc) (h v (nu_lt hc))
set_option maxHeartbeats 2000000 in
set_option maxRecDepth 100000 in
theorem number_any (c : UInt8) (w : World) : Calls Try.prog 33 #[.int .u8 (c.toNat : Int)] w fun e w' => e = .returned (.int .i64 (nuI c)) ∧ w = w' := by
  go_enter Try.func33, Try.ntmps33
  go_wp2
  go_loop [3] (fun i => ∃ k : Nat, k ≤ 64 ∧ i = .int .i64 k ∧ Hid (∀ j, j < k → al j ≠ c)) (fun i => 65 - (intOf i).toNat)
  case atStart => exact ⟨0, by omega, rfl, fun j h => by omega⟩
  case round =>
    obtain ⟨k, hk, rfl, HN⟩ := hrel
    by_cases hlt : k < 64
    · have d1 : decide ((k : Int) < 64) = true := decide_eq_true (by omega)
      have HAL := Lib.hid (fun (h : k < alphaS.size) => alpha_at2 k hlt h)
      have hal : ∀ h, (⟨#[65, 66, 67, 68, 69, 70, 71, 72, 73, 74, 75, 76, 77, 78, 79, 80, 81, 82, 83, 84, 85, 86, 87, 88, 89, 90, 97, 98, 99, 100, 101, 102, 103, 104, 105, 106, 107, 108, 109, 110, 111, 112, 113, 114, 115, 116, 117, 118, 119, 120, 121, 122, 48, 49, 50, 51, 52, 53, 54, 55, 56, 57, 43, 47]⟩ : ByteArray)[k]'h = al k := HAL.out
      obtain ⟨x, hx⟩ : ∃ x, al k = x := ⟨_, rfl⟩
      rw [hx] at hal
      have HX := Lib.hid hx
      clear hx
      by_cases he : x = c
      · subst he
        have HV := Lib.hid (show nuI x = (k : Int) by unfold nuI; rw [← HX.out, nu_al hlt]; rfl)
        have d2 : ((x.toNat : Int) == (x.toNat : Int)) = true := beq_self_eq_true _
        clear HAL
        go_wp2
        go_ret
        exact ⟨ret_int HV.out.symm, rfl⟩
      · have d2 : ((x.toNat : Int) == (c.toNat : Int)) = false := by
          rw [Bool.eq_false_iff, ne_eq, beq_iff_eq]
          intro h
          exact he (UInt8.toNat_inj.1 (by omega))
        have d3 : (x.toNat == c.toNat) = false := by
          rw [Bool.eq_false_iff, ne_eq, beq_iff_eq]
          intro h
          exact he (UInt8.toNat_inj.1 (by omega))
        have HE := Lib.hid he
        clear HAL he
        go_wp2
        go_round
        case rel =>
          refine ⟨k + 1, by omega, by go_num, fun j h => ?_⟩
          by_cases hj : j < k
          · exact HN.out j hj
          · have : j = k := by omega
            subst this
            rw [HX.out]
            exact HE.out
        case measure => simp [intOf]; omega
    · have hk64 : k = 64 := by omega
      have HV := Lib.hid (show nuI c = -1 by unfold nuI; rw [nu_no (by rw [← hk64]; exact HN.out)]; rfl)
      have d1 : decide ((k : Int) < 64) = false := decide_eq_false (by omega)
      clear hk64 hlt hk
      go_wp2
      go_ret
      exact ⟨ret_int HV.out.symm, rfl⟩

/-- Between two characters of a group. -/
inductive GS : List UInt8 → Nat → Nat → Prop
  | zero (l : List UInt8) : GS l 0 0
  | one (c0 : UInt8) (r : List UInt8) (v0 : Nat) (h0 : nu c0 = some v0) : GS (c0 :: r) 1 v0
  | two (c0 c1 : UInt8) (r : List UInt8) (v0 v1 : Nat) (h0 : nu c0 = some v0) (h1 : nu c1 = some v1) : GS (c0 :: c1 :: r) 2 (v0 * 64 + v1)
  | three (c0 c1 c2 : UInt8) (r : List UInt8) (v0 v1 v2 : Nat) (h0 : nu c0 = some v0) (h1 : nu c1 = some v1) (h2 : nu c2 = some v2) : GS (c0 :: c1 :: c2 :: r) 3 (v0 * 4096 + v1 * 64 + v2)
  | pad (c0 c1 : UInt8) (r : List UInt8) (v0 v1 : Nat) (h0 : nu c0 = some v0) (h1 : nu c1 = some v1) (hz : v1 % 16 = 0) : GS (c0 :: c1 :: 61 :: r) 3 (v0 * 64 + v1)
  | four (c0 c1 c2 c3 : UInt8) (r : List UInt8) (v0 v1 v2 v3 : Nat) (h0 : nu c0 = some v0) (h1 : nu c1 = some v1) (h2 : nu c2 = some v2) (h3 : nu c3 = some v3) : GS (c0 :: c1 :: c2 :: c3 :: r) 4 (v0 * 262144 + v1 * 4096 + v2 * 64 + v3)
theorem GS.le {l : List UInt8} {k N : Nat} (h : GS l k N) : k ≤ 4 ∧ k ≤ l.length ∧ N < 16777216 := by
  cases h with
  | zero => exact ⟨by omega, by simp, by omega⟩
  | one c0 r v0 h0 => have := nu_lt h0; exact ⟨by omega, by simp, by omega⟩
  | two c0 c1 r v0 v1 h0 h1 => have := nu_lt h0; have := nu_lt h1; exact ⟨by omega, by simp, by omega⟩
  | three c0 c1 c2 r v0 v1 v2 h0 h1 h2 => have := nu_lt h0; have := nu_lt h1; have := nu_lt h2; exact ⟨by omega, by simp, by omega⟩
  | pad c0 c1 r v0 v1 h0 h1 hz => have := nu_lt h0; have := nu_lt h1; exact ⟨by omega, by simp, by omega⟩
  | four c0 c1 c2 c3 r v0 v1 v2 v3 h0 h1 h2 h3 => have := nu_lt h0; have := nu_lt h1; have := nu_lt h2; have := nu_lt h3; exact ⟨by omega, by simp, by omega⟩
/-- The next character is of the alphabet, and no padding stands before it. -/
theorem GS.next {l : List UInt8} {k N : Nat} {c : UInt8} {v : Nat} (h : GS l k N) (hc : l[k]? = some c) (hv : nu c = some v) (hk : k < 3 ∨ (k = 3 ∧ l[2]? ≠ some 61)) : GS l (k + 1) (64 * N + v) := by
  cases h with
  | zero =>
    rcases l with _ | ⟨c0, r⟩
    · simp at hc
    · obtain rfl : c0 = c := by simpa using hc
      have := GS.one c0 r v hv
      simpa using this
  | one c0 r v0 h0 =>
    rcases r with _ | ⟨c1, r⟩
    · simp at hc
    · obtain rfl : c1 = c := by simpa using hc
      have := GS.two c0 c1 r N v h0 hv
      rwa [show 64 * N + v = N * 64 + v by omega]
  | two c0 c1 r v0 v1 h0 h1 =>
    rcases r with _ | ⟨c2, r⟩
    · simp at hc
    · obtain rfl : c2 = c := by simpa using hc
      have := GS.three c0 c1 c2 r v0 v1 v h0 h1 hv
      rwa [show 64 * (v0 * 64 + v1) + v = v0 * 4096 + v1 * 64 + v by omega]
  | three c0 c1 c2 r v0 v1 v2 h0 h1 h2 =>
    rcases r with _ | ⟨c3, r⟩
    · simp at hc
    · obtain rfl : c3 = c := by simpa using hc
      have := GS.four c0 c1 c2 c3 r v0 v1 v2 v h0 h1 h2 hv
      rwa [show 64 * (v0 * 4096 + v1 * 64 + v2) + v = v0 * 262144 + v1 * 4096 + v2 * 64 + v by omega]
  | pad c0 c1 r v0 v1 h0 h1 hz =>
    rcases hk with hk | ⟨_, hk⟩
    · omega
    · simp at hk
  | four => omega
/-- No group goes on so: neither a character of the alphabet that may stand here, nor padding that may. -/
theorem GS.stop {l : List UInt8} {k N : Nat} {c : UInt8} (hl : l.length ≤ 4) (h : GS l k N) (hc : l[k]? = some c)
    (ha : nu c = none ∨ (k = 3 ∧ l[2]? = some 61)) (hp : c ≠ 61 ∨ k < 2 ∨ (k = 2 ∧ N % 16 ≠ 0) ∨ (k = 3 ∧ l[2]? ≠ some 61 ∧ N % 4 ≠ 0)) : grp l = (none, k) := by
  cases h with
  | zero =>
    rcases l with _ | ⟨c0, r⟩
    · simp at hc
    · obtain rfl : c0 = c := by simpa using hc
      have hn : nu c0 = none := by rcases ha with ha | ha; exact ha; omega
      simp only [grp, hn]
  | one c0 r v0 h0 =>
    rcases r with _ | ⟨c1, r⟩
    · simp at hc
    · obtain rfl : c1 = c := by simpa using hc
      have hn : nu c1 = none := by rcases ha with ha | ha; exact ha; omega
      simp only [grp, h0, hn]
  | two c0 c1 r v0 v1 h0 h1 =>
    rcases r with _ | ⟨c2, r⟩
    · simp at hc
    · obtain rfl : c2 = c := by simpa using hc
      have hn : nu c2 = none := by rcases ha with ha | ha; exact ha; omega
      have hz : ¬ (c2 = 61 ∧ v1 % 16 = 0) := by
        rintro ⟨e, z⟩
        rcases hp with hp | hp | ⟨_, hp⟩ | hp
        · exact hp e
        · omega
        · omega
        · omega
      simp only [grp, h0, h1, hn, if_neg hz]
  | three c0 c1 c2 r v0 v1 v2 h0 h1 h2 =>
    rcases r with _ | ⟨c3, r⟩
    · simp at hc
    · obtain rfl : c3 = c := by simpa using hc
      have h61 : c2 ≠ 61 := by rintro rfl; rw [nu_61] at h2; cases h2
      have hn : nu c3 = none := by
        rcases ha with ha | ⟨_, ha⟩
        · exact ha
        · exact absurd (by simpa using ha) h61
      have hz : ¬ (c3 = 61 ∧ v2 % 4 = 0) := by
        rintro ⟨e, z⟩
        rcases hp with hp | hp | ⟨_, hp⟩ | ⟨_, _, hp⟩
        · exact hp e
        · omega
        · omega
        · omega
      simp only [grp, h0, h1, h2, hn, if_neg hz]
  | pad c0 c1 r v0 v1 h0 h1 hz =>
    rcases r with _ | ⟨c3, r⟩
    · simp at hc
    · obtain rfl : c3 = c := by simpa using hc
      have hn : c3 ≠ 61 := by
        rcases hp with hp | hp | ⟨_, hp⟩ | ⟨_, hp, _⟩
        · exact hp
        · omega
        · omega
        · simp at hp
      simp only [grp, h0, h1, nu_61, hz, and_self, if_true, if_neg hn]
  | four c0 c1 c2 c3 r =>
    rcases r with _ | ⟨c4, r⟩
    · simp at hc
    · simp at hl
theorem GS.pad2 {l : List UInt8} {N : Nat} (h : GS l 2 N) (hc : l[2]? = some 61) (hz : N % 16 = 0) : GS l 3 N := by
  cases h with
  | two c0 c1 r v0 v1 h0 h1 =>
    rcases r with _ | ⟨c2, r⟩
    · simp at hc
    · obtain rfl : c2 = 61 := by simpa using hc
      exact GS.pad c0 c1 r v0 v1 h0 h1 (by omega)
theorem GS.done2 {l : List UInt8} {N : Nat} (h : GS l 3 N) (h2 : l[2]? ≠ some 61) (hc : l[3]? = some 61) (hz : N % 4 = 0) :
    N < 262144 ∧ grp l = (some [UInt8.ofNat (N / 1024), UInt8.ofNat (N / 4 % 256)], 4) := by
  cases h with
  | three c0 c1 c2 r v0 v1 v2 h0 h1 h3 =>
    have l0 := nu_lt h0
    have l1 := nu_lt h1
    have l2 := nu_lt h3
    rcases r with _ | ⟨c3, r⟩
    · simp at hc
    · obtain rfl : c3 = 61 := by simpa using hc
      refine ⟨by omega, ?_⟩
      have hz' : v2 % 4 = 0 := by omega
      simp only [grp, h0, h1, h3, nu_61, hz', and_self, if_true, b1, b2]
      rw [show (v0 * 4096 + v1 * 64 + v2) / 1024 = v0 * 4 + v1 / 16 by omega, show (v0 * 4096 + v1 * 64 + v2) / 4 % 256 = v1 % 16 * 16 + v2 / 4 by omega]
  | pad c0 c1 r v0 v1 h0 h1 hz => simp at h2
theorem GS.done1 {l : List UInt8} {N : Nat} (h : GS l 3 N) (h2 : l[2]? = some 61) (hc : l[3]? = some 61) :
    N < 4096 ∧ grp l = (some [UInt8.ofNat (N / 16)], 4) := by
  cases h with
  | three c0 c1 c2 r v0 v1 v2 h0 h1 h3 =>
    obtain rfl : c2 = 61 := by simpa using h2
    rw [nu_61] at h3; cases h3
  | pad c0 c1 r v0 v1 h0 h1 hz =>
    have l0 := nu_lt h0
    have l1 := nu_lt h1
    rcases r with _ | ⟨c3, r⟩
    · simp at hc
    · obtain rfl : c3 = 61 := by simpa using hc
      refine ⟨by omega, ?_⟩
      simp only [grp, h0, h1, nu_61, hz, and_self, if_true, b1]
      rw [show (v0 * 64 + v1) / 16 = v0 * 4 + v1 / 16 by omega]
theorem GS.short {l : List UInt8} {k N : Nat} (h : GS l k N) (hk : k = l.length) (h4 : k < 4) : grp l = (none, k) := by
  cases h with
  | zero =>
    obtain rfl : l = [] := List.eq_nil_of_length_eq_zero hk.symm
    rfl
  | one c0 r v0 h0 =>
    obtain rfl : r = [] := List.eq_nil_of_length_eq_zero (by simpa using hk)
    simp only [grp, h0]
  | two c0 c1 r v0 v1 h0 h1 =>
    obtain rfl : r = [] := List.eq_nil_of_length_eq_zero (by simpa using hk)
    simp only [grp, h0, h1]
  | three c0 c1 c2 r v0 v1 v2 h0 h1 h2 =>
    obtain rfl : r = [] := List.eq_nil_of_length_eq_zero (by simpa using hk)
    simp only [grp, h0, h1, h2]
  | pad c0 c1 r v0 v1 h0 h1 hz =>
    obtain rfl : r = [] := List.eq_nil_of_length_eq_zero (by simpa using hk)
    simp only [grp, h0, h1, nu_61, hz, and_self, if_true]
  | four => omega
theorem GS.full {l : List UInt8} {N : Nat} (h : GS l 4 N) : grp l = (some [UInt8.ofNat (N / 65536), UInt8.ofNat (N / 256 % 256), UInt8.ofNat (N % 256)], 4) := by
  cases h with
  | four c0 c1 c2 c3 r v0 v1 v2 v3 h0 h1 h2 h3 =>
    have l0 := nu_lt h0
    have l1 := nu_lt h1
    have l2 := nu_lt h2
    have l3 := nu_lt h3
    simp only [grp, h0, h1, h2, h3, b1, b2, b3]
    rw [show (v0 * 262144 + v1 * 4096 + v2 * 64 + v3) / 65536 = v0 * 4 + v1 / 16 by omega, show (v0 * 262144 + v1 * 4096 + v2 * 64 + v3) / 256 % 256 = v1 % 16 * 16 + v2 / 4 by omega,
      show (v0 * 262144 + v1 * 4096 + v2 * 64 + v3) % 256 = v2 % 4 * 64 + v3 by omega]
/-- What group answers. -/
def GR (w : World) (l : List UInt8) (e : Ending) (w' : World) : Prop :=
  ∃ v, e = .returned (.tuple #[v, .int .i64 ((grp l).2 : Nat)]) ∧ Rd w' v ((grp l).1.getD []) ∧ Below w.heap.size w w'
theorem gr_none {w : World} {l : List UInt8} {n : Nat} (h : grp l = (none, n)) : GR w l (.returned (.tuple #[.slice none 0 0, .int .i64 (n : Nat)])) w := by
  refine ⟨_, by rw [h], ?_, Below.refl _ _⟩
  rw [h]
  exact Rd.nil w _ _
theorem gr_some {w : World} {l p : List UInt8} {C : Array Value} {n : Nat} {fr : Nat × Nat} (h : grp l = (some p, 4)) (hC : C = (bv p).toArray) (hn : n = p.length) (hp : p.length ≤ 100) :
    GR w l (.returned (.tuple #[.slice (some ⟨w.heap.size, 0, none⟩) n n, .int .i64 4])) (w.alloc (.cells C 5 fr)) := by
  refine ⟨_, by rw [h]; rfl, ?_, (Below.refl _ _).alloc (Nat.le_refl _) _⟩
  rw [h]
  exact (lit_rdm w C fr n p hC hn hp).rd
theorem byte_at {s : ByteArray} {l : List UInt8} {k : Nat} {c : UInt8} (hl : s.data.toList = l) (hc : l[k]? = some c) (hk : k < s.size) : s[k]'hk = c := by
  subst hl
  rw [List.getElem?_eq_some_iff] at hc
  obtain ⟨_, h⟩ := hc
  exact h
end Go.Proofs.Ytddgmpmfdgfcdaa
