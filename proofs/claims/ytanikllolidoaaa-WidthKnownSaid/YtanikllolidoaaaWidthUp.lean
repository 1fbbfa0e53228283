/-
  What is proved here: accordionlaw03.WidthUp returns true for all offsets and widths, and leaves its arguments as they were; no condition.
-/
import Derived.Test.YtanikllolidoaaaLaw
namespace Go.Proofs.Ytanikllolidoaaa
open Go.ChangeShapes Go.WideShapes Go.ChangeAt Go.RowKit Wd

theorem bring_is (t n r : Int) (w : World) (h0 : -9223372036854775808 ≤ t) (h1 : t ≤ 9223372036854775807) (hn : 1 ≤ n) (hn2 : n ≤ 100) (h : t % n = r) :
    Calls Try.prog 26 #[.int .i64 t, .int .i64 n] w fun e w' => e = .returned (.int .i64 r) ∧ w = w' := h ▸ bring_any t n w h0 h1 hn hn2

theorem up_out1 (a t : Int) (w : World) (ht0 : -9223372036854775808 ≤ t) (ht1 : t ≤ 9223372036854775807) (hk : t % 4 = 0) (ha : a < 0 ∨ 9007199254740992 < a) :
    Calls Try.prog 7 #[.int .i64 a, .int .i64 t] w fun e w' => e = .returned (.bool true) ∧ Below w.heap.size w w' := by
  have HBR := Lib.hid (bring_is t 4 0 w ht0 ht1 (by decide) (by decide) hk)
  clear hk ht0 ht1
  rcases ha with ha | ha
  · have d0 : decide (a < 0) = true := by simpa using ha
    obtain ⟨e1, e2⟩ := up_neg (w := 1) ha
    have HU := Lib.hid (up_is a 1 0 2 w e2 e1)
    clear e1 e2 ha
    go_enter Try.func7, Try.ntmps7
    go_wp2_with (first
      | (go_at_call 26; refine HBR.out.mono ?_; rintro e w' ⟨rfl, rfl⟩)
      | (go_at_call 20; refine HU.out.mono ?_; rintro e w' ⟨rfl, rfl⟩)
      | (go_at_call 18; refine (works_true _).mono ?_; rintro e w1 ⟨rfl, hb⟩; have HB := Lib.hid hb; clear hb))
    go_ret
    exact ⟨rfl, HB.out⟩
  · have d0 : decide (a < 0) = false := by simp; omega
    have d1 : decide (9007199254740992 < a) = true := by simpa using ha
    obtain ⟨e1, e2⟩ := up_big (w := 1) (by decide) ha
    have HU := Lib.hid (up_is a 1 0 5 w e2 e1)
    clear e1 e2 ha
    go_enter Try.func7, Try.ntmps7
    go_wp2_with (first
      | (go_at_call 26; refine HBR.out.mono ?_; rintro e w' ⟨rfl, rfl⟩)
      | (go_at_call 20; refine HU.out.mono ?_; rintro e w' ⟨rfl, rfl⟩)
      | (go_at_call 18; refine (works_true _).mono ?_; rintro e w1 ⟨rfl, hb⟩; have HB := Lib.hid hb; clear hb))
    go_ret
    exact ⟨rfl, HB.out⟩

set_option maxHeartbeats 4000000 in
theorem up_in1 (a t : Int) (w : World) (ht0 : -9223372036854775808 ≤ t) (ht1 : t ≤ 9223372036854775807) (hk : t % 4 = 0) (h0 : 0 ≤ a) (h1 : a ≤ 9007199254740992) :
    Calls Try.prog 7 #[.int .i64 a, .int .i64 t] w fun e w' => e = .returned (.bool true) ∧ Below w.heap.size w w' := by
  have HBR := Lib.hid (bring_is t 4 0 w ht0 ht1 (by decide) (by decide) hk)
  obtain ⟨e1, e2⟩ := up_ok (w := 1) (by decide) h0 h1
  obtain ⟨p, hp⟩ : ∃ p, p = (a + 1 - 1) / 1 * 1 := ⟨_, rfl⟩
  rw [← hp] at e2
  have HU := Lib.hid (up_is a 1 p 0 w e2 e1)
  have g0 : 0 ≤ p ∧ p ≤ 9007199254740992 ∧ a ≤ p ∧ p - a < 1 ∧ p % 1 = 0 := by omega
  have b0 := g0.1
  have b1 := g0.2.1
  have d0 : decide (a < 0) = false := by simp; omega
  have d1 : decide (9007199254740992 < a) = false := by simp; omega
  have d2 : decide (p < a) = false := by simp; omega
  have d3 : decide (1 ≤ p - a) = false := by simp; omega
  
  have G := Lib.hid g0
  clear hk ht0 ht1 e1 e2 hp g0
  go_enter Try.func7, Try.ntmps7
  go_wp2_with (first
    | (go_at_call 26; refine HBR.out.mono ?_; rintro e w' ⟨rfl, rfl⟩)
    | (go_at_call 20; refine HU.out.mono ?_; rintro e w' ⟨rfl, rfl⟩))
  go_loop [7] (fun i => ∃ y : Int, i = .int .i64 y ∧ Hid (y = 1 ∨ y = 2 ∨ y = 4 ∨ y = 8 ∨ y = 16)) (fun i => (32 - intOf i).toNat)
  case atStart => exact ⟨1, rfl, .inl rfl⟩
  case round =>
    obtain ⟨y, rfl, HH⟩ := hrel
    rcases HH.out with rfl | rfl | rfl | rfl | rfl
    · clear HH
      have g := G.out
      obtain ⟨e1, e2⟩ := up_ok (a := p) (w := 1) (by decide) b0 b1
      have H1 := Lib.hid (up_is p 1 p 0 w (by rw [e2]; omega) e1)
      obtain ⟨e3, e4⟩ := up_ok (a := a) (w := 1) (by decide) h0 h1
      obtain ⟨r, hr⟩ : ∃ r, r = (a + 1 - 1) / 1 * 1 := ⟨_, rfl⟩
      rw [← hr] at e4
      have H2 := Lib.hid (up_is a 1 r 0 w e4 e3)
      have d5 : decide (p < r) = false := by simp; omega
      clear g e1 e2 e3 e4 hr
      go_wp2_with fail
      refine H1.out.mono ?_
      rintro e w' ⟨rfl, rfl⟩
      go_wp2_with fail
      refine H2.out.mono ?_
      rintro e w' ⟨rfl, rfl⟩
      go_wp2_with fail
      go_round
      case rel => exact ⟨_, rfl, Lib.hid (by decide)⟩
      case measure => simp [intOf]
    · clear HH
      go_wp2_with fail
      refine (works_true _).mono ?_
      rintro e w1 ⟨rfl, hb⟩
      have HB := Lib.hid hb
      clear hb
      go_wp2_with fail
      go_ret
      exact ⟨rfl, HB.out⟩
    · clear HH
      go_wp2_with fail
      refine (works_true _).mono ?_
      rintro e w1 ⟨rfl, hb⟩
      have HB := Lib.hid hb
      clear hb
      go_wp2_with fail
      go_ret
      exact ⟨rfl, HB.out⟩
    · clear HH
      go_wp2_with fail
      refine (works_true _).mono ?_
      rintro e w1 ⟨rfl, hb⟩
      have HB := Lib.hid hb
      clear hb
      go_wp2_with fail
      go_ret
      exact ⟨rfl, HB.out⟩
    · clear HH
      go_wp2_with fail
      refine (works_true _).mono ?_
      rintro e w1 ⟨rfl, hb⟩
      have HB := Lib.hid hb
      clear hb
      go_wp2_with fail
      go_ret
      exact ⟨rfl, HB.out⟩

theorem up_out2 (a t : Int) (w : World) (ht0 : -9223372036854775808 ≤ t) (ht1 : t ≤ 9223372036854775807) (hk : t % 4 = 1) (ha : a < 0 ∨ 9007199254740992 < a) :
    Calls Try.prog 7 #[.int .i64 a, .int .i64 t] w fun e w' => e = .returned (.bool true) ∧ Below w.heap.size w w' := by
  have HBR := Lib.hid (bring_is t 4 1 w ht0 ht1 (by decide) (by decide) hk)
  clear hk ht0 ht1
  rcases ha with ha | ha
  · have d0 : decide (a < 0) = true := by simpa using ha
    obtain ⟨e1, e2⟩ := up_neg (w := 2) ha
    have HU := Lib.hid (up_is a 2 0 2 w e2 e1)
    clear e1 e2 ha
    go_enter Try.func7, Try.ntmps7
    go_wp2_with (first
      | (go_at_call 26; refine HBR.out.mono ?_; rintro e w' ⟨rfl, rfl⟩)
      | (go_at_call 20; refine HU.out.mono ?_; rintro e w' ⟨rfl, rfl⟩)
      | (go_at_call 18; refine (works_true _).mono ?_; rintro e w1 ⟨rfl, hb⟩; have HB := Lib.hid hb; clear hb))
    go_ret
    exact ⟨rfl, HB.out⟩
  · have d0 : decide (a < 0) = false := by simp; omega
    have d1 : decide (9007199254740992 < a) = true := by simpa using ha
    obtain ⟨e1, e2⟩ := up_big (w := 2) (by decide) ha
    have HU := Lib.hid (up_is a 2 0 5 w e2 e1)
    clear e1 e2 ha
    go_enter Try.func7, Try.ntmps7
    go_wp2_with (first
      | (go_at_call 26; refine HBR.out.mono ?_; rintro e w' ⟨rfl, rfl⟩)
      | (go_at_call 20; refine HU.out.mono ?_; rintro e w' ⟨rfl, rfl⟩)
      | (go_at_call 18; refine (works_true _).mono ?_; rintro e w1 ⟨rfl, hb⟩; have HB := Lib.hid hb; clear hb))
    go_ret
    exact ⟨rfl, HB.out⟩

set_option maxHeartbeats 4000000 in
theorem up_in2 (a t : Int) (w : World) (ht0 : -9223372036854775808 ≤ t) (ht1 : t ≤ 9223372036854775807) (hk : t % 4 = 1) (h0 : 0 ≤ a) (h1 : a ≤ 9007199254740992) :
    Calls Try.prog 7 #[.int .i64 a, .int .i64 t] w fun e w' => e = .returned (.bool true) ∧ Below w.heap.size w w' := by
  have HBR := Lib.hid (bring_is t 4 1 w ht0 ht1 (by decide) (by decide) hk)
  obtain ⟨e1, e2⟩ := up_ok (w := 2) (by decide) h0 h1
  obtain ⟨p, hp⟩ : ∃ p, p = (a + 2 - 1) / 2 * 2 := ⟨_, rfl⟩
  rw [← hp] at e2
  have HU := Lib.hid (up_is a 2 p 0 w e2 e1)
  have g0 : 0 ≤ p ∧ p ≤ 9007199254740992 ∧ a ≤ p ∧ p - a < 2 ∧ p % 2 = 0 := by omega
  have b0 := g0.1
  have b1 := g0.2.1
  have d0 : decide (a < 0) = false := by simp; omega
  have d1 : decide (9007199254740992 < a) = false := by simp; omega
  have d2 : decide (p < a) = false := by simp; omega
  have d3 : decide (2 ≤ p - a) = false := by simp; omega
  have d4 : (p % 2 != 0) = false := by simp; omega
  have G := Lib.hid g0
  clear hk ht0 ht1 e1 e2 hp g0
  go_enter Try.func7, Try.ntmps7
  go_wp2_with (first
    | (go_at_call 26; refine HBR.out.mono ?_; rintro e w' ⟨rfl, rfl⟩)
    | (go_at_call 20; refine HU.out.mono ?_; rintro e w' ⟨rfl, rfl⟩))
  go_loop [7] (fun i => ∃ y : Int, i = .int .i64 y ∧ Hid (y = 1 ∨ y = 2 ∨ y = 4 ∨ y = 8 ∨ y = 16)) (fun i => (32 - intOf i).toNat)
  case atStart => exact ⟨1, rfl, .inl rfl⟩
  case round =>
    obtain ⟨y, rfl, HH⟩ := hrel
    rcases HH.out with rfl | rfl | rfl | rfl | rfl
    · clear HH
      have g := G.out
      obtain ⟨e1, e2⟩ := up_ok (a := p) (w := 1) (by decide) b0 b1
      have H1 := Lib.hid (up_is p 1 p 0 w (by rw [e2]; omega) e1)
      obtain ⟨e3, e4⟩ := up_ok (a := a) (w := 1) (by decide) h0 h1
      obtain ⟨r, hr⟩ : ∃ r, r = (a + 1 - 1) / 1 * 1 := ⟨_, rfl⟩
      rw [← hr] at e4
      have H2 := Lib.hid (up_is a 1 r 0 w e4 e3)
      have d5 : decide (p < r) = false := by simp; omega
      clear g e1 e2 e3 e4 hr
      go_wp2_with fail
      refine H1.out.mono ?_
      rintro e w' ⟨rfl, rfl⟩
      go_wp2_with fail
      refine H2.out.mono ?_
      rintro e w' ⟨rfl, rfl⟩
      go_wp2_with fail
      go_round
      case rel => exact ⟨_, rfl, Lib.hid (by decide)⟩
      case measure => simp [intOf]
    · clear HH
      have g := G.out
      obtain ⟨e1, e2⟩ := up_ok (a := p) (w := 2) (by decide) b0 b1
      have H1 := Lib.hid (up_is p 2 p 0 w (by rw [e2]; omega) e1)
      obtain ⟨e3, e4⟩ := up_ok (a := a) (w := 2) (by decide) h0 h1
      obtain ⟨r, hr⟩ : ∃ r, r = (a + 2 - 1) / 2 * 2 := ⟨_, rfl⟩
      rw [← hr] at e4
      have H2 := Lib.hid (up_is a 2 r 0 w e4 e3)
      have d5 : decide (p < r) = false := by simp; omega
      clear g e1 e2 e3 e4 hr
      go_wp2_with fail
      refine H1.out.mono ?_
      rintro e w' ⟨rfl, rfl⟩
      go_wp2_with fail
      refine H2.out.mono ?_
      rintro e w' ⟨rfl, rfl⟩
      go_wp2_with fail
      go_round
      case rel => exact ⟨_, rfl, Lib.hid (by decide)⟩
      case measure => simp [intOf]
    · clear HH
      go_wp2_with fail
      refine (works_true _).mono ?_
      rintro e w1 ⟨rfl, hb⟩
      have HB := Lib.hid hb
      clear hb
      go_wp2_with fail
      go_ret
      exact ⟨rfl, HB.out⟩
    · clear HH
      go_wp2_with fail
      refine (works_true _).mono ?_
      rintro e w1 ⟨rfl, hb⟩
      have HB := Lib.hid hb
      clear hb
      go_wp2_with fail
      go_ret
      exact ⟨rfl, HB.out⟩
    · clear HH
      go_wp2_with fail
      refine (works_true _).mono ?_
      rintro e w1 ⟨rfl, hb⟩
      have HB := Lib.hid hb
      clear hb
      go_wp2_with fail
      go_ret
      exact ⟨rfl, HB.out⟩

theorem up_out4 (a t : Int) (w : World) (ht0 : -9223372036854775808 ≤ t) (ht1 : t ≤ 9223372036854775807) (hk : t % 4 = 2) (ha : a < 0 ∨ 9007199254740992 < a) :
    Calls Try.prog 7 #[.int .i64 a, .int .i64 t] w fun e w' => e = .returned (.bool true) ∧ Below w.heap.size w w' := by
  have HBR := Lib.hid (bring_is t 4 2 w ht0 ht1 (by decide) (by decide) hk)
  clear hk ht0 ht1
  rcases ha with ha | ha
  · have d0 : decide (a < 0) = true := by simpa using ha
    obtain ⟨e1, e2⟩ := up_neg (w := 4) ha
    have HU := Lib.hid (up_is a 4 0 2 w e2 e1)
    clear e1 e2 ha
    go_enter Try.func7, Try.ntmps7
    go_wp2_with (first
      | (go_at_call 26; refine HBR.out.mono ?_; rintro e w' ⟨rfl, rfl⟩)
      | (go_at_call 20; refine HU.out.mono ?_; rintro e w' ⟨rfl, rfl⟩)
      | (go_at_call 18; refine (works_true _).mono ?_; rintro e w1 ⟨rfl, hb⟩; have HB := Lib.hid hb; clear hb))
    go_ret
    exact ⟨rfl, HB.out⟩
  · have d0 : decide (a < 0) = false := by simp; omega
    have d1 : decide (9007199254740992 < a) = true := by simpa using ha
    obtain ⟨e1, e2⟩ := up_big (w := 4) (by decide) ha
    have HU := Lib.hid (up_is a 4 0 5 w e2 e1)
    clear e1 e2 ha
    go_enter Try.func7, Try.ntmps7
    go_wp2_with (first
      | (go_at_call 26; refine HBR.out.mono ?_; rintro e w' ⟨rfl, rfl⟩)
      | (go_at_call 20; refine HU.out.mono ?_; rintro e w' ⟨rfl, rfl⟩)
      | (go_at_call 18; refine (works_true _).mono ?_; rintro e w1 ⟨rfl, hb⟩; have HB := Lib.hid hb; clear hb))
    go_ret
    exact ⟨rfl, HB.out⟩

set_option maxHeartbeats 4000000 in
theorem up_in4 (a t : Int) (w : World) (ht0 : -9223372036854775808 ≤ t) (ht1 : t ≤ 9223372036854775807) (hk : t % 4 = 2) (h0 : 0 ≤ a) (h1 : a ≤ 9007199254740992) :
    Calls Try.prog 7 #[.int .i64 a, .int .i64 t] w fun e w' => e = .returned (.bool true) ∧ Below w.heap.size w w' := by
  have HBR := Lib.hid (bring_is t 4 2 w ht0 ht1 (by decide) (by decide) hk)
  obtain ⟨e1, e2⟩ := up_ok (w := 4) (by decide) h0 h1
  obtain ⟨p, hp⟩ : ∃ p, p = (a + 4 - 1) / 4 * 4 := ⟨_, rfl⟩
  rw [← hp] at e2
  have HU := Lib.hid (up_is a 4 p 0 w e2 e1)
  have g0 : 0 ≤ p ∧ p ≤ 9007199254740992 ∧ a ≤ p ∧ p - a < 4 ∧ p % 4 = 0 := by omega
  have b0 := g0.1
  have b1 := g0.2.1
  have d0 : decide (a < 0) = false := by simp; omega
  have d1 : decide (9007199254740992 < a) = false := by simp; omega
  have d2 : decide (p < a) = false := by simp; omega
  have d3 : decide (4 ≤ p - a) = false := by simp; omega
  have d4 : (p % 4 != 0) = false := by simp; omega
  have G := Lib.hid g0
  clear hk ht0 ht1 e1 e2 hp g0
  go_enter Try.func7, Try.ntmps7
  go_wp2_with (first
    | (go_at_call 26; refine HBR.out.mono ?_; rintro e w' ⟨rfl, rfl⟩)
    | (go_at_call 20; refine HU.out.mono ?_; rintro e w' ⟨rfl, rfl⟩))
  go_loop [7] (fun i => ∃ y : Int, i = .int .i64 y ∧ Hid (y = 1 ∨ y = 2 ∨ y = 4 ∨ y = 8 ∨ y = 16)) (fun i => (32 - intOf i).toNat)
  case atStart => exact ⟨1, rfl, .inl rfl⟩
  case round =>
    obtain ⟨y, rfl, HH⟩ := hrel
    rcases HH.out with rfl | rfl | rfl | rfl | rfl
    · clear HH
      have g := G.out
      obtain ⟨e1, e2⟩ := up_ok (a := p) (w := 1) (by decide) b0 b1
      have H1 := Lib.hid (up_is p 1 p 0 w (by rw [e2]; omega) e1)
      obtain ⟨e3, e4⟩ := up_ok (a := a) (w := 1) (by decide) h0 h1
      obtain ⟨r, hr⟩ : ∃ r, r = (a + 1 - 1) / 1 * 1 := ⟨_, rfl⟩
      rw [← hr] at e4
      have H2 := Lib.hid (up_is a 1 r 0 w e4 e3)
      have d5 : decide (p < r) = false := by simp; omega
      clear g e1 e2 e3 e4 hr
      go_wp2_with fail
      refine H1.out.mono ?_
      rintro e w' ⟨rfl, rfl⟩
      go_wp2_with fail
      refine H2.out.mono ?_
      rintro e w' ⟨rfl, rfl⟩
      go_wp2_with fail
      go_round
      case rel => exact ⟨_, rfl, Lib.hid (by decide)⟩
      case measure => simp [intOf]
    · clear HH
      have g := G.out
      obtain ⟨e1, e2⟩ := up_ok (a := p) (w := 2) (by decide) b0 b1
      have H1 := Lib.hid (up_is p 2 p 0 w (by rw [e2]; omega) e1)
      obtain ⟨e3, e4⟩ := up_ok (a := a) (w := 2) (by decide) h0 h1
      obtain ⟨r, hr⟩ : ∃ r, r = (a + 2 - 1) / 2 * 2 := ⟨_, rfl⟩
      rw [← hr] at e4
      have H2 := Lib.hid (up_is a 2 r 0 w e4 e3)
      have d5 : decide (p < r) = false := by simp; omega
      clear g e1 e2 e3 e4 hr
      go_wp2_with fail
      refine H1.out.mono ?_
      rintro e w' ⟨rfl, rfl⟩
      go_wp2_with fail
      refine H2.out.mono ?_
      rintro e w' ⟨rfl, rfl⟩
      go_wp2_with fail
      go_round
      case rel => exact ⟨_, rfl, Lib.hid (by decide)⟩
      case measure => simp [intOf]
    · clear HH
      have g := G.out
      obtain ⟨e1, e2⟩ := up_ok (a := p) (w := 4) (by decide) b0 b1
      have H1 := Lib.hid (up_is p 4 p 0 w (by rw [e2]; omega) e1)
      obtain ⟨e3, e4⟩ := up_ok (a := a) (w := 4) (by decide) h0 h1
      obtain ⟨r, hr⟩ : ∃ r, r = (a + 4 - 1) / 4 * 4 := ⟨_, rfl⟩
      rw [← hr] at e4
      have H2 := Lib.hid (up_is a 4 r 0 w e4 e3)
      have d5 : decide (p < r) = false := by simp; omega
      clear g e1 e2 e3 e4 hr
      go_wp2_with fail
      refine H1.out.mono ?_
      rintro e w' ⟨rfl, rfl⟩
      go_wp2_with fail
      refine H2.out.mono ?_
      rintro e w' ⟨rfl, rfl⟩
      go_wp2_with fail
      go_round
      case rel => exact ⟨_, rfl, Lib.hid (by decide)⟩
      case measure => simp [intOf]
    · clear HH
      go_wp2_with fail
      refine (works_true _).mono ?_
      rintro e w1 ⟨rfl, hb⟩
      have HB := Lib.hid hb
      clear hb
      go_wp2_with fail
      go_ret
      exact ⟨rfl, HB.out⟩
    · clear HH
      go_wp2_with fail
      refine (works_true _).mono ?_
      rintro e w1 ⟨rfl, hb⟩
      have HB := Lib.hid hb
      clear hb
      go_wp2_with fail
      go_ret
      exact ⟨rfl, HB.out⟩

theorem up_out8 (a t : Int) (w : World) (ht0 : -9223372036854775808 ≤ t) (ht1 : t ≤ 9223372036854775807) (hk : t % 4 = 3) (ha : a < 0 ∨ 9007199254740992 < a) :
    Calls Try.prog 7 #[.int .i64 a, .int .i64 t] w fun e w' => e = .returned (.bool true) ∧ Below w.heap.size w w' := by
  have HBR := Lib.hid (bring_is t 4 3 w ht0 ht1 (by decide) (by decide) hk)
  clear hk ht0 ht1
  rcases ha with ha | ha
  · have d0 : decide (a < 0) = true := by simpa using ha
    obtain ⟨e1, e2⟩ := up_neg (w := 8) ha
    have HU := Lib.hid (up_is a 8 0 2 w e2 e1)
    clear e1 e2 ha
    go_enter Try.func7, Try.ntmps7
    go_wp2_with (first
      | (go_at_call 26; refine HBR.out.mono ?_; rintro e w' ⟨rfl, rfl⟩)
      | (go_at_call 20; refine HU.out.mono ?_; rintro e w' ⟨rfl, rfl⟩)
      | (go_at_call 18; refine (works_true _).mono ?_; rintro e w1 ⟨rfl, hb⟩; have HB := Lib.hid hb; clear hb))
    go_ret
    exact ⟨rfl, HB.out⟩
  · have d0 : decide (a < 0) = false := by simp; omega
    have d1 : decide (9007199254740992 < a) = true := by simpa using ha
    obtain ⟨e1, e2⟩ := up_big (w := 8) (by decide) ha
    have HU := Lib.hid (up_is a 8 0 5 w e2 e1)
    clear e1 e2 ha
    go_enter Try.func7, Try.ntmps7
    go_wp2_with (first
      | (go_at_call 26; refine HBR.out.mono ?_; rintro e w' ⟨rfl, rfl⟩)
      | (go_at_call 20; refine HU.out.mono ?_; rintro e w' ⟨rfl, rfl⟩)
      | (go_at_call 18; refine (works_true _).mono ?_; rintro e w1 ⟨rfl, hb⟩; have HB := Lib.hid hb; clear hb))
    go_ret
    exact ⟨rfl, HB.out⟩

set_option maxHeartbeats 4000000 in
theorem up_in8 (a t : Int) (w : World) (ht0 : -9223372036854775808 ≤ t) (ht1 : t ≤ 9223372036854775807) (hk : t % 4 = 3) (h0 : 0 ≤ a) (h1 : a ≤ 9007199254740992) :
    Calls Try.prog 7 #[.int .i64 a, .int .i64 t] w fun e w' => e = .returned (.bool true) ∧ Below w.heap.size w w' := by
  have HBR := Lib.hid (bring_is t 4 3 w ht0 ht1 (by decide) (by decide) hk)
  obtain ⟨e1, e2⟩ := up_ok (w := 8) (by decide) h0 h1
  obtain ⟨p, hp⟩ : ∃ p, p = (a + 8 - 1) / 8 * 8 := ⟨_, rfl⟩
  rw [← hp] at e2
  have HU := Lib.hid (up_is a 8 p 0 w e2 e1)
  have g0 : 0 ≤ p ∧ p ≤ 9007199254740992 ∧ a ≤ p ∧ p - a < 8 ∧ p % 8 = 0 := by omega
  have b0 := g0.1
  have b1 := g0.2.1
  have d0 : decide (a < 0) = false := by simp; omega
  have d1 : decide (9007199254740992 < a) = false := by simp; omega
  have d2 : decide (p < a) = false := by simp; omega
  have d3 : decide (8 ≤ p - a) = false := by simp; omega
  have d4 : (p % 8 != 0) = false := by simp; omega
  have G := Lib.hid g0
  clear hk ht0 ht1 e1 e2 hp g0
  go_enter Try.func7, Try.ntmps7
  go_wp2_with (first
    | (go_at_call 26; refine HBR.out.mono ?_; rintro e w' ⟨rfl, rfl⟩)
    | (go_at_call 20; refine HU.out.mono ?_; rintro e w' ⟨rfl, rfl⟩))
  go_loop [7] (fun i => ∃ y : Int, i = .int .i64 y ∧ Hid (y = 1 ∨ y = 2 ∨ y = 4 ∨ y = 8 ∨ y = 16)) (fun i => (32 - intOf i).toNat)
  case atStart => exact ⟨1, rfl, .inl rfl⟩
  case round =>
    obtain ⟨y, rfl, HH⟩ := hrel
    rcases HH.out with rfl | rfl | rfl | rfl | rfl
    · clear HH
      have g := G.out
      obtain ⟨e1, e2⟩ := up_ok (a := p) (w := 1) (by decide) b0 b1
      have H1 := Lib.hid (up_is p 1 p 0 w (by rw [e2]; omega) e1)
      obtain ⟨e3, e4⟩ := up_ok (a := a) (w := 1) (by decide) h0 h1
      obtain ⟨r, hr⟩ : ∃ r, r = (a + 1 - 1) / 1 * 1 := ⟨_, rfl⟩
      rw [← hr] at e4
      have H2 := Lib.hid (up_is a 1 r 0 w e4 e3)
      have d5 : decide (p < r) = false := by simp; omega
      clear g e1 e2 e3 e4 hr
      go_wp2_with fail
      refine H1.out.mono ?_
      rintro e w' ⟨rfl, rfl⟩
      go_wp2_with fail
      refine H2.out.mono ?_
      rintro e w' ⟨rfl, rfl⟩
      go_wp2_with fail
      go_round
      case rel => exact ⟨_, rfl, Lib.hid (by decide)⟩
      case measure => simp [intOf]
    · clear HH
      have g := G.out
      obtain ⟨e1, e2⟩ := up_ok (a := p) (w := 2) (by decide) b0 b1
      have H1 := Lib.hid (up_is p 2 p 0 w (by rw [e2]; omega) e1)
      obtain ⟨e3, e4⟩ := up_ok (a := a) (w := 2) (by decide) h0 h1
      obtain ⟨r, hr⟩ : ∃ r, r = (a + 2 - 1) / 2 * 2 := ⟨_, rfl⟩
      rw [← hr] at e4
      have H2 := Lib.hid (up_is a 2 r 0 w e4 e3)
      have d5 : decide (p < r) = false := by simp; omega
      clear g e1 e2 e3 e4 hr
      go_wp2_with fail
      refine H1.out.mono ?_
      rintro e w' ⟨rfl, rfl⟩
      go_wp2_with fail
      refine H2.out.mono ?_
      rintro e w' ⟨rfl, rfl⟩
      go_wp2_with fail
      go_round
      case rel => exact ⟨_, rfl, Lib.hid (by decide)⟩
      case measure => simp [intOf]
    · clear HH
      have g := G.out
      obtain ⟨e1, e2⟩ := up_ok (a := p) (w := 4) (by decide) b0 b1
      have H1 := Lib.hid (up_is p 4 p 0 w (by rw [e2]; omega) e1)
      obtain ⟨e3, e4⟩ := up_ok (a := a) (w := 4) (by decide) h0 h1
      obtain ⟨r, hr⟩ : ∃ r, r = (a + 4 - 1) / 4 * 4 := ⟨_, rfl⟩
      rw [← hr] at e4
      have H2 := Lib.hid (up_is a 4 r 0 w e4 e3)
      have d5 : decide (p < r) = false := by simp; omega
      clear g e1 e2 e3 e4 hr
      go_wp2_with fail
      refine H1.out.mono ?_
      rintro e w' ⟨rfl, rfl⟩
      go_wp2_with fail
      refine H2.out.mono ?_
      rintro e w' ⟨rfl, rfl⟩
      go_wp2_with fail
      go_round
      case rel => exact ⟨_, rfl, Lib.hid (by decide)⟩
      case measure => simp [intOf]
    · clear HH
      have g := G.out
      obtain ⟨e1, e2⟩ := up_ok (a := p) (w := 8) (by decide) b0 b1
      have H1 := Lib.hid (up_is p 8 p 0 w (by rw [e2]; omega) e1)
      obtain ⟨e3, e4⟩ := up_ok (a := a) (w := 8) (by decide) h0 h1
      obtain ⟨r, hr⟩ : ∃ r, r = (a + 8 - 1) / 8 * 8 := ⟨_, rfl⟩
      rw [← hr] at e4
      have H2 := Lib.hid (up_is a 8 r 0 w e4 e3)
      have d5 : decide (p < r) = false := by simp; omega
      clear g e1 e2 e3 e4 hr
      go_wp2_with fail
      refine H1.out.mono ?_
      rintro e w' ⟨rfl, rfl⟩
      go_wp2_with fail
      refine H2.out.mono ?_
      rintro e w' ⟨rfl, rfl⟩
      go_wp2_with fail
      go_round
      case rel => exact ⟨_, rfl, Lib.hid (by decide)⟩
      case measure => simp [intOf]
    · clear HH
      go_wp2_with fail
      refine (works_true _).mono ?_
      rintro e w1 ⟨rfl, hb⟩
      have HB := Lib.hid hb
      clear hb
      go_wp2_with fail
      go_ret
      exact ⟨rfl, HB.out⟩

theorem widthUp_walk (a t : Int) (w : World) (_ : -9223372036854775808 ≤ a) (_ : a ≤ 9223372036854775807) (ht0 : -9223372036854775808 ≤ t) (ht1 : t ≤ 9223372036854775807) :
    Calls Try.prog 7 #[.int .i64 a, .int .i64 t] w fun e w' => e = .returned (.bool true) ∧ Below w.heap.size w w' := by
  have hk : t % 4 = 0 ∨ t % 4 = 1 ∨ t % 4 = 2 ∨ t % 4 = 3 := by omega
  by_cases h : a < 0 ∨ 9007199254740992 < a
  · rcases hk with hk | hk | hk | hk
    · exact up_out1 a t w ht0 ht1 hk h
    · exact up_out2 a t w ht0 ht1 hk h
    · exact up_out4 a t w ht0 ht1 hk h
    · exact up_out8 a t w ht0 ht1 hk h
  · rcases hk with hk | hk | hk | hk
    · exact up_in1 a t w ht0 ht1 hk (by omega) (by omega)
    · exact up_in2 a t w ht0 ht1 hk (by omega) (by omega)
    · exact up_in4 a t w ht0 ht1 hk (by omega) (by omega)
    · exact up_in8 a t w ht0 ht1 hk (by omega) (by omega)

set_option maxRecDepth 100000 in
theorem widthUp_lifted (os : Os) (started : os.Started) (H : Type) (enc : TypeId × Value → H) :
    ReturnsInHanded {} Try.checked os 7 .any (Rows.widthUpSpec.pre6 enc Try.prog Try.f7 Rows.widthUpRow.domain false) (Rows.widthUpSpec.post enc Try.prog Try.f7 false true false false) := by
  refine returnsInHanded_of_change (C := Try.checked) ownK started (by kernel_rfl) Try.func7
    (ChangeSpec.witness6 (enc := enc) (C := Try.checked) false ⟨#[], #[.int .i64 0, .int .i64 0], []⟩ 8 (by kernel_rfl) (by kernel_rfl) (by kernel_rfl) (by kernel_rfl)) ?_
  intro W base args ds gs before hval0 hW hcnd _
  have hval : ∀ (j : Nat) t v, Try.f7.params[j]? = some t → args[j]? = some v → Value.okWide Try.prog W .any base t v := hval0
  have hW' := hW
  obtain ⟨p, q, hA0, hV, rfl, hfz, hnd⟩ := hW
  have hA : DataW.TrodAll enc Try.prog W 0 (fun _ => true) true Try.f7.params.toList args.toList ds p := hA0
  rw [Try.params7] at hA hval
  obtain ⟨v0, vs0, d0, ds0, p0, q0, hargs, rfl, rfl, h0, r0⟩ := trodAll_cons hA
  obtain ⟨v1, vs1, d1, ds1, p1, q1, rfl, rfl, rfl, h1, r1⟩ := trodAll_cons r0
  obtain ⟨rfl, rfl, rfl⟩ := trodAll_nil r1
  obtain rfl : args = #[v0, v1] := by cases args; simp_all
  obtain ⟨rfl, rfl⟩ := trodVars_none hV
  obtain ⟨a0, rfl, rfl, rfl, w0⟩ := open_int Try.underlying3 (hval 0 3 v0 rfl rfl) h0
  have b0 : -9223372036854775808 ≤ a0 ∧ a0 ≤ 9223372036854775807 := by simpa [Lit.wf, IntKind.min, IntKind.max, IntKind.signed, IntKind.bits] using w0
  obtain ⟨a1, rfl, rfl, rfl, w1⟩ := open_int Try.underlying3 (hval 1 3 v1 rfl rfl) h1
  have b1 : -9223372036854775808 ≤ a1 ∧ a1 ≤ 9223372036854775807 := by simpa [Lit.wf, IntKind.min, IntKind.max, IntKind.signed, IntKind.bits] using w1
  refine (widthUp_walk a0 a1 W b0.1 b0.2 b1.1 b1.2).mono fun e W' ⟨he, hb⟩ => ?_
  subst he
  exact ⟨_, rfl, law_post (by rw [Try.params7]; decide +kernel) rfl rfl rfl rfl rfl hW' hb⟩

theorem widthUp_over : Rows.widthUpRow.holds Try.pinned (OpenSpec.ofChange Rows.widthUpSpec) :=
  OpenClaim.holds_of_wide 7 Try.f7 rfl rfl rfl rfl rfl rfl rfl ⟨rfl, rfl, rfl, rfl, rfl⟩ rfl rfl rfl rfl rfl (by kernel_rfl) Try.func7 (by kernel_rfl)
    (of_decide_eq_true (by kernel_rfl)) (by unfold Func.isWrapper; first | (rw [if_pos (by decide +kernel)]; kernel_rfl) | (rw [if_neg (by decide +kernel)]; exact ⟨rfl, rfl⟩))
    (fun os started H enc _ => widthUp_lifted os started H enc)

theorem widthUp_holds : Rows.WidthUpSaid := widthUp_over
end Go.Proofs.Ytanikllolidoaaa
