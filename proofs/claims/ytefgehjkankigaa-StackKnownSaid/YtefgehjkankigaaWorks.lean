/-
  What is proved here: works returns true; no condition.
-/
import Derived.Test.YtefgehjkankigaaFm
namespace Go.Proofs.Ytefgehjkankigaa
open Go.RowKit

theorem Fm.to {w0 w : World} {p : Nat} {k : Bool} {xs xs' : List V3} {T : Option (Nat × Bool × List V3)} {R R' : List (Value × List V3)} (h : Fm w0 p k xs T R w) (hx : xs = xs') (hr : ∀ r ∈ R', r ∈ R) : Fm w0 p k xs' T R' w := hx ▸ h.sub hr
section
variable {w0 w : World} {p : Nat} {k : Bool} {xs xs' ys zs : List V3} {T : Option (Nat × Bool × List V3)} {R : List (Value × List V3)}
theorem pushE_F {cs : Array Value} {g n : Nat} (h : Fm w0 p true xs T R w) (hg : g = w.heap.size) (hc : cs = (pv ys).toArray) (hn : n = ys.length) (hm : n ≤ 100000) {er : Int} (he : pshE xs ys = er) (hx : psh xs ys = xs') :
    Calls Try.prog 17 #[.pointer (some ⟨p, 0, none⟩), .slice (some ⟨g, 0, none⟩) n n] (w.alloc (.cells cs 49)) fun e w' => e = .returned (.int .i64 er) ∧ Fm w0 p true xs' T R w' := by
  subst hx
  rw [← he]
  exact pushL_F h ys hg hc hn hm
theorem pushN_F (h : Fm w0 p true xs T R w) : Calls Try.prog 17 #[.pointer (some ⟨p, 0, none⟩), .slice none 0 0] w fun e w' => e = .returned (.int .i64 0) ∧ Fm w0 p true xs T R w' := by
  have hf : xs.length ≤ 65536 := by obtain ⟨v, hv⟩ := h.fst; exact hv.fit
  have := push_F h (Rd.nil w)
  have e := psh_in (xs := xs) (ys := []) (by simpa using hf)
  rw [e.1, e.2, List.append_nil] at this
  exact this
theorem popE_F (h : Fm w0 p true xs T R w) (n : Int) {er : Int} (he : rngE n xs = er) (hx : popS n xs = xs') (hy : popL n xs = ys) : Calls Try.prog 12 #[.pointer (some ⟨p, 0, none⟩), .int .i64 n] w fun e w' => ∃ A m c, e = .returned (.tuple #[.slice A m c, .int .i64 er]) ∧ Fm w0 p true xs' T ((.slice A m c, ys) :: R) w' := by
  subst he; subst hx; subst hy; exact pop_F h n
theorem fromE_F (h : Fm w0 p true xs T R w) (n : Int) {er : Int} (he : rngE n xs = er) (hy : frmL n xs = ys) : Calls Try.prog 14 #[.pointer (some ⟨p, 0, none⟩), .int .i64 n] w fun e w' => ∃ A m c, e = .returned (.tuple #[.slice A m c, .int .i64 er]) ∧ Fm w0 p true xs T ((.slice A m c, ys) :: R) w' := by
  subst he; subst hy; exact from_F h n
theorem lenE_F (h : Fm w0 p true xs T R w) {n : Nat} (hn : xs.length = n) : Calls Try.prog 21 #[.pointer (some ⟨p, 0, none⟩)] w fun e w' => e = .returned (.int .i64 (n : Int)) ∧ w = w' := by
  subst hn; exact len_F h
end
def va : V3 := ⟨1, 1, 5⟩
def vb : V3 := ⟨5, 2, 7⟩
def vc : V3 := ⟨26, 0, 0⟩
/-- The three variables of works. -/
structure C9 (a b c : Nat) (W : World) : Prop where
  x : W.cell? ⟨a, 0, none⟩ = some (.int .i64 1) ∧ W.cell? ⟨a, 1, none⟩ = some (.int .i64 1) ∧ W.cell? ⟨a, 2, none⟩ = some (.int .u64 5)
  y : W.cell? ⟨b, 0, none⟩ = some (.int .i64 5) ∧ W.cell? ⟨b, 1, none⟩ = some (.int .i64 2) ∧ W.cell? ⟨b, 2, none⟩ = some (.int .u64 7)
  z : W.cell? ⟨c, 0, none⟩ = some (.int .i64 26) ∧ W.cell? ⟨c, 1, none⟩ = some (.int .i64 0) ∧ W.cell? ⟨c, 2, none⟩ = some (.int .u64 0)
theorem Fm.c9 {a b c : Nat} {w1 W : World} {p : Nat} {xs : List V3} {R : List (Value × List V3)} (h : Fm w1 p true xs none R W) (hc : C9 a b c w1) (ha : a < w1.heap.size) (hb : b < w1.heap.size) (hcc : c < w1.heap.size) : C9 a b c W :=
  ⟨At3.below (s := va) hc.x h.2 ha, At3.below (s := vb) hc.y h.2 hb, At3.below (s := vc) hc.z h.2 hcc⟩
theorem areN_F {w0 w : World} {p : Nat} {k : Bool} {xs : List V3} {T : Option (Nat × Bool × List V3)} {R : List (Value × List V3)} {a : Value} {er : Int} (h : Fm w0 p k xs T R w) (ha : Rd w a []) : Calls Try.prog 23 #[a, .int .i64 er, .int .i64 er, .slice none 0 0] w fun e w' => e = .returned (.bool true) ∧ Fm w0 p k xs T R w' :=
  are_F h ha (Rd.nil _) (by simp)
theorem wk0 {w0 w : World} {p : Nat} {T : Option (Nat × Bool × List V3)} {R : List (Value × List V3)} (h : Fm w0 p true [] T R w) : Calls Try.prog 17 #[.pointer (some ⟨p, 0, none⟩), .slice (some ⟨w.heap.size, 0, none⟩) 2 2] (w.alloc (.cells #[.int .i64 1, .int .i64 1, .int .u64 5, .int .i64 5, .int .i64 2, .int .u64 7] 49)) fun e w' => e = .returned (.int .i64 0) ∧ Fm w0 p true [va, vb] T R w' :=
  pushE_F h (ys := [va, vb]) rfl (by kernel_rfl) rfl (by decide) (by kernel_rfl) (by kernel_rfl)
theorem wk1 {w0 w : World} {p : Nat} {T : Option (Nat × Bool × List V3)} {R : List (Value × List V3)} (h : Fm w0 p true [va, vb] T R w) : Calls Try.prog 17 #[.pointer (some ⟨p, 0, none⟩), .slice (some ⟨w.heap.size, 0, none⟩) 1 1] (w.alloc (.cells #[.int .i64 26, .int .i64 0, .int .u64 0] 49)) fun e w' => e = .returned (.int .i64 0) ∧ Fm w0 p true [va, vb, vc] T R w' :=
  pushE_F h (ys := [vc]) rfl (by kernel_rfl) rfl (by decide) (by kernel_rfl) (by kernel_rfl)
theorem wk2 {w0 w : World} {p : Nat} {T : Option (Nat × Bool × List V3)} {R : List (Value × List V3)} (h : Fm w0 p true [va, vb, vc] T R w) : Calls Try.prog 21 #[.pointer (some ⟨p, 0, none⟩)] w fun e w' => e = .returned (.int .i64 3) ∧ w = w' := lenE_F h (n := 3) rfl
theorem wk3 {w0 w : World} {p : Nat} {T : Option (Nat × Bool × List V3)} {R : List (Value × List V3)} (h : Fm w0 p true [va, vb, vc] T R w) : Calls Try.prog 14 #[.pointer (some ⟨p, 0, none⟩), .int .i64 (1)] w fun e w' => ∃ A m c, e = .returned (.tuple #[.slice A m c, .int .i64 0]) ∧ Fm w0 p true [va, vb, vc] T ((.slice A m c, [vb, vc]) :: R) w' :=
  fromE_F h (1) (by kernel_rfl) (by kernel_rfl)
theorem wk4 {w0 w : World} {p : Nat} {T : Option (Nat × Bool × List V3)} {R : List (Value × List V3)} (h : Fm w0 p true [va, vb, vc] T R w) : Calls Try.prog 12 #[.pointer (some ⟨p, 0, none⟩), .int .i64 (2)] w fun e w' => ∃ A m c, e = .returned (.tuple #[.slice A m c, .int .i64 0]) ∧ Fm w0 p true [va] T ((.slice A m c, [vb, vc]) :: R) w' :=
  popE_F h (2) (by kernel_rfl) (by kernel_rfl) (by kernel_rfl)
theorem wk5 {w0 w : World} {p : Nat} {T : Option (Nat × Bool × List V3)} {R : List (Value × List V3)} (h : Fm w0 p true [va] T R w) : Calls Try.prog 12 #[.pointer (some ⟨p, 0, none⟩), .int .i64 (2)] w fun e w' => ∃ A m c, e = .returned (.tuple #[.slice A m c, .int .i64 140]) ∧ Fm w0 p true [va] T ((.slice A m c, []) :: R) w' :=
  popE_F h (2) (by kernel_rfl) (by kernel_rfl) (by kernel_rfl)
theorem wk6 {w0 w : World} {p : Nat} {T : Option (Nat × Bool × List V3)} {R : List (Value × List V3)} {a : Value} {er : Int} (h : Fm w0 p true [va] T R w) (ha : Rd w a [vb, vc]) : Calls Try.prog 23 #[a, .int .i64 er, .int .i64 er, .slice (some ⟨w.heap.size, 0, none⟩) 2 2] (w.alloc (.cells #[.int .i64 5, .int .i64 2, .int .u64 7, .int .i64 26, .int .i64 0, .int .u64 0] 49)) fun e w' => e = .returned (.bool true) ∧ Fm w0 p true [va] T R w' :=
  areL_F h ha rfl (by kernel_rfl) rfl (by decide)
theorem wk7 {w0 w : World} {p : Nat} {T : Option (Nat × Bool × List V3)} {R : List (Value × List V3)} (h : Fm w0 p true [va] T R w) : Calls Try.prog 21 #[.pointer (some ⟨p, 0, none⟩)] w fun e w' => e = .returned (.int .i64 1) ∧ w = w' := lenE_F h (n := 1) rfl
theorem wk8 {w0 w : World} {p : Nat} {T : Option (Nat × Bool × List V3)} {R : List (Value × List V3)} (h : Fm w0 p true [va] T R w) : Calls Try.prog 14 #[.pointer (some ⟨p, 0, none⟩), .int .i64 (2)] w fun e w' => ∃ A m c, e = .returned (.tuple #[.slice A m c, .int .i64 140]) ∧ Fm w0 p true [va] T ((.slice A m c, []) :: R) w' :=
  fromE_F h (2) (by kernel_rfl) (by kernel_rfl)
theorem wk9 {w0 w : World} {p : Nat} {T : Option (Nat × Bool × List V3)} {R : List (Value × List V3)} (h : Fm w0 p true [va] T R w) : Calls Try.prog 14 #[.pointer (some ⟨p, 0, none⟩), .int .i64 (1)] w fun e w' => ∃ A m c, e = .returned (.tuple #[.slice A m c, .int .i64 0]) ∧ Fm w0 p true [va] T ((.slice A m c, []) :: R) w' :=
  fromE_F h (1) (by kernel_rfl) (by kernel_rfl)
theorem wk10 {w0 w : World} {p : Nat} {T : Option (Nat × Bool × List V3)} {R : List (Value × List V3)} (h : Fm w0 p true [va] T R w) : Calls Try.prog 12 #[.pointer (some ⟨p, 0, none⟩), .int .i64 (0)] w fun e w' => ∃ A m c, e = .returned (.tuple #[.slice A m c, .int .i64 0]) ∧ Fm w0 p true [va] T ((.slice A m c, []) :: R) w' :=
  popE_F h (0) (by kernel_rfl) (by kernel_rfl) (by kernel_rfl)
theorem wk11 {w0 w : World} {p : Nat} {T : Option (Nat × Bool × List V3)} {R : List (Value × List V3)} (h : Fm w0 p true [va] T R w) : Calls Try.prog 12 #[.pointer (some ⟨p, 0, none⟩), .int .i64 (-1)] w fun e w' => ∃ A m c, e = .returned (.tuple #[.slice A m c, .int .i64 140]) ∧ Fm w0 p true [va] T ((.slice A m c, []) :: R) w' :=
  popE_F h (-1) (by kernel_rfl) (by kernel_rfl) (by kernel_rfl)
theorem wk12 {w0 w : World} {p : Nat} {T : Option (Nat × Bool × List V3)} {R : List (Value × List V3)} (h : Fm w0 p true [va] T R w) : Calls Try.prog 12 #[.pointer (some ⟨p, 0, none⟩), .int .i64 (1)] w fun e w' => ∃ A m c, e = .returned (.tuple #[.slice A m c, .int .i64 0]) ∧ Fm w0 p true [] T ((.slice A m c, [va]) :: R) w' :=
  popE_F h (1) (by kernel_rfl) (by kernel_rfl) (by kernel_rfl)
theorem wk13 {w0 w : World} {p : Nat} {T : Option (Nat × Bool × List V3)} {R : List (Value × List V3)} {a : Value} {er : Int} (h : Fm w0 p true [] T R w) (ha : Rd w a [va]) : Calls Try.prog 23 #[a, .int .i64 er, .int .i64 er, .slice (some ⟨w.heap.size, 0, none⟩) 1 1] (w.alloc (.cells #[.int .i64 1, .int .i64 1, .int .u64 5] 49)) fun e w' => e = .returned (.bool true) ∧ Fm w0 p true [] T R w' :=
  areL_F h ha rfl (by kernel_rfl) rfl (by decide)
theorem wk14 {w0 w : World} {p : Nat} {T : Option (Nat × Bool × List V3)} {R : List (Value × List V3)} (h : Fm w0 p true [] T R w) : Calls Try.prog 21 #[.pointer (some ⟨p, 0, none⟩)] w fun e w' => e = .returned (.int .i64 0) ∧ w = w' := lenE_F h (n := 0) rfl
set_option maxRecDepth 20000 in
set_option maxHeartbeats 1000000 in
theorem works_true (w : World) : Calls Try.prog 22 #[] w fun e w' => e = .returned (.bool true) ∧ Below w.heap.size w w' := by
  go_enter Try.func22, Try.ntmps22
  go_upto_region 2 with fail
  obtain ⟨w1, hw1⟩ : ∃ w1, (((w.alloc (.cells #[.int .i64 1, .int .i64 1, .int .u64 5] 49)).alloc (.cells #[.int .i64 5, .int .i64 2, .int .u64 7] 49)).alloc (.cells #[.int .i64 26, .int .i64 0, .int .u64 0] 49)) = w1 := ⟨_, rfl⟩
  obtain ⟨a, ha⟩ : ∃ a, w.heap.size = a := ⟨_, rfl⟩
  obtain ⟨b, hb⟩ : ∃ b, a + 1 = b := ⟨_, rfl⟩
  obtain ⟨c, hc⟩ : ∃ c, b + 1 = c := ⟨_, rfl⟩
  have hsz : w1.heap.size = c + 1 := by rw [← hw1, ← hc, ← hb, ← ha]; simp
  have HB1 : Hid (Below w.heap.size w w1) := Lib.hid (by rw [← hw1]; exact (((Below.refl _ w).alloc (Nat.le_refl _) _).alloc (by simp) _).alloc (by simp; omega) _)
  have hc1 : C9 a b c w1 := by
    have k1 := Bx.new w 49 #[.int .i64 1, .int .i64 1, .int .u64 5]
    have k2 := Bx.new (w.alloc (.cells #[.int .i64 1, .int .i64 1, .int .u64 5] 49)) 49 #[.int .i64 5, .int .i64 2, .int .u64 7]
    have k3 := Bx.new ((w.alloc (.cells #[.int .i64 1, .int .i64 1, .int .u64 5] 49)).alloc (.cells #[.int .i64 5, .int .i64 2, .int .u64 7] 49)) 49 #[.int .i64 26, .int .i64 0, .int .u64 0]
    have j1 := (k1.below (al0 _ (.cells #[.int .i64 5, .int .i64 2, .int .u64 7] 49)) k1.lt)
    have j1' := (j1.below (al0 _ (.cells #[.int .i64 26, .int .i64 0, .int .u64 0] 49)) j1.lt)
    have j2 := (k2.below (al0 _ (.cells #[.int .i64 26, .int .i64 0, .int .u64 0] 49)) k2.lt)
    rw [hw1] at j1' j2 k3
    simp only [World.size_alloc, ha, hb, hc] at j1' j2 k3
    exact ⟨⟨j1'.cell 0, j1'.cell 1, j1'.cell 2⟩, ⟨j2.cell 0, j2.cell 1, j2.cell 2⟩, ⟨k3.cell 0, k3.cell 1, k3.cell 2⟩⟩
  have HC := Lib.hid (show ∀ (W : World) (p : Nat) (xs : List V3) (R : List (Value × List V3)), Fm w1 p true xs none R W → C9 a b c W from fun W p xs R h => h.c9 hc1 (by omega) (by omega) (by omega))
  simp only [hw1, ha, hb, hc]
  clear hc1 hsz hb hc hw1
  clear ha
  go_upto_region 3 with (go_at_call 9; (with_reducible refine (new_any _).mono ?_); rintro e w2 ⟨rfl, hw2⟩; have hs : Fm w1 w1.heap.size true [] none [] w2 := (by rw [hw2]; exact Fm.new (Below.refl w1.heap.size w1) true); clear hw2; obtain ⟨⟨x0, x1, x2⟩, ⟨y0, y1, y2⟩, ⟨z0, z1, z2⟩⟩ := HC.out _ _ _ _ hs; have HS := Lib.hid hs; clear hs)
  obtain ⟨p, hp⟩ : ∃ p, w1.heap.size = p := ⟨_, rfl⟩
  rw [hp] at HS
  simp only [hp]
  clear hp
  go_upto_region 5 with (first
    | (go_at_call 17; (with_reducible refine (wk0 HS.out).mono ?_); rintro e w3 ⟨rfl, hs⟩; clear x0 x1 x2 y0 y1 y2 z0 z1 z2 HS; obtain ⟨⟨x0, x1, x2⟩, ⟨y0, y1, y2⟩, ⟨z0, z1, z2⟩⟩ := HC.out _ _ _ _ hs; have HS := Lib.hid hs; clear hs)
    | (go_at_call 17; (with_reducible refine (wk1 HS.out).mono ?_); rintro e w3 ⟨rfl, hs⟩; clear x0 x1 x2 y0 y1 y2 z0 z1 z2 HS; obtain ⟨⟨x0, x1, x2⟩, ⟨y0, y1, y2⟩, ⟨z0, z1, z2⟩⟩ := HC.out _ _ _ _ hs; have HS := Lib.hid hs; clear hs)
    | (go_at_call 21; (with_reducible refine (wk2 HS.out).mono ?_); rintro e w3 ⟨rfl, rfl⟩))
  go_upto_region 6 with (first
    | (go_at_call 14; (with_reducible refine (wk3 HS.out).mono ?_); rintro e w3 ⟨A1, n1, c1, rfl, hs⟩; clear x0 x1 x2 y0 y1 y2 z0 z1 z2 HS; obtain ⟨⟨x0, x1, x2⟩, ⟨y0, y1, y2⟩, ⟨z0, z1, z2⟩⟩ := HC.out _ _ _ _ hs; have HS := Lib.hid hs; clear hs))
  go_upto_region 7 with (first
    | (go_at_call 12; (with_reducible refine (wk4 HS.out).mono ?_); rintro e w3 ⟨A2, n2, c2, rfl, hs⟩; clear x0 x1 x2 y0 y1 y2 z0 z1 z2 HS; obtain ⟨⟨x0, x1, x2⟩, ⟨y0, y1, y2⟩, ⟨z0, z1, z2⟩⟩ := HC.out _ _ _ _ hs; have HS := Lib.hid hs; clear hs))
  go_upto_region 8 with (first
    | (go_at_call 12; (with_reducible refine (wk5 HS.out).mono ?_); rintro e w3 ⟨A3, n3, c3, rfl, hs⟩; clear x0 x1 x2 y0 y1 y2 z0 z1 z2 HS; obtain ⟨⟨x0, x1, x2⟩, ⟨y0, y1, y2⟩, ⟨z0, z1, z2⟩⟩ := HC.out _ _ _ _ hs; have HS := Lib.hid hs; clear hs))
  go_upto_region 10 with (first
    | (go_at_call 23; (with_reducible refine (wk6 HS.out (HS.out.rd (by simp))).mono ?_); rintro e w3 ⟨rfl, hs⟩; clear x0 x1 x2 y0 y1 y2 z0 z1 z2 HS; obtain ⟨⟨x0, x1, x2⟩, ⟨y0, y1, y2⟩, ⟨z0, z1, z2⟩⟩ := HC.out _ _ _ _ hs; have HS := Lib.hid hs; clear hs)
    | (go_at_call 23; (with_reducible refine (areN_F HS.out (HS.out.rd (by simp))).mono ?_); rintro e w3 ⟨rfl, hs⟩; clear x0 x1 x2 y0 y1 y2 z0 z1 z2 HS; obtain ⟨⟨x0, x1, x2⟩, ⟨y0, y1, y2⟩, ⟨z0, z1, z2⟩⟩ := HC.out _ _ _ _ hs; have HS := Lib.hid hs; clear hs)
    | (go_at_call 21; (with_reducible refine (wk7 HS.out).mono ?_); rintro e w3 ⟨rfl, rfl⟩))
  go_upto_region 11 with (first
    | (go_at_call 14; (with_reducible refine (wk8 HS.out).mono ?_); rintro e w3 ⟨A4, n4, c4, rfl, hs⟩; clear x0 x1 x2 y0 y1 y2 z0 z1 z2 HS; obtain ⟨⟨x0, x1, x2⟩, ⟨y0, y1, y2⟩, ⟨z0, z1, z2⟩⟩ := HC.out _ _ _ _ hs; have HS := Lib.hid hs; clear hs))
  go_upto_region 12 with (first
    | (go_at_call 14; (with_reducible refine (wk9 HS.out).mono ?_); rintro e w3 ⟨A5, n5, c5, rfl, hs⟩; clear x0 x1 x2 y0 y1 y2 z0 z1 z2 HS; obtain ⟨⟨x0, x1, x2⟩, ⟨y0, y1, y2⟩, ⟨z0, z1, z2⟩⟩ := HC.out _ _ _ _ hs; have HS := Lib.hid hs; clear hs))
  go_upto_region 14 with (first
    | (go_at_call 23; (with_reducible refine (areN_F HS.out (HS.out.rd (by simp))).mono ?_); rintro e w3 ⟨rfl, hs⟩; clear x0 x1 x2 y0 y1 y2 z0 z1 z2 HS; obtain ⟨⟨x0, x1, x2⟩, ⟨y0, y1, y2⟩, ⟨z0, z1, z2⟩⟩ := HC.out _ _ _ _ hs; have HS := Lib.hid hs; clear hs)
    | (go_at_call 17; (with_reducible refine (pushN_F HS.out).mono ?_); rintro e w3 ⟨rfl, hs⟩; clear x0 x1 x2 y0 y1 y2 z0 z1 z2 HS; obtain ⟨⟨x0, x1, x2⟩, ⟨y0, y1, y2⟩, ⟨z0, z1, z2⟩⟩ := HC.out _ _ _ _ hs; have HS := Lib.hid hs; clear hs))
  go_upto_region 15 with (first
    | (go_at_call 12; (with_reducible refine (wk10 HS.out).mono ?_); rintro e w3 ⟨A6, n6, c6, rfl, hs⟩; clear x0 x1 x2 y0 y1 y2 z0 z1 z2 HS; obtain ⟨⟨x0, x1, x2⟩, ⟨y0, y1, y2⟩, ⟨z0, z1, z2⟩⟩ := HC.out _ _ _ _ hs; have HS := Lib.hid hs; clear hs))
  go_upto_region 16 with (first
    | (go_at_call 12; (with_reducible refine (wk11 HS.out).mono ?_); rintro e w3 ⟨A7, n7, c7, rfl, hs⟩; clear x0 x1 x2 y0 y1 y2 z0 z1 z2 HS; obtain ⟨⟨x0, x1, x2⟩, ⟨y0, y1, y2⟩, ⟨z0, z1, z2⟩⟩ := HC.out _ _ _ _ hs; have HS := Lib.hid hs; clear hs))
  go_upto_region 17 with (first
    | (go_at_call 12; (with_reducible refine (wk12 HS.out).mono ?_); rintro e w3 ⟨A8, n8, c8, rfl, hs⟩; clear x0 x1 x2 y0 y1 y2 z0 z1 z2 HS; obtain ⟨⟨x0, x1, x2⟩, ⟨y0, y1, y2⟩, ⟨z0, z1, z2⟩⟩ := HC.out _ _ _ _ hs; have HS := Lib.hid hs; clear hs))
  go_wp2_with (first
    | (go_at_call 23; (with_reducible refine (wk13 HS.out (HS.out.rd (by simp))).mono ?_); rintro e w3 ⟨rfl, hs⟩; clear x0 x1 x2 y0 y1 y2 z0 z1 z2 HS; obtain ⟨⟨x0, x1, x2⟩, ⟨y0, y1, y2⟩, ⟨z0, z1, z2⟩⟩ := HC.out _ _ _ _ hs; have HS := Lib.hid hs; clear hs)
    | (go_at_call 23; (with_reducible refine (areN_F HS.out (HS.out.rd (by simp))).mono ?_); rintro e w3 ⟨rfl, hs⟩; clear x0 x1 x2 y0 y1 y2 z0 z1 z2 HS; obtain ⟨⟨x0, x1, x2⟩, ⟨y0, y1, y2⟩, ⟨z0, z1, z2⟩⟩ := HC.out _ _ _ _ hs; have HS := Lib.hid hs; clear hs)
    | (go_at_call 21; (with_reducible refine (wk14 HS.out).mono ?_); rintro e w3 ⟨rfl, rfl⟩))
  go_ret
  exact ⟨rfl, HB1.out.trans (HS.out.2.mono HB1.out.size)⟩
end Go.Proofs.Ytefgehjkankigaa
