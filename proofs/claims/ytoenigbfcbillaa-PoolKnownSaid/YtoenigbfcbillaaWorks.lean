/-
  What is proved here: works returns true; no condition.
-/
import Derived.Test.YtoenigbfcbillaaFill
namespace Go.Proofs.Ytoenigbfcbillaa
open Go.RowKit

section
variable {w0 w : World} {p : Nat} {xs xs' : List E} {L : List Ob} {R : List RowS}
theorem putE_F (h : Fm w0 ((p, true, xs) :: L) R w) (s : ByteArray) (n : Int) (hl : xs.length ≤ 99) (hs : s.size ≤ 1000) {er : Int} (he : putE xs s n = er) (hx : put true xs s n = xs') :
    Calls Try.prog 14 #[.pointer (some ⟨p, 0, none⟩), .string s, .int .i64 n] w fun e w' => e = .returned (.int .i64 er) ∧ Fm w0 ((p, true, xs') :: L) R w' := by
  subst he; subst hx; exact put_F h s n hl hs
theorem getsE_F (h : Fm w0 ((p, true, xs) :: L) R w) (s : ByteArray) (n : Int) (b : Bool) (hn : gtN xs s = n) (hb : has xs s = b) : Calls Try.prog 22 #[.pointer (some ⟨p, 0, none⟩), .string s, .int .i64 n, .bool b] w fun e w' => e = .returned (.bool true) ∧ Fm w0 ((p, true, xs) :: L) R w' := by
  have := gets_F h s n b
  rw [hn, hb] at this
  simpa using this
theorem rdS_lit (w : World) (ks : List ByteArray) {cs : Array Value} {g n : Nat} (hg : g = w.heap.size) (hc : cs = (ks.map Value.string).toArray) (hn : n = ks.length) (hm : n ≤ 100) (hs : ∀ s ∈ ks, s.size ≤ 1000) : RdS (w.alloc (.cells cs 9)) (.slice (some ⟨g, 0, none⟩) n n) ks := by
  subst hg; subst hc; subst hn
  refine ⟨_, _, _, rfl, rfl, Nat.le_refl _, by unfold maxLen; omega, fun s h => Nat.le_trans (hs s h) (by unfold maxLen; omega), fun _ => ⟨_, 0, rfl, by simp, fun j s hj => ?_⟩⟩
  rw [Nat.zero_add]
  have := (Bx.new w 9 (ks.map Value.string).toArray).cell j
  rw [this]
  simp [hj]
end
def sa : ByteArray := ⟨#[97]⟩
def sb : ByteArray := ⟨#[98]⟩
def sc : ByteArray := ⟨#[99]⟩
def s0 : ByteArray := ⟨#[]⟩
def x1 : List E := [⟨sb, 5⟩]
def x2 : List E := [⟨sa, 9⟩, ⟨sb, 5⟩]
def x3 : List E := [⟨s0, 0⟩, ⟨sa, 9⟩, ⟨sb, 5⟩]
section
variable {w0 w : World} {p : Nat} {L : List Ob} {R : List RowS}
theorem wk1 (h : Fm w0 ((p, true, []) :: L) R w) : Calls Try.prog 14 #[.pointer (some ⟨p, 0, none⟩), .string ⟨#[98]⟩, .int .i64 5] w fun e w' => e = .returned (.int .i64 0) ∧ Fm w0 ((p, true, x1) :: L) R w' :=
  putE_F h sb 5 (by decide) (by decide) (by decide +kernel) (by kernel_rfl)
theorem wk2 (h : Fm w0 ((p, true, x1) :: L) R w) : Calls Try.prog 14 #[.pointer (some ⟨p, 0, none⟩), .string ⟨#[97]⟩, .int .i64 9] w fun e w' => e = .returned (.int .i64 0) ∧ Fm w0 ((p, true, x2) :: L) R w' :=
  putE_F h sa 9 (by decide) (by decide) (by decide +kernel) (by kernel_rfl)
theorem wk3 (h : Fm w0 ((p, true, x2) :: L) R w) : Calls Try.prog 14 #[.pointer (some ⟨p, 0, none⟩), .string ⟨#[]⟩, .int .i64 0] w fun e w' => e = .returned (.int .i64 0) ∧ Fm w0 ((p, true, x3) :: L) R w' :=
  putE_F h s0 0 (by decide) (by decide) (by decide +kernel) (by kernel_rfl)
theorem wk4 (h : Fm w0 ((p, true, x3) :: L) R w) : Calls Try.prog 16 #[.pointer (some ⟨p, 0, none⟩)] w fun e w' => ∃ A c, e = .returned (.slice A 3 c) ∧ 3 ≤ c ∧ c ≤ maxLen ∧ Fm w0 ((p, true, x3) :: L) ((.slice A 3 c, [s0, sa, sb]) :: R) w' := list_F h
theorem wk5 {a : Value} {R' : List RowS} (h : Fm w0 ((p, true, x3) :: L) ((a, [s0, sa, sb]) :: R') w) : Calls Try.prog 18 #[a, .slice (some ⟨w.heap.size, 0, none⟩) 3 3] (w.alloc (.cells #[.string ⟨#[]⟩, .string ⟨#[97]⟩, .string ⟨#[98]⟩] 9)) fun e w' => e = .returned (.bool true) ∧ Fm w0 ((p, true, x3) :: L) ((a, [s0, sa, sb]) :: R') w' := by
  have hb := al0 w (.cells #[.string ⟨#[]⟩, .string ⟨#[97]⟩, .string ⟨#[98]⟩] 9)
  have := eq_F (h.below hb) ((h.rd (List.mem_cons_self ..)).below hb) (rdS_lit w [s0, sa, sb] rfl (by kernel_rfl) rfl (by decide) (by intro s hs; simp only [List.mem_cons, List.not_mem_nil, or_false] at hs; rcases hs with rfl | rfl | rfl <;> decide)) (by decide)
  simpa using this
theorem wk6 (h : Fm w0 ((p, true, x3) :: L) R w) : Calls Try.prog 14 #[.pointer (some ⟨p, 0, none⟩), .string ⟨#[97]⟩, .int .i64 1] w fun e w' => e = .returned (.int .i64 71) ∧ Fm w0 ((p, true, x3) :: L) R w' :=
  putE_F h sa 1 (by decide) (by decide) (by decide +kernel) (by kernel_rfl)
theorem wk7 (h : Fm w0 ((p, true, x3) :: L) R w) : Calls Try.prog 14 #[.pointer (some ⟨p, 0, none⟩), .string ⟨#[99]⟩, .int .i64 (-1)] w fun e w' => e = .returned (.int .i64 2) ∧ Fm w0 ((p, true, x3) :: L) R w' :=
  putE_F h sc (-1) (by decide) (by decide) (by decide +kernel) (by kernel_rfl)
theorem wk8 (h : Fm w0 ((p, true, x3) :: L) R w) : Calls Try.prog 22 #[.pointer (some ⟨p, 0, none⟩), .string ⟨#[97]⟩, .int .i64 9, .bool true] w fun e w' => e = .returned (.bool true) ∧ Fm w0 ((p, true, x3) :: L) R w' :=
  getsE_F h sa 9 true (by decide +kernel) (by decide +kernel)
theorem wk9 (h : Fm w0 ((p, true, x3) :: L) R w) : Calls Try.prog 22 #[.pointer (some ⟨p, 0, none⟩), .string ⟨#[99]⟩, .int .i64 0, .bool false] w fun e w' => e = .returned (.bool true) ∧ Fm w0 ((p, true, x3) :: L) R w' :=
  getsE_F h sc 0 false (by decide +kernel) (by decide +kernel)
theorem wk10 (h : Fm w0 ((p, true, x3) :: L) R w) : Calls Try.prog 17 #[.pointer (some ⟨p, 0, none⟩)] w fun e w' => e = .returned (.int .i64 3) ∧ w = w' := len_F h
end
set_option maxRecDepth 20000 in
set_option maxHeartbeats 1000000 in
theorem works_true (w : World) : Calls Try.prog 20 #[] w fun e w' => e = .returned (.bool true) ∧ Below w.heap.size w w' := by
  have HNW := Lib.hid (new_F (Fm.start (Below.refl w.heap.size w)))
  go_enter Try.func20, Try.ntmps20
  go_wp2_with (first
    | (go_at_call 9; (with_reducible refine HNW.out.mono ?_); rintro e w1 ⟨p, rfl, hs⟩; have HS := Lib.hid hs; clear hs)
    | (go_at_call 14; (with_reducible refine (wk1 HS.out).mono ?_); rintro e w3 ⟨rfl, hs⟩; clear HS; have HS := Lib.hid hs; clear hs)
    | (go_at_call 14; (with_reducible refine (wk2 HS.out).mono ?_); rintro e w3 ⟨rfl, hs⟩; clear HS; have HS := Lib.hid hs; clear hs)
    | (go_at_call 14; (with_reducible refine (wk3 HS.out).mono ?_); rintro e w3 ⟨rfl, hs⟩; clear HS; have HS := Lib.hid hs; clear hs)
    | (go_at_call 16; (with_reducible refine (wk4 HS.out).mono ?_); rintro e w3 ⟨A1, c1, rfl, -, -, hs⟩; clear HS; have HS := Lib.hid hs; clear hs)
    | (go_at_call 18; (with_reducible refine (wk5 HS.out).mono ?_); rintro e w3 ⟨rfl, hs⟩; clear HS; have HS := Lib.hid hs; clear hs)
    | (go_at_call 14; (with_reducible refine (wk6 HS.out).mono ?_); rintro e w3 ⟨rfl, hs⟩; clear HS; have HS := Lib.hid hs; clear hs)
    | (go_at_call 14; (with_reducible refine (wk7 HS.out).mono ?_); rintro e w3 ⟨rfl, hs⟩; clear HS; have HS := Lib.hid hs; clear hs)
    | (go_at_call 22; (with_reducible refine (wk8 HS.out).mono ?_); rintro e w3 ⟨rfl, hs⟩; clear HS; have HS := Lib.hid hs; clear hs)
    | (go_at_call 22; (with_reducible refine (wk9 HS.out).mono ?_); rintro e w3 ⟨rfl, hs⟩; clear HS; have HS := Lib.hid hs; clear hs)
    | (go_at_call 17; (with_reducible refine (wk10 HS.out).mono ?_); rintro e w3 ⟨rfl, rfl⟩))
  go_ret
  exact ⟨rfl, HS.out.2⟩
end Go.Proofs.Ytoenigbfcbillaa
