/-
  What is proved here: StackLooks returns true and leaves all memory that was there as it was; condition: the argument reads as a list of values.
-/
import Derived.Test.YtefgehjkankigaaWorks
namespace Go.Proofs.Ytefgehjkankigaa
open Go.RowKit

theorem Rd.len {w : World} {A : Option Addr} {m c : Nat} {zs : List V3} (h : Rd w (.slice A m c) zs) : zs.length = m ∧ m ≤ c ∧ c ≤ 9223372036854775807 := by
  obtain ⟨A', m', c', e, hr⟩ := h
  injection e with e1 e2 e3
  subst e1; subst e2; subst e3
  exact ⟨hr.1, hr.2.1, hr.2.2.1⟩
theorem Fm.own {w0 w : World} {p : Nat} {k : Bool} {xs zs : List V3} {T : Option (Nat × Bool × List V3)} {R : List (Value × List V3)} {a : Value} (h : Fm w0 p k xs T R w) (hr : (a, zs) ∈ R) : OV w w0.heap.size a zs := by
  obtain ⟨⟨v, u, h1, h2, h3, h4, h5⟩, h0⟩ := h
  exact (h5 _ hr).1
theorem Fm.fit {w0 w : World} {p : Nat} {k : Bool} {xs : List V3} {T : Option (Nat × Bool × List V3)} {R : List (Value × List V3)} (h : Fm w0 p k xs T R w) : xs.length ≤ 65536 := by obtain ⟨v, hv⟩ := h.fst; exact hv.fit
theorem Fm.alloc {w0 w : World} {p : Nat} {k : Bool} {xs : List V3} {T : Option (Nat × Bool × List V3)} {R : List (Value × List V3)} (h : Fm w0 p k xs T R w) (o : Obj) : Fm w0 p k xs T R (w.alloc o) := h.below (al0 w o)
theorem newF_any {w0 w : World} (hb : Below w0.heap.size w0 w) : Calls Try.prog 9 #[] w fun e w' => ∃ p, e = .returned (.pointer (some ⟨p, 0, none⟩)) ∧ Fm w0 p true [] none [] w' := by
  refine (new_any w).mono ?_
  rintro e w' ⟨rfl, rfl⟩
  exact ⟨_, rfl, Fm.new hb true⟩
theorem pushB_F {w0 w : World} {p : Nat} {xs zs : List V3} {T : Option (Nat × Bool × List V3)} {R : List (Value × List V3)} {a : Value} (h : Fm w0 p true xs T R w) (ha : Rd w a zs) (hf : xs.length + zs.length ≤ 65536) :
    Calls Try.prog 17 #[.pointer (some ⟨p, 0, none⟩), a] w fun e w' => e = .returned (.int .i64 0) ∧ Fm w0 p true (xs ++ zs) T R w' := by
  have := push_F h ha
  rw [(psh_in hf).1, (psh_in hf).2] at this
  exact this
theorem works_F {w0 w : World} {p : Nat} {k : Bool} {xs : List V3} {T : Option (Nat × Bool × List V3)} {R : List (Value × List V3)} (h : Fm w0 p k xs T R w) : Calls Try.prog 22 #[] w fun e w' => e = .returned (.bool true) ∧ Fm w0 p k xs T R w' :=
  (works_true w).mono fun _ _ ⟨h1, h2⟩ => ⟨h1, h.below h2⟩

/-- A slice expression x[k:] of a row of one's own, as the walk leaves it. -/
theorem OV.sl {w : World} {B : Nat} {A : Option Addr} {n c : Nat} {xs : List V3} (h : OV w B (.slice A n c) xs) {k : Nat} (hk : k ≤ n) :
    Rd w (.slice (if c = k then A else A.map (fun x => x.add (k * 3))) (n - k) (c - k)) (xs.drop k) := by
  obtain ⟨A', c', e, hc1, hc2, hfr⟩ := h.from k (by have := h.rd.len.1; omega)
  injection e with e1 e2 e3
  subst e1; subst e2; subst e3
  rcases hfr with ⟨rfl, hx, rfl, rfl⟩ | ⟨g, rfl, ⟨rfl, hl⟩ | ⟨hcn, hrd⟩⟩
  · subst hx; exact Rd.nil w
  · rw [if_pos rfl, hl, Nat.sub_self, List.drop_of_length_le (by omega)]
    exact (Rs.nil w _ 0 (Nat.zero_le _)).rd
  · rw [if_neg hcn]
    have e : (some (⟨g, 0, none⟩ : Addr)).map (fun x => x.add (k * 3)) = some ⟨g, k * 3, none⟩ := by
      unfold Addr.add
      by_cases h0 : k * 3 = 0 <;> simp [h0]
    rw [e]
    exact hrd

set_option maxRecDepth 20000 in
set_option maxHeartbeats 1000000 in
theorem stackLooks_walk (l : List V3) (v : Value) (start : Int) (w : World) (h : Rd w v l) (h0 : -9223372036854775808 ≤ start) (h1 : start ≤ 9223372036854775807) :
    Calls Try.prog 6 #[v, .int .i64 start] w fun e w' => e = .returned (.bool true) ∧ Below w.heap.size w w' := by
  have HV := Lib.hid h
  have HB0 := Lib.hid (Below.refl w.heap.size w)
  obtain ⟨ys, hys⟩ : ∃ ys, l.take 30 = ys := ⟨_, rfl⟩
  have hy30 : ys.length ≤ 30 := by rw [← hys, List.length_take]; omega
  have HFEW : Hid (∀ p W, Hid (Fm w p true [] none [] W) → Calls Try.prog 16 #[v] W fun e w' => ∃ A m c, e = .returned (.slice A m c) ∧ Fm w p true [] none [(.slice A m c, ys)] w') := Lib.hid fun p W H => by
    have := few_F H.out (HV.out.below H.out.2)
    rw [hys] at this; exact this
  have HY30 := Lib.hid hy30
  clear h hys hy30
  go_enter Try.func6, Try.ntmps6
  go_upto_region 2 with (go_at_call 9; (with_reducible refine (newF_any HB0.out).mono ?_); rintro e w1 ⟨p, rfl, hs⟩; have HS := Lib.hid hs; clear hs)
  go_upto_region 3 with (go_at_call 16; (with_reducible refine (HFEW.out _ _ HS).mono ?_); rintro e w2 ⟨A, m, c, rfl, hs⟩; obtain ⟨hm, hmc, hcm⟩ := (hs.rd (by simp) : Rd w2 (.slice A m c) ys).len; have HM := Lib.hid hm; have hm30 : m ≤ 30 := (by rw [← hm]; exact HY30.out); clear hm HS; have HS := Lib.hid hs; clear hs)
  have HPU : Hid (∀ W, Hid (Fm w p true [] none [(.slice A m c, ys)] W) → Calls Try.prog 17 #[.pointer (some ⟨p, 0, none⟩), .slice A m c] W fun e w' => e = .returned (.int .i64 0) ∧ Fm w p true ys none [(.slice A m c, ys)] w') :=
    Lib.hid fun W H => pushB_F H.out (H.out.rd (by simp)) (by have := HY30.out; simp; omega)
  have HBR : Hid (∀ W, Calls Try.prog 11 #[.int .i64 start, .int .i64 ((m : Int) + 1)] W fun e w' => e = .returned (.int .i64 (start % ((m : Int) + 1))) ∧ W = w') := Lib.hid fun W => bring_any start ((m : Int) + 1) W h0 h1 (by omega) (by omega)
  have hk0 := Int.emod_nonneg start (show (m : Int) + 1 ≠ 0 by omega)
  have hk1 := Int.emod_lt_of_pos start (show 0 < (m : Int) + 1 by omega)
  obtain ⟨k, hk⟩ := Int.eq_ofNat_of_zero_le hk0
  rw [hk] at HBR hk1
  have hkm : k ≤ m := by omega
  clear h0 h1 hk0 hk1 hk HFEW
  have HF1 : Hid (∀ W R, Hid (Fm w p true ys none R W) → Calls Try.prog 14 #[.pointer (some ⟨p, 0, none⟩), .int .i64 (k : Int)] W fun e w' => ∃ A m c, e = .returned (.tuple #[.slice A m c, .int .i64 0]) ∧ Fm w p true ys none ((.slice A m c, ys.drop k) :: R) w') :=
    Lib.hid fun W R H => fromE_F H.out _ (rng_in ⟨by omega, by have := HM.out; omega⟩).2.2.2 (rng_in (n := (k : Int)) ⟨by omega, by have := HM.out; omega⟩).2.2.1
  have HF2 : Hid (∀ W R, Hid (Fm w p true ys none R W) → Calls Try.prog 14 #[.pointer (some ⟨p, 0, none⟩), .int .i64 0] W fun e w' => ∃ A m c, e = .returned (.tuple #[.slice A m c, .int .i64 0]) ∧ Fm w p true ys none ((.slice A m c, ys) :: R) w') :=
    Lib.hid fun W R H => fromE_F H.out _ (rng_in ⟨by omega, by omega⟩).2.2.2 (rng_in (n := 0) ⟨by omega, by omega⟩).2.2.1
  have HF3 : Hid (∀ W R, Hid (Fm w p true ys none R W) → Calls Try.prog 14 #[.pointer (some ⟨p, 0, none⟩), .int .i64 ((m : Int) + 1 + (k : Int))] W fun e w' => ∃ A m c, e = .returned (.tuple #[.slice A m c, .int .i64 140]) ∧ Fm w p true ys none ((.slice A m c, []) :: R) w') :=
    Lib.hid fun W R H => fromE_F H.out _ (rng_out (fun h => by have := h.2; have := HM.out; omega)).2.2.2 (rng_out (n := (m : Int) + 1 + (k : Int)) (fun h => by have := h.2; have := HM.out; omega)).2.2.1
  go_upto_region 6 with (first
    | (go_at_call 17; (with_reducible refine (HPU.out _ HS).mono ?_); rintro e w3 ⟨rfl, hs⟩; clear HS; have HS := Lib.hid hs; clear hs)
    | (go_at_call 11; (with_reducible refine (HBR.out _).mono ?_); rintro e w4 ⟨rfl, rfl⟩))
  clear HPU HBR
  go_upto_region 7 with (go_at_call 14; (with_reducible refine (HF1.out _ _ HS).mono ?_); rintro e w4 ⟨A1, m1, c1, rfl, hs⟩; clear HS; have HS := Lib.hid hs; clear hs)
  go_upto_region 8 with (go_at_call 14; (with_reducible refine (HF2.out _ _ HS).mono ?_); rintro e w5 ⟨A2, m2, c2, rfl, hs⟩; clear HS; have HS := Lib.hid hs; clear hs)
  go_upto_region 9 with (go_at_call 14; (with_reducible refine (HF3.out _ _ HS).mono ?_); rintro e w6 ⟨A3, m3, c3, rfl, hs⟩; clear HS; have HS := Lib.hid hs; clear hs)
  clear HF1 HF2 HF3
  have hown := HS.out.own (a := .slice A m c) (zs := ys) (by simp)
  have HR := Lib.hid (hown.sl hkm)
  have hd30 : Hid ((ys.drop k).length ≤ 100000) := Lib.hid (by rw [List.length_drop]; have := HY30.out; omega)
  have HAR : Hid (∀ b, Rd w6 b (ys.drop k) → Calls Try.prog 23 #[.slice A1 m1 c1, .int .i64 0, .int .i64 0, b] w6 fun e w' => e = .returned (.bool true) ∧ Fm w p true ys none [(.slice A3 m3 c3, []), (.slice A2 m2 c2, ys), (.slice A1 m1 c1, List.drop k ys), (.slice A m c, ys)] w') :=
    Lib.hid fun b hb => are_F HS.out (HS.out.rd (by simp)) hb hd30.out
  have HAR2 : Hid (∀ W, Hid (Fm w p true ys none [(.slice A3 m3 c3, []), (.slice A2 m2 c2, ys), (.slice A1 m1 c1, List.drop k ys), (.slice A m c, ys)] W) → Calls Try.prog 23 #[.slice A2 m2 c2, .int .i64 0, .int .i64 0, .slice A m c] W fun e w' => e = .returned (.bool true) ∧ Fm w p true ys none [(.slice A3 m3 c3, []), (.slice A2 m2 c2, ys), (.slice A1 m1 c1, List.drop k ys), (.slice A m c, ys)] w') :=
    Lib.hid fun W H => are_F H.out (H.out.rd (zs := ys) (by simp)) (H.out.rd (by simp)) (by have := HY30.out; omega)
  have HLE : Hid (∀ W R, Hid (Fm w p true ys none R W) → Calls Try.prog 21 #[.pointer (some ⟨p, 0, none⟩)] W fun e w' => e = .returned (.int .i64 (m : Int)) ∧ W = w') := Lib.hid fun W R H => lenE_F H.out HM.out
  clear hown hd30
  by_cases hck : c = k
  · have HR0 := Lib.hid HR.out
    rw [if_pos hck, show c - k = 0 by omega, show m - k = 0 by omega] at HR0
    subst hck
    go_wp2_with (first
      | (go_at_call 23; (with_reducible refine (HAR.out _ HR0.out).mono ?_); rintro e w7 ⟨rfl, hs⟩; clear HS; have HS := Lib.hid hs; clear hs)
      | (go_at_call 23; (with_reducible refine (HAR2.out _ HS).mono ?_); rintro e w8 ⟨rfl, hs⟩; clear HS; have HS := Lib.hid hs; clear hs)
      | (go_at_call 21; (with_reducible refine (HLE.out _ _ HS).mono ?_); rintro e w9 ⟨rfl, rfl⟩)
      | (go_at_call 22; (with_reducible refine (works_F HS.out).mono ?_); rintro e w9 ⟨rfl, hs⟩; clear HS; have HS := Lib.hid hs; clear hs))
    go_ret
    exact ⟨rfl, HS.out.2⟩
  · have HR0 := Lib.hid HR.out
    rw [if_neg hck] at HR0
    go_wp2_with (first
      | (go_at_call 23; (with_reducible refine (HAR.out _ HR0.out).mono ?_); rintro e w7 ⟨rfl, hs⟩; clear HS; have HS := Lib.hid hs; clear hs)
      | (go_at_call 23; (with_reducible refine (HAR2.out _ HS).mono ?_); rintro e w8 ⟨rfl, hs⟩; clear HS; have HS := Lib.hid hs; clear hs)
      | (go_at_call 21; (with_reducible refine (HLE.out _ _ HS).mono ?_); rintro e w9 ⟨rfl, rfl⟩)
      | (go_at_call 22; (with_reducible refine (works_F HS.out).mono ?_); rintro e w9 ⟨rfl, hs⟩; clear HS; have HS := Lib.hid hs; clear hs))
    go_ret
    exact ⟨rfl, HS.out.2⟩
end Go.Proofs.Ytefgehjkankigaa
