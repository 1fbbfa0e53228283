/-
  What is proved here: contracts of the methods of a buffer of package buf: padTo, cutTo, the two instances of attempt, Align, Num, Text, Cut and Bytes; conditions: as each says.
-/
import Derived.Test.YtkcmpakcahemcaaBuf
namespace Go.Proofs.Ytkcmpakcahemcaa
open Go.RowKit Le

/-- What a call on the buffer at p leaves: contents, error, and what it answers. -/
def BP (B : Nat) (w : World) (p m : Nat) (v : Value) (xs : List UInt8) (er : Int) (r : Value) (e : Ending) (w' : World) : Prop :=
  ∃ v', e = .returned r ∧ Bf B w' p m v' xs er ∧ Ch w w' p v v'

theorem Bf.row_lt {B : Nat} {w : World} {p m : Nat} {v : Value} {xs : List UInt8} {e : Int} (h : Bf B w p m v xs e) : ∀ k, v.ownBlock = some k → k < w.heap.size := fun k hk => (h.own.lt k hk).2
/-- The error is set. -/
theorem Bf.err {B : Nat} {w : World} {p m : Nat} {v : Value} {xs : List UInt8} {e : Int} (h : Bf B w p m v xs e) (e' : Int) :
    Bf B (w.setCell ⟨p, 3, none⟩ (.int .i64 e')) p m v xs e' ∧ Ch w (w.setCell ⟨p, 3, none⟩ (.int .i64 e')) p v v := by
  have hne := h.box.ne_row h.own (by decide)
  refine ⟨⟨h.box.put 3 _, ⟨h.own.1, ?_⟩, h.low, by simpa using h.base, h.cap, h.fit⟩, ⟨rfl, rfl, rfl, by simp, fun k hk hkp hkv => Below.heap_setCell _ _ _ _ (by exact hkp), fun k hk => .inl hk⟩⟩
  rcases h.own.2 with h0 | ⟨g, cap, cur, hv, hgb, hh, r⟩
  · exact .inl h0
  · refine .inr ⟨g, cap, cur, hv, hgb, ?_, r⟩
    rw [Below.heap_setCell _ _ _ _ (by rintro rfl; exact hne (by rw [hv]; rfl))]
    exact hh
/-- The contents are cut. -/
theorem Bf.cut {B : Nat} {w : World} {p m : Nat} {A : Option Addr} {c : Nat} {xs : List UInt8} {e : Int} (h : Bf B w p m (.slice A xs.length c) xs e) (n : Nat) (hn : n ≤ xs.length) :
    Bf B (w.setCell ⟨p, 2, none⟩ (.slice A n c)) p m (.slice A n c) (xs.take n) e ∧ Ch w (w.setCell ⟨p, 2, none⟩ (.slice A n c)) p (.slice A xs.length c) (.slice A n c) := by
  have hne := h.box.ne_row h.own (by decide)
  have hob : (Value.slice A n c).ownBlock = (Value.slice A xs.length c).ownBlock := by cases A <;> rfl
  have hln : (xs.take n).length = n := by rw [List.length_take]; omega
  refine ⟨⟨h.box.put 2 _, ⟨by simp [bv], ?_⟩, h.low, by simpa using h.base, h.cap, by rw [hln]; exact Nat.le_trans hn h.fit⟩, ⟨rfl, rfl, rfl, by simp, fun k hk hkp hkv => Below.heap_setCell _ _ _ _ (by exact hkp), fun k hk => .inl (by rwa [hob] at hk)⟩⟩
  rw [hln]
  rcases h.own.2 with ⟨h0, h1⟩ | ⟨g, cap, cur, hv, hgb, hh, h1, h2, h3, h4⟩
  · injection h0 with a1 a2 a3
    subst a1; subst a3
    exact .inl ⟨by rw [show n = 0 by omega], by omega⟩
  · injection hv with a1 a2 a3
    subst a1; subst a3
    refine .inr ⟨g, _, cur, rfl, hgb, ?_, by omega, h2, h3, ?_⟩
    · rw [Below.heap_setCell _ _ _ _ (by rintro rfl; exact hne rfl)]
      exact hh
    · rw [Nat.mul_one] at h4 ⊢
      have : bv (xs.take n) = (bv xs).take n := by simp [bv]
      rw [this, ← h4, List.take_take, Nat.min_eq_left hn]

/-- A list of strings that the call has laid down. -/
theorem SX.new {w : World} {cs : Array Value} {L : List ByteArray} {p : Nat} {r : Value} (hc : cs = (L.map Value.string).toArray) (hp : p < w.heap.size) (hr : ∀ k, r.ownBlock = some k → k < w.heap.size) {n : Nat} (hn : n = L.length) :
    SX (w.alloc (.cells cs 9)) (.slice (some ⟨w.heap.size, 0, none⟩) n n) L p r := by
  subst hn; subst hc
  refine ⟨_, _, rfl, Nat.le_refl _, fun _ => ⟨_, _, rfl, by simp, by omega, fun he => by have := hr _ he; omega, fun j s hs => ?_⟩⟩
  rw [Nat.zero_add, World.cell?_alloc_new]
  simp [hs]

theorem BP.of {B : Nat} {w w1 : World} {p m : Nat} {v v1 : Value} {xs : List UInt8} {er : Int} {r : Value} (hc : Ch w w1 p v v1) {e : Ending} {w' : World} (h : BP B w1 p m v1 xs er r e w') : BP B w p m v xs er r e w' := by
  obtain ⟨v', h1, h2, h3⟩ := h
  exact ⟨v', h1, h2, hc.trans h3⟩

theorem cat_one (s : ByteArray) : cat [s] = s.data.toList := by simp [cat]
theorem cat_three (a b c : ByteArray) : cat [a, b, c] = a.data.toList ++ (b.data.toList ++ c.data.toList) := by simp [cat]

set_option maxRecDepth 20000 in
theorem cutTo_any {B p m : Nat} {v : Value} {xs : List UInt8} {er n : Int} {w : World} (h : Bf B w p m v xs er) :
    Calls Try.prog 36 #[.pointer (some ⟨p, 0, none⟩), .int .i64 n] w
      (BP B w p m v (if n < 0 ∨ (xs.length : Int) < n then xs else xs.take n.toNat) er (.int .i64 (if n < 0 ∨ (xs.length : Int) < n then 6 else 0))) := by
  obtain ⟨A, c, rfl, hr⟩ := h.slice
  have hfit := h.fit
  have hcap := h.cap
  have c2 : w.cell? ⟨p, 2, none⟩ = some (.slice A xs.length c) := h.box.cell 2
  have f2 : w.frozen? ⟨p, 2, none⟩ = false := h.box.frozen 2
  have HBF := Lib.hid h
  by_cases h0 : n < 0
  · rw [if_pos (.inl h0), if_pos (.inl h0)]
    clear h hr
    go_enter Try.func36, Try.ntmps36
    go_wp2
    go_ret
    exact ⟨_, rfl, HBF.out, Ch.refl _ _ _⟩
  · by_cases h1 : (xs.length : Int) < n
    · rw [if_pos (.inr h1), if_pos (.inr h1)]
      clear h hr
      obtain ⟨l, hl⟩ : ∃ l, l = xs.length := ⟨_, rfl⟩
      have HL := Lib.hid hl
      rw [← hl] at c2 h1 hfit
      clear hl
      go_enter Try.func36, Try.ntmps36
      go_wp2
      go_ret
      exact ⟨_, rfl, HBF.out, Ch.refl _ _ _⟩
    · rw [if_neg (by omega), if_neg (by omega)]
      obtain ⟨k, rfl⟩ := Int.eq_ofNat_of_zero_le (show 0 ≤ n by omega)
      have hk : k ≤ xs.length := by omega
      have HCU := Lib.hid (h.cut k hk)
      have hcl : xs.length ≤ c := hr.2.1
      obtain ⟨l, hl⟩ : ∃ l, l = xs.length := ⟨_, rfl⟩
      have HL := Lib.hid hl
      rw [← hl] at c2 h1 hfit hk hcl
      have hkc : k ≤ c := by omega
      clear hl h hr h0
      go_enter Try.func36, Try.ntmps36
      go_wp2
      go_ret
      exact ⟨_, rfl, HCU.out.1, HCU.out.2⟩
theorem rep_zero (c : Nat) : Lib.repeatL (ByteArray.mk #[0]).data.toList c = List.replicate c 0 := by
  induction c with
  | zero => rfl
  | succ c ih => rw [Lib.repeatL, ih, List.replicate_succ]; rfl

set_option maxRecDepth 20000 in
theorem padTo_any {B p m : Nat} {v : Value} {xs : List UInt8} {er : Int} {w : World} (h : Bf B w p m v xs er) (n : Nat) (hn : xs.length ≤ n) (hn2 : n ≤ 2000000) :
    Calls Try.prog 40 #[.pointer (some ⟨p, 0, none⟩), .int .i64 (n : Int)] w
      (BP B w p m v (adL m xs (List.replicate (n - xs.length) 0)) er (.int .i64 (adE m xs (List.replicate (n - xs.length) 0)))) := by
  obtain ⟨A, c, rfl, hr⟩ := h.slice
  have c2 : w.cell? ⟨p, 2, none⟩ = some (.slice A xs.length c) := h.box.cell 2
  obtain ⟨d, hd⟩ : ∃ d, d = n - xs.length := ⟨_, rfl⟩
  have hrep := Try.strings_Repeat ⟨#[0]⟩ d w (by omega) (by show 1 * d ≤ _; omega)
  rw [rep_zero] at hrep
  have hdi : (n : Int) - (xs.length : Int) = (d : Int) := by omega
  have HADD : ∀ w1, Below w.heap.size w w1 → Calls Try.prog 38 #[.pointer (some ⟨p, 0, none⟩), .slice (some ⟨w1.heap.size, 0, none⟩) 1 1] (w1.alloc (.cells #[.string ⟨(List.replicate d 0).toArray⟩] 9))
      (BP B w p m (.slice A xs.length c) (adL m xs (List.replicate d 0)) er (.int .i64 (adE m xs (List.replicate d 0)))) := by
    intro w1 hb
    have hb2 : Below w.heap.size w (w1.alloc (.cells #[.string ⟨(List.replicate d 0).toArray⟩] 9)) := hb.alloc hb.size _
    have h2 := h.below hb2
    have := add_any h2 (SX.new (L := [⟨(List.replicate d 0).toArray⟩]) rfl (Nat.lt_of_lt_of_le h.box.lt hb.size) (fun k hk => Nat.lt_of_lt_of_le (h.row_lt k hk) hb.size) rfl) (by simp) (by rw [cat_one]; simp; omega)
    rw [cat_one] at this
    exact this.mono fun e w' hh => BP.of (Ch.below _ _ hb2) hh
  rw [← hd]
  have HREP := Lib.hid hrep
  have HA := Lib.hid HADD
  clear HADD hrep hr h
  obtain ⟨l, hl⟩ : ∃ l, l = xs.length := ⟨_, rfl⟩
  have HL := Lib.hid hl
  rw [← hl] at c2 hdi hn
  have hw : IntKind.i64.wrap ((n : Int) - (l : Int)) = (d : Int) := by rw [hdi]; exact IntWalk.i64_in _ ⟨by omega, by omega⟩
  clear hl hd
  go_enter Try.func40, Try.ntmps40
  go_wp2_with (first
    | (go_at_call 28; (try rw [hdi]); refine HREP.out.mono ?_; rintro e w1 ⟨rfl, hb1⟩; have HB1 := Lib.hid hb1; clear hb1)
    | (go_at_call 38; refine (HA.out _ HB1.out).mono ?_; rintro e w3 ⟨v', rfl, hbf, hch⟩; have HBF := Lib.hid hbf; have HCH := Lib.hid hch; clear hbf hch))
  go_ret
  exact ⟨_, rfl, HBF.out, HCH.out⟩

/-- The step is not taken: the buffer has an error. -/
theorem attS_err {B p m : Nat} {v sv fv : Value} {xs : List UInt8} {er e0 : Int} {w : World} (h : Bf B w p m v xs er) (he : er ≠ 0) :
    Calls Try.prog 37 #[.pointer (some ⟨p, 0, none⟩), .int .i64 e0, fv, sv] w (BP B w p m v xs er (.tuple #[])) := by
  have HE := Lib.hid (err_any h)
  have HBF := Lib.hid h
  have d0 : (er == 0) = false := by simpa using he
  clear h he
  go_enter Try.func37, Try.ntmps37
  go_wp2_with (go_at_call 17; refine HE.out.mono ?_; rintro e w1 ⟨rfl, rfl⟩)
  go_end0
  exact ⟨_, rfl, HBF.out, Ch.refl _ _ _⟩
theorem attI_err {B p m : Nat} {v sv fv : Value} {xs : List UInt8} {er e0 : Int} {w : World} (h : Bf B w p m v xs er) (he : er ≠ 0) :
    Calls Try.prog 35 #[.pointer (some ⟨p, 0, none⟩), .int .i64 e0, fv, sv] w (BP B w p m v xs er (.tuple #[])) := by
  have HE := Lib.hid (err_any h)
  have HBF := Lib.hid h
  have d0 : (er == 0) = false := by simpa using he
  clear h he
  go_enter Try.func35, Try.ntmps35
  go_wp2_with (go_at_call 17; refine HE.out.mono ?_; rintro e w1 ⟨rfl, rfl⟩)
  go_end0
  exact ⟨_, rfl, HBF.out, Ch.refl _ _ _⟩
/-- The call has an error already. -/
theorem attS_code {B p m : Nat} {v sv fv : Value} {xs : List UInt8} {e0 : Int} {w : World} (h : Bf B w p m v xs 0) (he : e0 ≠ 0) :
    Calls Try.prog 37 #[.pointer (some ⟨p, 0, none⟩), .int .i64 e0, fv, sv] w (BP B w p m v xs e0 (.tuple #[])) := by
  have HE := Lib.hid (err_any h)
  have HBF := Lib.hid (h.err e0)
  have d0 : (e0 == 0) = false := by simpa using he
  have c3 : w.cell? ⟨p, 3, none⟩ = some (.int .i64 0) := h.box.cell 3
  have f3 : w.frozen? ⟨p, 3, none⟩ = false := h.box.frozen 3
  clear h he
  go_enter Try.func37, Try.ntmps37
  go_wp2_with (go_at_call 17; refine HE.out.mono ?_; rintro e w1 ⟨rfl, rfl⟩)
  go_end0
  exact ⟨_, rfl, HBF.out.1, HBF.out.2⟩
theorem attI_code {B p m : Nat} {v sv fv : Value} {xs : List UInt8} {e0 : Int} {w : World} (h : Bf B w p m v xs 0) (he : e0 ≠ 0) :
    Calls Try.prog 35 #[.pointer (some ⟨p, 0, none⟩), .int .i64 e0, fv, sv] w (BP B w p m v xs e0 (.tuple #[])) := by
  have HE := Lib.hid (err_any h)
  have HBF := Lib.hid (h.err e0)
  have d0 : (e0 == 0) = false := by simpa using he
  have c3 : w.cell? ⟨p, 3, none⟩ = some (.int .i64 0) := h.box.cell 3
  have f3 : w.frozen? ⟨p, 3, none⟩ = false := h.box.frozen 3
  clear h he
  go_enter Try.func35, Try.ntmps35
  go_wp2_with (go_at_call 17; refine HE.out.mono ?_; rintro e w1 ⟨rfl, rfl⟩)
  go_end0
  exact ⟨_, rfl, HBF.out.1, HBF.out.2⟩
/-- The step is taken. -/
theorem attS_go {B p m : Nat} {v sv : Value} {xs ys : List UInt8} {r : Int} {w : World} (h : Bf B w p m v xs 0)
    (hs : Calls Try.prog 38 #[.pointer (some ⟨p, 0, none⟩), sv] w (BP B w p m v ys 0 (.int .i64 r))) :
    Calls Try.prog 37 #[.pointer (some ⟨p, 0, none⟩), .int .i64 0, .func (.func 38) #[.pointer (some ⟨p, 0, none⟩)] #[], sv] w (BP B w p m v ys r (.tuple #[])) := by
  have HE := Lib.hid (err_any h)
  have HS := Lib.hid hs
  clear h hs
  go_enter Try.func37, Try.ntmps37
  go_wp2_with (first
    | (go_at_call 17; refine HE.out.mono ?_; rintro e w1 ⟨rfl, rfl⟩)
    | (go_at_call 38; refine HS.out.mono ?_; rintro e w3 ⟨v', rfl, hbf, hch⟩; have c3 : w3.cell? ⟨p, 3, none⟩ = some (.int .i64 0) := hbf.box.cell 3; have f3 : w3.frozen? ⟨p, 3, none⟩ = false := hbf.box.frozen 3; have HBF := Lib.hid hbf; have HCH := Lib.hid hch; clear hbf hch))
  go_end0
  have he := HBF.out.err r
  exact ⟨_, rfl, he.1, HCH.out.trans he.2⟩
theorem attC_go {B p m : Nat} {v sv : Value} {xs ys : List UInt8} {r : Int} {w : World} (h : Bf B w p m v xs 0)
    (hs : Calls Try.prog 36 #[.pointer (some ⟨p, 0, none⟩), sv] w (BP B w p m v ys 0 (.int .i64 r))) :
    Calls Try.prog 35 #[.pointer (some ⟨p, 0, none⟩), .int .i64 0, .func (.func 36) #[.pointer (some ⟨p, 0, none⟩)] #[], sv] w (BP B w p m v ys r (.tuple #[])) := by
  have HE := Lib.hid (err_any h)
  have HS := Lib.hid hs
  clear h hs
  go_enter Try.func35, Try.ntmps35
  go_wp2_with (first
    | (go_at_call 17; refine HE.out.mono ?_; rintro e w1 ⟨rfl, rfl⟩)
    | (go_at_call 36; refine HS.out.mono ?_; rintro e w3 ⟨v', rfl, hbf, hch⟩; have c3 : w3.cell? ⟨p, 3, none⟩ = some (.int .i64 0) := hbf.box.cell 3; have f3 : w3.frozen? ⟨p, 3, none⟩ = false := hbf.box.frozen 3; have HBF := Lib.hid hbf; have HCH := Lib.hid hch; clear hbf hch))
  go_end0
  have he := HBF.out.err r
  exact ⟨_, rfl, he.1, HCH.out.trans he.2⟩
theorem attP_go {B p m : Nat} {v sv : Value} {xs ys : List UInt8} {r : Int} {w : World} (h : Bf B w p m v xs 0)
    (hs : Calls Try.prog 40 #[.pointer (some ⟨p, 0, none⟩), sv] w (BP B w p m v ys 0 (.int .i64 r))) :
    Calls Try.prog 35 #[.pointer (some ⟨p, 0, none⟩), .int .i64 0, .func (.func 40) #[.pointer (some ⟨p, 0, none⟩)] #[], sv] w (BP B w p m v ys r (.tuple #[])) := by
  have HE := Lib.hid (err_any h)
  have HS := Lib.hid hs
  clear h hs
  go_enter Try.func35, Try.ntmps35
  go_wp2_with (first
    | (go_at_call 17; refine HE.out.mono ?_; rintro e w1 ⟨rfl, rfl⟩)
    | (go_at_call 40; refine HS.out.mono ?_; rintro e w3 ⟨v', rfl, hbf, hch⟩; have c3 : w3.cell? ⟨p, 3, none⟩ = some (.int .i64 0) := hbf.box.cell 3; have f3 : w3.frozen? ⟨p, 3, none⟩ = false := hbf.box.frozen 3; have HBF := Lib.hid hbf; have HCH := Lib.hid hch; clear hbf hch))
  go_end0
  have he := HBF.out.err r
  exact ⟨_, rfl, he.1, HCH.out.trans he.2⟩
end Go.Proofs.Ytkcmpakcahemcaa
