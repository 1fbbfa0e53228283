/-
  What is proved here: one stack, or two, with rows of the call's own that lie apart from them, as a law of layer 14 works on them, and contracts of all functions over it; no condition but those that each fact states.
-/
import Derived.Test.YtefgehjkankigaaLw
namespace Go.Proofs.Ytefgehjkankigaa
open Go.RowKit

theorem bring_any (t n : Int) (w : World) (h0 : -9223372036854775808 ≤ t) (h1 : t ≤ 9223372036854775807) (hn : 1 ≤ n) (hn2 : n ≤ 100000) :
    Calls Try.prog 11 #[.int .i64 t, .int .i64 n] w fun e w' => e = .returned (.int .i64 (t % n)) ∧ w = w' := by
  have d0 : (n == 0) = false := by simp; omega
  by_cases h : t < 0
  · obtain ⟨r, hr⟩ : ∃ r, t.tmod n = r := ⟨_, rfl⟩
    obtain ⟨k, rfl⟩ : ∃ k : Int, t = -k := ⟨-t, by omega⟩
    have e1 : r = -(k % n) := by rw [← hr, Int.neg_tmod, Int.tmod_eq_emod_of_nonneg (by omega)]
    have b0 := Int.emod_nonneg k (show n ≠ 0 by omega)
    have b1 := Int.emod_lt_of_pos k (show 0 < n by omega)
    by_cases hz : r = 0
    · have hz' : k % n = 0 := by omega
      have e2 : -k % n = 0 := Int.emod_eq_zero_of_dvd (Int.dvd_neg.2 (Int.dvd_of_emod_eq_zero hz'))
      rw [e2]
      rw [hz] at hr
      clear e1 b0 b1 hz hz' e2
      go_enter Try.func11, Try.ntmps11
      go_wp2
      go_ret
      exact ⟨rfl, rfl⟩
    · have hneg : r < 0 := by omega
      have e2 : -k % n = r + n := by
        have e3 : -k = (r + n) + n * (-(k / n) - 1) := by
          have := Int.mul_ediv_add_emod k n
          rw [e1, Int.mul_sub, Int.mul_neg]
          omega
        rw [e3, Int.add_mul_emod_self_left, Int.emod_eq_of_lt (by omega) (by omega)]
      rw [e2]
      have g0 : -100000 ≤ r := by omega
      clear e1 b0 b1 hz e2 h0 h1 h
      go_enter Try.func11, Try.ntmps11
      go_wp2
      go_ret
      exact ⟨rfl, rfl⟩
  · have h' : 0 ≤ t := by omega
    have b0 := Int.emod_nonneg t (show n ≠ 0 by omega)
    have d1 : decide (t % n < 0) = false := by simp; omega
    have e1 : t.tmod n = t % n := Int.tmod_eq_emod_of_nonneg h'
    clear h h0 h1
    go_enter Try.func11, Try.ntmps11
    go_wp2
    go_ret
    exact ⟨rfl, rfl⟩

/-- Two rows lie in other blocks. -/
def Ap (a b : Value) : Prop := ∀ k, a.ownBlock = some k → b.ownBlock ≠ some k
theorem Ap.symm {a b : Value} (h : Ap a b) : Ap b a := fun k hk he => h k he hk
theorem Ap.nil (a : Value) : Ap a (.slice none 0 0) := fun k _ => by simp [Value.ownBlock]
theorem Ap.lt {a b : Value} {n : Nat} (ha : ∀ k, a.ownBlock = some k → k < n) (hb : ∀ k, b.ownBlock = some k → n ≤ k) : Ap a b := fun k hk he => by
  have := ha k hk; have := hb k he; omega
/-- The stack at p, perhaps a second one, and rows R beside them. -/
def Fm (w0 : World) (p : Nat) (k : Bool) (xs : List V3) (T : Option (Nat × Bool × List V3)) (R : List (Value × List V3)) (w : World) : Prop :=
  (∃ v u, Sk w0.heap.size w p k v xs ∧ Ap v u ∧ (∀ q l ys, T = some (q, l, ys) → p ≠ q ∧ Sk w0.heap.size w q l u ys) ∧ (T = none → u = .slice none 0 0) ∧
    ∀ r ∈ R, OV w w0.heap.size r.1 r.2 ∧ Ap r.1 v ∧ Ap r.1 u) ∧ Below w0.heap.size w0 w
section
variable {w0 w w' : World} {p q : Nat} {k l : Bool} {xs ys zs : List V3} {T : Option (Nat × Bool × List V3)} {R : List (Value × List V3)}
theorem Fm.below (h : Fm w0 p k xs T R w) (hb : Below w.heap.size w w') : Fm w0 p k xs T R w' := by
  obtain ⟨⟨v, u, h1, h2, h3, h4, h5⟩, h0⟩ := h
  exact ⟨⟨v, u, h1.below hb, h2, fun q l ys e => ⟨(h3 q l ys e).1, (h3 q l ys e).2.below hb⟩, h4, fun r hr => ⟨(h5 r hr).1.below hb, (h5 r hr).2⟩⟩, h0.trans (hb.mono h0.size)⟩
theorem Fm.drewN (h : Fm w0 p k xs T R w) (n : Nat) : Fm w0 p k xs T R (w.drewN n) := h.below ⟨rfl, rfl, rfl, Nat.le_refl _, fun _ _ => rfl⟩
theorem Fm.sub {R' : List (Value × List V3)} (h : Fm w0 p k xs T R w) (hs : ∀ r ∈ R', r ∈ R) : Fm w0 p k xs T R' w := by
  obtain ⟨⟨v, u, h1, h2, h3, h4, h5⟩, h0⟩ := h
  exact ⟨⟨v, u, h1, h2, h3, h4, fun r hr => h5 r (hs r hr)⟩, h0⟩
theorem Fm.rd {a : Value} {zs : List V3} (h : Fm w0 p k xs T R w) (hr : (a, zs) ∈ R) : Rd w a zs := by
  obtain ⟨⟨v, u, h1, h2, h3, h4, h5⟩, h0⟩ := h
  exact (h5 _ hr).1.rd
theorem Fm.base (h : Fm w0 p k xs T R w) : Below w0.heap.size w0 w := h.2
theorem Fm.second_row {u : Value} (h3 : ∀ q l ys, T = some (q, l, ys) → p ≠ q ∧ Sk w0.heap.size w q l u ys) (h4 : T = none → u = .slice none 0 0) : ∀ i, u.ownBlock = some i → i < w.heap.size := by
  intro i hi
  rcases T with _ | ⟨q, l, ys⟩
  · rw [h4 rfl] at hi; simp [Value.ownBlock] at hi
  · exact (h3 q l ys rfl).2.row_lt i hi
/-- A row is made. -/
theorem Fm.row {a : Value} (h : Fm w0 p k xs T R w) (hb : Below w.heap.size w w') (ho : OV w' w.heap.size a zs) : Fm w0 p k xs T ((a, zs) :: R) w' := by
  have hs := h.2.size
  obtain ⟨⟨v, u, h1, h2, h3, h4, h5⟩, h0⟩ := h.below hb
  obtain ⟨⟨v', u', g1, g2, g3, g4, g5⟩, _⟩ := h
  have hvb := g1.row_lt
  have hub := Fm.second_row g3 g4
  refine ⟨⟨v', u', g1.below hb, g2, fun q l ys e => ⟨(g3 q l ys e).1, (g3 q l ys e).2.below hb⟩, g4, fun r hr => ?_⟩, h0⟩
  rcases List.mem_cons.1 hr with rfl | hr
  · exact ⟨ho.mono hs, (Ap.lt hvb (fun i hi => (ho.bd i hi).1)).symm, (Ap.lt hub (fun i hi => (ho.bd i hi).1)).symm⟩
  · exact ⟨(g5 r hr).1.below hb, (g5 r hr).2⟩
theorem Fm.swap (h : Fm w0 p k xs (some (q, l, ys)) R w) : Fm w0 q l ys (some (p, k, xs)) R w := by
  obtain ⟨⟨v, u, h1, h2, h3, h4, h5⟩, h0⟩ := h
  obtain ⟨hpq, hq⟩ := h3 q l ys rfl
  refine ⟨⟨u, v, hq, h2.symm, fun q' l' ys' e => ?_, (by intro e; cases e), fun r hr => ⟨(h5 r hr).1, (h5 r hr).2.2, (h5 r hr).2.1⟩⟩, h0⟩
  simp only [Option.some.injEq, Prod.mk.injEq] at e
  obtain ⟨rfl, rfl, rfl⟩ := e
  exact ⟨hpq.symm, h1⟩
/-- What a call on the first stack keeps. -/
theorem Fm.step {v v' u : Value} {xs' : List V3} (h1 : Sk w0.heap.size w p k v xs) (h2 : Ap v u) (h3 : ∀ q l ys, T = some (q, l, ys) → p ≠ q ∧ Sk w0.heap.size w q l u ys) (h4 : T = none → u = .slice none 0 0)
    (h5 : ∀ r ∈ R, OV w w0.heap.size r.1 r.2 ∧ Ap r.1 v ∧ Ap r.1 u) (h0 : Below w0.heap.size w0 w) (h1' : Sk w0.heap.size w' p k v' xs') (hc : Ch w w' p v v') :
    Ap v' u ∧ (∀ q l ys, T = some (q, l, ys) → p ≠ q ∧ Sk w0.heap.size w' q l u ys) ∧ (∀ r ∈ R, OV w' w0.heap.size r.1 r.2 ∧ Ap r.1 v' ∧ Ap r.1 u) ∧ Below w0.heap.size w0 w' := by
  have hub := Fm.second_row h3 h4
  have hap : ∀ a : Value, Ap a v → (∀ i, a.ownBlock = some i → i < w.heap.size) → Ap a v' := fun a ha hl i hi he => by
    rcases hc.row i he with e | e
    · exact ha i hi e
    · have := hl i hi; omega
  refine ⟨(hap u h2.symm hub).symm, fun q l ys e => ?_, fun r hr => ?_, Ch.to_below h0 hc h0.size h1.low (fun i hi => (h1.own.bd i hi).1)⟩
  · obtain ⟨hpq, hq⟩ := h3 q l ys e
    refine ⟨hpq, hq.keep hc.size fun i hi hor => hc.block i hi ?_ ?_⟩
    · rcases hor with rfl | hu
      · exact hpq.symm
      · rintro rfl; exact h1.box.ne_row hq.own (ty_ne k) hu
    · rcases hor with rfl | hu
      · exact hq.box.ne_row h1.own (ty_ne l)
      · exact fun he => h2 i he hu
  · obtain ⟨g1, g2, g3⟩ := h5 r hr
    refine ⟨g1.keep fun i hi hv => hc.block i hi ?_ ?_, hap r.1 g2 fun i hi => (g1.bd i hi).2, g3⟩
    · rintro rfl; exact h1.box.ne_row g1 (ty_ne k) hv
    · exact fun he => g2 i hv he
theorem Fm.call {r : Value} {xs' : List V3} {f : FuncId} {args : Array Value} (h : Fm w0 p k xs T R w) (hc : ∀ v, Sk w0.heap.size w p k v xs → Calls Try.prog f args w (SP w0.heap.size w p k v xs' r)) :
    Calls Try.prog f args w fun e w' => e = .returned r ∧ Fm w0 p k xs' T R w' := by
  obtain ⟨⟨v, u, h1, h2, h3, h4, h5⟩, h0⟩ := h
  refine (hc v h1).mono ?_
  rintro e w' ⟨v', rfl, hs, hch⟩
  obtain ⟨g1, g2, g3, g4⟩ := Fm.step h1 h2 h3 h4 h5 h0 hs hch
  exact ⟨rfl, ⟨v', u, hs, g1, g2, h4, g3⟩, g4⟩
theorem Fm.give {xs' : List V3} {er : Int} {f : FuncId} {args : Array Value} (h : Fm w0 p k xs T R w) (hc : ∀ v, Sk w0.heap.size w p k v xs → Calls Try.prog f args w (SO w0.heap.size w p k v xs' zs er)) :
    Calls Try.prog f args w fun e w' => ∃ A n c, e = .returned (.tuple #[.slice A n c, .int .i64 er]) ∧ Fm w0 p k xs' T ((.slice A n c, zs) :: R) w' := by
  obtain ⟨⟨v, u, h1, h2, h3, h4, h5⟩, h0⟩ := h
  refine (hc v h1).mono ?_
  rintro e w' ⟨v', a, rfl, hs, hch, ho, hob⟩
  obtain ⟨g1, g2, g3, g4⟩ := Fm.step h1 h2 h3 h4 h5 h0 hs hch
  obtain ⟨A, c, rfl, _⟩ := ho.rs
  refine ⟨_, _, _, rfl, ⟨v', u, hs, g1, g2, h4, fun r hr => ?_⟩, g4⟩
  rcases List.mem_cons.1 hr with rfl | hr
  · refine ⟨ho.mono h0.size, (Ap.lt (fun i hi => h1.row_lt i (by rw [← hob]; exact hi)) (fun i hi => (ho.bd i hi).1)).symm, (Ap.lt (Fm.second_row h3 h4) (fun i hi => (ho.bd i hi).1)).symm⟩
  · exact g3 r hr
theorem Fm.new (hb : Below w0.heap.size w0 w) (k : Bool) : Fm w0 w.heap.size k [] none [] (w.alloc (.cells (bc k (.slice none 0 0)) (ty k))) :=
  ⟨⟨.slice none 0 0, .slice none 0 0, (Sk.new w k).mono hb.size, Ap.nil _, (by intro q l ys e; cases e), fun _ => rfl, (by simp)⟩, hb.alloc hb.size _⟩
theorem Fm.new2 (h : Fm w0 p k xs none R w) (l : Bool) : Fm w0 p k xs (some (w.heap.size, l, [])) R (w.alloc (.cells (bc l (.slice none 0 0)) (ty l))) := by
  have hb := al0 w (.cells (bc l (.slice none 0 0)) (ty l))
  obtain ⟨⟨v, u, h1, h2, h3, h4, h5⟩, h0⟩ := h
  obtain rfl := h4 rfl
  refine ⟨⟨v, _, h1.below hb, h2, fun q l' ys e => ?_, (by intro e; cases e), fun r hr => ⟨(h5 r hr).1.below hb, (h5 r hr).2⟩⟩, h0.alloc h0.size _⟩
  simp only [Option.some.injEq, Prod.mk.injEq] at e
  obtain ⟨rfl, rfl, rfl⟩ := e
  exact ⟨Nat.ne_of_lt h1.box.lt, (Sk.new w l).mono h0.size⟩
/-- A row is spoilt. -/
theorem Fm.wreck {a : Value} (h : Fm w0 p k xs T R w) (hr : (a, zs) ∈ R) (hz : zs.length ≤ 65536) : Calls Try.prog 20 #[a] w fun e w' => e = .returned (.tuple #[]) ∧ Fm w0 p k xs T [] w' := by
  obtain ⟨⟨v, u, h1, h2, h3, h4, h5⟩, h0⟩ := h
  obtain ⟨g1, g2, g3⟩ := h5 _ hr
  refine (wreck_any g1 hz).mono ?_
  rintro e w' ⟨rfl, hg⟩
  have hkeep : ∀ i, i < w.heap.size → a.ownBlock ≠ some i → w'.heap[i]? = w.heap[i]? := fun i hi hn => hg.block i hi (fun e => hn e.symm)
  refine ⟨rfl, ⟨v, u, h1.keep hg.size fun i hi hor => hkeep i hi ?_, h2, fun q l ys e => ?_, h4, (by simp)⟩, h0.grown hg h0.size (fun i hi => (g1.bd i hi).1)⟩
  · rcases hor with rfl | hv
    · exact h1.box.ne_row g1 (ty_ne k)
    · exact fun he => g2 i he hv
  · obtain ⟨hpq, hq⟩ := h3 q l ys e
    refine ⟨hpq, hq.keep hg.size fun i hi hor => hkeep i hi ?_⟩
    rcases hor with rfl | hv
    · exact hq.box.ne_row g1 (ty_ne l)
    · exact fun he => g3 i he hv
/-! The functions over it. -/
theorem push_F {a : Value} (h : Fm w0 p true xs T R w) (ha : Rd w a zs) : Calls Try.prog 17 #[.pointer (some ⟨p, 0, none⟩), a] w fun e w' => e = .returned (.int .i64 (pshE xs zs)) ∧ Fm w0 p true (psh xs zs) T R w' :=
  h.call fun _ hv => push_any hv ha
theorem rPush_F {a : Value} (h : Fm w0 p false xs T R w) (ha : Rd w a zs) (hz : zs.length ≤ 100000) : Calls Try.prog 18 #[.pointer (some ⟨p, 0, none⟩), a] w fun e w' => e = .returned (.int .i64 (pshE xs zs)) ∧ Fm w0 p false (psh xs zs) T R w' :=
  h.call fun _ hv => rPush_any hv ha hz
theorem pop_F (h : Fm w0 p true xs T R w) (n : Int) : Calls Try.prog 12 #[.pointer (some ⟨p, 0, none⟩), .int .i64 n] w fun e w' => ∃ A m c, e = .returned (.tuple #[.slice A m c, .int .i64 (rngE n xs)]) ∧ Fm w0 p true (popS n xs) T ((.slice A m c, popL n xs) :: R) w' :=
  h.give fun _ hv => pop_any hv n
theorem rPop_F (h : Fm w0 p false xs T R w) (n : Int) : Calls Try.prog 13 #[.pointer (some ⟨p, 0, none⟩), .int .i64 n] w fun e w' => ∃ A m c, e = .returned (.tuple #[.slice A m c, .int .i64 (rngE n xs)]) ∧ Fm w0 p false (popS n xs) T ((.slice A m c, popL n xs) :: R) w' :=
  h.give fun _ hv => rPop_any hv n
theorem Fm.fst (h : Fm w0 p k xs T R w) : ∃ v, Sk w0.heap.size w p k v xs := by obtain ⟨⟨v, u, h1, _⟩, _⟩ := h; exact ⟨v, h1⟩
theorem from_F (h : Fm w0 p true xs T R w) (n : Int) : Calls Try.prog 14 #[.pointer (some ⟨p, 0, none⟩), .int .i64 n] w fun e w' => ∃ A m c, e = .returned (.tuple #[.slice A m c, .int .i64 (rngE n xs)]) ∧ Fm w0 p true xs T ((.slice A m c, frmL n xs) :: R) w' := by
  obtain ⟨v, hv⟩ := h.fst
  refine (from_any hv n).mono ?_
  rintro e w' ⟨u, rfl, ho, hb⟩
  obtain ⟨A, c, rfl, _⟩ := ho.rs
  exact ⟨_, _, _, rfl, h.row hb ho⟩
theorem rFrom_F (h : Fm w0 p false xs T R w) (n : Int) : Calls Try.prog 15 #[.pointer (some ⟨p, 0, none⟩), .int .i64 n] w fun e w' => ∃ A m c, e = .returned (.tuple #[.slice A m c, .int .i64 (rngE n xs)]) ∧ Fm w0 p false xs T ((.slice A m c, frmL n xs) :: R) w' := by
  obtain ⟨v, hv⟩ := h.fst
  refine (rFrom_any hv n).mono ?_
  rintro e w' ⟨u, rfl, ho, hb⟩
  obtain ⟨A, c, rfl, _⟩ := ho.rs
  exact ⟨_, _, _, rfl, h.row hb ho⟩
theorem len_F (h : Fm w0 p true xs T R w) : Calls Try.prog 21 #[.pointer (some ⟨p, 0, none⟩)] w fun e w' => e = .returned (.int .i64 (xs.length : Int)) ∧ w = w' := by
  obtain ⟨v, hv⟩ := h.fst
  exact len_any hv
theorem few_F {a : Value} (h : Fm w0 p k xs T R w) (ha : Rd w a zs) : Calls Try.prog 16 #[a] w fun e w' => ∃ A m c, e = .returned (.slice A m c) ∧ Fm w0 p k xs T ((.slice A m c, zs.take 30) :: R) w' := by
  refine (few_any ha).mono ?_
  rintro e w' ⟨u, rfl, ho, hb⟩
  obtain ⟨A, c, rfl, _⟩ := ho.rs
  exact ⟨_, _, _, rfl, h.row hb ho⟩
theorem are_F {a b : Value} {er : Int} (h : Fm w0 p k xs T R w) (ha : Rd w a zs) (hb : Rd w b zs) (hz : zs.length ≤ 100000) : Calls Try.prog 23 #[a, .int .i64 er, .int .i64 er, b] w fun e w' => e = .returned (.bool true) ∧ Fm w0 p k xs T R w' :=
  (are_any ha hb hz).mono fun e w' ⟨h1, q, h2⟩ => ⟨h1, by rw [h2]; exact h.drewN q⟩
theorem same_F {a b : Value} (h : Fm w0 p k xs T R w) (ha : Rd w a zs) (hb : Rd w b zs) (hz : zs.length ≤ 100000) : Calls Try.prog 19 #[a, b] w fun e w' => e = .returned (.bool true) ∧ Fm w0 p k xs T R w' :=
  (same_any ha hb hz).mono fun e w' ⟨h1, q, h2⟩ => ⟨h1, by rw [h2]; exact h.drewN q⟩
/-- A literal list of values. -/
theorem Rd.lit (w : World) (ys : List V3) {cs : Array Value} {g n : Nat} (hg : g = w.heap.size) (hc : cs = (pv ys).toArray) (hn : n = ys.length) (hm : n ≤ 100000) : Rd (w.alloc (.cells cs 49)) (.slice (some ⟨g, 0, none⟩) n n) ys := by
  subst hg; subst hc; subst hn
  have h := World.ownsRow_lit (base := 0) (e := 49) (size := 3) w (pv ys).toArray ys.length (Nat.zero_le _) (by unfold maxLen; omega) (by simp [pv_length])
  exact OV.rd (B := 0) (by unfold OV; simpa using h)
theorem pushL_F {cs : Array Value} {g n : Nat} (h : Fm w0 p true xs T R w) (ys : List V3) (hg : g = w.heap.size) (hc : cs = (pv ys).toArray) (hn : n = ys.length) (hm : n ≤ 100000) :
    Calls Try.prog 17 #[.pointer (some ⟨p, 0, none⟩), .slice (some ⟨g, 0, none⟩) n n] (w.alloc (.cells cs 49)) fun e w' => e = .returned (.int .i64 (pshE xs ys)) ∧ Fm w0 p true (psh xs ys) T R w' :=
  push_F (h.below (al0 _ _)) (Rd.lit w ys hg hc hn hm)
theorem areL_F {a : Value} {er : Int} {cs : Array Value} {g n : Nat} (h : Fm w0 p k xs T R w) (ha : Rd w a zs) (hg : g = w.heap.size) (hc : cs = (pv zs).toArray) (hn : n = zs.length) (hm : n ≤ 100000) :
    Calls Try.prog 23 #[a, .int .i64 er, .int .i64 er, .slice (some ⟨g, 0, none⟩) n n] (w.alloc (.cells cs 49)) fun e w' => e = .returned (.bool true) ∧ Fm w0 p k xs T R w' :=
  are_F (h.below (al0 _ _)) (ha.below (al0 _ _)) (Rd.lit w zs hg hc hn hm) (by omega)
end
end Go.Proofs.Ytefgehjkankigaa
