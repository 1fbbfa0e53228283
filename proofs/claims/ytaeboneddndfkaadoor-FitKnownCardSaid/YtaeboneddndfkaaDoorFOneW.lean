/-
  What is proved here: FitOnes, FitLeast, FitGrows and FitNearer return true; conditions: the contracts of fit.One and fit.All, the table of package tag, and arguments that the form reads.
-/
import Derived.Test.YtaeboneddndfkaaDoorFWk
namespace Go.Proofs.YtaeboneddndfkaaDoor
open Go.RowKit Tg

/-- Between two calls of a law. -/
def WL (w0 W : World) : Prop := Tab W ∧ Below w0.heap.size w0 W
section
variable {w0 W W' : World}
theorem WL.keep (h : WL w0 W) (hb : Below W.heap.size W W') : WL w0 W' := ⟨h.1.keep hb, h.2.trans (hb.mono h.2.size)⟩
theorem WL.start (h : Tab w0) : WL w0 w0 := ⟨h, Below.refl _ _⟩
theorem works_L (H1 : OneOK) (H2 : AllOK) (h : WL w0 W) : Calls Tryd.prog 13 #[] W fun e w' => e = .returned (.bool true) ∧ WL w0 w' := (works_true H1 H2 W h.1).mono fun _ _ ⟨h1, h2⟩ => ⟨h1, h.keep h2⟩
theorem one_L (H1 : OneOK) (h : WL w0 W) (v : V3) (at' idx : Int) (hv : okV v) (ha : -9223372036854775808 ≤ at' ∧ at' ≤ 9223372036854775807) (hi : -9223372036854775808 ≤ idx ∧ idx ≤ 9223372036854775807) {r : Int} (hr : oneV v at' idx = r) :
    Calls Tryd.prog 11 #[v.agg, .int .i64 at', .int .i64 idx] W fun e w' => e = .returned (.int .i64 r) ∧ WL w0 w' := by
  subst hr
  exact (H1 v at' idx W hv ha.1 ha.2 hi.1 hi.2 h.1).mono fun _ _ ⟨h1, h2⟩ => ⟨h1, h.keep h2⟩
theorem rone_L (h : WL w0 W) (v : V3) (at' idx : Int) (hv : okV v) {r : Int} (hr : oneV v at' idx = r) :
    Calls Tryd.prog 12 #[v.agg, .int .i64 at', .int .i64 idx] W fun e w' => e = .returned (.int .i64 r) ∧ WL w0 w' := by
  subst hr
  exact (rOne_any v at' idx W hv).mono fun _ _ ⟨h1, h2⟩ => ⟨h1, h.keep h2⟩
theorem text_L (h : WL w0 W) (n : Int) : Calls Tryd.prog 18 #[.int .u64 n] W fun e w' => e = .returned (V3.agg ⟨5, 1, n⟩) ∧ WL w0 w' := (text_any n W).mono fun _ _ ⟨h1, h2⟩ => ⟨h1, h.keep h2⟩
end
/-- The same with the box of one value. -/
def WB (w0 : World) (g : Nat) (v : V3) (W : World) : Prop := WL w0 W ∧ Bx W g 24 #[.int .i64 v.t, .int .i64 v.w, .int .u64 v.n]
section
variable {w0 W W' : World} {g : Nat} {v : V3}
theorem WB.keep (h : WB w0 g v W) (hb : Below W.heap.size W W') : WB w0 g v W' := ⟨h.1.keep hb, h.2.below hb h.2.lt⟩
theorem WB.born (h : WL w0 W) (v : V3) : WB w0 W.heap.size v (W.alloc (.cells #[.int .i64 v.t, .int .i64 v.w, .int .u64 v.n] 24)) := ⟨h.keep (al0 _ _), Bx.new _ _ _⟩
theorem WB.cells (h : WB w0 g v W) : W.cell? ⟨g, 0, none⟩ = some (.int .i64 v.t) ∧ W.cell? ⟨g, 1, none⟩ = some (.int .i64 v.w) ∧ W.cell? ⟨g, 2, none⟩ = some (.int .u64 v.n) := ⟨h.2.cell 0, h.2.cell 1, h.2.cell 2⟩
theorem WB.all (h : Hid (WB w0 g v W)) : W.cell? ⟨g, 0, none⟩ = some (.int .i64 v.t) ∧ W.cell? ⟨g, 1, none⟩ = some (.int .i64 v.w) ∧ W.cell? ⟨g, 2, none⟩ = some (.int .u64 v.n) ∧ Hid (WB w0 g v W) := ⟨h.out.cells.1, h.out.cells.2.1, h.out.cells.2.2, h⟩
theorem WB.drew (h : Hid (WB w0 g v W)) : Hid (WB w0 g v W.drew) := Lib.hid (h.out.keep (Below.refl _ _).drew)
end
/-- A call's contract, kept with the box. -/
theorem box_L {w0 W : World} {g : Nat} {v : V3} {f : Nat} {ar : Array Value} {e0 : Ending} (h : WB w0 g v W) (hc : Calls Tryd.prog f ar W fun e w' => e = e0 ∧ Below W.heap.size W w') : Calls Tryd.prog f ar W fun e w' => e = e0 ∧ WB w0 g v w' :=
  hc.mono fun _ _ ⟨h1, h2⟩ => ⟨h1, h.keep h2⟩
set_option maxRecDepth 20000 in
set_option maxHeartbeats 1000000 in
theorem fitOnes_walk (H1 : OneOK) (H2 : AllOK) (v : V3) (at' idx : Int) (w : World) (hv : okV v) (ha : -9223372036854775808 ≤ at' ∧ at' ≤ 9223372036854775807) (hi : -9223372036854775808 ≤ idx ∧ idx ≤ 9223372036854775807) (hT : Tab w) :
    Calls Tryd.prog 3 #[v.agg, .int .i64 at', .int .i64 idx] w fun e w' => e = .returned (.bool true) ∧ Below w.heap.size w w' := by
  obtain ⟨t, vw, n⟩ := v
  have hs := WB.born (WL.start hT) ⟨t, vw, n⟩
  obtain ⟨r, hr⟩ : ∃ r, oneV ⟨t, vw, n⟩ at' idx = r := ⟨_, rfl⟩
  have HO : Hid (∀ W, Hid (WB w w.heap.size ⟨t, vw, n⟩ W) → Calls Tryd.prog 11 #[.agg #[.int .i64 t, .int .i64 vw, .int .u64 n], .int .i64 at', .int .i64 idx] W fun e w' => e = .returned (.int .i64 r) ∧ WB w w.heap.size ⟨t, vw, n⟩ w') := Lib.hid fun W h => by
    rw [← hr]; exact box_L h.out (H1 ⟨t, vw, n⟩ at' idx W hv ha.1 ha.2 hi.1 hi.2 h.out.1.1)
  have HR : Hid (∀ W, Hid (WB w w.heap.size ⟨t, vw, n⟩ W) → Calls Tryd.prog 12 #[.agg #[.int .i64 t, .int .i64 vw, .int .u64 n], .int .i64 at', .int .i64 idx] W fun e w' => e = .returned (.int .i64 r) ∧ WB w w.heap.size ⟨t, vw, n⟩ w') := Lib.hid fun W h => by
    rw [← hr]; exact box_L h.out (rOne_any ⟨t, vw, n⟩ at' idx W hv)
  have HW : Hid (∀ W, Hid (WB w w.heap.size ⟨t, vw, n⟩ W) → Calls Tryd.prog 13 #[] W fun e w' => e = .returned (.bool true) ∧ WB w w.heap.size ⟨t, vw, n⟩ w') := Lib.hid fun W h => box_L h.out (works_true H1 H2 W h.out.1.1)
  have HS0 := Lib.hid hs
  clear hr hv ha hi hT H1 H2 hs
  show Calls Tryd.prog 3 #[.agg #[.int .i64 t, .int .i64 vw, .int .u64 n], .int .i64 at', .int .i64 idx] w _
  go_enter Tryd.func3, Tryd.ntmps3
  go_upto_region 1 with fail
  obtain ⟨w1, hw1⟩ : ∃ w1, w.alloc (.cells #[.int .i64 t, .int .i64 vw, .int .u64 n] 24) = w1 := ⟨_, rfl⟩
  obtain ⟨g, hg⟩ : ∃ g, w.heap.size = g := ⟨_, rfl⟩
  have hs := HS0.out
  simp only [hw1, hg] at hs HO HR HW ⊢
  have HS := Lib.hid hs
  clear hs HS0 hw1
  have HSd := WB.drew HS
  go_region_held3 (fun W => W.cell? ⟨g, 0, none⟩ = some (.int .i64 t) ∧ W.cell? ⟨g, 1, none⟩ = some (.int .i64 vw) ∧ W.cell? ⟨g, 2, none⟩ = some (.int .u64 n) ∧ Hid (WB w g ⟨t, vw, n⟩ W))
    (first | (with_reducible exact WB.all HSd) | (with_reducible exact WB.all (by assumption)))
    (first
      | (go_at_call 11; (with_reducible refine (HO.out _ (by assumption)).mono ?_); rintro e w1 ⟨rfl, hs⟩; have HS := Lib.hid hs; clear hs)
      | (go_at_call 12; (with_reducible refine (HR.out _ (by assumption)).mono ?_); rintro e w1 ⟨rfl, hs⟩; have HS := Lib.hid hs; clear hs)
      | (go_at_call 13; (with_reducible refine (HW.out _ (by assumption)).mono ?_); rintro e w1 ⟨rfl, hs⟩; have HS := Lib.hid hs; clear hs))
  all_goals (go_wp2_with fail)
  all_goals (go_ret; exact ⟨rfl, HS.out.1.2⟩)
end Go.Proofs.YtaeboneddndfkaaDoor
