/-
  What is proved here: the contract of the iterator of the widths, and of fit.least at the test of One and at the test of All: the first width that suits; condition: contracts of the tests.
-/
import Derived.Test.YtaeboneddndfkaaDoorFVec
import Derived.RangeFuncNested
import Derived.RangeFuncBound
import Derived.RangeFuncCalls
import Derived.RangeFuncLeaves
import Derived.Shelf.Abstract
import Derived.Shelf.RegionOpen
import Derived.OwnWalkIn
import Derived.TacticsInMore
import Derived.LoopNIn
import Derived.LoopIn
namespace Go.Proofs.YtaeboneddndfkaaDoor
open Go.RowKit Go.Shelf Tg
attribute [local go_sem] Oper.semAt_some

/-- A width. -/
abbrev WD := { x : Int // isW x }
def wds : List WD := [⟨1, .inl rfl⟩, ⟨2, .inr (.inl rfl)⟩, ⟨4, .inr (.inr (.inl rfl))⟩, ⟨8, .inr (.inr (.inr rfl))⟩]
theorem wds_all {f : Int → Bool} (h : ∀ x ∈ wds, f x.1 = false) : pick f = 0 := by
  have h1 := h ⟨1, .inl rfl⟩ (by simp [wds])
  have h2 := h ⟨2, .inr (.inl rfl)⟩ (by simp [wds])
  have h4 := h ⟨4, .inr (.inr (.inl rfl))⟩ (by simp [wds])
  have h8 := h ⟨8, .inr (.inr (.inr rfl))⟩ (by simp [wds])
  simp only at h1 h2 h4 h8
  unfold pick
  rw [if_neg (by simp [h1]), if_neg (by simp [h2]), if_neg (by simp [h4]), if_neg (by simp [h8])]
theorem wds_hit {f : Int → Bool} {pre : List WD} {x : WD} (hp : pre ++ [x] <+: wds) (hx : f x.1 = true) (h : ∀ y ∈ pre, f y.1 = false) : pick f = x.1 := by
  obtain ⟨t, ht⟩ := hp
  unfold pick
  rcases pre with _ | ⟨a, _ | ⟨b, _ | ⟨c, _ | ⟨d, pre⟩⟩⟩⟩
  · simp only [wds, List.nil_append, List.cons_append, List.cons.injEq] at ht
    obtain ⟨rfl, -⟩ := ht
    simp only at hx
    rw [if_pos hx]
  · simp only [wds, List.nil_append, List.cons_append, List.cons.injEq] at ht
    obtain ⟨rfl, rfl, -⟩ := ht
    have h1 := h ⟨1, .inl rfl⟩ (by simp)
    simp only at hx h1
    rw [if_neg (by simp [h1]), if_pos hx]
  · simp only [wds, List.nil_append, List.cons_append, List.cons.injEq] at ht
    obtain ⟨rfl, rfl, rfl, -⟩ := ht
    have h1 := h ⟨1, .inl rfl⟩ (by simp)
    have h2 := h ⟨2, .inr (.inl rfl)⟩ (by simp)
    simp only at hx h1 h2
    rw [if_neg (by simp [h1]), if_neg (by simp [h2]), if_pos hx]
  · simp only [wds, List.nil_append, List.cons_append, List.cons.injEq] at ht
    obtain ⟨rfl, rfl, rfl, rfl, -⟩ := ht
    have h1 := h ⟨1, .inl rfl⟩ (by simp)
    have h2 := h ⟨2, .inr (.inl rfl)⟩ (by simp)
    have h4 := h ⟨4, .inr (.inr (.inl rfl))⟩ (by simp)
    simp only at hx h1 h2 h4
    rw [if_neg (by simp [h1]), if_neg (by simp [h2]), if_neg (by simp [h4]), if_pos hx]
  · have := congrArg List.length ht
    simp [wds] at this
theorem keeps_below {W W' : World} (h : Below W.heap.size W W') : KeepsOthers W W' := ⟨h.size, fun k _ hk _ => (h.block k (Array.getElem?_eq_some_iff.1 hk).1).trans hk⟩
theorem widths_any (W : World) : Calls Tryd.prog 34 #[] W fun e w' => e = .returned (.func (.func 41) #[] #[]) ∧ W = w' := by
  go_enter Tryd.func34, Tryd.ntmps34
  go_wp2
  go_ret
  exact ⟨rfl, rfl⟩
theorem wds_at {k : Nat} (hk : k < 4) : ∃ x : WD, wds[k]? = some x ∧ x.1 = Wd.bkV (k : Int) ∧ Wd.bkE (k : Int) = 0 := by
  have h : k = 0 ∨ k = 1 ∨ k = 2 ∨ k = 3 := by omega
  rcases h with rfl | rfl | rfl | rfl
  · exact ⟨⟨1, .inl rfl⟩, rfl, rfl, rfl⟩
  · exact ⟨⟨2, .inr (.inl rfl)⟩, rfl, rfl, rfl⟩
  · exact ⟨⟨4, .inr (.inr (.inl rfl))⟩, rfl, rfl, rfl⟩
  · exact ⟨⟨8, .inr (.inr (.inr rfl))⟩, rfl, rfl, rfl⟩
set_option maxRecDepth 100000 in
set_option maxHeartbeats 2000000 in
/-- The iterator: the four widths, or a first part of them. -/
theorem widths_stops (n : Nat) (w : World) : SeqStopsK Fence.wide n Tryd.prog 41 #[] (fun x : WD => #[Value.int .i64 x.1]) (fun _ _ => True) (fun xs => xs = wds) (fun pre => pre <+: wds) 4 w := by
  intro l J Jx W _ _ _ hY h0
  refine callsIn_of_wp Tryd.func41 rfl trivial ?_ rfl
  simp only [Tryd.ntmps41, List.size_toArray, List.length_cons, List.length_nil, Nat.reduceAdd, Nat.reduceSub, Array.replicate_succ, Array.replicate_zero, List.push_toArray, List.append_toArray, List.nil_append, List.cons_append]
  have HY := Lib.hid hY
  have H0 := Lib.hid h0
  clear hY h0
  gi_wp2
  gi_loopw [2] (fun c wr => ∃ k : Nat, k ≤ 4 ∧ c = .int .i64 (k : Int) ∧ Hid (J (wds.take k) wr)) (fun c _ => 4 - (intOf c).toNat)
  case atStart => exact ⟨0, Nat.zero_le _, rfl, H0⟩
  case round =>
    obtain ⟨k, hk, rfl, HJ⟩ := hrel
    have HBK := Lib.hid (fun W => Wd.back_any (k : Int) W)
    by_cases hk4 : k < 4
    · obtain ⟨x, hx, hxv, hxe⟩ := wds_at hk4
      rw [← hxv, hxe] at HBK
      have htk : wds.take (k + 1) = wds.take k ++ [x] := by rw [List.take_add_one, hx]; rfl
      obtain ⟨fn, tmps, assign, body, hy, hR⟩ := HY.out (wds.take k) x wr HJ.out (by simp [wds]; omega)
      rw [← htk] at hR
      have HP : Hid (wds.take (k + 1) <+: wds) := Lib.hid (List.take_prefix _ _)
      clear htk hx hxv hxe
      obtain ⟨xv, hxw⟩ := x
      dsimp only at hy HBK
      clear hxw
      gi_wp2_with (first
        | (refine ⟨trivial, fun h => (by cases h), ?_⟩; gi_at_call 42; refine (callsIn_wide.2 (HBK.out _)).mono ?_; rintro e w1 ⟨rfl, rfl⟩))
      refine ⟨fun h => (by cases h), hR.mono ?_⟩
      rintro e W2 (⟨rfl, hJ2, -⟩ | ⟨rfl, hx2⟩)
      · gi_wp2_with fail
        go_roundw
        case rel => exact ⟨k + 1, by omega, by go_num, Lib.hid hJ2⟩
        case measure => simp [intOf]; omega
      · gi_wp2_with fail
        refine bodyPost_ret (results_none rfl _ _ _) rfl ?_
        exact ⟨⟨_, rfl⟩, .inr ⟨_, HP.out, hx2⟩⟩
    · obtain rfl : k = 4 := by omega
      have HBK : Hid (∀ W, Calls Tryd.prog 42 #[.int .i64 4] W fun e w' => e = .returned (.tuple #[.int .i64 0, .int .i64 2]) ∧ W = w') := Lib.hid (fun W => Wd.back_any 4 W)
      gi_wp2_with (first
        | (refine ⟨trivial, fun h => (by cases h), ?_⟩; gi_at_call 42; refine (callsIn_wide.2 (HBK.out _)).mono ?_; rintro e w1 ⟨rfl, rfl⟩))
      refine ⟨fun f h => (by cases h), ?_⟩
      gi_wp2_with fail
      refine bodyPost_ret (results_none rfl _ _ _) rfl ?_
      exact ⟨⟨_, rfl⟩, .inl ⟨wds, rfl, HJ.out⟩⟩

set_option maxRecDepth 100000 in
set_option maxHeartbeats 2000000 in
/-- fit.least at the test of One. -/
theorem leastOne_any (q0 q1 q2 : Value) (f : Int → Bool) (W : World) (HS : ∀ x W', isW x → Below W.heap.size W W' → Calls Tryd.prog 25 #[.int .i64 x, q0, q1, q2] W' fun e w' => e = .returned (.bool (f x)) ∧ Below W'.heap.size W' w') :
    Calls Tryd.prog 24 #[.func (.func 25) #[] #[q0, q1, q2]] W fun e w' => e = .returned (.int .i64 (pick f)) ∧ Below W.heap.size W w' := by
  refine (callsIn_wide (n := 9)).1 ?_
  refine callsIn_of_wp_marks Tryd.func24 rfl trivial ?_ rfl
  simp only [Tryd.ntmps24, List.size_toArray, List.length_cons, List.length_nil, Nat.reduceAdd, Nat.reduceSub, Array.replicate_succ, Array.replicate_zero, List.push_toArray, List.append_toArray, List.nil_append, List.cons_append]
  have HH := Lib.hid HS
  clear HS
  gi_wp2_with ((try refine ⟨trivial, ?_⟩); gi_at_call 34; refine (callsIn_wide.2 (widths_any _)).mono ?_; rintro e w1 ⟨rfl, rfl⟩)
  obtain ⟨W0, hW0⟩ : ∃ W0, (W.alloc (.cells #[.func (.func 25) #[] #[q0, q1, q2]] 45)).alloc (.cells #[.int .i64 0] 3) = W0 := ⟨_, rfl⟩
  have hB0 : Below W.heap.size W W0 := by rw [← hW0]; exact ((Below.refl _ W).alloc (Nat.le_refl _) _).alloc (by simp) _
  have hs0 : W0.heap.size = W.heap.size + 2 := by rw [← hW0]; simp
  have hfb : Boxed W0 W.heap.size 45 (.func (.func 25) #[] #[q0, q1, q2]) := by rw [← hW0]; exact (Boxed.new W _ _).alloc _
  have hrb : Boxed W0 (W.heap.size + 1) 3 (.int .i64 0) := by
    rw [← hW0]
    have := Boxed.new (W.alloc (.cells #[.func (.func 25) #[] #[q0, q1, q2]] 45)) 3 (.int .i64 0)
    simpa only [World.size_alloc] using this
  rw [hW0]
  clear hW0
  refine wpIn_rangeFunc_ownF rfl (by omega) (gf := 41) (lb := #[]) rfl trivial (enters_of Tryd.func41 (by kernel_rfl) rfl)
    (widths_stops _ W0) (fun _ _ => trivial) (fun _ _ _ _ _ _ _ _ => trivial) (Below.refl _ _) (fun _ => rfl)
    (fun pre W' => (∀ x ∈ pre, f x.1 = false) ∧ Boxed W' W.heap.size 45 (.func (.func 25) #[] #[q0, q1, q2]) ∧ Boxed W' (W.heap.size + 1) 3 (.int .i64 0) ∧ Below W.heap.size W W')
    (fun c pre W' => (c = .ret ∧ ∃ p x, pre = p ++ [x] ∧ f x.1 = true ∧ (∀ y ∈ p, f y.1 = false) ∧ W'.cell? ⟨W.heap.size + 1, 0, none⟩ = some (.int .i64 x.1)) ∧ Below W.heap.size W W')
    (OwnFrom.and (fun _ _ _ _ h _ _ => h) (OwnFrom.and (Own.from (boxed_own _ _ _) _) (OwnFrom.and (Own.from (boxed_own _ _ _) _) (ownFrom_below (Nat.le_refl _) (by omega)))))
    (fun c => OwnFrom.and (fun s A B row hs hg hr => by obtain ⟨h1, p, x, h2, h3, h4, h5⟩ := hs; exact ⟨h1, p, x, h2, h3, h4, cell_kept h5 hg (fun r e => (hr r e).2)⟩) (ownFrom_below (Nat.le_refl _) (by omega)))
    ⟨by simp, hfb, hrb, hB0⟩
    (fun x => { tmps := #[.func (.func 25) #[] #[q0, q1, q2], .pointer (some ⟨W.heap.size, 0, none⟩), .pointer (some ⟨W.heap.size + 1, 0, none⟩), .int .i64 x.1, .func (.func 41) #[] #[], .int .i64 x.1, undef, undef, undef, undef], defers := [] }) ?assign ?body ?done ?stop
  case assign =>
    intro l x W K hK
    gi_wp2
    exact hK
  case body =>
    rintro l pre ⟨x, hx⟩ W' ⟨hf, hfb, hrb, hB⟩ _
    have HC := Lib.hid (HH.out x W' hx hB)
    have c0 := hfb.cell
    have HR := Lib.hid hrb
    cases hfx : f x with
    | true =>
      rw [hfx] at HC
      gi_wp2_with ((try refine ⟨trivial, ?_⟩); gi_at_call 25; refine (CallsIn.inRound l (callsIn_wide.2 HC.out)).mono ?_; rintro e w1 ⟨rfl, hb⟩; have hr1 : Boxed w1 (W.heap.size + 1) 3 (.int .i64 0) := (hb.block _ HR.out.lt).trans HR.out; have c1 := hr1.cell; have f1 := hr1.frozen)
      exact ⟨(keeps_below hb).trans (KeepsOthers.setCell _ _ _), ⟨rfl, pre, ⟨x, hx⟩, rfl, hfx, hf, World.cell?_setCell_same' _ _ _ (by rw [c1]; rfl)⟩, (hB.trans (hb.mono hB.size)).setCell (p := ⟨W.heap.size + 1, 0, none⟩) (Nat.le_succ _) _⟩
    | false =>
      rw [hfx] at HC
      gi_wp2_with ((try refine ⟨trivial, ?_⟩); gi_at_call 25; refine (CallsIn.inRound l (callsIn_wide.2 HC.out)).mono ?_; rintro e w1 ⟨rfl, hb⟩)
      refine ⟨keeps_below hb, trivial, ⟨fun y hy => ?_, (hb.block _ hfb.lt).trans hfb, (hb.block _ hrb.lt).trans hrb, hB.trans (hb.mono hB.size)⟩⟩
      rcases List.mem_append.1 hy with h | h
      · exact hf y h
      · obtain rfl := List.mem_singleton.1 h
        exact hfx
  case done =>
    rintro D ys W1 hD rfl ⟨hf, _, hrb, hB⟩ hK
    have c0 := hrb.cell
    have f0 := hrb.frozen
    gi_wp2
    have hK' := (KeepsOthers.setCell W1 ⟨W.heap.size + 1, 0, none⟩ (.int .i64 0)).same D _ hK rfl
    refine ⟨by simp, .inl ⟨_, _, rfl, run_takeDeferred hK', ?_⟩⟩
    have hc5 := cell_kept (World.cell?_setCell_same' W1 ⟨W.heap.size + 1, 0, none⟩ (.int .i64 0) (by rw [c0]; rfl)) (grownBy_putObj' _ D (.deferred none)) (fun r e => by cases e; exact ⟨_, hK', rfl⟩)
    refine ⟨.int .i64 0, ?_, by rw [wds_all hf], (hB.setCell (p := ⟨W.heap.size + 1, 0, none⟩) (Nat.le_succ _) _).trans (belowK_b (w := W) (Nat.le_refl _) _ D _ _ (by omega) hK' rfl rfl)⟩
    simp [results, Tryd.f24, go_sem, hc5]
  case stop =>
    rintro D c pre W1 hD hpre ⟨⟨rfl, p, x, rfl, hx, hp, hc⟩, hB⟩ hK
    gi_wp2
    refine ⟨by simp, .inl ⟨_, _, rfl, run_takeDeferred hK, ?_⟩⟩
    have hc5 := cell_kept hc (grownBy_putObj' _ D (.deferred none)) (fun r e => by cases e; exact ⟨_, hK, rfl⟩)
    refine ⟨.int .i64 x.1, ?_, by rw [wds_hit hpre hx hp], hB.trans (belowK_b (w := W) (Nat.le_refl _) _ D _ _ (by omega) hK rfl rfl)⟩
    simp [results, Tryd.f24, go_sem, hc5]

set_option maxRecDepth 100000 in
set_option maxHeartbeats 2000000 in
/-- fit.least at the test of All. -/
theorem leastAll_any (q0 q1 q2 q3 : Value) (f : Int → Bool) (W : World) (HS : ∀ x W', isW x → Below W.heap.size W W' → Calls Tryd.prog 30 #[.int .i64 x, q0, q1, q2, q3] W' fun e w' => e = .returned (.bool (f x)) ∧ Below W'.heap.size W' w') :
    Calls Tryd.prog 24 #[.func (.func 30) #[] #[q0, q1, q2, q3]] W fun e w' => e = .returned (.int .i64 (pick f)) ∧ Below W.heap.size W w' := by
  refine (callsIn_wide (n := 9)).1 ?_
  refine callsIn_of_wp_marks Tryd.func24 rfl trivial ?_ rfl
  simp only [Tryd.ntmps24, List.size_toArray, List.length_cons, List.length_nil, Nat.reduceAdd, Nat.reduceSub, Array.replicate_succ, Array.replicate_zero, List.push_toArray, List.append_toArray, List.nil_append, List.cons_append]
  have HH := Lib.hid HS
  clear HS
  gi_wp2_with ((try refine ⟨trivial, ?_⟩); gi_at_call 34; refine (callsIn_wide.2 (widths_any _)).mono ?_; rintro e w1 ⟨rfl, rfl⟩)
  obtain ⟨W0, hW0⟩ : ∃ W0, (W.alloc (.cells #[.func (.func 30) #[] #[q0, q1, q2, q3]] 45)).alloc (.cells #[.int .i64 0] 3) = W0 := ⟨_, rfl⟩
  have hB0 : Below W.heap.size W W0 := by rw [← hW0]; exact ((Below.refl _ W).alloc (Nat.le_refl _) _).alloc (by simp) _
  have hs0 : W0.heap.size = W.heap.size + 2 := by rw [← hW0]; simp
  have hfb : Boxed W0 W.heap.size 45 (.func (.func 30) #[] #[q0, q1, q2, q3]) := by rw [← hW0]; exact (Boxed.new W _ _).alloc _
  have hrb : Boxed W0 (W.heap.size + 1) 3 (.int .i64 0) := by
    rw [← hW0]
    have := Boxed.new (W.alloc (.cells #[.func (.func 30) #[] #[q0, q1, q2, q3]] 45)) 3 (.int .i64 0)
    simpa only [World.size_alloc] using this
  rw [hW0]
  clear hW0
  refine wpIn_rangeFunc_ownF rfl (by omega) (gf := 41) (lb := #[]) rfl trivial (enters_of Tryd.func41 (by kernel_rfl) rfl)
    (widths_stops _ W0) (fun _ _ => trivial) (fun _ _ _ _ _ _ _ _ => trivial) (Below.refl _ _) (fun _ => rfl)
    (fun pre W' => (∀ x ∈ pre, f x.1 = false) ∧ Boxed W' W.heap.size 45 (.func (.func 30) #[] #[q0, q1, q2, q3]) ∧ Boxed W' (W.heap.size + 1) 3 (.int .i64 0) ∧ Below W.heap.size W W')
    (fun c pre W' => (c = .ret ∧ ∃ p x, pre = p ++ [x] ∧ f x.1 = true ∧ (∀ y ∈ p, f y.1 = false) ∧ W'.cell? ⟨W.heap.size + 1, 0, none⟩ = some (.int .i64 x.1)) ∧ Below W.heap.size W W')
    (OwnFrom.and (fun _ _ _ _ h _ _ => h) (OwnFrom.and (Own.from (boxed_own _ _ _) _) (OwnFrom.and (Own.from (boxed_own _ _ _) _) (ownFrom_below (Nat.le_refl _) (by omega)))))
    (fun c => OwnFrom.and (fun s A B row hs hg hr => by obtain ⟨h1, p, x, h2, h3, h4, h5⟩ := hs; exact ⟨h1, p, x, h2, h3, h4, cell_kept h5 hg (fun r e => (hr r e).2)⟩) (ownFrom_below (Nat.le_refl _) (by omega)))
    ⟨by simp, hfb, hrb, hB0⟩
    (fun x => { tmps := #[.func (.func 30) #[] #[q0, q1, q2, q3], .pointer (some ⟨W.heap.size, 0, none⟩), .pointer (some ⟨W.heap.size + 1, 0, none⟩), .int .i64 x.1, .func (.func 41) #[] #[], .int .i64 x.1, undef, undef, undef, undef], defers := [] }) ?assign ?body ?done ?stop
  case assign =>
    intro l x W K hK
    gi_wp2
    exact hK
  case body =>
    rintro l pre ⟨x, hx⟩ W' ⟨hf, hfb, hrb, hB⟩ _
    have HC := Lib.hid (HH.out x W' hx hB)
    have c0 := hfb.cell
    have HR := Lib.hid hrb
    cases hfx : f x with
    | true =>
      rw [hfx] at HC
      gi_wp2_with ((try refine ⟨trivial, ?_⟩); gi_at_call 30; refine (CallsIn.inRound l (callsIn_wide.2 HC.out)).mono ?_; rintro e w1 ⟨rfl, hb⟩; have hr1 : Boxed w1 (W.heap.size + 1) 3 (.int .i64 0) := (hb.block _ HR.out.lt).trans HR.out; have c1 := hr1.cell; have f1 := hr1.frozen)
      exact ⟨(keeps_below hb).trans (KeepsOthers.setCell _ _ _), ⟨rfl, pre, ⟨x, hx⟩, rfl, hfx, hf, World.cell?_setCell_same' _ _ _ (by rw [c1]; rfl)⟩, (hB.trans (hb.mono hB.size)).setCell (p := ⟨W.heap.size + 1, 0, none⟩) (Nat.le_succ _) _⟩
    | false =>
      rw [hfx] at HC
      gi_wp2_with ((try refine ⟨trivial, ?_⟩); gi_at_call 30; refine (CallsIn.inRound l (callsIn_wide.2 HC.out)).mono ?_; rintro e w1 ⟨rfl, hb⟩)
      refine ⟨keeps_below hb, trivial, ⟨fun y hy => ?_, (hb.block _ hfb.lt).trans hfb, (hb.block _ hrb.lt).trans hrb, hB.trans (hb.mono hB.size)⟩⟩
      rcases List.mem_append.1 hy with h | h
      · exact hf y h
      · obtain rfl := List.mem_singleton.1 h
        exact hfx
  case done =>
    rintro D ys W1 hD rfl ⟨hf, _, hrb, hB⟩ hK
    have c0 := hrb.cell
    have f0 := hrb.frozen
    gi_wp2
    have hK' := (KeepsOthers.setCell W1 ⟨W.heap.size + 1, 0, none⟩ (.int .i64 0)).same D _ hK rfl
    refine ⟨by simp, .inl ⟨_, _, rfl, run_takeDeferred hK', ?_⟩⟩
    have hc5 := cell_kept (World.cell?_setCell_same' W1 ⟨W.heap.size + 1, 0, none⟩ (.int .i64 0) (by rw [c0]; rfl)) (grownBy_putObj' _ D (.deferred none)) (fun r e => by cases e; exact ⟨_, hK', rfl⟩)
    refine ⟨.int .i64 0, ?_, by rw [wds_all hf], (hB.setCell (p := ⟨W.heap.size + 1, 0, none⟩) (Nat.le_succ _) _).trans (belowK_b (w := W) (Nat.le_refl _) _ D _ _ (by omega) hK' rfl rfl)⟩
    simp [results, Tryd.f24, go_sem, hc5]
  case stop =>
    rintro D c pre W1 hD hpre ⟨⟨rfl, p, x, rfl, hx, hp, hc⟩, hB⟩ hK
    gi_wp2
    refine ⟨by simp, .inl ⟨_, _, rfl, run_takeDeferred hK, ?_⟩⟩
    have hc5 := cell_kept hc (grownBy_putObj' _ D (.deferred none)) (fun r e => by cases e; exact ⟨_, hK, rfl⟩)
    refine ⟨.int .i64 x.1, ?_, by rw [wds_hit hpre hx hp], hB.trans (belowK_b (w := W) (Nat.le_refl _) _ D _ _ (by omega) hK rfl rfl)⟩
    simp [results, Tryd.f24, go_sem, hc5]
end Go.Proofs.YtaeboneddndfkaaDoor
