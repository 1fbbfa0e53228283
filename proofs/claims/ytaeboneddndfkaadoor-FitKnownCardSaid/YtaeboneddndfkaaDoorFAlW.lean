/-
  What is proved here: FitAlls returns true; conditions: the contracts of fit.One and fit.All, the table of package tag, and arguments that the form reads.
-/
import Derived.Test.YtaeboneddndfkaaDoorFOneW
namespace Go.Proofs.YtaeboneddndfkaaDoor
open Go.RowKit Tg

theorem eqVal (w : World) (a b c : Int) : (binOp .eql 24 (.agg #[.int .i64 a, .int .i64 b, .int .u64 c]) (.agg #[.int .i64 a, .int .i64 b, .int .u64 c])).run Tryd.prog w = .ok (.bool true) w := by
  have u3 := Tryd.underlying3
  have a3 := Tryd.isAgg3
  have z3 := Tryd.sizeOf3
  have u5 := Tryd.underlying22
  have a5 := Tryd.isAgg22
  have z5 := Tryd.sizeOf22
  rw [run_eql_struct, show (10000 : Nat) = 9999 + 1 from rfl, run_equalIn_agg w 9999 24 _ _ valS valH]
  simp only [Program.fieldsOf, Tryd.underlying24]
  go_simp
/-- Between two calls: the boxes of the place and of the keys, and the argument. -/
structure FA (w0 : World) (g h : Nat) (a b : Int) (k : V3) (v : Value) (xs : List V3) (W : World) : Prop where
  wl : WL w0 W
  bg : Bx W g 28 #[.int .i64 a, .int .i64 b]
  bh : Bx W h 24 #[.int .i64 k.t, .int .i64 k.w, .int .u64 k.n]
  rd : Rd W v xs
section
variable {w0 W W' : World} {g h : Nat} {a b : Int} {k : V3} {v : Value} {xs : List V3}
theorem FA.keep (H : FA w0 g h a b k v xs W) (hb : Below W.heap.size W W') : FA w0 g h a b k v xs W' := ⟨H.wl.keep hb, H.bg.below hb H.bg.lt, H.bh.below hb H.bh.lt, H.rd.below hb⟩
theorem FA.all (H : Hid (FA w0 g h a b k v xs W)) : W.cell? ⟨g, 0, none⟩ = some (.int .i64 a) ∧ W.cell? ⟨g, 1, none⟩ = some (.int .i64 b) ∧ W.cell? ⟨h, 0, none⟩ = some (.int .i64 k.t) ∧ W.cell? ⟨h, 1, none⟩ = some (.int .i64 k.w) ∧ W.cell? ⟨h, 2, none⟩ = some (.int .u64 k.n) ∧ Hid (FA w0 g h a b k v xs W) :=
  ⟨H.out.bg.cell 0, H.out.bg.cell 1, H.out.bh.cell 0, H.out.bh.cell 1, H.out.bh.cell 2, H⟩
theorem FA.drew (H : Hid (FA w0 g h a b k v xs W)) : Hid (FA w0 g h a b k v xs W.drew) := Lib.hid (H.out.keep (Below.refl _ _).drew)
theorem FA.born (H : WL w0 W) (hr : Rd W v xs) : FA w0 W.heap.size (W.heap.size + 1) a b k v xs ((W.alloc (.cells #[.int .i64 a, .int .i64 b] 28)).alloc (.cells #[.int .i64 k.t, .int .i64 k.w, .int .u64 k.n] 24)) := by
  have h1 := al0 W (.cells #[.int .i64 a, .int .i64 b] 28)
  have h2 := al0 (W.alloc (.cells #[.int .i64 a, .int .i64 b] 28)) (.cells #[.int .i64 k.t, .int .i64 k.w, .int .u64 k.n] 24)
  have hz : (W.alloc (.cells #[.int .i64 a, .int .i64 b] 28)).heap.size = W.heap.size + 1 := by simp
  refine ⟨(H.keep h1).keep h2, (Bx.new W _ _).below h2 (by omega), ?_, (hr.below h1).below h2⟩
  have := Bx.new (W.alloc (.cells #[.int .i64 a, .int .i64 b] 28)) 24 #[.int .i64 k.t, .int .i64 k.w, .int .u64 k.n]
  rw [hz] at this
  exact this
end
set_option maxRecDepth 20000 in
set_option maxHeartbeats 1000000 in
theorem fitAlls_walk (H1 : OneOK) (H2 : AllOK) (a b : Int) (k : V3) (xs : List V3) (v : Value) (w : World) (ba : -9223372036854775808 ≤ a ∧ a ≤ 9223372036854775807) (bb : -9223372036854775808 ≤ b ∧ b ≤ 9223372036854775807) (hk : okV k) (hx : ∀ x ∈ xs, okV x) (hr : Rd w v xs) (hT : Tab w) :
    Calls Tryd.prog 4 #[.agg #[.int .i64 a, .int .i64 b], k.agg, v] w fun e w' => e = .returned (.bool true) ∧ Below w.heap.size w w' := by
  obtain ⟨t, vw, n⟩ := k
  obtain ⟨A0, n0, c0, rfl, hr0⟩ := hr
  have hr := hr0.rd
  have HN0 := Lib.hid hr0.1
  have hm0 : n0 ≤ 9223372036854775807 := by have := hr0.2.1; have := hr0.2.2.1; unfold maxLen at this; omega
  clear hr0
  have hs := FA.born (a := a) (b := b) (k := ⟨t, vw, n⟩) (WL.start hT) hr
  have HS0 := Lib.hid hs
  clear hs
  show Calls Tryd.prog 4 #[.agg #[.int .i64 a, .int .i64 b], .agg #[.int .i64 t, .int .i64 vw, .int .u64 n], .slice A0 n0 c0] w _
  go_enter Tryd.func4, Tryd.ntmps4
  go_upto_region 1 with fail
  obtain ⟨w1, hw1⟩ : ∃ w1, (w.alloc (.cells #[.int .i64 a, .int .i64 b] 28)).alloc (.cells #[.int .i64 t, .int .i64 vw, .int .u64 n] 24) = w1 := ⟨_, rfl⟩
  obtain ⟨g, hg⟩ : ∃ g, w.heap.size = g := ⟨_, rfl⟩
  have hs := HS0.out
  simp only [hw1, hg] at hs ⊢
  have HS := Lib.hid hs
  clear hs HS0 hw1 hg hr
  obtain ⟨ys, hys⟩ : ∃ ys, xs.take 300 = ys := ⟨_, rfl⟩
  have hyv : ∀ y ∈ ys, okV y := fun y hy => hx y (by rw [← hys] at hy; exact List.mem_of_mem_take hy)
  have HFW : Hid (∀ W, Hid (FA w g (g + 1) a b ⟨t, vw, n⟩ (.slice A0 n0 c0) xs W) → Calls Tryd.prog 14 #[.slice A0 n0 c0] W fun e w' => ∃ A n1 c, e = .returned (.slice A n1 c) ∧ Hid (FA w g (g + 1) a b ⟨t, vw, n⟩ (.slice A0 n0 c0) xs w') ∧ Hid (Rs w' A n1 c ys) ∧ Hid (n1 = ys.length)) := Lib.hid fun W H => by
    refine (few_any H.out.rd).mono ?_
    rintro e w' ⟨u, rfl, ho, hb⟩
    rw [hys] at ho
    obtain ⟨A, c, rfl, hrs⟩ := ho.rs
    exact ⟨A, _, c, rfl, Lib.hid (H.out.keep hb), Lib.hid hrs, Lib.hid rfl⟩
  have HFW2 : Hid (∀ W A1 n1 c1, Hid (FA w g (g + 1) a b ⟨t, vw, n⟩ (.slice A0 n0 c0) xs W) → Hid (Rs W A1 n1 c1 ys) → Calls Tryd.prog 14 #[.slice A0 n0 c0] W fun e w' => ∃ A c, e = .returned (.slice A ys.length c) ∧ Hid (FA w g (g + 1) a b ⟨t, vw, n⟩ (.slice A0 n0 c0) xs w') ∧ Hid (Rs w' A1 n1 c1 ys) ∧ Hid (Rs w' A ys.length c ys)) := Lib.hid fun W A1 n1 c1 H HR => by
    refine (few_any H.out.rd).mono ?_
    rintro e w' ⟨u, rfl, ho, hb⟩
    rw [hys] at ho
    obtain ⟨A, c, rfl, hrs⟩ := ho.rs
    exact ⟨A, c, rfl, Lib.hid (H.out.keep hb), Lib.hid (HR.out.below hb), Lib.hid hrs⟩
  obtain ⟨r, hr⟩ : ∃ r, allV a b ⟨t, vw, n⟩ ys = r := ⟨_, rfl⟩
  have HAL : Hid (∀ W A n1 c, Hid (FA w g (g + 1) a b ⟨t, vw, n⟩ (.slice A0 n0 c0) xs W) → Hid (Rs W A n1 c ys) → Calls Tryd.prog 15 #[.int .i64 a, .int .i64 b, .agg #[.int .i64 t, .int .i64 vw, .int .u64 n], .slice A n1 c] W fun e w' => e = .returned (.int .i64 r) ∧ Hid (FA w g (g + 1) a b ⟨t, vw, n⟩ (.slice A0 n0 c0) xs w') ∧ Hid (Rs w' A n1 c ys)) := Lib.hid fun W A n1 c H HR => by
    refine (H2 a b ⟨t, vw, n⟩ ys _ W hk hyv HR.out.rd ba.1 ba.2 bb.1 bb.2 H.out.wl.1).mono ?_
    rintro e w' ⟨rfl, hb⟩
    exact ⟨by rw [hr], Lib.hid (H.out.keep hb), Lib.hid (HR.out.below hb)⟩
  have HRL : Hid (∀ W A n1 c A1 n2 c2, Hid (FA w g (g + 1) a b ⟨t, vw, n⟩ (.slice A0 n0 c0) xs W) → Hid (Rs W A1 n2 c2 ys) → Hid (Rs W A n1 c ys) → Calls Tryd.prog 16 #[.int .i64 a, .int .i64 b, .agg #[.int .i64 t, .int .i64 vw, .int .u64 n], .slice A n1 c] W fun e w' => e = .returned (.int .i64 r) ∧ Hid (FA w g (g + 1) a b ⟨t, vw, n⟩ (.slice A0 n0 c0) xs w') ∧ Hid (Rs w' A1 n2 c2 ys)) := Lib.hid fun W A n1 c A1 n2 c2 H HR HR2 => by
    refine (rAll_any a b ⟨t, vw, n⟩ ys _ W hk hyv HR2.out.rd).mono ?_
    rintro e w' ⟨rfl, hb⟩
    exact ⟨by rw [hr], Lib.hid (H.out.keep hb), Lib.hid (HR.out.below hb)⟩
  have HW : Hid (∀ W, Hid (FA w g (g + 1) a b ⟨t, vw, n⟩ (.slice A0 n0 c0) xs W) → Calls Tryd.prog 13 #[] W fun e w' => e = .returned (.bool true) ∧ Below w.heap.size w w') := Lib.hid fun W H => (works_true H1 H2 W H.out.wl.1).mono fun _ _ ⟨h1, h2⟩ => ⟨h1, (H.out.wl.keep h2).2⟩
  have HYS := Lib.hid hys
  clear hr hys hyv hx hk ba bb H1 H2 hT
  go_wp2_with (go_at_call 14; (with_reducible refine (HFW.out _ (by assumption)).mono ?_); rintro e w2 ⟨A, n1, c, rfl, HS, HI, HN⟩)
  have HSd := FA.drew HS
  have HId : Hid (Rs w2.drew A n1 c ys) := Lib.hid (HI.out.below (Below.refl _ _).drew)
  go_region_held3 (fun W => W.cell? ⟨g, 0, none⟩ = some (.int .i64 a) ∧ W.cell? ⟨g, 1, none⟩ = some (.int .i64 b) ∧ W.cell? ⟨g + 1, 0, none⟩ = some (.int .i64 t) ∧ W.cell? ⟨g + 1, 1, none⟩ = some (.int .i64 vw) ∧ W.cell? ⟨g + 1, 2, none⟩ = some (.int .u64 n) ∧ Hid (FA w g (g + 1) a b ⟨t, vw, n⟩ (.slice A0 n0 c0) xs W))
    (first | (with_reducible exact FA.all HSd) | (with_reducible exact FA.all (by assumption)))
    (first
      | (go_at_call 15; (with_reducible refine (HAL.out _ _ _ _ (by assumption) (by assumption)).mono ?_); rintro e w3 ⟨rfl, HS, HI⟩)
      | (go_at_call 14; (with_reducible refine (HFW2.out _ A n1 c (by assumption) (by assumption)).mono ?_); rintro e w3 ⟨A2, c2, rfl, HS, HI, HI2⟩)
      | (go_at_call 16; (with_reducible refine (HRL.out _ _ _ _ A n1 c (by assumption) (by assumption) (by assumption)).mono ?_); rintro e w3 ⟨rfl, HS, HI⟩))
  go_wp2_with fail
  have hn1 : n1 ≤ 300 ∧ n1 ≤ n0 := by have := HN.out; rw [← HYS.out, List.length_take, HN0.out] at this; omega
  go_loopw [8, 9] (fun x y wr => x = .bool true ∧ ∃ j : Nat, y = .int .i64 j ∧ j ≤ n1 ∧ Hid (FA w g (g + 1) a b ⟨t, vw, n⟩ (.slice A0 n0 c0) xs wr) ∧ Hid (Rs wr A n1 c ys)) (fun _ y _ => (n1 - intOf y).toNat)
  case atStart => exact ⟨rfl, 0, rfl, by omega, by assumption, by assumption⟩
  case round =>
    obtain ⟨rfl, j, rfl, hj, HS, HI⟩ := hrel
    by_cases hjn : j < n1
    · obtain ⟨s, hs1, hs2⟩ : ∃ s, ys[j]? = some s ∧ xs[j]? = some s := by
        have h1 : j < ys.length := by rw [← HN.out]; exact hjn
        obtain ⟨y, hy⟩ : ∃ y, ys[j]? = some y := ⟨_, List.getElem?_eq_getElem h1⟩
        refine ⟨y, hy, ?_⟩
        rw [← HYS.out, List.getElem?_take, if_pos (by omega)] at hy
        exact hy
      obtain ⟨b1, o1, rfl, -, hc1⟩ := HI.out.2.2.2 (by omega)
      obtain ⟨A2, n2, c2, he, hr2⟩ := HS.out.rd
      cases he
      obtain ⟨b2, o2, rfl, -, hc2⟩ := hr2.2.2.2 (by omega)
      obtain ⟨x0, x1, x2⟩ := hc1 j s hs1
      obtain ⟨y0, y1, y2⟩ := hc2 j s hs2
      clear hc1 hc2 hr2 hs1 hs2
      have hj0 : (0 : Int) ≤ (j : Int) := by omega
      have hj1 : (j : Int) < (n1 : Int) := by omega
      have hj2 : (j : Int) < (n0 : Int) := by omega
      go_wp2_with fail
      obtain ⟨st, sw, sn⟩ := s
      have heq : ∀ W, (binOp .eql 24 (.agg #[.int .i64 st, .int .i64 sw, .int .u64 sn]) (.agg #[.int .i64 st, .int .i64 sw, .int .u64 sn])).run Tryd.prog W = .ok (.bool true) W := fun W => eqVal W st sw sn
      go_region_held3 (fun W => W.cell? ⟨b1, o1 + j * 3, none⟩ = some (.int .i64 st) ∧ W.cell? ⟨b1, o1 + j * 3 + 1, none⟩ = some (.int .i64 sw) ∧ W.cell? ⟨b1, o1 + j * 3 + 2, none⟩ = some (.int .u64 sn) ∧
        W.cell? ⟨b2, o2 + j * 3, none⟩ = some (.int .i64 st) ∧ W.cell? ⟨b2, o2 + j * 3 + 1, none⟩ = some (.int .i64 sw) ∧ W.cell? ⟨b2, o2 + j * 3 + 2, none⟩ = some (.int .u64 sn))
        (exact ⟨x0, x1, x2, y0, y1, y2⟩) (fail)
      go_wp2_with fail
      go_roundw
      case rel => exact ⟨rfl, j + 1, by simp, by omega, FA.drew HS, Lib.hid (HI.out.below (Below.refl _ _).drew)⟩
      case measure => simp [intOf]; omega
    · obtain rfl : j = n1 := by omega
      go_wp2_with (go_at_call 13; (with_reducible refine (HW.out _ (by assumption)).mono ?_); rintro e w4 ⟨rfl, hs⟩; have HE := Lib.hid hs; clear hs)
      go_ret
      exact ⟨rfl, HE.out⟩
end Go.Proofs.YtaeboneddndfkaaDoor
