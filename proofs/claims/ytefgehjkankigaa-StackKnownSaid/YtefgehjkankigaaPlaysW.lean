/-
  What is proved here: StackPlays returns true and leaves all memory that was there as it was; condition: the argument reads as a list of calls.
-/
import Derived.Test.YtefgehjkankigaaBackW
namespace Go.Proofs.Ytefgehjkankigaa
open Go.RowKit

theorem rNewF2_any {w0 w : World} {p : Nat} {k : Bool} {xs : List V3} {R : List (Value × List V3)} (h : Fm w0 p k xs none R w) : Calls Try.prog 10 #[] w fun e w' => ∃ q, e = .returned (.pointer (some ⟨q, 0, none⟩)) ∧ Fm w0 p k xs (some (q, false, [])) R w' := by
  refine (rNew_any w).mono ?_
  rintro e w' ⟨rfl, rfl⟩
  exact ⟨_, rfl, h.new2 false⟩
theorem Fm.addnil {w0 w : World} {p : Nat} {k : Bool} {xs : List V3} {T : Option (Nat × Bool × List V3)} {R : List (Value × List V3)} (h : Fm w0 p k xs T R w) : Fm w0 p k xs T ((.slice none 0 0, []) :: R) w := by
  obtain ⟨⟨v, u, h1, h2, h3, h4, h5⟩, h0⟩ := h
  refine ⟨⟨v, u, h1, h2, h3, h4, fun r hr => ?_⟩, h0⟩
  rcases List.mem_cons.1 hr with rfl | hr
  · exact ⟨OV.nil _ _, (Ap.nil _).symm, (Ap.nil _).symm⟩
  · exact h5 r hr
/-- A stack, another, rows beside them and the variable of a call. -/
def FD (w0 : World) (p : Nat) (k : Bool) (xs : List V3) (T : Option (Nat × Bool × List V3)) (R : List (Value × List V3)) (x : Nat) (cs : Array Value) (w : World) : Prop := Fm w0 p k xs T R w ∧ Bx w x 29 cs
section
variable {w0 w w' : World} {p q x : Nat} {k l : Bool} {cs : Array Value} {xs ys zs : List V3} {T : Option (Nat × Bool × List V3)} {R : List (Value × List V3)}
theorem FD.fm (h : FD w0 p k xs T R x cs w) : Fm w0 p k xs T R w := h.1
theorem FD.below (h : FD w0 p k xs T R x cs w) (hb : Below w.heap.size w w') : FD w0 p k xs T R x cs w' := ⟨h.1.below hb, h.2.below hb h.2.lt⟩
theorem FD.swap (h : FD w0 p k xs (some (q, l, ys)) R x cs w) : FD w0 q l ys (some (p, k, xs)) R x cs w := ⟨h.1.swap, h.2⟩
theorem ty_do (k : Bool) : (29 : TypeId) ≠ ty k := by cases k <;> decide
theorem Bx.step {v v' : Value} (h1 : Sk w0.heap.size w p k v xs) (hx : Bx w x 29 cs) (hc : Ch w w' p v v') : Bx w' x 29 cs :=
  hx.same (hc.block x hx.lt (bx_ne hx h1.box (ty_do k)) (hx.ne_row h1.own (by decide)))
theorem FD.call {r : Value} {xs' : List V3} {f : FuncId} {args : Array Value} (h : FD w0 p k xs T R x cs w) (hc : ∀ v, Sk w0.heap.size w p k v xs → Calls Try.prog f args w (SP w0.heap.size w p k v xs' r)) :
    Calls Try.prog f args w fun e w' => e = .returned r ∧ FD w0 p k xs' T R x cs w' := by
  obtain ⟨⟨⟨v, u, h1, h2, h3, h4, h5⟩, h0⟩, hx⟩ := h
  refine (hc v h1).mono ?_
  rintro e w' ⟨v', rfl, hs, hch⟩
  obtain ⟨g1, g2, g3, g4⟩ := Fm.step h1 h2 h3 h4 h5 h0 hs hch
  exact ⟨rfl, ⟨⟨v', u, hs, g1, g2, h4, g3⟩, g4⟩, Bx.step h1 hx hch⟩
theorem FD.give {xs' : List V3} {er : Int} {f : FuncId} {args : Array Value} (h : FD w0 p k xs T R x cs w) (hc : ∀ v, Sk w0.heap.size w p k v xs → Calls Try.prog f args w (SO w0.heap.size w p k v xs' zs er)) :
    Calls Try.prog f args w fun e w' => ∃ A n c, e = .returned (.tuple #[.slice A n c, .int .i64 er]) ∧ FD w0 p k xs' T ((.slice A n c, zs) :: R) x cs w' := by
  obtain ⟨⟨⟨v, u, h1, h2, h3, h4, h5⟩, h0⟩, hx⟩ := h
  refine (hc v h1).mono ?_
  rintro e w' ⟨v', a, rfl, hs, hch, ho, hob⟩
  obtain ⟨g1, g2, g3, g4⟩ := Fm.step h1 h2 h3 h4 h5 h0 hs hch
  obtain ⟨A, c, rfl, _⟩ := ho.rs
  refine ⟨_, _, _, rfl, ⟨⟨v', u, hs, g1, g2, h4, fun r hr => ?_⟩, g4⟩, Bx.step h1 hx hch⟩
  rcases List.mem_cons.1 hr with rfl | hr
  · refine ⟨ho.mono h0.size, (Ap.lt (fun i hi => h1.row_lt i (by rw [← hob]; exact hi)) (fun i hi => (ho.bd i hi).1)).symm, (Ap.lt (Fm.second_row h3 h4) (fun i hi => (ho.bd i hi).1)).symm⟩
  · exact g3 r hr
theorem FD.row {a : Value} (h : FD w0 p k xs T R x cs w) (hb : Below w.heap.size w w') (ho : OV w' w.heap.size a zs) : FD w0 p k xs T ((a, zs) :: R) x cs w' := ⟨h.1.row hb ho, h.2.below hb h.2.lt⟩
theorem FD.wreck {a : Value} (h : FD w0 p k xs T R x cs w) (hr : (a, zs) ∈ R) (hz : zs.length ≤ 65536) : Calls Try.prog 20 #[a] w fun e w' => e = .returned (.tuple #[]) ∧ Fm w0 p k xs T [] w' := h.1.wreck hr hz
end
/-- The two stacks of StackPlays. -/
abbrev Tw (w0 : World) (p q : Nat) (xs ys : List V3) (R : List (Value × List V3)) (w : World) : Prop := Fm w0 p true xs (some (q, false, ys)) R w
abbrev TD (w0 : World) (p q : Nat) (xs ys : List V3) (R : List (Value × List V3)) (x : Nat) (cs : Array Value) (w : World) : Prop := FD w0 p true xs (some (q, false, ys)) R x cs w
section
variable {w0 w : World} {p q x : Nat} {cs : Array Value} {xs ys zs : List V3} {R : List (Value × List V3)}
theorem tPop1 (h : TD w0 p q xs ys R x cs w) (n : Int) : Calls Try.prog 12 #[.pointer (some ⟨p, 0, none⟩), .int .i64 n] w fun e w' => ∃ A m c, e = .returned (.tuple #[.slice A m c, .int .i64 (rngE n xs)]) ∧ TD w0 p q (popS n xs) ys ((.slice A m c, popL n xs) :: R) x cs w' :=
  h.give fun _ hv => pop_any hv n
theorem tPop2 (h : TD w0 p q ys xs R x cs w) (n : Int) : Calls Try.prog 13 #[.pointer (some ⟨q, 0, none⟩), .int .i64 n] w fun e w' => ∃ A m c, e = .returned (.tuple #[.slice A m c, .int .i64 (rngE n xs)]) ∧ TD w0 p q ys (popS n xs) ((.slice A m c, popL n xs) :: R) x cs w' :=
  (h.swap.give fun _ hv => rPop_any hv n).mono fun _ _ ⟨A, m, c, h1, h2⟩ => ⟨A, m, c, h1, h2.swap⟩
theorem tFrom1 (h : TD w0 p q xs ys R x cs w) (n : Int) : Calls Try.prog 14 #[.pointer (some ⟨p, 0, none⟩), .int .i64 n] w fun e w' => ∃ A m c, e = .returned (.tuple #[.slice A m c, .int .i64 (rngE n xs)]) ∧ TD w0 p q xs ys ((.slice A m c, frmL n xs) :: R) x cs w' := by
  obtain ⟨v, hv⟩ := h.1.fst
  refine (from_any hv n).mono ?_
  rintro e w' ⟨u, rfl, ho, hb⟩
  obtain ⟨A, c, rfl, _⟩ := ho.rs
  exact ⟨_, _, _, rfl, h.row hb ho⟩
theorem tFrom2 (h : TD w0 p q ys xs R x cs w) (n : Int) : Calls Try.prog 15 #[.pointer (some ⟨q, 0, none⟩), .int .i64 n] w fun e w' => ∃ A m c, e = .returned (.tuple #[.slice A m c, .int .i64 (rngE n xs)]) ∧ TD w0 p q ys xs ((.slice A m c, frmL n xs) :: R) x cs w' := by
  obtain ⟨v, hv⟩ := h.swap.1.fst
  refine (rFrom_any hv n).mono ?_
  rintro e w' ⟨u, rfl, ho, hb⟩
  obtain ⟨A, c, rfl, _⟩ := ho.rs
  exact ⟨_, _, _, rfl, h.row hb ho⟩
theorem tFew {a : Value} (h : TD w0 p q xs ys R x cs w) (ha : Rd w a zs) : Calls Try.prog 16 #[a] w fun e w' => ∃ A m c, e = .returned (.slice A m c) ∧ TD w0 p q xs ys ((.slice A m c, zs.take 30) :: R) x cs w' := by
  refine (few_any ha).mono ?_
  rintro e w' ⟨u, rfl, ho, hb⟩
  obtain ⟨A, c, rfl, _⟩ := ho.rs
  exact ⟨_, _, _, rfl, h.row hb ho⟩
theorem tPush1 {a : Value} (h : TD w0 p q xs ys R x cs w) (ha : Rd w a zs) : Calls Try.prog 17 #[.pointer (some ⟨p, 0, none⟩), a] w fun e w' => e = .returned (.int .i64 (pshE xs zs)) ∧ TD w0 p q (psh xs zs) ys R x cs w' :=
  h.call fun _ hv => push_any hv ha
theorem tPush2 {a : Value} (h : TD w0 p q ys xs R x cs w) (ha : Rd w a zs) (hz : zs.length ≤ 100000) : Calls Try.prog 18 #[.pointer (some ⟨q, 0, none⟩), a] w fun e w' => e = .returned (.int .i64 (pshE xs zs)) ∧ TD w0 p q ys (psh xs zs) R x cs w' :=
  (h.swap.call fun _ hv => rPush_any hv ha hz).mono fun _ _ ⟨h1, h2⟩ => ⟨h1, h2.swap⟩
theorem popL_le (n : Int) (xs : List V3) : (popL n xs).length ≤ xs.length := by unfold popL; split <;> simp
theorem frmL_le (n : Int) (xs : List V3) : (frmL n xs).length ≤ xs.length := by unfold frmL; split <;> simp
end

set_option maxRecDepth 20000 in
set_option maxHeartbeats 1000000 in
theorem stackPlays_walk (l : List Dv) (v : Value) (w : World) (h : RdD w v l) :
    Calls Try.prog 3 #[v] w fun e w' => e = .returned (.bool true) ∧ Below w.heap.size w w' := by
  obtain ⟨A, n, c, rfl, hn, hnc, hcm, hok, hA⟩ := h
  unfold maxLen at hcm
  have HB0 := Lib.hid (Below.refl w.heap.size w)
  have HA := Lib.hid hA
  have HOK := Lib.hid hok
  have HN := Lib.hid hn
  clear hA hok hn
  go_enter Try.func3, Try.ntmps3
  go_wp2_with (first
    | (go_at_call 9; (with_reducible refine (newF_any HB0.out).mono ?_); rintro e w1 ⟨p, rfl, hs⟩; have HS := Lib.hid hs; clear hs)
    | (go_at_call 10; (with_reducible refine (rNewF2_any HS.out).mono ?_); rintro e w2 ⟨q, rfl, hs⟩; clear HS; have HS := Lib.hid hs; clear hs))
  go_loopw [5] (fun i wr => ∃ (k : Nat) (xs : List V3), k ≤ n ∧ k ≤ 60 ∧ i = .int .i64 k ∧ Hid (Tw w p q xs xs [] wr)) (fun i _ => 60 - (intOf i).toNat)
  case atStart => exact ⟨0, [], Nat.zero_le _, Nat.zero_le _, rfl, HS⟩
  case round =>
    obtain ⟨k, xs, hk, hk6, rfl, H⟩ := hrel
    by_cases hlt : k < n
    · by_cases hlt6 : k < 60
      · obtain ⟨d, hd⟩ : ∃ d, l[k]? = some d := ⟨_, List.getElem?_eq_getElem (by have := HN.out; omega)⟩
        obtain ⟨b, off, rfl, hbl, hcell⟩ := HA.out (by omega)
        have hdk := HOK.out d (List.mem_of_getElem? hd)
        obtain ⟨dk, dn, dv⟩ := d
        obtain ⟨zs, hz⟩ := hdk.rd
        obtain ⟨A1, n1, c1, e1, _⟩ := id hz
        have e1' : dv = .slice A1 n1 c1 := e1
        subst e1'
        obtain ⟨g0, g1, g2⟩ := (hcell k _ hd).below H.out.2 hbl
        have HZ := Lib.hid hz
        have hb0 := Int.emod_nonneg dk (show (4 : Int) ≠ 0 by omega)
        have hb1 := Int.emod_lt_of_pos dk (show (0 : Int) < 4 by omega)
        have HBR : Hid (∀ W, Calls Try.prog 11 #[.int .i64 dk, .int .i64 4] W fun e w' => e = .returned (.int .i64 (dk % 4)) ∧ W = w') := Lib.hid fun W => bring_any dk 4 W hdk.k0 hdk.k1 (by omega) (by omega)
        obtain ⟨f, hf⟩ : ∃ f, dk % 4 = f := ⟨_, rfl⟩
        rw [hf] at HBR hb0 hb1
        clear hd hcell hdk hz e1 hf
        obtain ⟨x, hxx⟩ : ∃ x, x = wr.heap.size := ⟨_, rfl⟩
        obtain ⟨wx, hwx⟩ : ∃ wx, wx = wr.alloc (.cells #[.int .i64 dk, .int .i64 dn, .slice A1 n1 c1] 29) := ⟨_, rfl⟩
        have HD : Hid (TD w p q xs xs [] x #[.int .i64 dk, .int .i64 dn, .slice A1 n1 c1] wx) := Lib.hid (by
          rw [hwx, hxx]; exact ⟨H.out.alloc _, Bx.new _ _ _⟩)
        have HXF := H.out.fit
        by_cases hf2 : f = 2
        · subst hf2
          obtain ⟨er, her⟩ : ∃ er, rngE dn xs = er := ⟨_, rfl⟩
          obtain ⟨us, hus⟩ : ∃ us, popL dn xs = us := ⟨_, rfl⟩
          obtain ⟨vs, hvs⟩ : ∃ vs, popS dn xs = vs := ⟨_, rfl⟩
          have hul : us.length ≤ 65536 := by rw [← hus]; exact Nat.le_trans (popL_le dn xs) HXF
          have HZL : Hid (us.length ≤ 100000) := Lib.hid (by omega)
          have HZ6 : Hid (us.length ≤ 65536) := Lib.hid hul
          have HP1 := Lib.hid (tPop1 HD.out dn)
          have HP2 : Hid (∀ W R, Hid (TD w p q vs xs R x #[.int .i64 dk, .int .i64 dn, .slice A1 n1 c1] W) → Calls Try.prog 13 #[.pointer (some ⟨q, 0, none⟩), .int .i64 dn] W fun e w' => ∃ A m c, e = .returned (.tuple #[.slice A m c, .int .i64 er]) ∧ TD w p q vs vs ((.slice A m c, us) :: R) x #[.int .i64 dk, .int .i64 dn, .slice A1 n1 c1] w') := Lib.hid fun W R hW => by
            have := tPop2 hW.out dn
            rw [her, hus, hvs] at this; exact this
          rw [her, hus, hvs] at HP1
          have x1 : wx.cell? ⟨x, 1, none⟩ = some (.int .i64 dn) := HD.out.2.cell 1
          clear her hus hul hvs
          go_upto_region 15 with (go_at_call 11; (with_reducible refine (HBR.out _).mono ?_); rintro e w4 ⟨rfl, rfl⟩)
          rw [← hwx, ← hxx]
          clear hwx hxx HBR g0 g1 g2
          go_upto_region 16 with (go_at_call 12; (with_reducible refine HP1.out.mono ?_); rintro e w5 ⟨A2, n2, c2, rfl, hs⟩; have y1 : w5.cell? ⟨x, 1, none⟩ = some (.int .i64 dn) := hs.2.cell 1; have HS5 := Lib.hid hs; clear hs)
          go_upto_region 20 with (go_at_call 13; (with_reducible refine (HP2.out _ _ HS5).mono ?_); rintro e wt ⟨A3, n3, c3, rfl, hs⟩; have HS6 := Lib.hid hs; clear hs)
          clear HP1 HP2 HS5 x1 y1
          have HSM : Hid (∀ z, Calls Try.prog 19 #[.slice A2 n2 c2, .slice A3 n3 c3] (wt.drewN z) fun e w' => e = .returned (.bool true) ∧ ∃ m, w' = (wt.drewN z).drewN m) := Lib.hid fun z => same_any ((HS6.out.1.drewN z).rd (zs := us) (by simp)) ((HS6.out.1.drewN z).rd (by simp)) HZL.out
          have HLN : Hid (∀ z, Calls Try.prog 21 #[.pointer (some ⟨p, 0, none⟩)] (wt.drewN z) fun e w' => e = .returned (.int .i64 ((vs).length : Int)) ∧ w' = wt.drewN z) := Lib.hid fun z => (len_F (HS6.out.1.drewN z)).mono fun _ _ ⟨h1, h2⟩ => ⟨h1, h2.symm⟩
          obtain ⟨vq, hvq⟩ := HS6.out.1.swap.fst
          obtain ⟨U, uc, rfl, _⟩ := hvq.own.rs
          have q0 : wt.cell? ⟨q, 0, none⟩ = some (.slice U (vs).length uc) := hvq.cell
          have HFIT := Lib.hid hvq.fit
          obtain ⟨yl, hyl⟩ : ∃ yl, yl = (vs).length := ⟨_, rfl⟩
          rw [← hyl] at HLN q0
          clear hvq hyl
          go_quiet (first
            | (go_at_call 19; exact Calls.quiet_of (HSM.out _))
            | (go_at_call 21; exact Calls.quiet_of_same (HLN.out _)))
          have HWK := Lib.hid ((HS6.out.1.drewN nq).wreck (a := .slice A2 n2 c2) (zs := us) (by simp) HZ6.out)
          go_wp2_with (go_at_call 20; (with_reducible refine HWK.out.mono ?_); rintro e w8 ⟨rfl, h8⟩; have H8 := Lib.hid h8; clear h8)
          go_roundw
          case rel => exact ⟨k + 1, vs, by omega, by omega, by go_num, H8⟩
          case measure => simp [intOf]; omega
        · by_cases hf3 : f = 3
          · subst hf3
            obtain ⟨er, her⟩ : ∃ er, rngE dn xs = er := ⟨_, rfl⟩
            obtain ⟨us, hus⟩ : ∃ us, frmL dn xs = us := ⟨_, rfl⟩
            have hul : us.length ≤ 65536 := by rw [← hus]; exact Nat.le_trans (frmL_le dn xs) HXF
            have HZL : Hid (us.length ≤ 100000) := Lib.hid (by omega)
            have HZ6 : Hid (us.length ≤ 65536) := Lib.hid hul
            have HP1 := Lib.hid (tFrom1 HD.out dn)
            have HP2 : Hid (∀ W R, Hid (TD w p q xs xs R x #[.int .i64 dk, .int .i64 dn, .slice A1 n1 c1] W) → Calls Try.prog 15 #[.pointer (some ⟨q, 0, none⟩), .int .i64 dn] W fun e w' => ∃ A m c, e = .returned (.tuple #[.slice A m c, .int .i64 er]) ∧ TD w p q xs xs ((.slice A m c, us) :: R) x #[.int .i64 dk, .int .i64 dn, .slice A1 n1 c1] w') := Lib.hid fun W R hW => by
              have := tFrom2 hW.out dn
              rw [her, hus] at this; exact this
            rw [her, hus] at HP1
            have x1 : wx.cell? ⟨x, 1, none⟩ = some (.int .i64 dn) := HD.out.2.cell 1
            clear her hus hul
            go_upto_region 18 with (go_at_call 11; (with_reducible refine (HBR.out _).mono ?_); rintro e w4 ⟨rfl, rfl⟩)
            rw [← hwx, ← hxx]
            clear hwx hxx HBR g0 g1 g2
            go_upto_region 19 with (go_at_call 14; (with_reducible refine HP1.out.mono ?_); rintro e w5 ⟨A2, n2, c2, rfl, hs⟩; have y1 : w5.cell? ⟨x, 1, none⟩ = some (.int .i64 dn) := hs.2.cell 1; have HS5 := Lib.hid hs; clear hs)
            go_upto_region 20 with (go_at_call 15; (with_reducible refine (HP2.out _ _ HS5).mono ?_); rintro e wt ⟨A3, n3, c3, rfl, hs⟩; have HS6 := Lib.hid hs; clear hs)
            clear HP1 HP2 HS5 x1 y1
            have HSM : Hid (∀ z, Calls Try.prog 19 #[.slice A2 n2 c2, .slice A3 n3 c3] (wt.drewN z) fun e w' => e = .returned (.bool true) ∧ ∃ m, w' = (wt.drewN z).drewN m) := Lib.hid fun z => same_any ((HS6.out.1.drewN z).rd (zs := us) (by simp)) ((HS6.out.1.drewN z).rd (by simp)) HZL.out
            have HLN : Hid (∀ z, Calls Try.prog 21 #[.pointer (some ⟨p, 0, none⟩)] (wt.drewN z) fun e w' => e = .returned (.int .i64 ((xs).length : Int)) ∧ w' = wt.drewN z) := Lib.hid fun z => (len_F (HS6.out.1.drewN z)).mono fun _ _ ⟨h1, h2⟩ => ⟨h1, h2.symm⟩
            obtain ⟨vq, hvq⟩ := HS6.out.1.swap.fst
            obtain ⟨U, uc, rfl, _⟩ := hvq.own.rs
            have q0 : wt.cell? ⟨q, 0, none⟩ = some (.slice U (xs).length uc) := hvq.cell
            have HFIT := Lib.hid hvq.fit
            obtain ⟨yl, hyl⟩ : ∃ yl, yl = (xs).length := ⟨_, rfl⟩
            rw [← hyl] at HLN q0
            clear hvq hyl
            go_quiet (first
              | (go_at_call 19; exact Calls.quiet_of (HSM.out _))
              | (go_at_call 21; exact Calls.quiet_of_same (HLN.out _)))
            have HWK := Lib.hid ((HS6.out.1.drewN nq).wreck (a := .slice A2 n2 c2) (zs := us) (by simp) HZ6.out)
            go_wp2_with (go_at_call 20; (with_reducible refine HWK.out.mono ?_); rintro e w8 ⟨rfl, h8⟩; have H8 := Lib.hid h8; clear h8)
            go_roundw
            case rel => exact ⟨k + 1, xs, by omega, by omega, by go_num, H8⟩
            case measure => simp [intOf]; omega
          · have hb2 : (f == (2 : Int)) = false := by simpa using hf2
            have hb3 : (f == (3 : Int)) = false := by simpa using hf3
            obtain ⟨is, his⟩ : ∃ is, zs.take 30 = is := ⟨_, rfl⟩
            have hi30 : is.length ≤ 30 := by rw [← his, List.length_take]; omega
            have HZD : Hid (∀ W xs ys R, Hid (TD w p q xs ys R x #[.int .i64 dk, .int .i64 dn, .slice A1 n1 c1] W) → W.cell? ⟨x, 2, none⟩ = some (.slice A1 n1 c1)) := Lib.hid fun W xs ys R hW => hW.out.2.cell 2
            have HFE : Hid (∀ W xs ys R, Hid (TD w p q xs ys R x #[.int .i64 dk, .int .i64 dn, .slice A1 n1 c1] W) → Calls Try.prog 16 #[.slice A1 n1 c1] W fun e w' => ∃ A m c, e = .returned (.slice A m c) ∧ Hid (TD w p q xs ys ((.slice A m c, is) :: R) x #[.int .i64 dk, .int .i64 dn, .slice A1 n1 c1] w')) := Lib.hid fun W xs ys R hW => by
              have := tFew hW.out (HZ.out.below hW.out.1.2)
              rw [his] at this; exact this
            obtain ⟨er, her⟩ : ∃ er, pshE xs is = er := ⟨_, rfl⟩
            obtain ⟨vs, hvs⟩ : ∃ vs, psh xs is = vs := ⟨_, rfl⟩
            have HP1 : Hid (∀ W ys R a, Hid (TD w p q xs ys R x #[.int .i64 dk, .int .i64 dn, .slice A1 n1 c1] W) → (a, is) ∈ R → Calls Try.prog 17 #[.pointer (some ⟨p, 0, none⟩), a] W fun e w' => e = .returned (.int .i64 er) ∧ Hid (TD w p q vs ys R x #[.int .i64 dk, .int .i64 dn, .slice A1 n1 c1] w')) := Lib.hid fun W ys R a hW hr => by
              have := tPush1 hW.out (hW.out.1.rd hr)
              rw [her, hvs] at this; exact this
            have HP2 : Hid (∀ W ys R a, Hid (TD w p q ys xs R x #[.int .i64 dk, .int .i64 dn, .slice A1 n1 c1] W) → (a, is) ∈ R → Calls Try.prog 18 #[.pointer (some ⟨q, 0, none⟩), a] W fun e w' => e = .returned (.int .i64 er) ∧ Hid (TD w p q ys vs R x #[.int .i64 dk, .int .i64 dn, .slice A1 n1 c1] w')) := Lib.hid fun W ys R a hW hr => by
              have := tPush2 hW.out (hW.out.1.rd hr) (by omega)
              rw [her, hvs] at this; exact this
            have x2 : wx.cell? ⟨x, 2, none⟩ = some (.slice A1 n1 c1) := HD.out.2.cell 2
            have HI30 := Lib.hid hi30
            clear her hvs his hi30 HZ
            go_upto_region 9 with (go_at_call 11; (with_reducible refine (HBR.out _).mono ?_); rintro e w4 ⟨rfl, rfl⟩)
            rw [← hwx, ← hxx]
            clear hwx hxx HBR g0 g1 g2
            go_upto_region 10 with (go_at_call 16; (with_reducible refine (HFE.out _ _ _ _ HD).mono ?_); rintro e w5 ⟨A2, n2, c2, rfl, HS5⟩; have y2 := HZD.out _ _ _ _ HS5)
            have HS5d : Hid (TD w p q xs xs [(.slice A2 n2 c2, is)] x #[.int .i64 dk, .int .i64 dn, .slice A1 n1 c1] w5.drew) := Lib.hid (HS5.out.below ⟨rfl, rfl, rfl, Nat.le_refl _, fun _ _ => rfl⟩)
            clear x2
            go_cut [9, 10] (fun s9 s10 wx => ∃ A m c, s9 = .int .i64 er ∧ s10 = .int .i64 er ∧ Hid (TD w p q vs vs [(.slice A m c, is), (.slice A2 n2 c2, is)] x #[.int .i64 dk, .int .i64 dn, .slice A1 n1 c1] wx))
            case first =>
              go_region_held3 (fun W => W.cell? ⟨x, 2, none⟩ = some (.slice A1 n1 c1)) (with_reducible exact HZD.out _ _ _ _ (by assumption))
                (first
                  | (go_at_call 16; (with_reducible refine (HFE.out _ _ _ _ (by assumption)).mono ?_); rintro e w6 ⟨A3, n3, c3, rfl, HS6⟩)
                  | (go_at_call 17; (with_reducible refine (HP1.out _ _ _ _ (by assumption) (by simp)).mono ?_); rintro e w7 ⟨rfl, HS7⟩)
                  | (go_at_call 18; (with_reducible refine (HP2.out _ _ _ _ (by assumption) (by simp)).mono ?_); rintro e w8 ⟨rfl, HS8⟩))
              all_goals
                go_wp2_with fail
                go_meet
                exact ⟨_, _, _, rfl, rfl, by assumption⟩
            case rest =>
              obtain ⟨A3, n3, c3, rfl, rfl, HS6⟩ := hcut
              obtain ⟨wy, hwy⟩ : ∃ wy, wy = wc := ⟨_, rfl⟩
              subst hwy
              have z2 := HZD.out _ _ _ _ HS6
              go_upto_region 20 with (first
                | (go_at_call 16; (with_reducible refine (HFE.out _ _ _ _ HS6).mono ?_); rintro e w9 ⟨A4, n4, c4, rfl, HS7⟩)
                | (go_at_call 19; (with_reducible refine (same_F (FD.fm HS7.out) ((FD.fm HS7.out).rd (zs := is) (by simp)) ((FD.fm HS7.out).rd (by simp)) (by have := HI30.out; omega)).mono ?_); rintro e w10 ⟨rfl, hs⟩; have HS8 := Lib.hid hs; clear hs)
                | (go_at_call 20; (with_reducible refine (HS8.out.wreck (zs := is) (by simp) (by have := HI30.out; omega)).mono ?_); rintro e wt ⟨rfl, hs⟩; have HS9 := Lib.hid hs.addnil; clear hs))
              clear HZD HFE HP1 HP2 z2 y2
              have HSM : Hid (∀ z, Calls Try.prog 19 #[.slice none 0 0, .slice none 0 0] (wt.drewN z) fun e w' => e = .returned (.bool true) ∧ ∃ m, w' = (wt.drewN z).drewN m) := Lib.hid fun z => same_any (Rd.nil _) (Rd.nil _) (by simp)
              have HLN : Hid (∀ z, Calls Try.prog 21 #[.pointer (some ⟨p, 0, none⟩)] (wt.drewN z) fun e w' => e = .returned (.int .i64 ((vs).length : Int)) ∧ w' = wt.drewN z) := Lib.hid fun z => (len_F (HS9.out.drewN z)).mono fun _ _ ⟨h1, h2⟩ => ⟨h1, h2.symm⟩
              obtain ⟨vq, hvq⟩ := HS9.out.swap.fst
              obtain ⟨U, uc, rfl, _⟩ := hvq.own.rs
              have q0 : wt.cell? ⟨q, 0, none⟩ = some (.slice U (vs).length uc) := hvq.cell
              have HFIT := Lib.hid hvq.fit
              obtain ⟨yl, hyl⟩ : ∃ yl, yl = (vs).length := ⟨_, rfl⟩
              rw [← hyl] at HLN q0
              clear hvq hyl
              go_quiet (first
                | (go_at_call 19; exact Calls.quiet_of (HSM.out _))
                | (go_at_call 21; exact Calls.quiet_of_same (HLN.out _)))
              have HWK := Lib.hid ((HS9.out.drewN nq).wreck (a := .slice none 0 0) (zs := []) (by simp) (by simp))
              go_wp2_with (go_at_call 20; (with_reducible refine HWK.out.mono ?_); rintro e w8 ⟨rfl, h8⟩; have H8 := Lib.hid h8; clear h8)
              go_roundw
              case rel => exact ⟨k + 1, vs, by omega, by omega, by go_num, H8⟩
              case measure => simp [intOf]; omega
      · obtain rfl : k = 60 := by omega
        go_wp2_with (go_at_call 22; (with_reducible refine (works_F H.out).mono ?_); rintro e w8 ⟨rfl, h8⟩; have H8 := Lib.hid h8; clear h8)
        go_ret
        exact ⟨rfl, H8.out.2⟩
    · go_wp2_with (go_at_call 22; (with_reducible refine (works_F H.out).mono ?_); rintro e w8 ⟨rfl, h8⟩; have H8 := Lib.hid h8; clear h8)
      go_ret
      exact ⟨rfl, H8.out.2⟩
end Go.Proofs.Ytefgehjkankigaa
