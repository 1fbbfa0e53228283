/-
  What is proved here: StackKnown returns true and leaves all memory that was there as it was; no condition.
-/
import Derived.Test.YtefgehjkankigaaPlaysW
namespace Go.Proofs.Ytefgehjkankigaa
open Go.RowKit

/-! Nil and zero stacks. -/
def NS (w : World) (v : Value) : Prop := v = .pointer none ∨ ∃ p, v = .pointer (some ⟨p, 0, none⟩) ∧ Bx w p 57 #[.bool false, .slice none 0 0]
theorem NS.below {w w' : World} {v : Value} (h : NS w v) (hb : Below w.heap.size w w') : NS w' v := by
  rcases h with h | ⟨p, h1, h2⟩
  · exact .inl h
  · exact .inr ⟨p, h1, h2.below hb h2.lt⟩
section
variable {v : Value} {w : World}
theorem exists_no (h : NS w v) : Calls Try.prog 24 #[v] w fun e w' => e = .returned (.bool false) ∧ w = w' := by
  rcases h with rfl | ⟨p, rfl, hb⟩
  · go_enter Try.func24, Try.ntmps24
    go_wp2
    go_ret
    exact ⟨rfl, rfl⟩
  · have c0 : w.cell? ⟨p, 0, none⟩ = some (.bool false) := hb.cell 0
    clear hb
    go_enter Try.func24, Try.ntmps24
    go_wp2
    go_ret
    exact ⟨rfl, rfl⟩
theorem len_no (h : NS w v) : Calls Try.prog 21 #[v] w fun e w' => e = .returned (.int .i64 0) ∧ w = w' := by
  have HE := Lib.hid (exists_no h)
  clear h
  go_enter Try.func21, Try.ntmps21
  go_wp2_with (go_at_call 24; (with_reducible refine HE.out.mono ?_); rintro e w1 ⟨rfl, rfl⟩)
  go_ret
  exact ⟨rfl, rfl⟩
theorem push_no (h : NS w v) (u : Value) : Calls Try.prog 17 #[v, u] w fun e w' => e = .returned (.int .i64 1) ∧ w = w' := by
  have HE := Lib.hid (exists_no h)
  clear h
  go_enter Try.func17, Try.ntmps17
  go_wp2_with (go_at_call 24; (with_reducible refine HE.out.mono ?_); rintro e w1 ⟨rfl, rfl⟩)
  go_ret
  exact ⟨rfl, rfl⟩
theorem pop_no (h : NS w v) (n : Int) : Calls Try.prog 12 #[v, .int .i64 n] w fun e w' => e = .returned (.tuple #[.slice none 0 0, .int .i64 1]) ∧ w = w' := by
  have HE := Lib.hid (exists_no h)
  clear h
  go_enter Try.func12, Try.ntmps12
  go_wp2_with (go_at_call 24; (with_reducible refine HE.out.mono ?_); rintro e w1 ⟨rfl, rfl⟩)
  go_ret2
  exact ⟨rfl, rfl⟩
theorem from_no (h : NS w v) (n : Int) : Calls Try.prog 14 #[v, .int .i64 n] w fun e w' => e = .returned (.tuple #[.slice none 0 0, .int .i64 1]) ∧ w = w' := by
  have HE := Lib.hid (exists_no h)
  clear h
  go_enter Try.func14, Try.ntmps14
  go_wp2_with (go_at_call 24; (with_reducible refine HE.out.mono ?_); rintro e w1 ⟨rfl, rfl⟩)
  go_ret2
  exact ⟨rfl, rfl⟩
end
/-- .. behind the law's beginning. -/
def NB (w0 W : World) (v : Value) : Prop := NS W v ∧ Below w0.heap.size w0 W
section
variable {w0 W : World} {v : Value}
theorem NB.below {W' : World} (h : NB w0 W v) (hb : Below W.heap.size W W') : NB w0 W' v := ⟨h.1.below hb, h.2.trans (hb.mono h.2.size)⟩
theorem nPop (h : NB w0 W v) : Calls Try.prog 12 #[v, .int .i64 0] W fun e w' => e = .returned (.tuple #[.slice none 0 0, .int .i64 1]) ∧ W = w' := pop_no h.1 0
theorem nFrom (h : NB w0 W v) : Calls Try.prog 14 #[v, .int .i64 0] W fun e w' => e = .returned (.tuple #[.slice none 0 0, .int .i64 1]) ∧ W = w' := from_no h.1 0
theorem nLen (h : NB w0 W v) : Calls Try.prog 21 #[v] W fun e w' => e = .returned (.int .i64 0) ∧ W = w' := len_no h.1
theorem nPush (h : NB w0 W v) : Calls Try.prog 17 #[v, .slice none 0 0] W fun e w' => e = .returned (.int .i64 1) ∧ W = w' := push_no h.1 _
theorem nPushL (h : NB w0 W v) (o : Obj) : Calls Try.prog 17 #[v, .slice (some ⟨W.heap.size, 0, none⟩) 1 1] (W.alloc o) fun e w' => e = .returned (.int .i64 1) ∧ NB w0 w' v :=
  (push_no (h.1.below (al0 W o)) _).mono fun _ _ ⟨h1, h2⟩ => ⟨h1, h2 ▸ h.below (al0 W o)⟩
theorem nAre (h : NB w0 W v) : Calls Try.prog 23 #[.slice none 0 0, .int .i64 1, .int .i64 1, .slice none 0 0] W fun e w' => e = .returned (.bool true) ∧ NB w0 w' v :=
  (are_any (Rd.nil W) (Rd.nil W) (by simp)).mono fun _ _ ⟨h1, q, h2⟩ => ⟨h1, by rw [h2]; exact h.below ⟨rfl, rfl, rfl, Nat.le_refl _, fun _ _ => rfl⟩⟩
theorem nNew (h : NB w0 W v) : NB w0 (W.alloc (.cells #[.bool false, .slice none 0 0] 57)) (.pointer (some ⟨W.heap.size, 0, none⟩)) :=
  ⟨.inr ⟨_, rfl, Bx.new _ _ _⟩, h.2.alloc h.2.size _⟩
end
/-! Made lists. -/
def z0 : V3 := ⟨0, 0, 0⟩
def mkC (n : Nat) : Array Value := (pv (List.replicate n z0)).toArray
theorem made_pv (n : Nat) : madeCells (Value.agg #[.int .i64 0, .int .i64 0, .int .u64 0]).cells (n * 3) = mkC n := by
  apply Array.ext'
  apply List.ext_getElem?
  intro j
  unfold mkC
  by_cases hj : j < n * 3
  · obtain ⟨h0, h1, h2⟩ := pv_at (List.replicate n z0) (j / 3) z0 (by rw [List.getElem?_replicate, if_pos (by omega)])
    have hr : j % 3 = 0 ∨ j % 3 = 1 ∨ j % 3 = 2 := by omega
    have hl : (madeCells (Value.agg #[.int .i64 0, .int .i64 0, .int .u64 0]).cells (n * 3)).toList[j]? = some ((#[.int .i64 0, .int .i64 0, .int .u64 0] : Array Value)[j % 3]!) := by
      simp [madeCells, Value.cells, hj]
    rw [hl]
    rcases hr with e | e | e
    · rw [e, show j = j / 3 * 3 by omega, h0]; rfl
    · rw [e, show j = j / 3 * 3 + 1 by omega, h1]; rfl
    · rw [e, show j = j / 3 * 3 + 2 by omega, h2]; rfl
  · rw [List.getElem?_eq_none (by rw [Array.length_toList, size_madeCells]; omega), List.getElem?_eq_none (by simp [pv_length]; omega)]
theorem run_mk (n : Nat) (hn : n ≤ 100000) (w : World) : (Instr.makeSlice 27 (.int .i64 (n : Int)) (.int .i64 (n : Int))).run Try.prog w = .ok (.slice (some ⟨w.heap.size, 0, none⟩) n n) (w.alloc (.cells (mkC n) 49)) := by
  obtain ⟨i, hi, hz0, hz1, hz2⟩ := info_parts infoV
  have := run_make (P := Try.prog) w 27 49 i _ Try.underlying27 hi hz0 .i64 .i64 (n : Int) (n : Int) (by omega) (Int.le_refl _) (by rw [hz2]; omega) (by omega)
  rw [Int.toNat_natCast, hz1, made_pv] at this
  exact this
theorem mk_rd (n : Nat) (hn : n ≤ 100000) (w : World) : Rd (w.alloc (.cells (mkC n) 49)) (.slice (some ⟨w.heap.size, 0, none⟩) n n) (List.replicate n z0) := Rd.lit w _ rfl rfl (by simp) hn

/-- The four calls of the law. -/
theorem plays_lit (w : World) (e : Int) (h0 : -9223372036854775808 ≤ e) (h1 : e ≤ 9223372036854775807) :
    Calls Try.prog 3 #[.slice (some ⟨w.heap.size + 1, 0, none⟩) 4 4] ((w.alloc (.cells (mkC 2) 49)).alloc (.cells #[.int .i64 0, .int .i64 0, .slice (some ⟨w.heap.size, 0, none⟩) 2 2, .int .i64 3, .int .i64 e, .slice none 0 0, .int .i64 2, .int .i64 e, .slice none 0 0, .int .i64 3, .int .i64 e, .slice none 0 0] 29)).drew
      fun e w' => e = .returned (.bool true) ∧ Below w.heap.size w w' := by
  obtain ⟨cs, hcs⟩ : ∃ cs : Array Value, cs = #[.int .i64 0, .int .i64 0, .slice (some ⟨w.heap.size, 0, none⟩) 2 2, .int .i64 3, .int .i64 e, .slice none 0 0, .int .i64 2, .int .i64 e, .slice none 0 0, .int .i64 3, .int .i64 e, .slice none 0 0] := ⟨_, rfl⟩
  rw [← hcs]
  obtain ⟨wk, hwk⟩ : ∃ wk, w.alloc (.cells (mkC 2) 49) = wk := ⟨_, rfl⟩
  have hrd : Rd wk (.slice (some ⟨w.heap.size, 0, none⟩) 2 2) (List.replicate 2 z0) := by rw [← hwk]; exact mk_rd 2 (by omega) w
  have hsz : w.heap.size + 1 = wk.heap.size := by rw [← hwk]; simp
  have hbx : Bx (wk.alloc (.cells cs 29)) (w.heap.size + 1) 29 cs := by rw [hsz]; exact Bx.new _ _ _
  have hdr : ∀ W : World, Below W.heap.size W W.drew := fun W => (Below.refl _ W).drew
  have hbx2 := hbx.below (hdr _) hbx.lt
  have hb1 : Below w.heap.size w wk := by rw [← hwk]; exact al0 _ _
  have hb2 : Below wk.heap.size wk (wk.alloc (.cells cs 29)).drew := (al0 wk _).drew
  rw [hwk]
  have hL : RdD (wk.alloc (.cells cs 29)).drew (.slice (some ⟨w.heap.size + 1, 0, none⟩) 4 4) [⟨0, 0, .slice (some ⟨w.heap.size, 0, none⟩) 2 2⟩, ⟨3, e, .slice none 0 0⟩, ⟨2, e, .slice none 0 0⟩, ⟨3, e, .slice none 0 0⟩] := by
    refine ⟨_, 4, 4, rfl, rfl, Nat.le_refl _, by unfold maxLen; omega, fun d hd => ?_, fun _ => ⟨_, _, rfl, hbx2.lt, fun j d hd => ?_⟩⟩
    · simp only [List.mem_cons, List.not_mem_nil, or_false] at hd
      rcases hd with rfl | rfl | rfl | rfl
      · exact ⟨by simp, by simp, by simp, by simp, _, hrd.below hb2⟩
      · exact ⟨by simp, by simp, h0, h1, [], Rd.nil _⟩
      · exact ⟨by simp, by simp, h0, h1, [], Rd.nil _⟩
      · exact ⟨by simp, by simp, h0, h1, [], Rd.nil _⟩
    · have hj : j < 4 := (List.getElem?_eq_some_iff.1 hd).1
      have hjj : j = 0 ∨ j = 1 ∨ j = 2 ∨ j = 3 := by omega
      subst hcs
      rcases hjj with rfl | rfl | rfl | rfl <;> (simp only [List.getElem?_cons_zero, List.getElem?_cons_succ, Option.some.injEq] at hd; subst hd; exact ⟨hbx2.cell _, hbx2.cell _, hbx2.cell _⟩)
  refine (stackPlays_walk _ _ _ hL).mono ?_
  rintro e w' ⟨rfl, hb⟩
  exact ⟨rfl, (hb1.trans (hb2.mono hb1.size)).trans (hb.mono (Nat.le_trans hb1.size hb2.size))⟩
set_option maxRecDepth 20000 in
set_option maxHeartbeats 1000000 in
theorem stackKnown_walk (w : World) :
    Calls Try.prog 8 #[] w fun e w' => e = .returned (.bool true) ∧ Below w.heap.size w w' := by
  have hm2 : ∀ W, (Instr.makeSlice 27 (.int .i64 2) (.int .i64 2)).run Try.prog W = .ok (.slice (some ⟨W.heap.size, 0, none⟩) 2 2) (W.alloc (.cells (mkC 2) 49)) := fun W => run_mk 2 (by omega) W
  have hm4 : ∀ W, (Instr.makeSlice 27 (.int .i64 4096) (.int .i64 4096)).run Try.prog W = .ok (.slice (some ⟨W.heap.size, 0, none⟩) 4096 4096) (W.alloc (.cells (mkC 4096) 49)) := fun W => run_mk 4096 (by omega) W
  go_enter Try.func8, Try.ntmps8
  go_wp2
  obtain ⟨g, hg⟩ : ∃ g, w.heap.size = g := ⟨_, rfl⟩
  obtain ⟨wa, hwa⟩ : ∃ wa, w.alloc (.cells #[.int .i64 (-9223372036854775808), .int .i64 (-1), .int .i64 0, .int .i64 1, .int .i64 2, .int .i64 3, .int .i64 9223372036854775807] 3) = wa := ⟨_, rfl⟩
  have HBA : Hid (Below w.heap.size w wa) := Lib.hid (by rw [← hwa]; exact al0 _ _)
  have HEN : Hid (∀ i, i < 7 → ∃ e : Int, -9223372036854775808 ≤ e ∧ e ≤ 9223372036854775807 ∧ ∀ W, Below wa.heap.size wa W → W.cell? ⟨g, i, none⟩ = some (.int .i64 e)) := Lib.hid (by
    intro i hi
    have hb := Bx.new w 3 #[.int .i64 (-9223372036854775808), .int .i64 (-1), .int .i64 0, .int .i64 1, .int .i64 2, .int .i64 3, .int .i64 9223372036854775807]
    rw [hwa, hg] at hb
    have hk : ∀ (e : Int), (#[.int .i64 (-9223372036854775808), .int .i64 (-1), .int .i64 0, .int .i64 1, .int .i64 2, .int .i64 3, .int .i64 9223372036854775807] : Array Value)[i]? = some (.int .i64 e) → ∀ W, Below wa.heap.size wa W → W.cell? ⟨g, i, none⟩ = some (.int .i64 e) := fun e he W hW => ((hb.below hW hb.lt).cell i).trans he
    have : i = 0 ∨ i = 1 ∨ i = 2 ∨ i = 3 ∨ i = 4 ∨ i = 5 ∨ i = 6 := by omega
    rcases this with rfl | rfl | rfl | rfl | rfl | rfl | rfl
    · exact ⟨-9223372036854775808, by omega, by omega, hk _ rfl⟩
    · exact ⟨-1, by omega, by omega, hk _ rfl⟩
    · exact ⟨0, by omega, by omega, hk _ rfl⟩
    · exact ⟨1, by omega, by omega, hk _ rfl⟩
    · exact ⟨2, by omega, by omega, hk _ rfl⟩
    · exact ⟨3, by omega, by omega, hk _ rfl⟩
    · exact ⟨9223372036854775807, by omega, by omega, hk _ rfl⟩)
  simp only [hwa, hg]
  clear hwa hg
  go_loopw [2] (fun i wr => ∃ k : Nat, k ≤ 7 ∧ i = .int .i64 k ∧ Hid (Below wa.heap.size wa wr)) (fun i _ => 7 - (intOf i).toNat)
  case atStart => exact ⟨0, by omega, rfl, Below.refl _ _⟩
  case round =>
    obtain ⟨k, hk, rfl, HB⟩ := hrel
    by_cases hlt : k < 7
    · obtain ⟨e, he0, he1, hce⟩ := HEN.out k hlt
      have d1 : decide ((k : Int) < 7) = true := by simp; omega
      have c0 := hce wr HB.out
      have hall : ∀ W, Hid (Below wa.heap.size wa W) → W.cell? ⟨g, k, none⟩ = some (.int .i64 e) ∧ Hid (Below wa.heap.size wa W) := fun W H => ⟨hce W H.out, H⟩
      have HBd : Hid (Below wa.heap.size wa wr.drew) := Lib.hid HB.out.drew
      have hal : ∀ W o, Hid (Below wa.heap.size wa W) → W.cell? ⟨g, k, none⟩ = some (.int .i64 e) ∧ Hid (Below wa.heap.size wa W) → (W.alloc o).cell? ⟨g, k, none⟩ = some (.int .i64 e) ∧ Hid (Below wa.heap.size wa (W.alloc o)) := fun W o H _ => hall _ (Lib.hid (H.out.alloc H.out.size o))
      have hal2 : ∀ o, ((wr.alloc o).drew).cell? ⟨g, k, none⟩ = some (.int .i64 e) ∧ Hid (Below wa.heap.size wa ((wr.alloc o).drew)) := fun o => hall _ (Lib.hid (HB.out.alloc HB.out.size o).drew)
      have hal3 : ∀ o o', (((wr.alloc o).alloc o').drew).cell? ⟨g, k, none⟩ = some (.int .i64 e) ∧ Hid (Below wa.heap.size wa (((wr.alloc o).alloc o').drew)) := fun o o' => hall _ (Lib.hid ((HB.out.alloc HB.out.size o).alloc (Nat.le_trans HB.out.size (by simp)) o').drew)
      have HPL := Lib.hid (plays_lit wr e he0 he1)
      clear hal he0 he1
      go_upto_region 5 with fail
      have hlt1 : (k : Int) < 7 := by omega
      have hlt2 : k < 7 := by omega
      go_region_held3 (fun W => W.cell? ⟨g, k, none⟩ = some (.int .i64 e) ∧ Hid (Below wa.heap.size wa W)) (first | (with_reducible exact hall _ HB) | (with_reducible exact hall _ HBd) | (with_reducible exact hal2 _) | (with_reducible exact hal3 _ _) | (with_reducible exact hall _ (by assumption)))
        (first | (go_at_call 3; (with_reducible refine HPL.out.mono ?_); rintro e1 w5 ⟨rfl, hb5⟩; have HB5 := Lib.hid (HB.out.trans (hb5.mono HB.out.size)); clear hb5))
      all_goals
        go_wp2_with fail
        go_roundw
        case rel => exact ⟨k + 1, by omega, by go_num, HB5⟩
        case measure => simp [intOf]; omega
    · obtain rfl : k = 7 := by omega
      have HB2 : Hid (Below w.heap.size w wr) := Lib.hid (HBA.out.trans (HB.out.mono HBA.out.size))
      clear HB HBA HEN hm2
      go_wp2_with (go_at_call 9; (with_reducible refine (newF_any HB2.out).mono ?_); rintro e w2 ⟨p, rfl, hs⟩; have HS := Lib.hid hs; clear hs HB2)
      go_loopw [4] (fun i wr => ∃ k : Nat, k ≤ 16 ∧ i = .int .i64 k ∧ Hid (∃ xs, xs.length = 4096 * k ∧ Fm w p true xs none [] wr)) (fun i _ => 16 - (intOf i).toNat)
      case atStart => exact ⟨0, by omega, rfl, Lib.hid ⟨[], rfl, HS.out⟩⟩
      case round =>
        obtain ⟨j, hj, rfl, HH⟩ := hrel
        obtain ⟨xs, hx, hF⟩ := HH.out
        by_cases hj6 : j < 16
        · have HPU := Lib.hid (pushB_F (hF.alloc (.cells (mkC 4096) 49)) (mk_rd 4096 (by omega) wr) (by rw [List.length_replicate]; omega))
          have HNX : Hid (∀ W, Fm w p true (xs ++ List.replicate 4096 z0) none [] W → ∃ xs, xs.length = 4096 * (j + 1) ∧ Fm w p true xs none [] W) := Lib.hid fun W h => ⟨_, by rw [List.length_append, List.length_replicate]; omega, h⟩
          obtain ⟨zz, hzz⟩ : ∃ zz, zz = xs ++ List.replicate 4096 z0 := ⟨_, rfl⟩
          rw [← hzz] at HPU HNX
          clear hx hF HH hzz
          go_wp2_with (go_at_call 17; (with_reducible refine HPU.out.mono ?_); rintro e w3 ⟨rfl, hs⟩; have HS2 := Lib.hid (HNX.out _ hs); clear hs)
          go_roundw
          case rel => exact ⟨j + 1, by omega, by go_num, HS2⟩
          case measure => simp [intOf]; omega
        · obtain rfl : j = 16 := by omega
          have HX : Hid (xs.length = 65536) := Lib.hid (by omega)
          have HF := Lib.hid hF
          have HP1 : Hid (Calls Try.prog 17 #[.pointer (some ⟨p, 0, none⟩), .slice (some ⟨wr.heap.size, 0, none⟩) 1 1] (wr.alloc (.cells #[.int .i64 0, .int .i64 0, .int .u64 0] 49)) fun e w' => e = .returned (.int .i64 5) ∧ Fm w p true xs none [] w') :=
            Lib.hid (pushE_F hF (ys := [z0]) rfl (by kernel_rfl) rfl (by decide) (psh_out (by rw [HX.out]; simp)).2 (psh_out (by rw [HX.out]; simp)).1)
          have HLE : Hid (∀ W, Hid (Fm w p true xs none [] W) → Calls Try.prog 21 #[.pointer (some ⟨p, 0, none⟩)] W fun e w' => e = .returned (.int .i64 65536) ∧ W = w') := Lib.hid fun W h => lenE_F h.out (n := 65536) HX.out
          clear hx hF HH
          go_wp2_with (first
            | (go_at_call 17; (with_reducible refine HP1.out.mono ?_); rintro e w3 ⟨rfl, hs⟩; have HS2 := Lib.hid hs; clear hs)
            | (go_at_call 17; (with_reducible refine (pushN_F HS2.out).mono ?_); rintro e w4 ⟨rfl, hs⟩; have HS3 := Lib.hid hs; clear hs)
            | (go_at_call 21; (with_reducible refine (HLE.out _ HS3).mono ?_); rintro e w5 ⟨rfl, rfl⟩))
          have HN0 : Hid (NB w w4 (.pointer none)) := Lib.hid ⟨.inl rfl, HS3.out.2⟩
          clear HS3 HP1 HLE HS HX
          go_loopw [5, 6] (fun v i wr => ∃ k : Nat, k ≤ 2 ∧ i = .int .i64 k ∧ Hid (NB w wr v)) (fun _ i _ => 2 - (intOf i).toNat)
          case atStart => exact ⟨0, by omega, rfl, HN0⟩
          case round =>
            obtain ⟨k, hk, rfl, HN⟩ := hrel
            by_cases hk2 : k < 2
            · have d2 : decide ((k : Int) < 2) = true := by simp; omega
              go_wp2_with (first
                | (go_at_call 12; (with_reducible refine (nPop HN.out).mono ?_); rintro e w6 ⟨rfl, rfl⟩)
                | (go_at_call 14; (with_reducible refine (nFrom HN.out).mono ?_); rintro e w6 ⟨rfl, rfl⟩)
                | (go_at_call 23; (with_reducible refine (nAre HN.out).mono ?_); rintro e w6 ⟨rfl, hs⟩; clear HN; have HN := Lib.hid hs; clear hs)
                | (go_at_call 17; (with_reducible refine (nPush HN.out).mono ?_); rintro e w6 ⟨rfl, rfl⟩)
                | (go_at_call 17; (with_reducible refine (nPushL HN.out _).mono ?_); rintro e w6 ⟨rfl, hs⟩; clear HN; have HN := Lib.hid hs; clear hs)
                | (go_at_call 21; (with_reducible refine (nLen HN.out).mono ?_); rintro e w6 ⟨rfl, rfl⟩))
              have HN2 := Lib.hid (nNew HN.out)
              go_roundw
              case rel => exact ⟨k + 1, by omega, by go_num, HN2⟩
              case measure => simp [intOf]; omega
            · obtain rfl : k = 2 := by omega
              go_wp2_with (go_at_call 22; (with_reducible refine (works_true _).mono ?_); rintro e w7 ⟨rfl, hs⟩; have HW := Lib.hid hs; clear hs)
              go_ret
              exact ⟨rfl, HN.out.2.trans (HW.out.mono HN.out.2.size)⟩
end Go.Proofs.Ytefgehjkankigaa
