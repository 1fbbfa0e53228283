/-
  What is proved here: contracts of the reference's step and Parse of layer 8; conditions: the lengths that each states.
-/
import Derived.Test.YtjnfilbdokppiaaGreatDoorPrd
import Derived.Test.YtjnfilbdokppiaaGreatDoorExB
import Derived.Test.YtjnfilbdokppiaaGreatDoorPag
namespace Go.Proofs.YtjnfilbdokppiaaGreatDoor
open Go.RowKit U U.Ut

/-- What the reference's step answers. -/
def stepV (a : Nat) : (Stp × Nat) ⊕ (Nat × Nat) → Value
  | .inl (x, n) => .tuple #[.agg #[.string x.k, .int .i64 x.a, .bool x.b], .int .i64 ((a + n : Nat) : Int), .int .i64 0, .int .i64 0]
  | .inr (o, e) => .tuple #[.agg #[.string ⟨#[]⟩, .int .i64 0, .bool false], .int .i64 0, .int .i64 ((a + o : Nat) : Int), .int .i64 ((e : Nat) : Int)]
/-- The boxes of the result and of the step. -/
structure XB (w W : World) : Prop where
  bl : Below w.heap.size w W
  b0 : Blk W w.heap.size 51 #[.string ⟨#[]⟩, .int .i64 0, .bool false]
  b1 : Blk W (w.heap.size + 1) 51 #[.string ⟨#[]⟩, .int .i64 0, .bool false]
theorem XB.start (w : World) : XB w ((w.alloc (.cells #[.string ⟨#[]⟩, .int .i64 0, .bool false] 51)).alloc (.cells #[.string ⟨#[]⟩, .int .i64 0, .bool false] 51)) := by
  refine ⟨tr (al0 w _) (al0 _ _), (Blk.new _ _ _).alloc _, ?_⟩
  have := Blk.new (w.alloc (.cells #[.string ⟨#[]⟩, .int .i64 0, .bool false] 51)) 51 #[.string ⟨#[]⟩, .int .i64 0, .bool false]
  rwa [World.size_alloc] at this
theorem XB.below {w W W2 : World} (h : XB w W) (hb : Below W.heap.size W W2) : XB w W2 := ⟨tr h.bl hb, h.b0.below hb h.b0.lt, h.b1.below hb h.b1.lt⟩
theorem XB.cells {w W : World} (h : XB w W) : W.cell? ⟨w.heap.size, 0, none⟩ = some (.string ⟨#[]⟩) ∧ W.cell? ⟨w.heap.size, 1, none⟩ = some (.int .i64 0) ∧ W.cell? ⟨w.heap.size, 2, none⟩ = some (.bool false) ∧ W.frozen? ⟨w.heap.size, 0, none⟩ = false ∧ W.frozen? ⟨w.heap.size, 1, none⟩ = false ∧ W.frozen? ⟨w.heap.size, 2, none⟩ = false ∧
    W.cell? ⟨w.heap.size + 1, 0, none⟩ = some (.string ⟨#[]⟩) ∧ W.cell? ⟨w.heap.size + 1, 1, none⟩ = some (.int .i64 0) ∧ W.cell? ⟨w.heap.size + 1, 2, none⟩ = some (.bool false) ∧ W.frozen? ⟨w.heap.size + 1, 0, none⟩ = false ∧ W.frozen? ⟨w.heap.size + 1, 1, none⟩ = false ∧ W.frozen? ⟨w.heap.size + 1, 2, none⟩ = false :=
  ⟨h.b0.cell 0, h.b0.cell 1, h.b0.cell 2, h.b0.frozen 0, h.b0.frozen 1, h.b0.frozen 2, h.b1.cell 0, h.b1.cell 1, h.b1.cell 2, h.b1.frozen 0, h.b1.frozen 1, h.b1.frozen 2⟩
theorem stp_no {r : List UInt8} {c : UInt8} (h : r.head? = some c) (hc : c ≠ 91) : stp r = .inr (0, 4) := by
  unfold stp
  rw [h, if_neg (by simpa using hc)]
theorem stp_in {l : List UInt8} {a : Nat} (h : l[a]? = some 91) : stp (l.drop a) = match stIn (l.drop (a + 1)) with
    | .inr (o, e) => .inr (1 + o, e)
    | .inl (s, n) => if l[a + 1 + n]? = some 93 then .inl (s, n + 2) else .inr (1 + n, 4) := by
  unfold stp
  rw [List.head?_drop, h, if_pos rfl, List.drop_drop]
  cases stIn (l.drop (a + 1)) with
  | inr x => rfl
  | inl x =>
    obtain ⟨s, n⟩ := x
    simp only [List.drop_drop, List.head?_drop]
    rw [show a + (1 + n) = a + 1 + n by omega]

set_option maxRecDepth 100000 in
set_option maxHeartbeats 8000000 in
theorem step_any (s : ByteArray) (l : List UInt8) (hl : s.data.toList = l) (at_ : Nat) (w : World) (hs : s.size ≤ 60000) (hat : at_ < s.size) :
    Calls Tryz.prog 54 #[.string s, .int .i64 (at_ : Nat)] w fun e w' => e = .returned (stepV at_ (stp (l.drop at_))) ∧ Below w.heap.size w w' := by
  have HSZ := Lib.hid (show s.size = l.length by rw [Lib.size_eq, hl])
  have HL := Lib.hid hl
  obtain ⟨c, hc⟩ : ∃ c, l[at_]? = some c := ⟨_, List.getElem?_eq_getElem (by have := HSZ.out; omega)⟩
  have hx : s[at_] = c := U.byte_at hl hc hat
  obtain ⟨R, hR⟩ : ∃ R, stp (l.drop at_) = R := ⟨_, rfl⟩
  by_cases h91 : c = 91
  case neg =>
    have hr : R = .inr (0, 4) := by rw [← hR]; exact stp_no (by rw [List.head?_drop, hc]) h91
    have hne : ((c.toNat : Int) != 91) = true := by
      have : ¬ c.toNat = 91 := fun h => h91 (UInt8.toNat_inj.1 h)
      simp; omega
    rw [hR, hr]
    clear hl hc hR hr h91
    go_enter Tryz.func54, Tryz.ntmps54
    go_wp2
    exact ret_three4 (p := 4) (q := 5) (r := 6) (t := 7) (g := w.heap.size) (v := .int .i64 0) (u := .int .i64 (at_ : Int)) (x := .int .i64 4) (by rfl) (by rfl) (by rfl) (by rfl) (by rfl) (Blk.new _ _ _) (by rfl) ⟨rfl, (Below.refl _ _).alloc (Nat.le_refl _) _⟩
  have he0 : ((c.toNat : Int) != 91) = false := by rw [h91]; rfl
  have HST := Lib.hid (stp_in (l := l) (a := at_) (by rw [hc, h91]))
  rw [hR] at HST ⊢
  clear hR
  obtain ⟨a1, ha1⟩ : ∃ a1, at_ + 1 = a1 := ⟨_, rfl⟩
  rw [ha1] at HST
  have HA1 := Lib.hid ha1
  have q1 : (at_ : Int) + 1 = (a1 : Int) := by omega
  have ha1s : a1 ≤ s.size := by omega
  have ha1i : (a1 : Int) ≤ (s.size : Int) := by omega
  have HX0 := Lib.hid (XB.start w)
  clear hc h91 hl ha1
  by_cases hd : (dgs (l.drop a1)).length ≠ 0
  · -- digits
    have hle := dgs_le (l.drop a1)
    rw [List.length_drop] at hle
    obtain ⟨c1, hc1, hdg1⟩ := dg_in (l := l) (a := a1) (k := 0) (by omega)
    rw [Nat.add_zero] at hc1
    have ha1l : a1 < s.size := by have := HSZ.out; omega
    have hx1 : s[a1] = c1 := U.byte_at HL.out hc1 ha1l
    obtain ⟨g1, g2⟩ := dg_byte hdg1
    have b1 : decide ((48 : Int) ≤ (c1.toNat : Int)) = true := decide_eq_true (by omega)
    have b2 : decide ((c1.toNat : Int) ≤ 57) = true := decide_eq_true (by omega)
    have HPL := Lib.hid (place_any s l HL.out a1 ((w.alloc (.cells #[.string ⟨#[]⟩, .int .i64 0, .bool false] 51)).alloc (.cells #[.string ⟨#[]⟩, .int .i64 0, .bool false] 51)) hs hd)
    by_cases hbad : 9 < (dgs (l.drop a1)).length ∨ (1 < (dgs (l.drop a1)).length ∧ (l.drop a1).head? = some 48)
    · have hin : stIn (l.drop a1) = .inr (0, 4) := by unfold stIn; rw [if_pos hd, if_pos hbad]
      have hr : R = .inr (1 + 0, 4) := by rw [HST.out, hin]
      have hp : placeR l a1 = .tuple #[.agg #[.string ⟨#[]⟩, .int .i64 0, .bool false], .int .i64 0, .bool false] := by unfold placeR; rw [if_pos hbad]
      have HV : Hid (stepV at_ R = .tuple #[.agg #[.string ⟨#[]⟩, .int .i64 0, .bool false], .int .i64 0, .int .i64 (a1 : Int), .int .i64 4]) := Lib.hid (by rw [hr, ← HA1.out]; rfl)
      rw [hp] at HPL
      clear hin hr hp hbad hdg1 g1 g2 hc1 hle hd HST
      go_enter Tryz.func54, Tryz.ntmps54
      go_wp2_with (go_at_call 83; (with_reducible refine HPL.out.mono ?_); rintro e w2 ⟨rfl, hb2⟩; have HX2 := Lib.hid ((HX0.out.below hb2).below (al0 w2 (.cells #[.string ⟨#[]⟩, .int .i64 0, .bool false] 51))); obtain ⟨p0, p1, p2, f0, f1, f2, p3, p4, p5, f3, f4, f5⟩ := HX2.out.cells; clear hb2)
      rw [HV.out]
      exact ret_three4 (p := 4) (q := 5) (r := 6) (t := 7) (g := w.heap.size) (v := .int .i64 0) (u := .int .i64 (a1 : Int)) (x := .int .i64 4) (by rfl) (by rfl) (by rfl) (by rfl) (by rfl) (put3_blk HX2.out.b0 _ _ _) (by rfl) ⟨rfl, put3_bel HX2.out.bl (Nat.le_refl _) _ _ _⟩
    · obtain ⟨N, hN⟩ : ∃ N, (dgs (l.drop a1)).length = N := ⟨_, rfl⟩
      obtain ⟨V, hV⟩ : ∃ V, dgV (dgs (l.drop a1)) = V := ⟨_, rfl⟩
      have hin : stIn (l.drop a1) = .inl (⟨⟨#[]⟩, (V : Int), false⟩, N) := by unfold stIn; rw [if_pos hd, if_neg hbad, hV, hN]
      have hp : placeR l a1 = .tuple #[.agg #[.string ⟨#[]⟩, .int .i64 (V : Int), .bool false], .int .i64 ((a1 + N : Nat) : Int), .bool true] := by unfold placeR; rw [if_neg hbad, hV, hN]
      have hNl : a1 + N ≤ s.size := by have := HSZ.out; omega
      obtain ⟨E, hE⟩ : ∃ E, a1 + N = E := ⟨_, rfl⟩
      have hr : R = if l[E]? = some 93 then .inl (⟨⟨#[]⟩, (V : Int), false⟩, N + 2) else .inr (1 + N, 4) := by rw [HST.out, hin, ← hE]
      rw [hp, hE] at HPL
      rw [hE] at hNl
      have HR := Lib.hid hr
      have HE := Lib.hid hE
      clear hin hr hp hbad hdg1 g1 g2 hc1 hle hd HST hN hV hE
      by_cases hEs : E < s.size
      · obtain ⟨c2, hc2⟩ : ∃ c2, l[E]? = some c2 := ⟨_, List.getElem?_eq_getElem (by have := HSZ.out; omega)⟩
        have hx2 : s[E] = c2 := U.byte_at HL.out hc2 hEs
        have hEd : decide ((s.size : Int) ≤ (E : Int)) = false := decide_eq_false (by omega)
        by_cases h93 : l[E]? = some 93
        · have h5 : ((c2.toNat : Int) != 93) = false := by
            rw [hc2] at h93
            rw [Option.some.inj h93]
            rfl
          clear hc2
          have HV : Hid (stepV at_ R = .tuple #[.agg #[.string ⟨#[]⟩, .int .i64 (V : Int), .bool false], .int .i64 ((E : Int) + 1), .int .i64 0, .int .i64 0]) := Lib.hid (by rw [HR.out, if_pos h93, ← HE.out, ← HA1.out]; show Value.tuple #[_, .int .i64 ((at_ + (N + 2) : Nat) : Int), _, _] = _; rw [show ((at_ + (N + 2) : Nat) : Int) = ((at_ + 1 + N : Nat) : Int) + 1 by omega])
          clear HR h93
          go_enter Tryz.func54, Tryz.ntmps54
          go_wp2_with (go_at_call 83; (with_reducible refine HPL.out.mono ?_); rintro e w2 ⟨rfl, hb2⟩; have HX2 := Lib.hid ((HX0.out.below hb2).below (al0 w2 (.cells #[.string ⟨#[]⟩, .int .i64 (V : Int), .bool false] 51))); obtain ⟨p0, p1, p2, f0, f1, f2, p3, p4, p5, f3, f4, f5⟩ := HX2.out.cells; clear hb2)
          rw [HV.out]
          exact ret_three4 (p := 4) (q := 5) (r := 6) (t := 7) (g := w.heap.size) (v := .int .i64 ((E : Int) + 1)) (u := .int .i64 0) (x := .int .i64 0) (by rfl) (by rfl) (by rfl) (by rfl) (by rfl) (put3_blk (put3_other (by omega) HX2.out.b0 _ _ _) _ _ _) (by rfl) ⟨rfl, put3_bel (put3_bel HX2.out.bl (Nat.le_succ _) _ _ _) (Nat.le_refl _) _ _ _⟩
        · have h5 : ((c2.toNat : Int) != 93) = true := by
            have : ¬ c2.toNat = 93 := fun h => h93 (by rw [hc2]; congr 1; exact UInt8.toNat_inj.1 h)
            simp; omega
          have hno := h93
          clear hc2 h93
          have HV : Hid (stepV at_ R = .tuple #[.agg #[.string ⟨#[]⟩, .int .i64 0, .bool false], .int .i64 0, .int .i64 (E : Int), .int .i64 4]) := Lib.hid (by rw [HR.out, if_neg hno, ← HE.out, ← HA1.out, Nat.add_assoc]; rfl)
          clear HR hno
          go_enter Tryz.func54, Tryz.ntmps54
          go_wp2_with (go_at_call 83; (with_reducible refine HPL.out.mono ?_); rintro e w2 ⟨rfl, hb2⟩; have HX2 := Lib.hid ((HX0.out.below hb2).below (al0 w2 (.cells #[.string ⟨#[]⟩, .int .i64 (V : Int), .bool false] 51))); obtain ⟨p0, p1, p2, f0, f1, f2, p3, p4, p5, f3, f4, f5⟩ := HX2.out.cells; clear hb2)
          rw [HV.out]
          exact ret_three4 (p := 4) (q := 5) (r := 6) (t := 7) (g := w.heap.size) (v := .int .i64 0) (u := .int .i64 (E : Int)) (x := .int .i64 4) (by rfl) (by rfl) (by rfl) (by rfl) (by rfl) (put3_blk (put3_other (by omega) HX2.out.b0 _ _ _) _ _ _) (by rfl) ⟨rfl, put3_bel (put3_bel HX2.out.bl (Nat.le_succ _) _ _ _) (Nat.le_refl _) _ _ _⟩
      · have hno : ¬ l[E]? = some 93 := fun h => hEs (by have := (List.getElem?_eq_some_iff.1 h).1; have := HSZ.out; omega)
        have hEd : decide ((s.size : Int) ≤ (E : Int)) = true := decide_eq_true (by omega)
        have HV : Hid (stepV at_ R = .tuple #[.agg #[.string ⟨#[]⟩, .int .i64 0, .bool false], .int .i64 0, .int .i64 (E : Int), .int .i64 4]) := Lib.hid (by rw [HR.out, if_neg hno, ← HE.out, ← HA1.out, Nat.add_assoc]; rfl)
        clear HR hno
        go_enter Tryz.func54, Tryz.ntmps54
        go_wp2_with (go_at_call 83; (with_reducible refine HPL.out.mono ?_); rintro e w2 ⟨rfl, hb2⟩; have HX2 := Lib.hid ((HX0.out.below hb2).below (al0 w2 (.cells #[.string ⟨#[]⟩, .int .i64 (V : Int), .bool false] 51))); obtain ⟨p0, p1, p2, f0, f1, f2, p3, p4, p5, f3, f4, f5⟩ := HX2.out.cells; clear hb2)
        rw [HV.out]
        exact ret_three4 (p := 4) (q := 5) (r := 6) (t := 7) (g := w.heap.size) (v := .int .i64 0) (u := .int .i64 (E : Int)) (x := .int .i64 4) (by rfl) (by rfl) (by rfl) (by rfl) (by rfl) (put3_blk (put3_other (by omega) HX2.out.b0 _ _ _) _ _ _) (by rfl) ⟨rfl, put3_bel (put3_bel HX2.out.bl (Nat.le_succ _) _ _ _) (Nat.le_refl _) _ _ _⟩
  · have hd0 : (dgs (l.drop a1)).length = 0 := Decidable.not_not.1 hd
    clear hd
    by_cases h34 : (l.drop a1).head? = some 34
    · have hc1 : l[a1]? = some 34 := by rw [List.head?_drop] at h34; exact h34
      have ha1l : a1 < s.size := by have := HSZ.out; have := (List.getElem?_eq_some_iff.1 hc1).1; omega
      obtain ⟨c1, hcc⟩ : ∃ c1 : UInt8, c1 = 34 := ⟨_, rfl⟩
      have hx1 : s[a1] = c1 := by rw [hcc]; exact U.byte_at HL.out hc1 ha1l
      have b1 : decide ((48 : Int) ≤ (c1.toNat : Int)) = false := by rw [hcc]; rfl
      have b3 : ((c1.toNat : Int) == 34) = true := by rw [hcc]; rfl
      have HUQ := Lib.hid (fun W => refUnquote_any (s.extract a1 s.size) (l.drop a1) (by rw [ps_drop, HL.out]) (by rw [ByteArray.size_extract]; omega) W)
      have hun := go_facts (l.drop a1) q0 0
      obtain ⟨U4, hU⟩ : ∃ U4, unq (l.drop a1) = U4 := ⟨_, rfl⟩
      have hun : (U4.2.2.2 = 0 ∧ U4.2.1 ≤ (l.drop a1).length) ∨ (U4.2.2.2 ≠ 0 ∧ U4.2.2.1 ≤ (l.drop a1).length) := by
        rw [← hU]
        rcases hun with ⟨h1, _, h3, _⟩ | ⟨h1, _, _, h4, _⟩
        · exact .inl ⟨h1, by unfold unq; simpa using h3⟩
        · exact .inr ⟨h1, by unfold unq; simpa using h4⟩
      rw [List.length_drop] at hun
      have HUQ : Hid (∀ W, Calls Tryz.prog 84 #[.string (s.extract a1 s.size)] W fun e w' => e = .returned (.tuple #[.string (str U4.1), .int .i64 (U4.2.1 : Int), .int .i64 (U4.2.2.1 : Int), .int .i64 (U4.2.2.2 : Int)]) ∧ Below W.heap.size W w') := Lib.hid fun W => by
        have := HUQ.out W
        unfold U.UQ at this
        rw [hU] at this
        exact this
      have hin : stIn (l.drop a1) = if U4.2.2.2 ≠ 0 then .inr (U4.2.2.1, U4.2.2.2) else if hasZ (str U4.1) = true then .inr (0, 70) else .inl (⟨str U4.1, 0, true⟩, U4.2.1) := by
        unfold stIn
        rw [if_neg (by omega), if_pos h34, hU]
      have hU1 : (unq (l.drop a1)).1.length ≤ 240000 := by have := unq_len (l.drop a1); rw [List.length_drop] at this; have := HSZ.out; omega
      rw [hU] at hU1
      clear hU
      obtain ⟨x, n, o, e⟩ := U4
      simp only at hun HUQ hin hU1
      have HIN := Lib.hid hin
      clear hin hcc hc1 h34 hd0
      by_cases he : e = 0
      · subst he
        have hn : n ≤ l.length - a1 := by rcases hun with h | h; (· exact h.2); (· exact absurd rfl h.1)
        have hnl : a1 + n ≤ s.size := by have := HSZ.out; omega
        have hK : (str x).size ≤ maxLen := by rw [str_size]; unfold maxLen; omega
        have HZE := Lib.hid (fun W => refZero_any (str x) W hK)
        clear hun
        by_cases hz : hasZ (str x) = true
        · have hr : R = .inr (1 + 0, 70) := by rw [HST.out, HIN.out, if_neg (by simp), if_pos hz]
          have HV : Hid (stepV at_ R = .tuple #[.agg #[.string ⟨#[]⟩, .int .i64 0, .bool false], .int .i64 0, .int .i64 (a1 : Int), .int .i64 70]) := Lib.hid (by rw [hr, ← HA1.out]; rfl)
          rw [hz] at HZE
          clear hr hz HIN HST hU1 hK
          go_enter Tryz.func54, Tryz.ntmps54
          go_wp2_with (first
            | (go_at_call 84; (with_reducible refine (HUQ.out _).mono ?_); rintro e w2 ⟨rfl, hb2⟩; have HX2 := Lib.hid (HX0.out.below hb2); clear hb2)
            | (go_at_call 44; (with_reducible refine (HZE.out _).mono ?_); rintro e w3 ⟨rfl, hb3⟩; have HX3 := Lib.hid (HX2.out.below hb3); obtain ⟨p0, p1, p2, f0, f1, f2, p3, p4, p5, f3, f4, f5⟩ := HX3.out.cells; clear hb3))
          rw [HV.out]
          exact ret_three4 (p := 4) (q := 5) (r := 6) (t := 7) (g := w.heap.size) (v := .int .i64 0) (u := .int .i64 (a1 : Int)) (x := .int .i64 70) (by rfl) (by rfl) (by rfl) (by rfl) (by rfl) (put3_blk HX3.out.b0 _ _ _) (by rfl) ⟨rfl, put3_bel HX3.out.bl (Nat.le_refl _) _ _ _⟩
        · have hz0 : hasZ (str x) = false := Bool.eq_false_iff.2 hz
          obtain ⟨E, hE⟩ : ∃ E, a1 + n = E := ⟨_, rfl⟩
          have q3 : (a1 : Int) + (n : Int) = (E : Int) := by omega
          have q4 : IntKind.i64.wrap ((a1 : Int) + (n : Int)) = (E : Int) := by rw [q3]; exact IntWalk.i64_in _ (by omega)
          have hr : R = if l[E]? = some 93 then .inl (⟨str x, 0, true⟩, n + 2) else .inr (1 + n, 4) := by rw [HST.out, HIN.out, if_neg (by simp), if_neg hz, ← hE]
          rw [hE] at hnl
          have HR := Lib.hid hr
          have HE := Lib.hid hE
          rw [hz0] at HZE
          clear hr hz hz0 HIN HST hU1 hK hE
          by_cases hEs : E < s.size
          · obtain ⟨c2, hc2⟩ : ∃ c2, l[E]? = some c2 := ⟨_, List.getElem?_eq_getElem (by have := HSZ.out; omega)⟩
            have hx2 : s[E] = c2 := U.byte_at HL.out hc2 hEs
            have hEd : decide ((s.size : Int) ≤ (E : Int)) = false := decide_eq_false (by omega)
            by_cases h93 : l[E]? = some 93
            · have h5 : ((c2.toNat : Int) != 93) = false := by
                rw [hc2] at h93
                rw [Option.some.inj h93]
                rfl
              clear hc2
              have HV : Hid (stepV at_ R = .tuple #[.agg #[.string (str x), .int .i64 0, .bool true], .int .i64 ((E : Int) + 1), .int .i64 0, .int .i64 0]) := Lib.hid (by rw [HR.out, if_pos h93, ← HE.out, ← HA1.out]; show Value.tuple #[_, .int .i64 ((at_ + (n + 2) : Nat) : Int), _, _] = _; rw [show ((at_ + (n + 2) : Nat) : Int) = ((at_ + 1 + n : Nat) : Int) + 1 by omega])
              clear HR h93
              go_enter Tryz.func54, Tryz.ntmps54
              go_wp2_with (first
                | (go_at_call 84; (with_reducible refine (HUQ.out _).mono ?_); rintro e w2 ⟨rfl, hb2⟩; have HX2 := Lib.hid (HX0.out.below hb2); clear hb2)
                | (go_at_call 44; (with_reducible refine (HZE.out _).mono ?_); rintro e w3 ⟨rfl, hb3⟩; have HX3 := Lib.hid (HX2.out.below hb3); obtain ⟨p0, p1, p2, f0, f1, f2, p3, p4, p5, f3, f4, f5⟩ := HX3.out.cells; clear hb3))
              rw [HV.out]
              exact ret_three4 (p := 4) (q := 5) (r := 6) (t := 7) (g := w.heap.size) (v := .int .i64 ((E : Int) + 1)) (u := .int .i64 0) (x := .int .i64 0) (by rfl) (by rfl) (by rfl) (by rfl) (by rfl) (put3_blk (put3_other (by omega) HX3.out.b0 _ _ _) _ _ _) (by rfl) ⟨rfl, put3_bel (put3_bel HX3.out.bl (Nat.le_succ _) _ _ _) (Nat.le_refl _) _ _ _⟩
            · have h5 : ((c2.toNat : Int) != 93) = true := by
                have : ¬ c2.toNat = 93 := fun h => h93 (by rw [hc2]; congr 1; exact UInt8.toNat_inj.1 h)
                simp; omega
              have hno := h93
              clear hc2 h93
              have HV : Hid (stepV at_ R = .tuple #[.agg #[.string ⟨#[]⟩, .int .i64 0, .bool false], .int .i64 0, .int .i64 (E : Int), .int .i64 4]) := Lib.hid (by rw [HR.out, if_neg hno, ← HE.out, ← HA1.out, Nat.add_assoc]; rfl)
              clear HR hno
              go_enter Tryz.func54, Tryz.ntmps54
              go_wp2_with (first
                | (go_at_call 84; (with_reducible refine (HUQ.out _).mono ?_); rintro e w2 ⟨rfl, hb2⟩; have HX2 := Lib.hid (HX0.out.below hb2); clear hb2)
                | (go_at_call 44; (with_reducible refine (HZE.out _).mono ?_); rintro e w3 ⟨rfl, hb3⟩; have HX3 := Lib.hid (HX2.out.below hb3); obtain ⟨p0, p1, p2, f0, f1, f2, p3, p4, p5, f3, f4, f5⟩ := HX3.out.cells; clear hb3))
              rw [HV.out]
              exact ret_three4 (p := 4) (q := 5) (r := 6) (t := 7) (g := w.heap.size) (v := .int .i64 0) (u := .int .i64 (E : Int)) (x := .int .i64 4) (by rfl) (by rfl) (by rfl) (by rfl) (by rfl) (put3_blk (put3_other (by omega) HX3.out.b0 _ _ _) _ _ _) (by rfl) ⟨rfl, put3_bel (put3_bel HX3.out.bl (Nat.le_succ _) _ _ _) (Nat.le_refl _) _ _ _⟩
          · have hno : ¬ l[E]? = some 93 := fun h => hEs (by have := (List.getElem?_eq_some_iff.1 h).1; have := HSZ.out; omega)
            have hEd : decide ((s.size : Int) ≤ (E : Int)) = true := decide_eq_true (by omega)
            have HV : Hid (stepV at_ R = .tuple #[.agg #[.string ⟨#[]⟩, .int .i64 0, .bool false], .int .i64 0, .int .i64 (E : Int), .int .i64 4]) := Lib.hid (by rw [HR.out, if_neg hno, ← HE.out, ← HA1.out, Nat.add_assoc]; rfl)
            clear HR hno
            go_enter Tryz.func54, Tryz.ntmps54
            go_wp2_with (first
              | (go_at_call 84; (with_reducible refine (HUQ.out _).mono ?_); rintro e w2 ⟨rfl, hb2⟩; have HX2 := Lib.hid (HX0.out.below hb2); clear hb2)
              | (go_at_call 44; (with_reducible refine (HZE.out _).mono ?_); rintro e w3 ⟨rfl, hb3⟩; have HX3 := Lib.hid (HX2.out.below hb3); obtain ⟨p0, p1, p2, f0, f1, f2, p3, p4, p5, f3, f4, f5⟩ := HX3.out.cells; clear hb3))
            rw [HV.out]
            exact ret_three4 (p := 4) (q := 5) (r := 6) (t := 7) (g := w.heap.size) (v := .int .i64 0) (u := .int .i64 (E : Int)) (x := .int .i64 4) (by rfl) (by rfl) (by rfl) (by rfl) (by rfl) (put3_blk (put3_other (by omega) HX3.out.b0 _ _ _) _ _ _) (by rfl) ⟨rfl, put3_bel (put3_bel HX3.out.bl (Nat.le_succ _) _ _ _) (Nat.le_refl _) _ _ _⟩
      · have ho : o ≤ l.length - a1 := by rcases hun with h | h; (· exact absurd h.1 he); (· exact h.2)
        have hol : a1 + o ≤ s.size := by have := HSZ.out; omega
        have hei : ((e : Nat) : Int) ≠ 0 := by omega
        have heb := neB hei
        obtain ⟨E, hE⟩ : ∃ E, a1 + o = E := ⟨_, rfl⟩
        have q3 : (a1 : Int) + (o : Int) = (E : Int) := by omega
        have q4 : IntKind.i64.wrap ((a1 : Int) + (o : Int)) = (E : Int) := by rw [q3]; exact IntWalk.i64_in _ (by omega)
        have hr : R = .inr (1 + o, e) := by rw [HST.out, HIN.out, if_pos he]
        have HV : Hid (stepV at_ R = .tuple #[.agg #[.string ⟨#[]⟩, .int .i64 0, .bool false], .int .i64 0, .int .i64 (E : Int), .int .i64 (e : Int)]) := Lib.hid (by rw [hr, ← hE, ← HA1.out, Nat.add_assoc]; rfl)
        clear hr he HIN HST hU1 hE hun
        go_enter Tryz.func54, Tryz.ntmps54
        go_wp2_with (go_at_call 84; (with_reducible refine (HUQ.out _).mono ?_); rintro e w2 ⟨rfl, hb2⟩; have HX2 := Lib.hid (HX0.out.below hb2); obtain ⟨p0, p1, p2, f0, f1, f2, p3, p4, p5, f3, f4, f5⟩ := HX2.out.cells; clear hb2)
        rw [HV.out]
        exact ret_three4 (p := 4) (q := 5) (r := 6) (t := 7) (g := w.heap.size) (v := .int .i64 0) (u := .int .i64 (E : Int)) (x := .int .i64 (e : Int)) (by rfl) (by rfl) (by rfl) (by rfl) (by rfl) (put3_blk HX2.out.b0 _ _ _) (by rfl) ⟨rfl, put3_bel HX2.out.bl (Nat.le_refl _) _ _ _⟩
    · have hin : stIn (l.drop a1) = .inr (0, 4) := by unfold stIn; rw [if_neg (by omega), if_neg h34]
      have hr : R = .inr (1 + 0, 4) := by rw [HST.out, hin]
      have HV : Hid (stepV at_ R = .tuple #[.agg #[.string ⟨#[]⟩, .int .i64 0, .bool false], .int .i64 0, .int .i64 (a1 : Int), .int .i64 4]) := Lib.hid (by rw [hr, ← HA1.out]; rfl)
      have hout := dg_out (l := l) (a := a1)
      rw [hd0, Nat.add_zero] at hout
      clear hin hr HST
      rcases hout with ho | ⟨c1, hc1, hdg⟩
      · have hns : ¬ a1 < s.size := by have := HSZ.out; omega
        clear h34 hd0 ho
        go_enter Tryz.func54, Tryz.ntmps54
        go_wp2
        rw [HV.out]
        first
        | exact ret_three4 (p := 4) (q := 5) (r := 6) (t := 7) (g := w.heap.size) (v := .int .i64 0) (u := .int .i64 (a1 : Int)) (x := .int .i64 4) (by rfl) (by rfl) (by rfl) (by rfl) (by rfl) HX0.out.b0 (by rfl) ⟨rfl, HX0.out.bl⟩
        | exact ret_three4 (p := 4) (q := 5) (r := 6) (t := 7) (g := w.heap.size) (v := .int .i64 0) (u := .int .i64 (a1 : Int)) (x := .int .i64 4) (by rfl) (by rfl) (by rfl) (by rfl) (by rfl) (put3_blk HX0.out.b0 _ _ _) (by rfl) ⟨rfl, put3_bel HX0.out.bl (Nat.le_refl _) _ _ _⟩
      · have ha1l : a1 < s.size := by have := HSZ.out; have := (List.getElem?_eq_some_iff.1 hc1).1; omega
        have hx1 : s[a1] = c1 := U.byte_at HL.out hc1 ha1l
        have b3 : ((c1.toNat : Int) == 34) = false := by
          rw [beq_eq_false_iff_ne]
          intro h
          apply h34
          rw [List.head?_drop, hc1]
          congr 1
          exact UInt8.toNat_inj.1 (by show c1.toNat = 34; omega)
        rcases dg_no hdg with g1 | g1
        · have b1 : decide ((48 : Int) ≤ (c1.toNat : Int)) = false := decide_eq_false (by omega)
          clear h34 hd0 hdg hc1 g1
          go_enter Tryz.func54, Tryz.ntmps54
          go_wp2
          rw [HV.out]
          first
          | exact ret_three4 (p := 4) (q := 5) (r := 6) (t := 7) (g := w.heap.size) (v := .int .i64 0) (u := .int .i64 (a1 : Int)) (x := .int .i64 4) (by rfl) (by rfl) (by rfl) (by rfl) (by rfl) HX0.out.b0 (by rfl) ⟨rfl, HX0.out.bl⟩
          | exact ret_three4 (p := 4) (q := 5) (r := 6) (t := 7) (g := w.heap.size) (v := .int .i64 0) (u := .int .i64 (a1 : Int)) (x := .int .i64 4) (by rfl) (by rfl) (by rfl) (by rfl) (by rfl) (put3_blk HX0.out.b0 _ _ _) (by rfl) ⟨rfl, put3_bel HX0.out.bl (Nat.le_refl _) _ _ _⟩
        · have b1 : decide ((48 : Int) ≤ (c1.toNat : Int)) = true := decide_eq_true (by omega)
          have b2 : decide ((c1.toNat : Int) ≤ 57) = false := decide_eq_false (by omega)
          clear h34 hd0 hdg hc1 g1
          go_enter Tryz.func54, Tryz.ntmps54
          go_wp2
          rw [HV.out]
          first
          | exact ret_three4 (p := 4) (q := 5) (r := 6) (t := 7) (g := w.heap.size) (v := .int .i64 0) (u := .int .i64 (a1 : Int)) (x := .int .i64 4) (by rfl) (by rfl) (by rfl) (by rfl) (by rfl) HX0.out.b0 (by rfl) ⟨rfl, HX0.out.bl⟩
          | exact ret_three4 (p := 4) (q := 5) (r := 6) (t := 7) (g := w.heap.size) (v := .int .i64 0) (u := .int .i64 (a1 : Int)) (x := .int .i64 4) (by rfl) (by rfl) (by rfl) (by rfl) (by rfl) (put3_blk HX0.out.b0 _ _ _) (by rfl) ⟨rfl, put3_bel HX0.out.bl (Nat.le_refl _) _ _ _⟩

theorem okS_okR {x : Stp} (ho : okS x = true) (hl : (txtS x).length ≤ 1000000) : okR x := by
  rw [txtS_body] at hl
  simp only [List.length_cons, List.length_append] at hl
  unfold okS at ho
  unfold bodyS at hl
  split at ho
  · rename_i hb
    rw [if_pos hb] at hl
    simp only [Bool.and_eq_true, decide_eq_true_eq] at ho
    have := quo_ge x.k.data.toList
    refine ⟨?_, by omega, by omega⟩
    rw [Lib.size_eq]
    unfold maxLen
    omega
  · simp only [Bool.and_eq_true, decide_eq_true_eq] at ho
    exact ⟨by rw [ho.1]; exact Nat.zero_le _, by omega, by omega⟩
theorem pv_snoc (ps : List Stp) (x : Stp) : pv (ps ++ [x]) = pv ps ++ [.string x.k, .int .i64 x.a, .bool x.b] := by
  rw [pv_app]
  rfl

set_option maxRecDepth 100000 in
set_option maxHeartbeats 4000000 in
theorem refParse_any (s : ByteArray) (l : List UInt8) (hl : s.data.toList = l) (w : World) (hs : s.size ≤ 60000) :
    Calls Tryz.prog 20 #[.string s] w (PE w (parseP l)) := by
  have HSZ := Lib.hid (show s.size = l.length by rw [Lib.size_eq, hl])
  obtain ⟨R, hR⟩ : ∃ R, parseP l = R := ⟨_, rfl⟩
  rw [hR]
  rw [pr_start] at hR
  have HR := Lib.hid hR
  have HL := Lib.hid hl
  clear hR hl
  obtain ⟨i0, hi, hz0, hz1, hz2⟩ := info_parts infoSt
  go_enter Tryz.func20, Tryz.ntmps20
  go_wp2
  go_loopw [5, 6] (fun v i wr => ∃ (k : Nat) (ps : List Stp), i = .int .i64 (k : Int) ∧ k ≤ s.size ∧ ps.length ≤ 64 ∧ Hid (PR l k ps = R) ∧ Hid (wr.ownsRow w.heap.size 51 3 v ps.length (pv ps)) ∧ Hid (∀ x ∈ ps, okR x) ∧ Hid (Below w.heap.size w wr)) (fun v i _ => s.size + 1 - (RowKit.intOf i).toNat)
  case atStart => exact ⟨0, [], rfl, Nat.zero_le _, Nat.zero_le _, HR, World.ownsRow_nil _ _ _ _, Lib.hid (by simp), Lib.hid (Below.refl _ _)⟩
  case round =>
    obtain ⟨k, ps, rfl, hk, h64, HPR, HO, HOK, HB⟩ := hrel
    obtain ⟨OA, Oc, rfl⟩ := (Ow.of HO.out).shape
    by_cases hks : k < s.size
    · have hkl : k < l.length := by have := HSZ.out; omega
      by_cases hp6 : ps.length = 64
      · have hr : R = ([], k, 5) := by rw [← HPR.out]; exact pr_limit hkl hp6
        have HRR := Lib.hid hr
        have h6i : ((ps.length : Nat) : Int) = 64 := by omega
        have h6b : (((ps.length : Nat) : Int) == 64) = true := by rw [h6i]; rfl
        clear hr
        go_wp2
        go_ret3
        rw [HRR.out]
        exact ⟨⟨_, rfl, rdp_nil _⟩, HB.out⟩
      · have h6i : ¬ ((ps.length : Nat) : Int) = 64 := by omega
        have h6b : (((ps.length : Nat) : Int) == 64) = false := by rw [beq_eq_false_iff_ne]; exact h6i
        have HST := Lib.hid (step_any s l HL.out k wr hs hks)
        rcases hst : stp (l.drop k) with ⟨x, n⟩ | ⟨o, e⟩
        · obtain ⟨g1, g2, g3, _⟩ := stp_back hst
          have h2 := stp_pos hst
          rw [List.length_drop] at g3
          have hx := okS_okR g1 (by have := HSZ.out; omega)
          have HPN : Hid (PR l (k + n) (ps ++ [x]) = R) := Lib.hid (by rw [← pr_step hkl hp6 hst]; exact HPR.out)
          have HOK2 : Hid (∀ y ∈ ps ++ [x], okR y) := Lib.hid fun y hy => by
            rcases List.mem_append.1 hy with hy | hy
            · exact HOK.out y hy
            · rw [List.mem_singleton.1 hy]; exact hx
          rw [hst] at HST
          have HST : Hid (Calls Tryz.prog 54 #[.string s, .int .i64 (k : Nat)] wr fun e w' => e = .returned (.tuple #[.agg #[.string x.k, .int .i64 x.a, .bool x.b], .int .i64 ((k + n : Nat) : Int), .int .i64 0, .int .i64 0]) ∧ Below wr.heap.size wr w') := HST
          obtain ⟨k2, hk2⟩ : ∃ k2, k + n = k2 := ⟨_, rfl⟩
          have hk2s : k2 ≤ s.size := by have := HSZ.out; omega
          have hk2g : k < k2 := by omega
          rw [hk2] at HPN HST
          have hlen : (ps ++ [x]).length = ps.length + 1 := by simp
          clear hst g1 g2 g3 hx h2 hk2
          go_wp2_with (first
            | (go_at_call 54; (with_reducible refine HST.out.mono ?_); rintro e w2 ⟨rfl, hb2⟩; have HB2 := Lib.hid (HB.out.trans (hb2.mono HB.out.size)); have HO2 := Lib.hid (own_bel HO.out hb2); have HS2 := Lib.hid HB2.out.size; clear hb2)
            | (at_builtin; refine wpList_append_own_at _ rfl _ _ 22 rfl w.heap.size 51 i0 _ 3 32 Tryz.underlying22 hi hz0 hz1 hz2 rfl (by decide) _ ps.length (pv ps) rfl ((HO2.out.alloc _).alloc _) ⟨w2.heap.size + 1, 0, none⟩ 1 1 [.string x.k, .int .i64 x.a, .bool x.b] rfl rfl ?q1 ?q2 ?q3 ?q4 ?q5 ?_; rotate_left 5; intro v' w3 hown3 hgrow3 _ _))
          · have HB3 : Below w.heap.size w w3 := ((HB2.out.alloc HS2.out _).alloc (by rw [World.size_alloc]; have := HS2.out; omega) _).grown hgrow3 (by rw [World.size_alloc, World.size_alloc]; have := HS2.out; omega) (fun k hk => (HO2.out.lt k hk).1)
            have HO3 : Hid (w3.ownsRow w.heap.size 51 3 v' (ps ++ [x]).length (pv (ps ++ [x]))) := Lib.hid (by rw [hlen, pv_snoc]; exact hown3)
            go_roundw
            case rel => exact ⟨k2, ps ++ [x], rfl, hk2s, by omega, HPN, HO3, HOK2, Lib.hid HB3⟩
            case measure => simp [RowKit.intOf]; omega
          case q1 => rw [← World.size_alloc w2]; exact cells_new _ _ _
          case q2 =>
            intro u hu
            simp only [List.mem_cons, List.not_mem_nil, or_false] at hu
            rcases hu with rfl | rfl | rfl <;> rfl
          case q3 => unfold maxLen; omega
          case q4 => omega
          case q5 => rw [World.size_alloc, World.size_alloc]; have := HS2.out; omega
        · obtain ⟨_, he⟩ := stp_err hst
          have hr : R = ([], k + o, e) := by rw [← HPR.out]; exact pr_bad hkl hp6 hst
          have HRR := Lib.hid hr
          rw [hst] at HST
          have HST : Hid (Calls Tryz.prog 54 #[.string s, .int .i64 (k : Nat)] wr fun x w' => x = .returned (.tuple #[.agg #[.string ⟨#[]⟩, .int .i64 0, .bool false], .int .i64 0, .int .i64 ((k + o : Nat) : Int), .int .i64 ((e : Nat) : Int)]) ∧ Below wr.heap.size wr w') := HST
          obtain ⟨k2, hk2⟩ : ∃ k2, k + o = k2 := ⟨_, rfl⟩
          rw [hk2] at HRR HST
          have hei : ((e : Nat) : Int) ≠ 0 := by omega
          have heb := neB hei
          clear hst hr he hk2
          go_wp2_with (go_at_call 54; (with_reducible refine HST.out.mono ?_); rintro e w2 ⟨rfl, hb2⟩; have HB2 := Lib.hid (HB.out.trans (hb2.mono HB.out.size)); clear hb2)
          go_ret3
          rw [HRR.out]
          exact ⟨⟨_, rfl, rdp_nil _⟩, tr HB2.out (al0 _ _)⟩
    · have hr : R = (ps, 0, 0) := by rw [← HPR.out]; exact pr_end ps (by have := HSZ.out; omega)
      have HRR := Lib.hid hr
      clear hr
      go_wp2
      go_ret3
      rw [HRR.out]
      exact ⟨⟨_, rfl, own_rdp HO.out HOK.out⟩, HB.out⟩
end Go.Proofs.YtjnfilbdokppiaaGreatDoor
