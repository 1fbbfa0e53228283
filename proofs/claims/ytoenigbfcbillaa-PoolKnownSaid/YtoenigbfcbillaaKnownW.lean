/-
  What is proved here: PoolKnown returns true and leaves all memory that was there as it was; no condition.
-/
import Derived.Test.YtoenigbfcbillaaPlaysW
namespace Go.Proofs.Ytoenigbfcbillaa
open Go.RowKit

/-! Nil and zero pools. -/
def NS (w : World) (v : Value) : Prop := v = .pointer none ∨ ∃ p, v = .pointer (some ⟨p, 0, none⟩) ∧ Bx w p 57 #[.bool false, .slice none 0 0]
theorem NS.below {w w' : World} {v : Value} (h : NS w v) (hb : Below w.heap.size w w') : NS w' v := by
  rcases h with h | ⟨p, h1, h2⟩
  · exact .inl h
  · exact .inr ⟨p, h1, h2.below hb h2.lt⟩
section
variable {v : Value} {w : World}
theorem exists_no (h : NS w v) : Calls Try.prog 26 #[v] w fun e w' => e = .returned (.bool false) ∧ w = w' := by
  rcases h with rfl | ⟨p, rfl, hb⟩
  · go_enter Try.func26, Try.ntmps26
    go_wp2
    go_ret
    exact ⟨rfl, rfl⟩
  · have c0 : w.cell? ⟨p, 0, none⟩ = some (.bool false) := hb.cell 0
    clear hb
    go_enter Try.func26, Try.ntmps26
    go_wp2
    go_ret
    exact ⟨rfl, rfl⟩
theorem len_no (h : NS w v) : Calls Try.prog 17 #[v] w fun e w' => e = .returned (.int .i64 0) ∧ w = w' := by
  have HE := Lib.hid (exists_no h)
  clear h
  go_enter Try.func17, Try.ntmps17
  go_wp2_with (go_at_call 26; (with_reducible refine HE.out.mono ?_); rintro e w1 ⟨rfl, rfl⟩)
  go_ret
  exact ⟨rfl, rfl⟩
theorem list_no (h : NS w v) : Calls Try.prog 16 #[v] w fun e w' => e = .returned (.slice none 0 0) ∧ w = w' := by
  have HE := Lib.hid (exists_no h)
  clear h
  go_enter Try.func16, Try.ntmps16
  go_wp2_with (go_at_call 26; (with_reducible refine HE.out.mono ?_); rintro e w1 ⟨rfl, rfl⟩)
  go_ret
  exact ⟨rfl, rfl⟩
theorem get_no (h : NS w v) (s : ByteArray) : Calls Try.prog 12 #[v, .string s] w fun e w' => e = .returned (.tuple #[.int .i64 0, .bool false]) ∧ w = w' := by
  have HE := Lib.hid (exists_no h)
  clear h
  go_enter Try.func12, Try.ntmps12
  go_wp2_with (go_at_call 26; (with_reducible refine HE.out.mono ?_); rintro e w1 ⟨rfl, rfl⟩)
  go_ret2
  exact ⟨rfl, rfl⟩
theorem put_no' (h : NS w v) (s : ByteArray) (n : Int) : Calls Try.prog 14 #[v, .string s, .int .i64 n] w fun e w' => e = .returned (.int .i64 1) ∧ w = w' := by
  have HE := Lib.hid (exists_no h)
  clear h
  go_enter Try.func14, Try.ntmps14
  go_wp2_with (go_at_call 26; (with_reducible refine HE.out.mono ?_); rintro e w1 ⟨rfl, rfl⟩)
  go_ret
  exact ⟨rfl, rfl⟩
theorem gets_no (h : NS w v) (s : ByteArray) : Calls Try.prog 22 #[v, .string s, .int .i64 0, .bool false] w fun e w' => e = .returned (.bool true) ∧ w = w' := by
  have HE := Lib.hid (get_no h s)
  clear h
  go_enter Try.func22, Try.ntmps22
  go_wp2_with (go_at_call 12; (with_reducible refine HE.out.mono ?_); rintro e w1 ⟨rfl, rfl⟩)
  go_ret
  exact ⟨rfl, rfl⟩
end
/-- .. behind the law's beginning. -/
def NB (w0 W : World) (v : Value) : Prop := NS W v ∧ Below w0.heap.size w0 W
theorem NB.below {w0 W W' : World} {v : Value} (h : NB w0 W v) (hb : Below W.heap.size W W') : NB w0 W' v := ⟨h.1.below hb, h.2.trans (hb.mono h.2.size)⟩
theorem nNew {w0 W : World} {v : Value} (h : NB w0 W v) : NB w0 (W.alloc (.cells #[.bool false, .slice none 0 0] 57)) (.pointer (some ⟨W.heap.size, 0, none⟩)) :=
  ⟨.inr ⟨_, rfl, Bx.new _ _ _⟩, h.2.alloc h.2.size _⟩
/-- The four strings of the law. -/
theorem plays_lit {wa : World} (w : World) (hw : Below wa.heap.size wa w) (s1 s2 s3 o : ByteArray) (e : Int) (h1 : s1.size ≤ 1000) (h2 : s2.size ≤ 1000) (h3 : s3.size ≤ 1000) (h4 : o.size ≤ 1000) (h0 : -9223372036854775808 ≤ e) (he : e ≤ 9223372036854775807) :
    Calls Try.prog 3 #[.slice (some ⟨w.heap.size, 0, none⟩) 4 4, .string o] ((w.alloc (.cells #[.string s1, .int .i64 e, .string s2, .int .i64 1, .string s3, .int .i64 2, .string s1, .int .i64 3] 29)).drew)
      fun e w' => e = .returned (.bool true) ∧ Below wa.heap.size wa w' := by
  obtain ⟨cs, hcs⟩ : ∃ cs : Array Value, cs = #[.string s1, .int .i64 e, .string s2, .int .i64 1, .string s3, .int .i64 2, .string s1, .int .i64 3] := ⟨_, rfl⟩
  rw [← hcs]
  have hbx : Bx (w.alloc (.cells cs 29)) w.heap.size 29 cs := Bx.new _ _ _
  have hbx2 := hbx.below (Below.refl _ _).drew hbx.lt
  have hb2 : Below w.heap.size w (w.alloc (.cells cs 29)).drew := (al0 w _).drew
  have hm : ∀ {n : Nat}, n ≤ 1000 → n ≤ maxLen := fun h => by unfold maxLen; omega
  have hL : RdT (w.alloc (.cells cs 29)).drew (.slice (some ⟨w.heap.size, 0, none⟩) 4 4) [⟨s1, e⟩, ⟨s2, 1⟩, ⟨s3, 2⟩, ⟨s1, 3⟩] := by
    refine ⟨_, 4, 4, rfl, rfl, Nat.le_refl _, by unfold maxLen; omega, fun d hd => ?_, fun _ => ⟨_, 0, rfl, hbx2.lt, fun j d hd => ?_⟩⟩
    · simp only [List.mem_cons, List.not_mem_nil, or_false] at hd
      rcases hd with rfl | rfl | rfl | rfl
      · exact ⟨hm h1, h0, he⟩
      · exact ⟨hm h2, by show (-9223372036854775808 : Int) ≤ 1; decide, by show (1 : Int) ≤ 9223372036854775807; decide⟩
      · exact ⟨hm h3, by show (-9223372036854775808 : Int) ≤ 2; decide, by show (2 : Int) ≤ 9223372036854775807; decide⟩
      · exact ⟨hm h1, by show (-9223372036854775808 : Int) ≤ 3; decide, by show (3 : Int) ≤ 9223372036854775807; decide⟩
    · have hj : j < 4 := (List.getElem?_eq_some_iff.1 hd).1
      have hjj : j = 0 ∨ j = 1 ∨ j = 2 ∨ j = 3 := by omega
      subst hcs
      rcases hjj with rfl | rfl | rfl | rfl <;> (simp only [List.getElem?_cons_zero, List.getElem?_cons_succ, Option.some.injEq] at hd; subst hd; exact ⟨hbx2.cell _, hbx2.cell _⟩)
  refine (poolPlays_walk _ _ o _ hL (hm h4)).mono ?_
  rintro e w' ⟨rfl, hb⟩
  exact ⟨rfl, (hw.trans (hb2.mono hw.size)).trans (hb.mono (Nat.le_trans hw.size hb2.size))⟩
set_option maxRecDepth 20000 in
set_option maxHeartbeats 2000000 in
theorem poolKnown_walk (w : World) :
    Calls Try.prog 8 #[] w fun e w' => e = .returned (.bool true) ∧ Below w.heap.size w w' := by
  go_enter Try.func8, Try.ntmps8
  go_wp2
  obtain ⟨g1, hg1⟩ : ∃ g1, w.heap.size = g1 := ⟨_, rfl⟩
  obtain ⟨g2, hg2⟩ : ∃ g2, g1 + 1 = g2 := ⟨_, rfl⟩
  obtain ⟨w1, hw1⟩ : ∃ w1, w.alloc (.cells #[.int .i64 (-9223372036854775808), .int .i64 (-1), .int .i64 0, .int .i64 1, .int .i64 9007199254740991, .int .i64 9007199254740992, .int .i64 9223372036854775807] 3) = w1 := ⟨_, rfl⟩
  obtain ⟨wa, hwa⟩ : ∃ wa, w1.alloc (.cells #[.string ⟨#[]⟩, .string ⟨#[0]⟩, .string ⟨#[97]⟩, .string ⟨#[97, 0]⟩, .string ⟨#[97, 98]⟩, .string ⟨#[98]⟩, .string ⟨#[255]⟩] 9) = wa := ⟨_, rfl⟩
  have hs1 : w1.heap.size = g2 := by rw [← hw1, ← hg2, ← hg1]; simp
  have HBA : Hid (Below w.heap.size w wa) := Lib.hid (by rw [← hwa]; have h := al0 w (.cells #[.int .i64 (-9223372036854775808), .int .i64 (-1), .int .i64 0, .int .i64 1, .int .i64 9007199254740991, .int .i64 9007199254740992, .int .i64 9223372036854775807] 3); rw [hw1] at h; exact h.trans ((al0 w1 _).mono h.size))
  have HEN : Hid (∀ i, i < 7 → ∃ e : Int, -9223372036854775808 ≤ e ∧ e ≤ 9223372036854775807 ∧ ∀ W, Below wa.heap.size wa W → W.cell? ⟨g1, i, none⟩ = some (.int .i64 e)) := Lib.hid (by
    intro i hi
    have hb := Bx.new w 3 #[.int .i64 (-9223372036854775808), .int .i64 (-1), .int .i64 0, .int .i64 1, .int .i64 9007199254740991, .int .i64 9007199254740992, .int .i64 9223372036854775807]
    rw [hw1, hg1] at hb
    have hb2 := hb.below (al0 w1 (.cells #[.string ⟨#[]⟩, .string ⟨#[0]⟩, .string ⟨#[97]⟩, .string ⟨#[97, 0]⟩, .string ⟨#[97, 98]⟩, .string ⟨#[98]⟩, .string ⟨#[255]⟩] 9)) hb.lt
    rw [hwa] at hb2
    have hk : ∀ (e : Int), (#[.int .i64 (-9223372036854775808), .int .i64 (-1), .int .i64 0, .int .i64 1, .int .i64 9007199254740991, .int .i64 9007199254740992, .int .i64 9223372036854775807] : Array Value)[i]? = some (.int .i64 e) → ∀ W, Below wa.heap.size wa W → W.cell? ⟨g1, i, none⟩ = some (.int .i64 e) := fun e he W hW => ((hb2.below hW hb2.lt).cell i).trans he
    have : i = 0 ∨ i = 1 ∨ i = 2 ∨ i = 3 ∨ i = 4 ∨ i = 5 ∨ i = 6 := by omega
    rcases this with rfl | rfl | rfl | rfl | rfl | rfl | rfl
    · exact ⟨(-9223372036854775808), by omega, by omega, hk _ rfl⟩
    · exact ⟨(-1), by omega, by omega, hk _ rfl⟩
    · exact ⟨0, by omega, by omega, hk _ rfl⟩
    · exact ⟨1, by omega, by omega, hk _ rfl⟩
    · exact ⟨9007199254740991, by omega, by omega, hk _ rfl⟩
    · exact ⟨9007199254740992, by omega, by omega, hk _ rfl⟩
    · exact ⟨9223372036854775807, by omega, by omega, hk _ rfl⟩)
  have HST : Hid (∀ i, i < 7 → ∃ s : ByteArray, s.size ≤ 1000 ∧ ∀ W, Below wa.heap.size wa W → W.cell? ⟨g2, i, none⟩ = some (.string s)) := Lib.hid (by
    intro i hi
    have hb := Bx.new w1 9 #[.string ⟨#[]⟩, .string ⟨#[0]⟩, .string ⟨#[97]⟩, .string ⟨#[97, 0]⟩, .string ⟨#[97, 98]⟩, .string ⟨#[98]⟩, .string ⟨#[255]⟩]
    rw [hwa, hs1] at hb
    have hk : ∀ (s : ByteArray), (#[.string ⟨#[]⟩, .string ⟨#[0]⟩, .string ⟨#[97]⟩, .string ⟨#[97, 0]⟩, .string ⟨#[97, 98]⟩, .string ⟨#[98]⟩, .string ⟨#[255]⟩] : Array Value)[i]? = some (.string s) → ∀ W, Below wa.heap.size wa W → W.cell? ⟨g2, i, none⟩ = some (.string s) := fun s he W hW => ((hb.below hW hb.lt).cell i).trans he
    have : i = 0 ∨ i = 1 ∨ i = 2 ∨ i = 3 ∨ i = 4 ∨ i = 5 ∨ i = 6 := by omega
    rcases this with rfl | rfl | rfl | rfl | rfl | rfl | rfl
    · exact ⟨⟨#[]⟩, by decide, hk _ rfl⟩
    · exact ⟨⟨#[0]⟩, by decide, hk _ rfl⟩
    · exact ⟨⟨#[97]⟩, by decide, hk _ rfl⟩
    · exact ⟨⟨#[97, 0]⟩, by decide, hk _ rfl⟩
    · exact ⟨⟨#[97, 98]⟩, by decide, hk _ rfl⟩
    · exact ⟨⟨#[98]⟩, by decide, hk _ rfl⟩
    · exact ⟨⟨#[255]⟩, by decide, hk _ rfl⟩)
  simp only [hw1, hwa, hg1, hg2]
  clear hw1 hwa hg1 hg2 hs1
  go_loopw [3] (fun i wr => ∃ k : Nat, k ≤ 7 ∧ i = .int .i64 (k : Int) ∧ Hid (Below wa.heap.size wa wr)) (fun i _ => 7 - (intOf i).toNat)
  case atStart => exact ⟨0, by omega, rfl, Below.refl _ _⟩
  case round =>
    obtain ⟨i, hi, rfl, HB⟩ := hrel
    by_cases hi7 : i < 7
    · have di : decide ((i : Int) < 7) = true := by simp; omega
      obtain ⟨e, he0, he1, hce⟩ := HEN.out i hi7
      obtain ⟨s3, hz3, hc3⟩ := HST.out i hi7
      have HCE := Lib.hid hce
      have HC3 := Lib.hid hc3
      have HEB := Lib.hid (show -9223372036854775808 ≤ e ∧ e ≤ 9223372036854775807 ∧ s3.size ≤ 1000 from ⟨he0, he1, hz3⟩)
      clear hce hc3 he0 he1 hz3
      go_wp2_with fail
      go_loopw [4] (fun k wr => ∃ a : Nat, a ≤ 7 ∧ k = .int .i64 (a : Int) ∧ Hid (Below wa.heap.size wa wr)) (fun k _ => 7 - (intOf k).toNat)
      case atStart => exact ⟨0, by omega, rfl, HB⟩
      case round =>
        clear HB
        obtain ⟨a, ha, rfl, HB⟩ := hrel
        by_cases ha7 : a < 7
        · have da : decide ((a : Int) < 7) = true := by simp; omega
          obtain ⟨s1, hz1, hc1⟩ := HST.out a ha7
          have HC1 := Lib.hid hc1
          have HZ1 := Lib.hid hz1
          clear hc1 hz1
          go_wp2_with fail
          go_loopw [5] (fun k wr => ∃ b : Nat, b ≤ 7 ∧ k = .int .i64 (b : Int) ∧ Hid (Below wa.heap.size wa wr)) (fun k _ => 7 - (intOf k).toNat)
          case atStart => exact ⟨0, by omega, rfl, HB⟩
          case round =>
            clear HB
            obtain ⟨b, hb, rfl, HB⟩ := hrel
            by_cases hb7 : b < 7
            · have db : decide ((b : Int) < 7) = true := by simp; omega
              obtain ⟨s2, hz2, hc2⟩ := HST.out b hb7
              have HC2 := Lib.hid hc2
              have HPL := Lib.hid (plays_lit wr HB.out s1 s2 s3 s2 e HZ1.out hz2 HEB.out.2.2 hz2 HEB.out.1 HEB.out.2.1)
              have hall : ∀ W, Hid (Below wa.heap.size wa W) → W.cell? ⟨g1, i, none⟩ = some (.int .i64 e) ∧ W.cell? ⟨g2, a, none⟩ = some (.string s1) ∧ W.cell? ⟨g2, b, none⟩ = some (.string s2) ∧ W.cell? ⟨g2, i, none⟩ = some (.string s3) ∧ Hid (Below wa.heap.size wa W) := fun W H => ⟨HCE.out W H.out, HC1.out W H.out, HC2.out W H.out, HC3.out W H.out, H⟩
              have HBd : Hid (Below wa.heap.size wa wr.drew) := Lib.hid HB.out.drew
              have hal2 : ∀ o, ((wr.alloc o).drew).cell? ⟨g1, i, none⟩ = some (.int .i64 e) ∧ ((wr.alloc o).drew).cell? ⟨g2, a, none⟩ = some (.string s1) ∧ ((wr.alloc o).drew).cell? ⟨g2, b, none⟩ = some (.string s2) ∧ ((wr.alloc o).drew).cell? ⟨g2, i, none⟩ = some (.string s3) ∧ Hid (Below wa.heap.size wa ((wr.alloc o).drew)) := fun o => hall _ (Lib.hid (HB.out.alloc HB.out.size o).drew)
              clear hc2 hz2
              go_upto_region 12 with fail
              have i1 : (i : Int) < 7 := by omega
              have i2 : (a : Int) < 7 := by omega
              have i3 : (b : Int) < 7 := by omega
              go_region_held3 (fun W => W.cell? ⟨g1, i, none⟩ = some (.int .i64 e) ∧ W.cell? ⟨g2, a, none⟩ = some (.string s1) ∧ W.cell? ⟨g2, b, none⟩ = some (.string s2) ∧ W.cell? ⟨g2, i, none⟩ = some (.string s3) ∧ Hid (Below wa.heap.size wa W)) (first | (with_reducible exact hall _ HB) | (with_reducible exact hall _ HBd) | (with_reducible exact hal2 _) | (with_reducible exact hall _ (by assumption)))
                (first | (go_at_call 3; (with_reducible refine HPL.out.mono ?_); rintro e1 w5 ⟨rfl, hb5⟩; have HB5 := Lib.hid hb5; clear hb5))
              all_goals
                go_wp2_with fail
                go_roundw
                case rel => exact ⟨b + 1, by omega, by go_num, HB5⟩
                case measure => simp [intOf]; omega
            · have db : decide ((b : Int) < 7) = false := by simp; omega
              go_wp2_with fail
              go_roundw
              case rel => exact ⟨a + 1, by omega, by go_num, HB⟩
              case measure => simp [intOf]; omega
        · have da : decide ((a : Int) < 7) = false := by simp; omega
          go_wp2_with fail
          go_roundw
          case rel => exact ⟨i + 1, by omega, by go_num, HB⟩
          case measure => simp [intOf]; omega
    · have di : decide ((i : Int) < 7) = false := by simp; omega
      have HN0 : Hid (NB w wr (.pointer none)) := Lib.hid ⟨.inl rfl, HBA.out.trans (HB.out.mono HBA.out.size)⟩
      clear HB HBA HEN HST
      go_wp2_with fail
      go_loopw [6, 7] (fun v i wr => ∃ k : Nat, k ≤ 2 ∧ i = .int .i64 k ∧ Hid (NB w wr v)) (fun _ i _ => 2 - (intOf i).toNat)
      case atStart => exact ⟨0, by omega, rfl, HN0⟩
      case round =>
        obtain ⟨k, hk, rfl, HN⟩ := hrel
        by_cases hk2 : k < 2
        · have d2 : decide ((k : Int) < 2) = true := by simp; omega
          have HL := Lib.hid (list_no HN.out.1)
          have HLN := Lib.hid (len_no HN.out.1)
          have HP1 := Lib.hid (put_no' HN.out.1 ⟨#[97]⟩ 1)
          have HP2 := Lib.hid (put_no' HN.out.1 ⟨#[97]⟩ (-1))
          have HG := Lib.hid (gets_no HN.out.1 ⟨#[97]⟩)
          go_wp2_with (first
            | (go_at_call 14; (with_reducible refine HP1.out.mono ?_); rintro e w6 ⟨rfl, rfl⟩)
            | (go_at_call 14; (with_reducible refine HP2.out.mono ?_); rintro e w6 ⟨rfl, rfl⟩)
            | (go_at_call 22; (with_reducible refine HG.out.mono ?_); rintro e w6 ⟨rfl, rfl⟩)
            | (go_at_call 17; (with_reducible refine HLN.out.mono ?_); rintro e w6 ⟨rfl, rfl⟩)
            | (go_at_call 16; (with_reducible refine HL.out.mono ?_); rintro e w6 ⟨rfl, rfl⟩))
          have HN2 := Lib.hid (nNew HN.out)
          go_roundw
          case rel => exact ⟨k + 1, by omega, by go_num, HN2⟩
          case measure => simp [intOf]; omega
        · have d2 : decide ((k : Int) < 2) = false := by simp; omega
          go_wp2_with (go_at_call 20; (with_reducible refine (works_true _).mono ?_); rintro e w7 ⟨rfl, hs⟩; have HW := Lib.hid hs; clear hs)
          go_ret
          exact ⟨rfl, HN.out.2.trans (HW.out.mono HN.out.2.size)⟩
end Go.Proofs.Ytoenigbfcbillaa
