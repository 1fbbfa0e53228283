/-
  What is proved here: the law KeyOrders returns true; condition: the table of package tree holds what is laid.
-/
import Derived.Test.YtnplkamkeadlgaaDoorKFew
import Derived.Test.YtnplkamkeadlgaaDoorRefC
namespace Go.Proofs.YtnplkamkeadlgaaDoor
open Go.RowKit Go.Sort

theorem refOrder_ok (l : List ByteArray) (v : Value) (q : List Nat) (w : World) (hl : RdS w v l) (hn : l.length ≤ 60000) (hq : SQ l q l.length) :
    Calls Tryd.prog 16 #[v] w fun e w' => ∃ v', e = .returned (.tuple #[v', .int .i64 0]) ∧ Hid (w'.ownsRow w.heap.size 3 1 v' l.length (nb q)) ∧ Hid (RowKit.Below w.heap.size w w') := by
  refine (refOrder_any l v w hl hn).mono ?_
  rintro e w' ⟨hb, ⟨_, hnd⟩ | ⟨v', q', rfl, hq', ho⟩⟩
  · exact absurd hq.nodup hnd
  · obtain rfl := hq.unique hq'
    exact ⟨v', rfl, Lib.hid ho, Lib.hid hb⟩
theorem refOrder_twice (l : List ByteArray) (v : Value) (w : World) (hl : RdS w v l) (hn : l.length ≤ 60000) (hq : ¬ l.Nodup) :
    Calls Tryd.prog 16 #[v] w fun e w' => e = .returned (.tuple #[.slice none 0 0, .int .i64 71]) ∧ Hid (RowKit.Below w.heap.size w w') := by
  refine (refOrder_any l v w hl hn).mono ?_
  rintro e w' ⟨hb, ⟨rfl, _⟩ | ⟨v', q', _, hq', _⟩⟩
  · exact ⟨rfl, Lib.hid hb⟩
  · exact absurd hq'.nodup hq
theorem refCheck7_any (s : ByteArray) (w : World) (hs : s.size ≤ maxLen) : Calls Tryd.prog 18 #[.string s] w fun e w' => e = .returned (.int .i64 (keyZ s)) ∧ RowKit.Below w.heap.size w w' := by
  have hz := refZero_any s w hs
  unfold keyZ
  obtain ⟨β, hβ⟩ : ∃ β, hasZ s = β := ⟨_, rfl⟩
  rw [hβ] at hz ⊢
  cases β <;>
  · go_enter Tryd.func18, Tryd.ntmps18
    go_wp2_with (go_at_call 41; refine hz.mono ?_; clear hz; rintro e w1 ⟨rfl, hb⟩)
    go_ret
    exact ⟨by simp, hb⟩

set_option maxRecDepth 100000 in
set_option maxHeartbeats 2000000 in
theorem keyOrders_walk (a b : ByteArray) (ks : List ByteArray) (v : Value) (w : World) (hT : Tab w) (ha : a.size ≤ maxLen) (hb : b.size ≤ maxLen) (hl : RdS w v ks) :
    Calls Tryd.prog 5 #[.string a, .string b, v] w fun e w' => e = .returned (.bool true) ∧ Below w.heap.size w w' := by
  have HT := Lib.hid hT
  have HL := Lib.hid hl
  have HS1 : Hid (∀ W, Calls Tryd.prog 13 #[.string a, .int .i64 200] W fun e w' => e = .returned (.string (shN 200 a)) ∧ Below W.heap.size W w') := Lib.hid fun W => shortN_any 200 a W ha (by omega)
  have HS2 : Hid (∀ W, Calls Tryd.prog 13 #[.string b, .int .i64 200] W fun e w' => e = .returned (.string (shN 200 b)) ∧ Below W.heap.size W w') := Lib.hid fun W => shortN_any 200 b W hb (by omega)
  have z1 : (shN 200 a).size ≤ maxLen := Nat.le_trans (shN_size 200 a) (by unfold maxLen; omega)
  have z2 : (shN 200 b).size ≤ maxLen := Nat.le_trans (shN_size 200 b) (by unfold maxLen; omega)
  obtain ⟨x, hx⟩ : ∃ x, shN 200 a = x := ⟨_, rfl⟩
  obtain ⟨y, hy⟩ : ∃ x, shN 200 b = x := ⟨_, rfl⟩
  rw [hx] at HS1 z1
  rw [hy] at HS2 z2
  have Z1 := Lib.hid z1
  have Z2 := Lib.hid z2
  obtain ⟨c, hc⟩ : ∃ c, keyZ x = c := ⟨_, rfl⟩
  obtain ⟨β, hβ⟩ : ∃ β, lt x y = β := ⟨_, rfl⟩
  have HC1 : Hid (∀ W, Calls Tryd.prog 17 #[.string x] W fun e w' => e = .returned (.int .i64 c) ∧ W = w') := Lib.hid fun W => by rw [← hc]; exact (keyCheck_any x W).mono fun e w' h => ⟨h.1, h.2.symm⟩
  have HC2 : Hid (∀ W, Calls Tryd.prog 18 #[.string x] W fun e w' => e = .returned (.int .i64 c) ∧ Below W.heap.size W w') := Lib.hid fun W => by rw [← hc]; exact refCheck7_any x W Z1.out
  have HL1 : Hid (∀ W, Calls Tryd.prog 4 #[.string x, .string y] W fun e w' => e = .returned (.bool β) ∧ W = w') := Lib.hid fun W => by rw [← hβ]; exact (keyLess_any x y W).mono fun e w' h => ⟨h.1, h.2.symm⟩
  have HL2 : Hid (∀ W, Calls Tryd.prog 19 #[.string x, .string y] W fun e w' => e = .returned (.bool β) ∧ Below W.heap.size W w') := Lib.hid fun W => by rw [← hβ]; exact refLess_any x y W Z1.out Z2.out
  obtain ⟨l, hl1⟩ : ∃ l, cutN 60 40 ks = l := ⟨_, rfl⟩
  have hln : Hid (l.length ≤ 60) := Lib.hid (by rw [← hl1]; exact cutN_len _ _ _)
  have HE1 := Lib.hid hl1
  obtain ⟨A0, n0, c0, rfl, _⟩ := hl
  clear hT ha hb hx hy hc hβ hl1 z1 z2
  go_enter Tryd.func5, Tryd.ntmps5
  go_wp2_with fail
  with_reducible refine (HS1.out _).mono ?_
  rintro e w1 ⟨rfl, hb1⟩
  go_wp2_with fail
  with_reducible refine (HS2.out _).mono ?_
  rintro e w2 ⟨rfl, hb2⟩
  have HB2 : Hid (Below w.heap.size w w2) := Lib.hid (tr hb1 hb2)
  clear hb1 hb2
  go_wp2_with fail
  refine (few_any ks _ w2 (HL.out.below HB2.out)).mono ?_
  rintro e w3 ⟨v3, rfl, HR, hb3⟩
  have HB3 := Lib.hid (tr HB2.out hb3.out)
  rw [HE1.out] at HR
  obtain ⟨A, n, d, rfl, hn, _⟩ := HR.out
  have HN := Lib.hid hn
  clear hb3 hn HB2
  go_wp2_with fail
  refine (order_any l _ w3 HR.out (by have := hln.out; omega)).mono ?_
  rintro e w4 ⟨hb4, ⟨rfl, hnd⟩ | ⟨v', p, rfl, hnd, hp, ho⟩⟩
  · have HR4 := Lib.hid (HR.out.below hb4)
    have HB4 := Lib.hid (tr HB3.out hb4)
    have HND := Lib.hid hnd
    clear hb4 hnd HB3
    go_wp2_with fail
    refine (refOrder_twice l _ w4 HR4.out (by have := hln.out; omega) HND.out).mono ?_
    rintro e w5 ⟨rfl, hb5⟩
    have HR5 := Lib.hid (HR4.out.below hb5.out)
    have HB5 := Lib.hid (tr HB4.out hb5.out)
    clear hb5 HB4 HR4
    cases β <;>
    · go_wp2_with (first
        | (go_at_call 17; with_reducible refine (HC1.out _).mono ?_; rintro e w' ⟨rfl, rfl⟩)
        | (go_at_call 18; with_reducible refine (HC2.out _).mono ?_; rintro e w6 ⟨rfl, hb6⟩; have HB6 := Lib.hid (tr HB5.out hb6); have HR6 := Lib.hid (HR5.out.below hb6); clear hb6)
        | (go_at_call 4; with_reducible refine (HL1.out _).mono ?_; rintro e w' ⟨rfl, rfl⟩)
        | (go_at_call 19; with_reducible refine (HL2.out _).mono ?_; rintro e w7 ⟨rfl, hb7⟩; have HB7 := Lib.hid (tr HB6.out hb7); have HR7 := Lib.hid (HR6.out.below hb7); clear hb7)
        | (go_at_call 20; refine (eqInts_same _ _ [] _ (Rd.nil _ _ _) (Rd.nil _ _ _) (by simp)).mono ?_; rintro e w8 ⟨rfl, hb8⟩; have HB8 := Lib.hid (tr HB7.out hb8); have HR8 := Lib.hid (HR7.out.below hb8); clear hb8)
        | (go_at_call 14; refine (few_any ks _ _ (HL.out.below HB8.out)).mono ?_; rintro e w9 ⟨v9, rfl, HR9, hb9⟩; have HB9 := Lib.hid (tr HB8.out hb9.out); have HR8' := Lib.hid (HR8.out.below hb9.out); rw [HE1.out] at HR9; clear hb9)
        | (go_at_call 21; refine (eqTexts_any l l _ _ _ HR8'.out HR9.out (by have := hln.out; omega)).mono ?_; simp only [decide_true]; rintro e wa ⟨rfl, hba⟩; have HBa := Lib.hid (tr HB9.out hba); clear hba)
        | (go_at_call 8; refine (works_true _ (HT.out.keep HBa.out)).mono ?_; rintro e wb ⟨rfl, hbb⟩; have HBb := Lib.hid (tr HBa.out hbb); clear hbb))
      go_ret
      exact ⟨rfl, HBb.out⟩
  · have HR4 := Lib.hid (HR.out.below hb4)
    have HB4 := Lib.hid (tr HB3.out hb4)
    have HSQ := Lib.hid (hp.sq hnd)
    obtain ⟨q, hq⟩ : ∃ q, p.map Fin.val = q := ⟨_, rfl⟩
    have HRd4 : Hid (Rd w4 v' (q.map Int.ofNat)) := by
      have e : p.map (ix l.length) = nb (p.map Fin.val) := by simp [nb, bv]
      rw [e, hq] at ho
      exact Lib.hid (Rd.of_own ho)
    rw [hq] at HSQ
    have HQL : Hid ((q.map Int.ofNat).length ≤ 60000) := Lib.hid (by rw [List.length_map, HSQ.out.length]; have := hln.out; omega)
    obtain ⟨A', n', d', rfl, _⟩ := HRd4.out
    clear hb4 hnd HB3 hp ho hq
    go_wp2_with fail
    refine (refOrder_ok l _ q w4 HR4.out (by have := hln.out; omega) HSQ.out).mono ?_
    rintro e w5 ⟨v5, rfl, ho5, hb5⟩
    have HR5 := Lib.hid (HR4.out.below hb5.out)
    have HB5 := Lib.hid (tr HB4.out hb5.out)
    have HP5 := Lib.hid (HRd4.out.below hb5.out)
    have HQ5 : Hid (Rd w5 v5 (q.map Int.ofNat)) := Lib.hid (Rd.of_own ho5.out)
    obtain ⟨A5, n5, d5, rfl, _⟩ := HQ5.out
    clear hb5 HB4 HR4 ho5 HRd4
    cases β <;>
    · go_wp2_with (first
        | (go_at_call 17; with_reducible refine (HC1.out _).mono ?_; rintro e w' ⟨rfl, rfl⟩)
        | (go_at_call 18; with_reducible refine (HC2.out _).mono ?_; rintro e w6 ⟨rfl, hb6⟩; have HB6 := Lib.hid (tr HB5.out hb6); have HR6 := Lib.hid (HR5.out.below hb6); have HP6 := Lib.hid (HP5.out.below hb6); have HQ6 := Lib.hid (HQ5.out.below hb6); clear hb6)
        | (go_at_call 4; with_reducible refine (HL1.out _).mono ?_; rintro e w' ⟨rfl, rfl⟩)
        | (go_at_call 19; with_reducible refine (HL2.out _).mono ?_; rintro e w7 ⟨rfl, hb7⟩; have HB7 := Lib.hid (tr HB6.out hb7); have HR7 := Lib.hid (HR6.out.below hb7); have HP7 := Lib.hid (HP6.out.below hb7); have HQ7 := Lib.hid (HQ6.out.below hb7); clear hb7)
        | (go_at_call 20; refine (eqInts_same _ _ (q.map Int.ofNat) _ HP7.out HQ7.out HQL.out).mono ?_; rintro e w8 ⟨rfl, hb8⟩; have HB8 := Lib.hid (tr HB7.out hb8); have HR8 := Lib.hid (HR7.out.below hb8); clear hb8)
        | (go_at_call 14; refine (few_any ks _ _ (HL.out.below HB8.out)).mono ?_; rintro e w9 ⟨v9, rfl, HR9, hb9⟩; have HB9 := Lib.hid (tr HB8.out hb9.out); have HR8' := Lib.hid (HR8.out.below hb9.out); rw [HE1.out] at HR9; clear hb9)
        | (go_at_call 21; refine (eqTexts_any l l _ _ _ HR8'.out HR9.out (by have := hln.out; omega)).mono ?_; simp only [decide_true]; rintro e wa ⟨rfl, hba⟩; have HBa := Lib.hid (tr HB9.out hba); clear hba)
        | (go_at_call 8; refine (works_true _ (HT.out.keep HBa.out)).mono ?_; rintro e wb ⟨rfl, hbb⟩; have HBb := Lib.hid (tr HBa.out hbb); clear hbb))
      go_ret
      exact ⟨rfl, HBb.out⟩
end Go.Proofs.YtnplkamkeadlgaaDoor
