/-
  What is proved here: contracts of package pool's Put and List; conditions: as each says.
-/
import Derived.Test.YtoenigbfcbillaaInsW
namespace Go.Proofs.Ytoenigbfcbillaa
open Go.RowKit

theorem inN_cases (n : Int) : (n < 0 ∧ inN n = false) ∨ (¬ n < 0 ∧ 9007199254740991 < n ∧ inN n = false) ∨ (¬ n < 0 ∧ n ≤ 9007199254740991 ∧ inN n = true) := by
  unfold inN
  by_cases h0 : n < 0
  · exact .inl ⟨h0, by rw [decide_eq_false (by omega)]; rfl⟩
  · by_cases h1 : n ≤ 9007199254740991
    · exact .inr (.inr ⟨h0, h1, by rw [decide_eq_true (by omega), decide_eq_true h1]; rfl⟩)
    · exact .inr (.inl ⟨h0, by omega, by rw [decide_eq_false h1, Bool.and_false]⟩)
theorem put_no {b : Bool} {xs : List E} {k : ByteArray} {n : Int} (h : inN n = false) : put b xs k n = xs ∧ putE xs k n = 2 := by unfold put putE; rw [h]; exact ⟨rfl, rfl⟩
theorem put_had {b : Bool} {xs : List E} {k : ByteArray} {n : Int} (h : inN n = true) (hk : has xs k = true) : put b xs k n = xs ∧ putE xs k n = 71 := by unfold put putE; rw [h, hk]; exact ⟨rfl, rfl⟩
theorem put_new {b : Bool} {xs : List E} {k : ByteArray} {n : Int} (h : inN n = true) (hk : has xs k = false) : put b xs k n = (if b = true then ins xs k n else xs ++ [⟨k, n⟩]) ∧ putE xs k n = 0 := by unfold put putE; rw [h, hk]; exact ⟨rfl, rfl⟩
section
variable {B p : Nat} {v : Value} {xs : List E} {w : World}
theorem put_any (h : Pk B w p true v xs) (k : ByteArray) (n : Int) (hl : xs.length ≤ 99) (hs : k.size ≤ 1000) :
    Calls Try.prog 14 #[.pointer (some ⟨p, 0, none⟩), .string k, .int .i64 n] w (SP B w p true v (put true xs k n) (.int .i64 (putE xs k n))) := by
  have HE := Lib.hid (exists_any h)
  have HS := Lib.hid h
  rcases inN_cases n with ⟨h0, h2⟩ | ⟨h0, h1, h2⟩ | ⟨h0, h1, h2⟩
  · rw [(put_no h2).1, (put_no (b := true) h2).2]
    clear h
    go_enter Try.func14, Try.ntmps14
    go_wp2_with (go_at_call 26; (with_reducible refine HE.out.mono ?_); rintro e w1 ⟨rfl, rfl⟩)
    go_ret
    exact ⟨_, rfl, HS.out, Ch.refl _ _ _⟩
  · rw [(put_no h2).1, (put_no (b := true) h2).2]
    clear h
    have hd : decide (9007199254740991 < n) = true := by simp; exact h1
    have HH := Lib.hid h1
    clear h1
    go_enter Try.func14, Try.ntmps14
    go_wp2_with (go_at_call 26; (with_reducible refine HE.out.mono ?_); rintro e w1 ⟨rfl, rfl⟩)
    go_ret
    exact ⟨_, rfl, HS.out, Ch.refl _ _ _⟩
  · have hd : decide (9007199254740991 < n) = false := by simp; exact h1
    clear h1
    have HP := Lib.hid (place_any h k)
    have HH : Hid (∀ W, Below w.heap.size w W → Calls Try.prog 28 #[.pointer (some ⟨p, 1, none⟩), .int .i64 (pos xs k : Int), .string k] W fun e w' => e = .returned (.bool (has xs k)) ∧ W = w') := Lib.hid fun W hW => holds_any (h.below hW) k
    cases hk : has xs k with
    | true =>
      rw [(put_had h2 hk).1, (put_had (b := true) h2 hk).2]
      rw [hk] at HH
      obtain ⟨i, hi⟩ : ∃ i, pos xs k = i := ⟨_, rfl⟩
      rw [hi] at HP HH
      clear h hi hk
      go_enter Try.func14, Try.ntmps14
      go_wp2_with (first
        | (go_at_call 26; (with_reducible refine HE.out.mono ?_); rintro e w1 ⟨rfl, rfl⟩)
        | (go_at_call 27; (with_reducible refine HP.out.mono ?_); rintro e w1 ⟨rfl, hb⟩; have HB := Lib.hid hb; clear hb)
        | (go_at_call 28; (with_reducible refine (HH.out _ HB.out).mono ?_); rintro e w2 ⟨rfl, rfl⟩))
      go_ret
      exact ⟨_, rfl, HS.out.below HB.out, Ch.below _ _ HB.out⟩
    | false =>
      rw [(put_new h2 hk).1, (put_new (b := true) h2 hk).2, if_pos rfl]
      rw [hk] at HH
      have HI : Hid (∀ W, Below w.heap.size w W → Calls Try.prog 30 #[.pointer (some ⟨p, 1, none⟩), .int .i64 (pos xs k : Int), .string k, .int .i64 n] W fun e w' => ∃ v', e = .returned (.tuple #[]) ∧ Pk B w' p true v' (ins xs k n) ∧ Ch W w' p v v') := Lib.hid fun W hW => insert_any (h.below hW) k n hk hl hs
      obtain ⟨ys, hys⟩ : ∃ ys, ins xs k n = ys := ⟨_, rfl⟩
      obtain ⟨i, hi⟩ : ∃ i, pos xs k = i := ⟨_, rfl⟩
      rw [hi] at HP HH HI
      rw [hys] at HI ⊢
      clear h hi hk hys
      go_enter Try.func14, Try.ntmps14
      go_wp2_with (first
        | (go_at_call 26; (with_reducible refine HE.out.mono ?_); rintro e w1 ⟨rfl, rfl⟩)
        | (go_at_call 27; (with_reducible refine HP.out.mono ?_); rintro e w1 ⟨rfl, hb⟩; have HB := Lib.hid hb; clear hb)
        | (go_at_call 28; (with_reducible refine (HH.out _ HB.out).mono ?_); rintro e w2 ⟨rfl, rfl⟩)
        | (go_at_call 30; (with_reducible refine (HI.out _ HB.out).mono ?_); rintro e w2 ⟨v', rfl, hs', hc'⟩; have HS' := Lib.hid hs'; have HC' := Lib.hid hc'; clear hs' hc'))
      go_ret
      exact ⟨_, rfl, HS'.out, (Ch.below _ _ HB.out).trans HC'.out⟩

def mkS (n : Nat) : Array Value := madeCells #[.string ⟨#[]⟩] (n * 1)
theorem run_mkS (n : Nat) (hn : n ≤ 1000) (w : World) : (Instr.makeSlice 34 (.int .i64 (n : Int)) (.int .i64 (n : Int))).run Try.prog w = .ok (.slice (some ⟨w.heap.size, 0, none⟩) n n) (w.alloc (.cells (mkS n) 9)) := by
  obtain ⟨i, hi, hz0, hz1, hz2⟩ := info_parts infoSN
  have := run_make (P := Try.prog) w 34 9 i _ Try.underlying34 hi hz0 .i64 .i64 (n : Int) (n : Int) (by omega) (Int.le_refl _) (by rw [hz2]; omega) (by omega)
  rw [Int.toNat_natCast, hz1] at this
  exact this
/-- The row of List between two rounds: j strings are there. -/
def lst (xs : List E) (j : Nat) : List Value := (xs.take j).map (fun e => Value.string e.k) ++ List.replicate (xs.length - j) (.string ⟨#[]⟩)
theorem lst_length (xs : List E) {j : Nat} (h : j ≤ xs.length) : (lst xs j).length = xs.length := by unfold lst; simp; omega
theorem lst_set {xs : List E} {j : Nat} {e : E} (h : xs[j]? = some e) : (lst xs j).set j (.string e.k) = lst xs (j + 1) := by
  obtain ⟨hj, rfl⟩ := List.getElem?_eq_some_iff.1 h
  unfold lst
  rw [show xs.length - j = (xs.length - (j + 1)) + 1 by omega, List.replicate_succ, List.set_append_right _ _ (by simp; omega)]
  have : j - (List.map (fun e => Value.string e.k) (List.take j xs)).length = 0 := by simp; omega
  rw [this, List.take_add_one, h]
  simp only [List.map_append, List.append_assoc, Option.toList, List.map_cons, List.map_nil, List.set_cons_zero, List.cons_append, List.nil_append]
theorem lst_end (xs : List E) : lst xs xs.length = (xs.map E.k).map Value.string := by unfold lst; simp
/-- A row of strings of the call's own. -/
def OS (w : World) (B : Nat) (v : Value) (ks : List ByteArray) : Prop := w.ownsRow B 9 1 v ks.length (ks.map Value.string) ∧ (∀ s ∈ ks, s.size ≤ 1000) ∧ ks.length ≤ 200
theorem lst_cell {W : World} {B g n j : Nat} {xs : List E} (h : W.ownsRow B 9 1 (.slice (some ⟨g, 0, none⟩) n n) n (lst xs j)) (hj : j < n) :
    (∃ s, W.cell? ⟨g, j, none⟩ = some s) ∧ W.frozen? ⟨g, j, none⟩ = false := by
  have hc := h.cellAt j (by omega)
  have hl : j < (lst xs j).length := by have := h.1; omega
  exact ⟨⟨_, hc.trans (List.getElem?_eq_getElem hl)⟩, h.frozenAt j⟩
set_option maxHeartbeats 1000000 in
theorem texts_any (h : Pk B w p true v xs) : Calls Try.prog 31 #[.pointer (some ⟨p, 1, none⟩)] w fun e w' => ∃ u, e = .returned u ∧ OS w' w.heap.size u (xs.map E.k) ∧ Below w.heap.size w w' := by
  obtain ⟨n, hn⟩ : ∃ n, n = xs.length := ⟨_, rfl⟩
  have hf := h.fit
  have HN := Lib.hid hn
  have HSZ := Lib.hid h.sz
  have HOW := Lib.hid fun W (hW : Below w.heap.size w W) => (h.below hW).own
  have hbA := al0 w (.cells (mkS n) 9)
  obtain ⟨A, c, rfl, -⟩ := h.own.at
  have hce : ∀ W, Below w.heap.size w W → W.cell? ⟨p, 1, none⟩ = some (.slice A n c) := fun W hW => by rw [hn]; exact (h.below hW).cell
  have HCE := Lib.hid hce
  have c1 := hce w (Below.refl _ _)
  have hm : ∀ W, (Instr.makeSlice 34 (.int .i64 (n : Int)) (.int .i64 (n : Int))).run Try.prog W = .ok (.slice (some ⟨W.heap.size, 0, none⟩) n n) (W.alloc (.cells (mkS n) 9)) := fun W => run_mkS n (by omega) W
  rw [← hn] at hf
  obtain ⟨w1, hw1⟩ : ∃ w1, w1 = w.alloc (.cells (mkS n) 9) := ⟨_, rfl⟩
  obtain ⟨g1, hg1⟩ : ∃ g1, g1 = w.heap.size := ⟨_, rfl⟩
  have HB1 : Hid (Below w.heap.size w w1) := Lib.hid (by rw [hw1]; exact hbA)
  have d1 := hce w1 HB1.out
  have HR1 : Hid (w1.ownsRow w.heap.size 9 1 (.slice (some ⟨g1, 0, none⟩) n n) n (lst xs 0)) := Lib.hid (by
    have := World.ownsRow_lit (base := w.heap.size) (e := 9) (size := 1) w (mkS n) n (Nat.le_refl _) (by unfold maxLen; omega) (size_madeCells _ _)
    rw [← hw1] at this
    have e : (mkS n).toList = lst xs 0 := by unfold mkS lst; rw [Nat.mul_one, toList_madeCells_one, hn]; simp
    rw [e] at this
    rw [hg1]
    exact this)
  clear h hce hbA hn
  go_enter Try.func31, Try.ntmps31
  go_upto_region 2 with fail
  simp only [← hw1, ← hg1]
  clear hw1 hg1 hm c1
  go_wp2_with fail
  go_loopw [17] (fun i wr => ∃ j : Nat, j ≤ n ∧ i = .int .i64 (j : Int) ∧ Hid (wr.ownsRow w.heap.size 9 1 (.slice (some ⟨g1, 0, none⟩) n n) n (lst xs j)) ∧ Hid (Below w.heap.size w wr)) (fun i _ => n - (intOf i).toNat)
  case atStart => exact ⟨0, Nat.zero_le _, rfl, HR1, HB1⟩
  case round =>
    obtain ⟨j, hj, rfl, HR, HB⟩ := hrel
    by_cases hlt : j < n
    · obtain ⟨e, he⟩ : ∃ e, xs[j]? = some e := ⟨_, List.getElem?_eq_getElem (by have := HN.out; omega)⟩
      obtain ⟨g, c', hv, hnc, hcm, hgB, hgl, hcell⟩ := row_some (HOW.out wr HB.out) (by have := HN.out; omega)
      obtain ⟨rfl, -, rfl⟩ : A = some ⟨g, 0, none⟩ ∧ True ∧ c = c' := by injection hv with a1 a2 a3; exact ⟨a1, trivial, a3⟩
      obtain ⟨x0, x1⟩ := hcell j e he
      clear hv hcell
      have hbe := al0 wr (.cells #[.string e.k, .int .i64 e.n] 68)
      obtain ⟨w5, hw5⟩ : ∃ w5, w5 = wr.alloc (.cells #[.string e.k, .int .i64 e.n] 68) := ⟨_, rfl⟩
      have y0 : w5.cell? ⟨wr.heap.size, 0, none⟩ = some (.string e.k) := by
        have := (Bx.new wr 68 #[.string e.k, .int .i64 e.n]).cell 0
        rw [← hw5] at this; exact this
      rw [← hw5] at hbe
      have HB5 : Hid (Below w.heap.size w w5) := Lib.hid (HB.out.trans (hbe.mono HB.out.size))
      have HR5 := Lib.hid (own_belN HR.out hbe)
      have HCL : Hid (Calls Try.prog 36 #[.string e.k] w5 fun e' w' => e' = .returned (.string e.k) ∧ Below w5.heap.size w5 w') := Lib.hid (clone_any e.k w5 (HSZ.out e (List.mem_of_getElem? he)))
      have HSET : Hid ((lst xs j).set j (.string e.k) = lst xs (j + 1)) := Lib.hid (lst_set he)
      have i1 : (j : Int) < (n : Int) := by omega
      clear he hbe
      go_upto_region 5 with fail
      simp only [← hw5]
      clear hw5 x0 x1
      go_wp2_with (go_at_call 36; (with_reducible refine HCL.out.mono ?_); rintro e' w6 ⟨rfl, hb⟩; have HB6 := Lib.hid hb; have HR6 := Lib.hid (own_belN HR5.out hb); obtain ⟨⟨s0, q0⟩, f0⟩ := lst_cell HR6.out hlt; clear hb)
      obtain ⟨s1, t1⟩ := HR6.out.stored j (.string e.k)
      rw [HSET.out] at s1
      have hb6 := HB5.out.trans (HB6.out.mono HB5.out.size)
      exact ⟨⟨j + 1, by omega, by go_num, s1, hb6.grown t1 hb6.size (fun k hk => (HR6.out.lt k hk).1)⟩, by simp [intOf]; omega⟩
    · obtain rfl : j = n := by omega
      go_wp2_with fail
      go_ret
      refine ⟨_, rfl, ⟨?_, fun s hs => ?_, by rw [List.length_map]; have := HN.out; omega⟩, HB.out⟩
      · have h1 := HR.out
        rw [List.length_map, ← HN.out]
        have e : lst xs j = (xs.map E.k).map Value.string := by rw [HN.out]; exact lst_end xs
        rw [e] at h1
        exact h1
      · obtain ⟨e, he, rfl⟩ := List.mem_map.1 hs
        exact HSZ.out e he
theorem list_any (h : Pk B w p true v xs) : Calls Try.prog 16 #[.pointer (some ⟨p, 0, none⟩)] w fun e w' => ∃ u, e = .returned u ∧ OS w' w.heap.size u (xs.map E.k) ∧ Below w.heap.size w w' := by
  have HE := Lib.hid (exists_any h)
  have HT := Lib.hid (texts_any h)
  clear h
  go_enter Try.func16, Try.ntmps16
  go_wp2_with (first
    | (go_at_call 26; (with_reducible refine HE.out.mono ?_); rintro e w1 ⟨rfl, rfl⟩)
    | (go_at_call 31; (with_reducible refine HT.out.mono ?_); rintro e w1 ⟨u, rfl, ho, hb⟩; have HO := Lib.hid ho; have HB := Lib.hid hb; clear ho hb))
  go_ret
  exact ⟨u, rfl, HO.out, HB.out⟩
end
end Go.Proofs.Ytoenigbfcbillaa
