/-
  What is proved here: what the law's filled leaves, as a plain function of the strings, and its contract; condition: the list is one that the form reads.
-/
import Derived.Test.YtoenigbfcbillaaFm
namespace Go.Proofs.Ytoenigbfcbillaa
open Go.RowKit

/-- The pool behind the first j strings; how often a string came again. -/
def fl (K : List ByteArray) : Nat → List E
  | 0 => []
  | j + 1 => put true (fl K j) (ky K j) (j : Nat)
def ag (K : List ByteArray) : Nat → Nat
  | 0 => 0
  | j + 1 => if has (fl K j) (ky K j) = true then ag K j + 1 else ag K j
theorem inN_nat {j : Nat} (h : j ≤ 1000) : inN (j : Int) = true := by
  unfold inN
  rw [decide_eq_true (by omega), decide_eq_true (by omega)]; rfl
theorem fl_srt (K : List ByteArray) : ∀ j, Srt (fl K j)
  | 0 => List.Pairwise.nil
  | j + 1 => put_srt (fl_srt K j) _ _
theorem ky_at {K : List ByteArray} {j : Nat} (h : j < K.length) : K[j]? = some (ky K j) := by
  unfold ky
  rw [getD_at _ _ h, List.getElem?_eq_getElem h]
theorem put_has {xs : List E} {k s : ByteArray} {n : Int} (hn : inN n = true) : has (put true xs k n) s = true ↔ s = k ∨ has xs s = true := by
  rw [has_iff, has_iff]
  unfold put
  rw [if_pos hn]
  by_cases hk : has xs k = true
  · rw [if_pos hk]
    constructor
    · exact .inr
    · rintro (rfl | h)
      · exact has_iff.1 hk
      · exact h
  · rw [if_neg hk, if_pos rfl]
    constructor
    · rintro ⟨e, he, rfl⟩
      rcases mem_ins.1 he with rfl | he
      · exact .inl rfl
      · exact .inr ⟨e, he, rfl⟩
    · rintro (rfl | ⟨e, he, rfl⟩)
      · exact ⟨⟨s, n⟩, mem_ins.2 (.inl rfl), rfl⟩
      · exact ⟨e, mem_ins.2 (.inr he), rfl⟩
theorem fl_has {K : List ByteArray} (hK : K.length ≤ 1000) : ∀ j, j ≤ K.length → ∀ s, has (fl K j) s = true ↔ s ∈ K.take j
  | 0, _, s => by simp [fl, has]
  | j + 1, h, s => by
    have ih := fl_has hK j (by omega) s
    rw [fl, put_has (inN_nat (by omega)), ih, List.take_add_one, ky_at (by omega)]
    simp only [Option.toList, List.mem_append, List.mem_singleton]
    exact ⟨fun h => h.symm, fun h => h.symm⟩
theorem fl_len (K : List ByteArray) (hK : K.length ≤ 1000) : ∀ j, j ≤ K.length → (fl K j).length + ag K j = j
  | 0, _ => rfl
  | j + 1, h => by
    have ih := fl_len K hK j (by omega)
    rw [fl, ag]
    unfold put
    rw [if_pos (inN_nat (by omega))]
    by_cases hk : has (fl K j) (ky K j) = true
    · rw [if_pos hk, if_pos hk]; omega
    · rw [if_neg hk, if_neg hk, if_pos rfl, ins_length]; omega
theorem fl_mem {K : List ByteArray} (hK : K.length ≤ 1000) {i : Nat} (hf : ∀ m, m < i → ky K m ≠ ky K i) : ∀ j, i < j → j ≤ K.length → (⟨ky K i, (i : Int)⟩ : E) ∈ fl K j
  | 0, h, _ => absurd h (by omega)
  | j + 1, h, hj => by
    rw [fl]
    unfold put
    rw [if_pos (inN_nat (by omega))]
    by_cases hij : i = j
    · subst hij
      have hk : ¬ has (fl K i) (ky K i) = true := by
        rw [fl_has hK i (by omega)]
        intro hm
        obtain ⟨m, hm, he⟩ := List.getElem_of_mem hm
        rw [List.length_take] at hm
        rw [List.getElem_take] at he
        refine hf m (by omega) ?_
        rw [← he]
        unfold ky
        rw [getD_at _ _ (by omega)]
      rw [if_neg hk, if_pos rfl]
      exact mem_ins.2 (.inl rfl)
    · have ih := fl_mem hK hf j (by omega) (by omega)
      by_cases hk : has (fl K j) (ky K j) = true
      · rw [if_pos hk]; exact ih
      · rw [if_neg hk, if_pos rfl]; exact mem_ins.2 (.inr ih)
theorem fl_gt {K : List ByteArray} (hK : K.length ≤ 1000) {i j : Nat} (hf : ∀ m, m < i → ky K m ≠ ky K i) (hi : i < j) (hj : j ≤ K.length) : gtN (fl K j) (ky K i) = (i : Int) :=
  gtN_mem (fl K j) ⟨ky K i, (i : Int)⟩ (fl_srt K j).nodup (fl_mem hK hf j hi hj)
theorem fl_le (K : List ByteArray) (hK : K.length ≤ 1000) {j : Nat} (h : j ≤ K.length) : (fl K j).length ≤ j := by have := fl_len K hK j h; omega
theorem cutN_length (M N : Nat) (l : List ByteArray) : (cutN M N l).length = min l.length M := by unfold cutN; rw [List.length_map, List.length_take]; omega
theorem cutN_ky {M N : Nat} {l : List ByteArray} {j : Nat} {x : ByteArray} (hx : l[j]? = some x) (hj : j < M) : ky (cutN M N l) j = shN N x := by
  unfold ky cutN
  rw [List.getD_eq_getElem?_getD, List.getElem?_map, List.getElem?_take_of_lt hj, hx]
  rfl
theorem putE_fl {K : List ByteArray} {j : Nat} (h : j ≤ 1000) : putE (fl K j) (ky K j) (j : Nat) = if has (fl K j) (ky K j) = true then 71 else 0 := by unfold putE; rw [if_pos (inN_nat h)]

theorem Fm.born {w0 w w' : World} {p : Nat} {k : Bool} {xs : List E} {v : Value} {L : List Ob} {R : List RowS} (h : Fm w0 L R w) (hb : Below w.heap.size w w') (hp : Pk w.heap.size w' p k v xs) : Fm w0 ((p, k, xs) :: L) R w' := by
  have hs := h.2.size
  obtain ⟨⟨V, h1, h2, h3⟩, h0⟩ := h
  have hV : ∀ o ∈ L, (fun i => if i = p then v else V i) o.1 = V o.1 := fun o ho => if_neg (by have := (h1 o ho).box.lt; have := hp.low; omega)
  refine ⟨⟨fun i => if i = p then v else V i, fun o ho => ?_, List.pairwise_cons.2 ⟨fun o ho => ⟨by have := (h1 o ho).box.lt; have := hp.low; show p ≠ o.1; omega, ?_⟩, ?_⟩, fun r hr => (h3 r hr).below hb⟩, h0.trans (hb.mono h0.size)⟩
  · rcases List.mem_cons.1 ho with rfl | ho
    · have := hp.mono hs
      simpa using this
    · rw [hV o ho]; exact (h1 o ho).below hb
  · rw [hV o ho]
    have : (fun i => if i = p then v else V i) (p, k, xs).1 = v := if_pos rfl
    rw [this]
    intro i hi he
    have := (hp.own.lt i hi).1; have := (h1 o ho).row_lt i he; omega
  · refine List.Pairwise.imp_of_mem (fun {a b} ha hb hab => ?_) h2
    rw [hV a ha, hV b hb]; exact hab
set_option maxHeartbeats 1000000 in
theorem filled_any (l : List ByteArray) (v : Value) (w : World) (h : RdS w v l) (K : List ByteArray) (hK : K = cutN 60 40 l) :
    Calls Try.prog 21 #[v] w fun e w' => ∃ p, e = .returned (.tuple #[.pointer (some ⟨p, 0, none⟩), .int .i64 (ag K K.length : Nat)]) ∧ Fm w [(p, true, fl K K.length)] [] w' := by
  obtain ⟨A, n, c, rfl, hn, hnc, hc, hsz, hA⟩ := h.at
  have hmx : n ≤ 9223372036854775807 := Nat.le_trans hnc hc
  have HKL : Hid (K.length = min n 60) := Lib.hid (by rw [hK, cutN_length, hn])
  have HNW := Lib.hid (new_F (Fm.start (Below.refl w.heap.size w)))
  have HKY : Hid (∀ j x, l[j]? = some x → j < 60 → ky K j = shN 40 x) := Lib.hid fun j x hx hj => by rw [hK]; exact cutN_ky hx hj
  have HN := Lib.hid hn
  have HA := Lib.hid hA
  have HSZ := Lib.hid hsz
  clear h hK hn hA hsz hnc hc
  go_enter Try.func21, Try.ntmps21
  go_wp2_with (go_at_call 9; (with_reducible refine HNW.out.mono ?_); rintro e w1 ⟨p, rfl, hs⟩; have HS := Lib.hid hs; clear hs)
  clear HNW
  go_loopw [5, 6] (fun a i wr => ∃ j : Nat, j ≤ n ∧ j ≤ 60 ∧ a = .int .i64 (ag K j : Nat) ∧ i = .int .i64 (j : Int) ∧ Hid (Fm w [(p, true, fl K j)] [] wr)) (fun _ i _ => 60 - (intOf i).toNat)
  case atStart => exact ⟨0, Nat.zero_le _, Nat.zero_le _, rfl, rfl, HS⟩
  case round =>
    obtain ⟨j, hj, hj6, rfl, rfl, H⟩ := hrel
    by_cases hjn : j < n
    · by_cases hj60 : j < 60
      · obtain ⟨x, hx⟩ : ∃ x, l[j]? = some x := ⟨_, List.getElem?_eq_getElem (by have := HN.out; omega)⟩
        obtain ⟨b1, off1, rfl, _, hc1⟩ := HA.out (by omega)
        have hcell := hc1 wr H.out.2 j x hx
        have hxs := HSZ.out x (List.mem_of_getElem? hx)
        have hky := HKY.out j x hx hj60
        have hagj : ag K j ≤ j := by have := fl_len K (by have := HKL.out; omega) j (by have := HKL.out; omega); omega
        have HSH : Hid (∀ W, Hid (Fm w [(p, true, fl K j)] [] W) → Calls Try.prog 11 #[.string x, .int .i64 40] W fun e w' => e = .returned (.string (shN 40 x)) ∧ Hid (Fm w [(p, true, fl K j)] [] w')) := Lib.hid fun W HW => (shortN_any 40 x W hxs (by omega)).mono fun _ _ ⟨h1, h2⟩ => ⟨h1, Lib.hid (HW.out.below h2)⟩
        have HPU : Hid (∀ W, Hid (Fm w [(p, true, fl K j)] [] W) → Calls Try.prog 14 #[.pointer (some ⟨p, 0, none⟩), .string (shN 40 x), .int .i64 (j : Int)] W fun e w' => e = .returned (.int .i64 (if has (fl K j) (ky K j) = true then 71 else 0)) ∧ Hid (Fm w [(p, true, fl K (j + 1))] [] w')) := Lib.hid fun W HW => by
          have h1 := put_F HW.out (ky K j) (j : Int) (by have := fl_le K (by have := HKL.out; omega) (j := j) (by have := HKL.out; omega); omega) (by rw [hky]; have := shN_size 40 x; omega)
          rw [putE_fl (by omega)] at h1
          rw [← hky]
          exact h1.mono fun _ _ ⟨a1, a2⟩ => ⟨a1, Lib.hid a2⟩
        have HAG : Hid (ag K (j + 1) = if has (fl K j) (ky K j) = true then ag K j + 1 else ag K j) := Lib.hid rfl
        obtain ⟨s, hs⟩ : ∃ s, shN 40 x = s := ⟨_, rfl⟩
        obtain ⟨a, ha⟩ : ∃ a, ag K j = a := ⟨_, rfl⟩
        obtain ⟨a', ha'⟩ : ∃ a', ag K (j + 1) = a' := ⟨_, rfl⟩
        rw [hs] at HSH HPU
        rw [ha, ha'] at HAG
        rw [ha] at hagj
        have HA' := Lib.hid ha'
        simp only [ha]
        have i1 : (j : Int) < (n : Int) := by omega
        clear hc1 hx hxs hky hs ha ha'
        cases hh : has (fl K j) (ky K j) with
        | true =>
          rw [hh] at HPU HAG
          have HAG2 : Hid (a' = a + 1) := Lib.hid HAG.out
          have HPU2 : Hid (∀ W, Hid (Fm w [(p, true, fl K j)] [] W) → Calls Try.prog 14 #[.pointer (some ⟨p, 0, none⟩), .string s, .int .i64 (j : Int)] W fun e w' => e = .returned (.int .i64 71) ∧ Hid (Fm w [(p, true, fl K (j + 1))] [] w')) := Lib.hid HPU.out
          clear HPU HAG hh
          go_wp2_with (first
            | (go_at_call 11; (with_reducible refine (HSH.out _ H).mono ?_); rintro e w2 ⟨rfl, H2⟩)
            | (go_at_call 14; (with_reducible refine (HPU2.out _ H2).mono ?_); rintro e w3 ⟨rfl, H3⟩))
          go_roundw
          case rel => exact ⟨j + 1, by omega, by omega, by rw [HA'.out, HAG2.out]; go_num, by go_num, H3⟩
          case measure => simp [intOf]; omega
        | false =>
          rw [hh] at HPU HAG
          have HAG2 : Hid (a' = a) := Lib.hid HAG.out
          have HPU2 : Hid (∀ W, Hid (Fm w [(p, true, fl K j)] [] W) → Calls Try.prog 14 #[.pointer (some ⟨p, 0, none⟩), .string s, .int .i64 (j : Int)] W fun e w' => e = .returned (.int .i64 0) ∧ Hid (Fm w [(p, true, fl K (j + 1))] [] w')) := Lib.hid HPU.out
          clear HPU HAG hh
          go_wp2_with (first
            | (go_at_call 11; (with_reducible refine (HSH.out _ H).mono ?_); rintro e w2 ⟨rfl, H2⟩)
            | (go_at_call 14; (with_reducible refine (HPU2.out _ H2).mono ?_); rintro e w3 ⟨rfl, H3⟩))
          go_roundw
          case rel => exact ⟨j + 1, by omega, by omega, by rw [HA'.out, HAG2.out], by go_num, H3⟩
          case measure => simp [intOf]; omega
      · have HE : Hid (j = K.length) := Lib.hid (by have := HKL.out; omega)
        go_wp2_with fail
        go_ret2
        rw [← HE.out]
        exact ⟨p, rfl, H.out⟩
    · have HE : Hid (j = K.length) := Lib.hid (by have := HKL.out; omega)
      go_wp2_with fail
      go_ret2
      rw [← HE.out]
      exact ⟨p, rfl, H.out⟩
end Go.Proofs.Ytoenigbfcbillaa
