/-
  What is proved here: lists of strings in memory, the order of strings, contracts of EqTexts, Short, Texts, Bring and key.Less; condition: strings and lists no longer than the form reads.
-/
import Derived.Test.YtoenigbfcbillaaRows
import Derived.WalkKit
import Derived.WalkSpells
import Derived.WalkLawsBesides
import Derived.Lib.Hide
import Derived.Laws.OwnMore
import Derived.Laws.AppendOwnNone
import Derived.Laws.CopyOwn
import Derived.Below
import Derived.OwnWalk
import Derived.Deep.QuietTactic
import Derived.BigQuiet
import Derived.StillTailTactics
import Derived.Maps.AppendAt
import Derived.Laws.StructEq
import Derived.Deep.RegionHeld3
import Derived.Deep.DeepCutAuto
namespace Go.Proofs.Ytoenigbfcbillaa
open Go.RowKit

/-- A value reads as a list of strings. -/
def RdS (w : World) (v : Value) (ks : List ByteArray) : Prop :=
  ∃ A n c, v = .slice A n c ∧ ks.length = n ∧ n ≤ c ∧ c ≤ maxLen ∧ (∀ s ∈ ks, s.size ≤ maxLen) ∧ (0 < n → ∃ b off, A = some ⟨b, off, none⟩ ∧ b < w.heap.size ∧ ∀ j s, ks[j]? = some s → w.cell? ⟨b, off + j, none⟩ = some (.string s))
theorem RdS.below {w w' : World} {v : Value} {ks : List ByteArray} (h : RdS w v ks) (hb : Below w.heap.size w w') : RdS w' v ks := by
  obtain ⟨A, n, c, rfl, h1, h2, h3, h4, h5⟩ := h
  refine ⟨A, n, c, rfl, h1, h2, h3, h4, fun hn => ?_⟩
  obtain ⟨b, off, rfl, hlt, hc⟩ := h5 hn
  exact ⟨b, off, rfl, Nat.lt_of_lt_of_le hlt hb.size, fun j x hx => (hb.cell (p := ⟨b, off + j, none⟩) hlt).trans (hc j x hx)⟩
theorem bytes_ext {a b : ByteArray} (h : a.data.toList = b.data.toList) : a = b := by
  cases a; cases b
  simpa using h
theorem strEq_true {x y : ByteArray} (h : x = y) : (x.toList == y.toList) = true := by subst h; simp
theorem strEq_false {x y : ByteArray} (h : x ≠ y) : (x.toList == y.toList) = false := by
  rw [beq_eq_false_iff_ne]
  intro e
  rw [ByteArray.toList_eq, ByteArray.toList_eq] at e
  exact h (bytes_ext e)
/-- The cell of one string of a list, in a later world. -/
theorem RdS.at {w : World} {v : Value} {ks : List ByteArray} (h : RdS w v ks) : ∃ A n c, v = .slice A n c ∧ ks.length = n ∧ n ≤ c ∧ c ≤ maxLen ∧ (∀ s ∈ ks, s.size ≤ maxLen) ∧
    (0 < n → ∃ b off, A = some ⟨b, off, none⟩ ∧ b < w.heap.size ∧ ∀ wr, Below w.heap.size w wr → ∀ j s, ks[j]? = some s → wr.cell? ⟨b, off + j, none⟩ = some (.string s)) := by
  obtain ⟨A, n, c, rfl, h1, h2, h3, h4, h5⟩ := h
  refine ⟨A, n, c, rfl, h1, h2, h3, h4, fun hn => ?_⟩
  obtain ⟨b, off, rfl, hlt, hc⟩ := h5 hn
  exact ⟨b, off, rfl, hlt, fun wr hb j s hs => (hb.cell (p := ⟨b, off + j, none⟩) hlt).trans (hc j s hs)⟩

set_option maxRecDepth 100000 in
set_option maxHeartbeats 1000000 in
/-- EqTexts. -/
theorem eqTexts_any (a b : List ByteArray) (v u : Value) (w : World) (ha : RdS w v a) (hb : RdS w u b) (hal : a.length ≤ 1000) :
    Calls Try.prog 18 #[v, u] w fun e w' => e = .returned (.bool (decide (a = b))) ∧ Below w.heap.size w w' := by
  obtain ⟨A, n, c, rfl, hn, hnc, hc, hs, hA⟩ := ha.at
  obtain ⟨B, m, d, rfl, hm, hmd, hd, hs', hB⟩ := hb.at
  by_cases hne : n = m
  · subst hne
    go_enter Try.func18, Try.ntmps18
    go_wp2_with fail
    go_loopw [5] (fun i wr => ∃ k : Nat, k ≤ n ∧ i = .int .i64 k ∧ a.take k = b.take k ∧ Hid (Below w.heap.size w wr)) (fun i _ => n - (intOf i).toNat)
    case atStart => exact ⟨0, Nat.zero_le _, rfl, by simp, Below.refl _ _⟩
    case round =>
      obtain ⟨k, hk, rfl, heq, HB⟩ := hrel
      by_cases hlt : k < n
      · obtain ⟨x, hx⟩ : ∃ x, a[k]? = some x := ⟨_, List.getElem?_eq_getElem (by omega)⟩
        obtain ⟨y, hy⟩ : ∃ y, b[k]? = some y := ⟨_, List.getElem?_eq_getElem (by omega)⟩
        obtain ⟨b1, off1, rfl, _, hc1⟩ := hA (by omega)
        obtain ⟨b2, off2, rfl, _, hc2⟩ := hB (by omega)
        have hcell1 := hc1 wr HB.out k x hx
        have hcell2 := hc2 wr HB.out k y hy
        clear hc1 hc2
        by_cases hxy : x = y
        · have hT := strEq_true hxy
          have hz : a.take (k + 1) = b.take (k + 1) := by rw [List.take_add_one, List.take_add_one, heq, hx, hy, hxy]
          clear hx hy hxy
          go_wp2
          go_quiet (fail)
          go_wp2
          go_roundw
          case rel => exact ⟨k + 1, by omega, by simp, hz, below_drewN HB.out _⟩
          case measure => simp [intOf]; omega
        · have hF := strEq_false hxy
          have hne : a ≠ b := by
            intro h; rw [h, hy] at hx; exact hxy (Option.some.inj hx).symm
          clear hx hy hxy
          go_wp2
          go_quiet (fail)
          go_wp2
          go_ret
          exact ⟨by simp [hne], below_drewN HB.out _⟩
      · go_wp2
        go_ret
        obtain rfl : k = n := by omega
        rw [List.take_of_length_le (by omega), List.take_of_length_le (by omega)] at heq
        exact ⟨by simp [heq], HB.out⟩
  · have hne2 : a ≠ b := fun h => hne (by rw [← hn, ← hm, h])
    go_enter Try.func18, Try.ntmps18
    go_wp2_with fail
    go_ret
    exact ⟨by simp [hne2], Below.refl _ _⟩
theorem keyLess_any (a b : ByteArray) (w : World) : Calls Try.prog 25 #[.string a, .string b] w fun e w' => e = .returned (.bool (Op.bytesLess a.toList b.toList)) ∧ w' = w := by
  go_enter Try.func25, Try.ntmps25
  go_wp2
  go_ret
  exact ⟨rfl, rfl⟩
theorem less_head (x y : UInt8) (s t : List UInt8) : Op.bytesLess (x :: s) (y :: t) = (decide (x < y) || (x == y && Op.bytesLess s t)) := rfl
theorem less_nil (t : List UInt8) : Op.bytesLess [] t = !t.isEmpty := by cases t <;> simp [Op.bytesLess]
theorem less_cons_nil (x : UInt8) (s : List UInt8) : Op.bytesLess (x :: s) [] = false := by simp [Op.bytesLess]
/-- The order looks at the first place where two strings part. -/
theorem less_drop : ∀ (a b : List UInt8) (j : Nat), a.take j = b.take j → j ≤ a.length → j ≤ b.length → Op.bytesLess a b = Op.bytesLess (a.drop j) (b.drop j)
  | a, b, 0, _, _, _ => rfl
  | [], _, j + 1, _, h, _ => by simp at h
  | x :: s, [], j + 1, _, _, h => by simp at h
  | x :: s, y :: t, j + 1, h, h1, h2 => by
    simp only [List.take_succ_cons, List.cons.injEq] at h
    obtain ⟨rfl, h⟩ := h
    have hx : decide (x < x) = false := by simp
    rw [less_head, hx, Bool.false_or, beq_self_eq_true, Bool.true_and]
    simp only [List.drop_succ_cons]
    exact less_drop s t j h (by simpa using h1) (by simpa using h2)
theorem less_at {a b : List UInt8} {j : Nat} {x y : UInt8} (h : a.take j = b.take j) (hx : a[j]? = some x) (hy : b[j]? = some y) (hn : x ≠ y) : Op.bytesLess a b = decide (x < y) := by
  have h1 := List.getElem?_eq_some_iff.1 hx
  have h2 := List.getElem?_eq_some_iff.1 hy
  have l1 := h1.1
  have l2 := h2.1
  rw [less_drop a b j h (by omega) (by omega), List.drop_eq_getElem_cons h1.1, h1.2, List.drop_eq_getElem_cons h2.1, h2.2, less_head, beq_eq_false_iff_ne.2 hn]
  simp
theorem less_end {a b : List UInt8} {j : Nat} (h : a.take j = b.take j) (h1 : j ≤ a.length) (h2 : j ≤ b.length) (hj : j = a.length ∨ j = b.length) : Op.bytesLess a b = decide (a.length < b.length) := by
  rw [less_drop a b j h h1 h2]
  rcases hj with rfl | rfl
  · rw [List.drop_length, less_nil]
    by_cases hl : a.length < b.length
    · rw [decide_eq_true hl]
      cases hd : b.drop a.length with
      | nil => have := congrArg List.length hd; simp at this; omega
      | cons _ _ => rfl
    · rw [decide_eq_false hl, List.drop_eq_nil_of_le (by omega)]
      rfl
  · rw [List.drop_length (l := b), decide_eq_false (by omega)]
    cases hd : a.drop b.length with
    | nil => rfl
    | cons x s => exact less_cons_nil x s

/-- The order of keys. -/
def lt (a b : ByteArray) : Bool := Op.bytesLess a.toList b.toList
theorem bl_irrefl : ∀ (a : List UInt8), Op.bytesLess a a = false
  | [] => by simp [Op.bytesLess]
  | a :: s => by rw [less_head, bl_irrefl s]; simp
theorem bl_tri : ∀ (a b : List UInt8), a = b ∨ (Op.bytesLess a b = true ∧ Op.bytesLess b a = false) ∨ (Op.bytesLess b a = true ∧ Op.bytesLess a b = false)
  | [], [] => .inl rfl
  | [], _ :: _ => .inr (.inl ⟨by simp [Op.bytesLess], by simp [Op.bytesLess]⟩)
  | _ :: _, [] => .inr (.inr ⟨by simp [Op.bytesLess], by simp [Op.bytesLess]⟩)
  | a :: s, b :: t => by
    have ih := bl_tri s t
    have h3 := UInt8.lt_iff_toNat_lt (a := a) (b := b)
    have h4 := UInt8.lt_iff_toNat_lt (a := b) (b := a)
    rw [less_head, less_head]
    by_cases h1 : a < b
    · have h2 : ¬ b < a := by rw [h3] at h1; rw [h4]; omega
      have hne : b ≠ a := by intro e; subst e; exact h2 h1
      exact .inr (.inl ⟨by simp [h1], by simp [h2, hne]⟩)
    · by_cases h2 : b < a
      · have hne : a ≠ b := by intro e; subst e; exact h1 h2
        exact .inr (.inr ⟨by simp [h2], by simp [h1, hne]⟩)
      · have e : a = b := UInt8.toNat_inj.1 (by rw [h3] at h1; rw [h4] at h2; omega)
        subst e
        simp only [h1, decide_false, Bool.false_or, beq_self_eq_true, Bool.true_and]
        rcases ih with h | h | h
        · exact .inl (by rw [h])
        · exact .inr (.inl h)
        · exact .inr (.inr h)
theorem bl_trans : ∀ (a b c : List UInt8), Op.bytesLess a b = true → Op.bytesLess b c = true → Op.bytesLess a c = true
  | _, [], _, h, _ => by cases h1 : (‹List UInt8›) <;> simp [Op.bytesLess] at h
  | _, _ :: _, [], _, h => by simp [Op.bytesLess] at h
  | [], _ :: _, _ :: _, _, _ => by simp [Op.bytesLess]
  | a :: s, b :: t, c :: r, h, k => by
    have ih := bl_trans s t r
    rw [less_head] at h k ⊢
    have h3 := UInt8.lt_iff_toNat_lt (a := a) (b := b)
    have h4 := UInt8.lt_iff_toNat_lt (a := b) (b := c)
    have h5 := UInt8.lt_iff_toNat_lt (a := a) (b := c)
    simp only [Bool.or_eq_true, decide_eq_true_eq, Bool.and_eq_true, beq_iff_eq] at h k ⊢
    rcases h with h | ⟨rfl, h⟩
    · rcases k with k | ⟨rfl, k⟩
      · exact .inl (by rw [h3] at h; rw [h4] at k; rw [h5]; omega)
      · exact .inl h
    · rcases k with k | ⟨rfl, k⟩
      · exact .inl k
      · exact .inr ⟨rfl, ih h k⟩
theorem toList_inj {a b : ByteArray} (h : a.toList = b.toList) : a = b := bytes_ext (by rw [ByteArray.toList_eq, ByteArray.toList_eq] at h; exact h)
theorem lt_irrefl (a : ByteArray) : lt a a = false := bl_irrefl _
theorem lt_trans {a b c : ByteArray} (h : lt a b = true) (k : lt b c = true) : lt a c = true := bl_trans _ _ _ h k
theorem lt_tri (a b : ByteArray) : a = b ∨ (lt a b = true ∧ lt b a = false) ∨ (lt b a = true ∧ lt a b = false) := by
  rcases bl_tri a.toList b.toList with h | h | h
  · exact .inl (toList_inj h)
  · exact .inr (.inl h)
  · exact .inr (.inr h)
theorem lt_ntrans {a b c : ByteArray} (h : lt a b = false) (k : lt b c = false) : lt a c = false := by
  rcases lt_tri a c with e | ⟨e, _⟩ | ⟨_, e⟩
  · subst e; exact lt_irrefl _
  · rcases lt_tri a b with f | ⟨f, _⟩ | ⟨f, _⟩
    · subst f; rw [e] at k; cases k
    · rw [f] at h; cases h
    · have := lt_trans f e; rw [this] at k; cases k
  · exact e

def shN (k : Nat) (s : ByteArray) : ByteArray := s.extract 0 (min s.size k)
theorem shN_size (k : Nat) (s : ByteArray) : (shN k s).size ≤ k := by
  unfold shN
  rw [ByteArray.size_extract]
  omega
theorem shortN_any (k : Nat) (s : ByteArray) (w : World) (hs : s.size ≤ maxLen) (hk : k ≤ 100000) : Calls Try.prog 11 #[.string s, .int .i64 (k : Int)] w fun e w' => e = .returned (.string (shN k s)) ∧ Below w.heap.size w w' := by
  have hm : s.size ≤ 9223372036854775807 := hs
  by_cases h : k < s.size
  · have h1 : (k : Int) < (s.size : Int) := by omega
    have HE : Hid (min s.size k = k) := Lib.hid (by omega)
    go_enter Try.func11, Try.ntmps11
    go_wp2
    go_ret
    exact ⟨by unfold shN; rw [HE.out]; simp, Below.refl _ _⟩
  · have h1 : (s.size : Int) ≤ (k : Int) := by omega
    have h2 : ¬ (k : Int) < (s.size : Int) := by omega
    have HE : Hid (min s.size k = s.size) := Lib.hid (by omega)
    go_enter Try.func11, Try.ntmps11
    go_wp2
    go_ret
    exact ⟨by unfold shN; rw [HE.out]; simp, Below.refl _ _⟩

theorem own_belN {w w' : World} {B : Nat} {e : TypeId} {size n : Nat} {v : Value} {xs : List Value} (h : w.ownsRow B e size v n xs) (hb : Below w.heap.size w w') : w'.ownsRow B e size v n xs :=
  h.kept (row := none) ⟨hb.os, hb.tape, hb.output, hb.size, fun k hk _ => hb.block k hk⟩ (by by_cases h : v.ownBlock = none; (· exact .inl h); (· exact .inr h))
def cutN (M K : Nat) (ks : List ByteArray) : List ByteArray := (ks.take M).map (shN K)
theorem infoSN : (Try.prog.info? 9).map (fun i => (i.zero, i.size, i.bytes)) = some (some (.string ⟨#[]⟩), 1, 16) := by kernel_rfl
set_option maxRecDepth 100000 in
set_option maxHeartbeats 4000000 in
theorem textsN_any (M K : Nat) (hM : M ≤ 1000) (hK : K ≤ 1000) (ks : List ByteArray) (kv : Value) (w : World) (h : RdS w kv ks) :
    Calls Try.prog 23 #[kv, .int .i64 (M : Int), .int .i64 (K : Int)] w fun e w' => (∃ v', e = .returned v' ∧ w'.ownsRow w.heap.size 9 1 v' (cutN M K ks).length ((cutN M K ks).map Value.string)) ∧ Below w.heap.size w w' := by
  obtain ⟨A, n, c, rfl, hn, hnc, hc, hsz, hA⟩ := h.at
  have hmx : n ≤ 9223372036854775807 := Nat.le_trans hnc hc
  obtain ⟨i0, hi, hz0, hz1, hz2⟩ := info_parts infoSN
  go_enter Try.func23, Try.ntmps23
  go_wp2
  go_loopw [7, 8] (fun v i wr => ∃ j : Nat, j ≤ n ∧ j ≤ M ∧ i = .int .i64 (j : Int) ∧ Hid (wr.ownsRow w.heap.size 9 1 v j ((ks.take j).map fun s => Value.string (shN K s))) ∧ Hid (Below w.heap.size w wr)) (fun v i _ => M - (intOf i).toNat)
  case atStart => exact ⟨0, Nat.zero_le _, Nat.zero_le _, rfl, World.ownsRow_nil _ _ _ _, Below.refl _ _⟩
  case round =>
    obtain ⟨j, hj, hj64, rfl, HO, HB⟩ := hrel
    by_cases hjn : j < n
    · by_cases hj6 : j < M
      · obtain ⟨x, hx⟩ : ∃ x, ks[j]? = some x := ⟨_, List.getElem?_eq_getElem (by omega)⟩
        obtain ⟨b1, off1, rfl, _, hc1⟩ := hA (by omega)
        have hcell := hc1 wr HB.out j x hx
        have hxs := hsz x (List.mem_of_getElem? hx)
        have HT : Hid ((ks.take (j + 1)).map (fun s => Value.string (shN K s)) = (ks.take j).map (fun s => Value.string (shN K s)) ++ [Value.string (shN K x)]) := Lib.hid (by rw [List.take_add_one, hx]; simp)
        have HSZ : Hid (w.heap.size ≤ wr.heap.size) := Lib.hid HB.out.size
        clear hc1 hx
        go_wp2_with (first
          | (go_at_call 11; refine (shortN_any K x _ hxs (by omega)).mono ?_; rintro e w2 ⟨rfl, hb2⟩; have HB2 := Lib.hid hb2; have HO2 := Lib.hid (own_belN HO.out hb2); have HS2 := Lib.hid (Nat.le_trans HSZ.out hb2.size); clear hb2)
          | (at_builtin; refine wpList_append_own _ rfl _ _ 34 rfl w.heap.size 9 i0 (.string ⟨#[]⟩) 1 16 Try.underlying34 hi hz0 hz1 hz2 rfl (by decide) _ _ _ rfl (HO2.out.alloc _) ⟨w2.heap.size, 0, none⟩ 1 1 [.string (shN K x)] rfl rfl (cell_one_new _ _ _) ?q2 ?q3 ?q4 ?q5 ?_; rotate_left 4; intro v' w3 hown3 hgrow3 hnil3))
        · have HB3 : Below w.heap.size w w3 := ((HB.out.trans (HB2.out.mono HSZ.out)).alloc HS2.out _).grown hgrow3 (by rw [World.size_alloc]; have := HS2.out; omega) (fun k hk => (HO2.out.lt k hk).1)
          have HO3 : Hid (w3.ownsRow w.heap.size 9 1 v' (j + 1) ((ks.take (j + 1)).map fun s => Value.string (shN K s))) := Lib.hid (by rw [HT.out]; exact hown3)
          go_roundw
          case rel => exact ⟨j + 1, by omega, by omega, by simp, HO3, Lib.hid HB3⟩
          case measure => simp [intOf]; omega
        case q2 => intro u hu; simp only [List.mem_cons, List.not_mem_nil, or_false] at hu; subst hu; rfl
        case q3 => unfold maxLen; omega
        case q4 => omega
        case q5 => rw [World.size_alloc]; have := HS2.out; omega
      · go_wp2
        go_ret
        obtain rfl : j = M := by omega
        have e : (cutN j K ks).length = j := by unfold cutN; rw [List.length_map, List.length_take]; omega
        refine ⟨⟨_, rfl, ?_⟩, HB.out⟩
        rw [e]
        have := HO.out
        unfold cutN
        rw [List.map_map]
        exact this
    · go_wp2
      go_ret
      obtain rfl : j = n := by omega
      have e : (cutN M K ks).length = j := by unfold cutN; rw [List.length_map, List.length_take]; omega
      refine ⟨⟨_, rfl, ?_⟩, HB.out⟩
      rw [e]
      have := HO.out
      unfold cutN
      rw [List.map_map, List.take_of_length_le (i := M) (by omega)]
      rw [List.take_of_length_le (i := j) (by omega)] at this
      exact this
theorem bring_any (t n : Int) (w : World) (h0 : -9223372036854775808 ≤ t) (h1 : t ≤ 9223372036854775807) (hn : 1 ≤ n) (hn2 : n ≤ 100000) :
    Calls Try.prog 24 #[.int .i64 t, .int .i64 n] w fun e w' => e = .returned (.int .i64 (t % n)) ∧ w = w' := by
  have d0 : (n == 0) = false := by simp; omega
  by_cases h : t < 0
  · obtain ⟨r, hr⟩ : ∃ r, t.tmod n = r := ⟨_, rfl⟩
    obtain ⟨k, rfl⟩ : ∃ k : Int, t = -k := ⟨-t, by omega⟩
    have e1 : r = -(k % n) := by rw [← hr, Int.neg_tmod, Int.tmod_eq_emod_of_nonneg (by omega)]
    have b0 := Int.emod_nonneg k (show n ≠ 0 by omega)
    have b1 := Int.emod_lt_of_pos k (show 0 < n by omega)
    by_cases hz : r = 0
    · have hz' : k % n = 0 := by omega
      have e2 : -k % n = 0 := Int.emod_eq_zero_of_dvd (Int.dvd_neg.2 (Int.dvd_of_emod_eq_zero hz'))
      rw [e2]
      rw [hz] at hr
      clear e1 b0 b1 hz hz' e2
      go_enter Try.func24, Try.ntmps24
      go_wp2
      go_ret
      exact ⟨rfl, rfl⟩
    · have hneg : r < 0 := by omega
      have e2 : -k % n = r + n := by
        have e3 : -k = (r + n) + n * (-(k / n) - 1) := by
          have := Int.mul_ediv_add_emod k n
          rw [e1, Int.mul_sub, Int.mul_neg]
          omega
        rw [e3, Int.add_mul_emod_self_left, Int.emod_eq_of_lt (by omega) (by omega)]
      rw [e2]
      have g0 : -100000 ≤ r := by omega
      clear e1 b0 b1 hz e2 h0 h1 h
      go_enter Try.func24, Try.ntmps24
      go_wp2
      go_ret
      exact ⟨rfl, rfl⟩
  · have h' : 0 ≤ t := by omega
    have b0 := Int.emod_nonneg t (show n ≠ 0 by omega)
    have d1 : decide (t % n < 0) = false := by simp; omega
    have e1 : t.tmod n = t % n := Int.tmod_eq_emod_of_nonneg h'
    clear h h0 h1
    go_enter Try.func24, Try.ntmps24
    go_wp2
    go_ret
    exact ⟨rfl, rfl⟩

end Go.Proofs.Ytoenigbfcbillaa
