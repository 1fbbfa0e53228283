/-
  What is proved here: PoolOrder returns true and leaves all memory that was there as it was; condition: the arguments are ones that the form reads.
-/
import Derived.Test.YtoenigbfcbillaaOrdP
namespace Go.Proofs.Ytoenigbfcbillaa
open Go.RowKit

theorem rdS_pre {w W : World} {B n c k : Nat} {A : Option Addr} {K : List ByteArray} (h : OS w B (.slice A n c) K) (hk : k ≤ n) (hn : n = K.length) (hb : Below w.heap.size w W) : RdS W (.slice A k c) (K.take k) := by
  obtain ⟨A', n', c', hv, h1, h2, h3, h4, h5⟩ := h.rd.below hb
  injection hv with a1 a2 a3
  subst a1; subst a2; subst a3
  refine ⟨_, _, _, rfl, by rw [List.length_take]; omega, Nat.le_trans hk h2, h3, fun s hs => h4 s (List.mem_of_mem_take hs), fun hp => ?_⟩
  obtain ⟨b, off, rfl, hlt, hc⟩ := h5 (by omega)
  refine ⟨b, off, rfl, hlt, fun j s hj => hc j s ?_⟩
  rw [List.getElem?_take] at hj
  split at hj
  · exact hj
  · cases hj
theorem rdS_suf {w W : World} {B n c k g : Nat} {K : List ByteArray} (h : OS w B (.slice (some ⟨g, 0, none⟩) n c) K) (hk : k ≤ n) (hn : n = K.length) (hb : Below w.heap.size w W) : RdS W (.slice (some ⟨g, k, none⟩) (n - k) (c - k)) (K.drop k) := by
  obtain ⟨A', n', c', hv, h1, h2, h3, h4, h5⟩ := h.rd.below hb
  injection hv with a1 a2 a3
  subst a1; subst a2; subst a3
  refine ⟨_, _, _, rfl, by rw [List.length_drop]; omega, by omega, by omega, fun s hs => h4 s (List.mem_of_mem_drop hs), fun hp => ?_⟩
  obtain ⟨b, off, he, hlt, hc⟩ := h5 (by omega)
  simp only [Option.some.injEq, Addr.mk.injEq, and_true] at he
  obtain ⟨rfl, rfl⟩ := he
  refine ⟨_, _, rfl, hlt, fun j s hj => ?_⟩
  rw [List.getElem?_drop] at hj
  have := hc (k + j) s hj
  rwa [Nat.zero_add] at this
theorem rdS_none {w : World} {B n c : Nat} {K : List ByteArray} (h : OS w B (.slice none n c) K) : n = 0 ∧ c = 0 := by
  rcases h.1.2 with ⟨h0, h1⟩ | ⟨g, cap, cur, h0, _⟩
  · injection h0 with _ a b; exact ⟨a, b⟩
  · cases h0
theorem rdS_empty2 {W : World} {A : Option Addr} {c : Nat} {K : List ByteArray} (h : K = []) (hc : c ≤ maxLen) : RdS W (.slice A 0 c) K := by
  subst h
  exact ⟨A, 0, c, rfl, rfl, Nat.zero_le _, hc, by simp, fun h => absurd h (by omega)⟩
theorem rdS_empty {W : World} {K : List ByteArray} (h : K = []) : RdS W (.slice none 0 0) K := rdS_empty2 h (Nat.zero_le _)
/-- What the second filled leaves. -/
def SF (w : World) (p : Nat) (y y2 : List E) (A : Option Addr) (n c : Nat) (K : List ByteArray) (v : Value) (W : World) : Prop :=
  ∃ (q : Nat), v = .pointer (some ⟨q, 0, none⟩) ∧ Fm w [(p, true, y), (q, true, y2)] [(.slice A n c, K)] W
set_option maxRecDepth 100000 in
set_option maxHeartbeats 2000000 in
theorem poolOrder_walk (l : List ByteArray) (v : Value) (turn : Int) (w : World) (h1 : RdS w v l) (t0 : -9223372036854775808 ≤ turn) (t1 : turn ≤ 9223372036854775807) :
    Calls Try.prog 5 #[v, .int .i64 turn] w fun e w' => e = .returned (.bool true) ∧ Below w.heap.size w w' := by
  obtain ⟨K, hK⟩ : ∃ K, K = cutN 60 40 l := ⟨_, rfl⟩
  obtain ⟨n, hn⟩ : ∃ n, n = K.length := ⟨_, rfl⟩
  have HKS : Hid (∀ s ∈ K, s.size ≤ 40) := Lib.hid (fun s hs => by rw [hK] at hs; exact cutN_le hs)
  have hn60 : n ≤ 60 := by rw [hn, hK, cutN_length]; omega
  have HTX : Hid (Calls Try.prog 23 #[v, .int .i64 60, .int .i64 40] w fun e w' => ∃ A c, e = .returned (.slice A n c) ∧ n ≤ c ∧ c ≤ 9223372036854775807 ∧ Fm w [] [(.slice A n c, K)] w') := Lib.hid (by
    refine (textsN_any 60 40 (by omega) (by omega) l v w h1).mono ?_
    rintro e w' ⟨⟨v', rfl, ho⟩, hb⟩
    rw [← hK] at ho
    have hos : OS w' w.heap.size v' K := ⟨ho, fun s hs => Nat.le_trans (HKS.out s hs) (by omega), by omega⟩
    obtain ⟨A, c, rfl, g1, g2⟩ := hos.slice
    rw [← hn] at g1 hos
    exact ⟨A, c, by rw [hn], g1, g2, (Fm.start (Below.refl w.heap.size w)).row hb hos⟩)
  have HN := Lib.hid hn
  have HKE : Hid (cutN 60 40 K = K) := Lib.hid (cutN_of (by omega) HKS.out)
  have HBR : Hid (∀ W, Calls Try.prog 24 #[.int .i64 turn, .int .i64 ((n : Int) + 1)] W fun e w' => e = .returned (.int .i64 (turn % ((n : Int) + 1))) ∧ W = w') := Lib.hid fun W => bring_any turn ((n : Int) + 1) W t0 t1 (by omega) (by omega)
  have hk0 := Int.emod_nonneg turn (show ((n : Int) + 1) ≠ 0 by omega)
  have hk1 := Int.emod_lt_of_pos turn (show (0 : Int) < (n : Int) + 1 by omega)
  obtain ⟨k, hk⟩ := Int.eq_ofNat_of_zero_le hk0
  rw [hk] at HBR hk1
  have hkn : k ≤ n := by omega
  obtain ⟨y, hy⟩ : ∃ y, fl K K.length = y := ⟨_, rfl⟩
  have HY := Lib.hid hy
  have HYL : Hid (y.length ≤ 60) := Lib.hid (by rw [← hy]; exact Nat.le_trans (fl_le K (by omega) (Nat.le_refl _)) (by omega))
  have HYS : Hid ((y.map E.k).Pairwise fun a b => lt a b = true) := Lib.hid (by rw [← hy]; exact (fl_srt K _).keys)
  have HF1 : Hid (∀ W A c, Hid (Fm w [] [(.slice A n c, K)] W) → Calls Try.prog 21 #[.slice A n c] W fun e w' => ∃ (p : Nat) (a : Int), e = .returned (.tuple #[.pointer (some ⟨p, 0, none⟩), .int .i64 a]) ∧ Fm w [(p, true, y)] [(.slice A n c, K)] w') := Lib.hid fun W A c H => by
    refine (filled_F H.out (H.out.rd (List.mem_cons_self ..)) K HKE.out.symm).mono ?_
    rintro e w' ⟨p, rfl, hf⟩
    rw [HY.out] at hf
    exact ⟨p, _, rfl, hf⟩
  obtain ⟨K2, hK2⟩ : ∃ K2, K2 = K.drop k ++ K.take k := ⟨_, rfl⟩
  have hK2L : K2.length = n := by rw [hK2, List.length_append, List.length_drop, List.length_take]; omega
  have hK2M : ∀ s, s ∈ K2 ↔ s ∈ K := fun s => by
    rw [hK2, List.mem_append]
    conv => rhs; rw [← List.take_append_drop k K, List.mem_append]
    exact ⟨Or.symm, Or.symm⟩
  have hK2E : cutN 60 40 K2 = K2 := cutN_of (by omega) (fun s hs => HKS.out s ((hK2M s).1 hs))
  obtain ⟨y2, hy2⟩ : ∃ y2, fl K2 K2.length = y2 := ⟨_, rfl⟩
  have HYE : Hid (y2.map E.k = y.map E.k) := Lib.hid (by
    refine sorted_ext _ _ (by rw [← hy2]; exact (fl_srt K2 _).keys) HYS.out fun s => ?_
    have a1 := fl_has (K := K2) (by omega) K2.length (Nat.le_refl _) s
    have a2 := fl_has (K := K) (by omega) K.length (Nat.le_refl _) s
    rw [hy2, List.take_length, has_iff] at a1
    rw [hy, List.take_length, has_iff] at a2
    have b1 : s ∈ y2.map E.k ↔ s ∈ K2 := by rw [← a1, List.mem_map]
    have b2 : s ∈ y.map E.k ↔ s ∈ K := by rw [← a2, List.mem_map]
    rw [b1, b2, hK2M])
  have HF2 : Hid (∀ W0 p A c W v2, Hid (Fm w [(p, true, y)] [(.slice A n c, K)] W0) → Hid (APS W0 W v2 ([] ++ K.drop k ++ K.take k)) → Calls Try.prog 21 #[v2] W fun e w' => ∃ q a, e = .returned (.tuple #[.pointer (some ⟨q, 0, none⟩), .int .i64 a]) ∧ SF w p y y2 A n c K (.pointer (some ⟨q, 0, none⟩)) w') := Lib.hid fun W0 p A c W v2 H HA => by
    have hap := HA.out
    rw [List.nil_append, ← hK2] at hap
    have hrd : RdS W v2 K2 := OS.rd (B := W0.heap.size) ⟨hap.1, fun s hs => Nat.le_trans (HKS.out s ((hK2M s).1 hs)) (by omega), by omega⟩
    refine (filled_F (H.out.below hap.2) hrd K2 hK2E.symm).mono ?_
    rintro e w' ⟨q, rfl, hf⟩
    rw [hy2] at hf
    exact ⟨q, _, rfl, q, rfl, hf.swap⟩
  clear h1 hk0 hk1 hk t0 t1 hK hn hy hK2 hK2L hK2M hK2E hy2
  go_enter Try.func5, Try.ntmps5
  go_upto_region 4 with (first
    | (go_at_call 23; (with_reducible refine HTX.out.mono ?_); rintro e w1 ⟨A, c, rfl, hnc, hcm, hs⟩; have HS := Lib.hid hs; clear hs HTX)
    | (go_at_call 24; (with_reducible refine (HBR.out _).mono ?_); rintro e w2 ⟨rfl, rfl⟩)
    | (go_at_call 21; (with_reducible refine (HF1.out _ _ _ HS).mono ?_); rintro e w3 ⟨p, ya, rfl, hs⟩; have HS3 := Lib.hid hs; clear hs HS))
  have HO := Lib.hid (HS3.out.own (a := .slice A n c) (zs := K) (by simp))
  have HNC := Lib.hid hnc
  have HCM := Lib.hid hcm
  have HW3 := Lib.hid (Below.refl w3.heap.size w3)
  have HS2 : Hid (∀ W, Below w3.heap.size w3 W → RdS W (.slice A k c) (K.take k)) := Lib.hid fun W hb => rdS_pre HO.out hkn HN.out hb
  have ik1 : (k : Int) ≤ (n : Int) := by omega
  have ik2 : (k : Int) ≤ (c : Int) := by omega
  have ik3 : (0 : Int) ≤ (k : Int) := by omega
  have HKN := Lib.hid hkn
  have HKD : Hid (([] ++ K.drop k).length + k ≤ 1000) := Lib.hid (by have := HN.out; simp; omega)
  have HKD1 : Hid (n - k ≤ 1000) := Lib.hid (by omega)
  clear HBR HF1
  go_cut [9] (fun s9 wx => SF w p y y2 A n c K s9 wx)
  case first =>
    obtain hA | ⟨g, hA⟩ : (A = none) ∨ ∃ g, A = some ⟨g, 0, none⟩ := by
      rcases HO.out.1.2 with ⟨h0, _⟩ | ⟨g, cap, cur, h0, _⟩
      · injection h0 with h0; exact .inl h0
      · injection h0 with h0; exact .inr ⟨g, h0⟩
    · subst hA
      obtain ⟨rfl, rfl⟩ : n = 0 ∧ c = 0 := rdS_none HO.out
      obtain rfl : k = 0 := by omega
      have HF0 : Hid (∀ W v2, APS w3 W v2 [] → Calls Try.prog 21 #[v2] W fun e w' => ∃ q a, e = .returned (.tuple #[.pointer (some ⟨q, 0, none⟩), .int .i64 a]) ∧ SF w p y y2 none 0 0 K (.pointer (some ⟨q, 0, none⟩)) w') := Lib.hid fun W v2 H => HF2.out _ _ _ _ _ _ HS3 (Lib.hid (by
        have e : K = [] := List.eq_nil_of_length_eq_zero HN.out.symm
        rw [e]
        exact H))
      clear HF2 HS2
      go_region_held3 (fun _ => True) (go_keep)
        (first
          | (go_at_call 21; (with_reducible refine (HF0.out _ _ (by first | exact (APS.lit HW3.out).drew | exact (APS.lit HW3.out.drew))).mono ?_); rintro e w5 ⟨q, a2, rfl, hsf⟩; have HSF := Lib.hid hsf; clear hsf))
      all_goals
        go_wp2_with fail
        go_meet
        exact HSF.out
    · subst hA
      by_cases hck : c = k
      · subst hck
        have HS1 : Hid (∀ W, Below w3.heap.size w3 W → RdS W (.slice (some ⟨g, 0, none⟩) 0 0) (K.drop c)) := Lib.hid fun W _ => rdS_empty2 (by have := HN.out; have := HNC.out; rw [List.drop_eq_nil_of_le (by omega)]) (Nat.zero_le _)
        have hnc2 : n = c := by omega
        subst hnc2
        go_region_held3 (fun _ => True) (go_keep)
          (first
            | (refine step_aps (w0 := w3) (v := .slice (some ⟨_, 0, none⟩) 0 0) (xs := []) (ys := K.drop n) (A := some ⟨g, 0, none⟩) (m := 0) (c := 0) rfl _ _ rfl rfl rfl (by first | exact (APS.lit HW3.out).drew | exact (APS.lit HW3.out.drew)) (by first | exact HS1.out _ ((HW3.out.alloc HW3.out.size _).drew) | exact HS1.out _ (HW3.out.drew.alloc HW3.out.drew.size _)) (by simp) ?_; intro v1 w1 H1)
            | (refine step_aps (w0 := w3) (v := v1) (xs := [] ++ K.drop n) (ys := K.take n) (A := some ⟨g, 0, none⟩) (m := n) (c := n) rfl _ _ rfl rfl rfl H1.out (HS2.out _ H1.out.2) HKD.out ?_; intro v2 w2 H2)
            | (go_at_call 21; (with_reducible refine (HF2.out _ _ _ _ _ _ HS3 H2).mono ?_); rintro e w5 ⟨q, a2, rfl, hsf⟩; have HSF := Lib.hid hsf; clear hsf))
        all_goals
          go_wp2_with fail
          go_meet
          exact HSF.out
      · have HS1 : Hid (∀ W, Below w3.heap.size w3 W → RdS W (.slice (some ⟨g, k, none⟩) (n - k) (c - k)) (K.drop k)) := Lib.hid fun W hb => rdS_suf HO.out hkn HN.out hb
        go_region_held3 (fun _ => True) (go_keep)
          (first
            | (refine step_aps (w0 := w3) (v := .slice (some ⟨_, 0, none⟩) 0 0) (xs := []) (ys := K.drop k) (A := some ⟨g, k, none⟩) (m := n - k) (c := c - k) rfl _ _ rfl rfl rfl (by first | exact (APS.lit HW3.out).drew | exact (APS.lit HW3.out.drew)) (by first | exact HS1.out _ ((HW3.out.alloc HW3.out.size _).drew) | exact HS1.out _ (HW3.out.drew.alloc HW3.out.drew.size _)) (by have := HKD1.out; simp; omega) ?_; intro v1 w1 H1)
            | (refine step_aps (w0 := w3) (v := v1) (xs := [] ++ K.drop k) (ys := K.take k) (A := some ⟨g, 0, none⟩) (m := k) (c := c) rfl _ _ rfl rfl rfl H1.out (HS2.out _ H1.out.2) HKD.out ?_; intro v2 w2 H2)
            | (go_at_call 21; (with_reducible refine (HF2.out _ _ _ _ _ _ HS3 H2).mono ?_); rintro e w5 ⟨q, a2, rfl, hsf⟩; have HSF := Lib.hid hsf; clear hsf))
        all_goals
          go_wp2_with fail
          go_meet
          exact HSF.out
  case rest =>
    obtain ⟨q, rfl, hs⟩ := hcut
    have HS4 := Lib.hid hs
    obtain ⟨ly, hly⟩ : ∃ ly, ly = y.length := ⟨_, rfl⟩
    have HLY := Lib.hid hly
    have hly60 : ly ≤ 60 := by rw [hly]; exact HYL.out
    have HLF : Hid (∀ L R W p, Hid (Fm w ((p, true, y) :: L) R W) → Calls Try.prog 16 #[.pointer (some ⟨p, 0, none⟩)] W fun e w' => ∃ A c, e = .returned (.slice A ly c) ∧ ly ≤ c ∧ c ≤ 9223372036854775807 ∧ Fm w ((p, true, y) :: L) ((.slice A ly c, y.map E.k) :: R) w') := Lib.hid fun L R W p H => by rw [HLY.out]; exact list_F H.out
    have HLF2 : Hid (∀ L R W q, Hid (Fm w ((q, true, y2) :: L) R W) → Calls Try.prog 16 #[.pointer (some ⟨q, 0, none⟩)] W fun e w' => ∃ A m c, e = .returned (.slice A m c) ∧ Fm w ((q, true, y2) :: L) ((.slice A m c, y.map E.k) :: R) w') := Lib.hid fun L R W q H => by
      refine (list_F H.out).mono ?_
      rintro e w' ⟨A, c, rfl, -, -, hf⟩
      rw [HYE.out] at hf
      exact ⟨A, _, c, rfl, hf⟩
    have HEQ : Hid (∀ L (R : List RowS) W (a b : Value), Hid (Fm w L ((b, y.map E.k) :: R) W) → (a, y.map E.k) ∈ R → Calls Try.prog 18 #[a, b] W fun e w' => e = .returned (.bool true) ∧ Fm w L ((b, y.map E.k) :: R) w') := Lib.hid fun L R W a b H hm => by
      have := eq_F H.out (H.out.rd (List.mem_cons_of_mem _ hm)) (H.out.rd (List.mem_cons_self ..)) (by rw [List.length_map]; have := HYL.out; omega)
      simpa using this
    have HLE : Hid (∀ L R W p, Hid (Fm w ((p, true, y) :: L) R W) → Calls Try.prog 17 #[.pointer (some ⟨p, 0, none⟩)] W fun e w' => e = .returned (.int .i64 (ly : Int)) ∧ W = w') := Lib.hid fun L R W p H => by rw [HLY.out]; exact len_F H.out
    clear hs hly HF2 HS2 HO HNC HCM HW3 HKN HKD HKD1 HS3 hnc hcm ik1 ik2 ik3 hkn HYE
    go_wp2_with (go_at_call 16; (with_reducible refine (HLF.out _ _ _ _ HS4).mono ?_); rintro e w5 ⟨A5, c5, rfl, -, -, hs⟩; have HS5 := Lib.hid hs; clear hs HS4)
    have HRD := Lib.hid (HS5.out.rd (a := .slice A5 ly c5) (zs := y.map E.k) (by simp))
    go_loopw [12] (fun i wr => ∃ j : Nat, 1 ≤ j ∧ (j ≤ ly ∨ j = 1) ∧ i = .int .i64 (j : Int) ∧ ∃ m, wr = w5.drewN m) (fun i _ => ly - (intOf i).toNat)
    case atStart => exact ⟨1, Nat.le_refl _, .inr rfl, rfl, 0, rfl⟩
    case round =>
      obtain ⟨j, hj1, hjl, rfl, m, rfl⟩ := hrel
      by_cases hlt : j < ly
      · obtain ⟨a, ha⟩ : ∃ a, (y.map E.k)[j - 1]? = some a := ⟨_, List.getElem?_eq_getElem (by rw [List.length_map, ← HLY.out]; omega)⟩
        obtain ⟨b, hb⟩ : ∃ b, (y.map E.k)[j]? = some b := ⟨_, List.getElem?_eq_getElem (by rw [List.length_map, ← HLY.out]; omega)⟩
        have hab : lt a b = true := by
          obtain ⟨g1, rfl⟩ := List.getElem?_eq_some_iff.1 ha
          obtain ⟨g2, rfl⟩ := List.getElem?_eq_some_iff.1 hb
          exact List.pairwise_iff_getElem.1 HYS.out (j - 1) j g1 g2 (by omega)
        obtain ⟨A', n', c', hv, _, _, _, _, hA⟩ := HRD.out.at
        obtain ⟨rfl, rfl, rfl⟩ : A5 = A' ∧ ly = n' ∧ c5 = c' := by injection hv with a1 a2 a3; exact ⟨a1, a2, a3⟩
        obtain ⟨bb, off, rfl, _, hcell⟩ := hA (by omega)
        obtain ⟨j0, rfl⟩ : ∃ j0, j = j0 + 1 := ⟨j - 1, by omega⟩
        have z0 := hcell w5 (Below.refl _ _) j0 a ha
        have z1 := hcell w5 (Below.refl _ _) (j0 + 1) b hb
        have HLS : Hid (∀ W, Calls Try.prog 25 #[.string a, .string b] W fun e' w' => e' = .returned (.bool true) ∧ ∃ q, w' = W.drewN q) := Lib.hid fun W => by
          have := keyLess_any a b W
          rw [show Op.bytesLess a.toList b.toList = true from hab] at this
          exact this.mono fun _ _ ⟨h1, h2⟩ => ⟨h1, 0, by rw [h2]; rfl⟩
        have i1 : ((j0 : Int) + 1) < (ly : Int) := by omega
        have i2 : ((j0 + 1 : Nat) : Int) = (j0 : Int) + 1 := by omega
        have i4 : (j0 : Int) < (ly : Int) := by omega
        have i5 : (0 : Int) ≤ (j0 : Int) := by omega
        have i6 : (0 : Int) ≤ (j0 : Int) + 1 := by omega
        clear hA hcell hv ha hb hab
        go_wp2_with fail
        go_quiet ((go_at_call 25; first | exact quiet_addq (HLS.out _) | exact Calls.quiet_of (HLS.out _)))
        go_wp2_with fail
        go_roundw
        case rel => exact ⟨j0 + 1 + 1, by omega, .inl (by omega), by go_num, _, rfl⟩
        case measure => simp [intOf]; omega
      · have HS6 : Hid (Fm w [(q, true, y2), (p, true, y)] [(.slice A5 ly c5, y.map E.k), (.slice A n c, K)] (w5.drewN m)) := Lib.hid (HS5.out.drewN m).swap
        go_wp2_with (first
          | (go_at_call 16; (with_reducible refine (HLF2.out _ _ _ _ HS6).mono ?_); rintro e w6 ⟨A6, m6, c6, rfl, hs⟩; have HS7 := Lib.hid hs; clear hs HS6)
          | (go_at_call 18; (with_reducible refine (HEQ.out _ _ _ _ _ HS7 (List.mem_cons_self ..)).mono ?_); rintro e w7 ⟨rfl, hs⟩; have HS8 := Lib.hid hs.swap; clear hs HS7)
          | (go_at_call 17; (with_reducible refine (HLE.out _ _ _ _ HS8).mono ?_); rintro e w8 ⟨rfl, rfl⟩)
          | (go_at_call 20; (with_reducible refine (works_F HS8.out).mono ?_); rintro e w9 ⟨rfl, hs⟩; have HS9 := Lib.hid hs; clear hs))
        go_ret
        exact ⟨rfl, HS9.out.2⟩
end Go.Proofs.Ytoenigbfcbillaa
