/-
  What is proved here: contract of the reference's of (layer 9): the normal form in memory of the call's own; conditions: a valid tree of at most 60000 nodes, strings and lists of at most 1000; and: contract of the reference's Of (layer 9); conditions: a tree of at most 60000 nodes, strings and lists of at most 1000.
-/
import Derived.Test.YtemkfpofmblblaaDoorRSorted
import Derived.Test.YtemkfpofmblblaaDoorNf
import Derived.Test.YtemkfpofmblblaaDoorRefC
import Derived.Test.YtemkfpofmblblaaDoorPm
namespace Go.Proofs.YtemkfpofmblblaaDoor
open Go.RowKit Go.Sort

theorem rof_leaf {w A W : World} {v0 v1 v2 v3 v4 v5 z0 z1 z2 z3 z4 z5 : Value} (h2 : Two w v0 v1 v2 v3 v4 v5 z0 z1 z2 z3 z4 z5 A) (hb : Below A.heap.size A W) {k n u : Int} {s : ByteArray} (hr : Rng k n u) (hs : s.size ≤ maxLen) :
    Bx (put6 W (w.heap.size + 1) 0 (.int .i64 k) (.int .i64 n) (.int .u64 u) (.string s) (.slice none 0 0) (.slice none 0 0)) (w.heap.size + 1) (.int .i64 k) (.int .i64 n) (.int .u64 u) (.string s) (.slice none 0 0) (.slice none 0 0) ∧
    NdO (fun b => w.heap.size ≤ b) (put6 W (w.heap.size + 1) 0 (.int .i64 k) (.int .i64 n) (.int .u64 u) (.string s) (.slice none 0 0) (.slice none 0 0)) (.mk k n u s [] []) [.int .i64 k, .int .i64 n, .int .u64 u, .string s, .slice none 0 0, .slice none 0 0] ∧
    Below w.heap.size w (put6 W (w.heap.size + 1) 0 (.int .i64 k) (.int .i64 n) (.int .u64 u) (.string s) (.slice none 0 0) (.slice none 0 0)) := by
  have h := h2.below hb
  exact ⟨Bx.put6 h.2.2.2 _ _ _ _ _ _, ⟨hr, hs, by simp, .slice none 0 0, .slice none 0 0, [], rfl, Ow.of (World.ownsRow_nil _ _ _ _), Ow.of (own_nil _ _), rfl⟩, put6_below h.1 _ _ _ _ _ _ _ _ (by omega)⟩
theorem rof_fin {w A wr W : World} {v0 v1 v2 v3 v4 v5 z0 z1 z2 z3 z4 z5 kq kv lq : Value} {ks ks0 : List ByteArray} {d : List T} {ys : List Value} (h2 : Two w v0 v1 v2 v3 v4 v5 z0 z1 z2 z3 z4 z5 A) (ht : TA A kq lq ks0 d ys wr) (hb : Below wr.heap.size wr W) (hk : Ow (fun b => A.heap.size ≤ b) W 9 1 kv ks.length (ks.map Value.string)) {k n u : Int} {s : ByteArray} (hr : Rng k n u) (hs : s.size ≤ maxLen) (hks : ∀ x ∈ ks, x.size ≤ maxLen) :
    Bx (put6 W (w.heap.size + 1) 0 (.int .i64 k) (.int .i64 n) (.int .u64 u) (.string s) kv lq) (w.heap.size + 1) (.int .i64 k) (.int .i64 n) (.int .u64 u) (.string s) kv lq ∧
    NdO (fun b => w.heap.size ≤ b) (put6 W (w.heap.size + 1) 0 (.int .i64 k) (.int .i64 n) (.int .u64 u) (.string s) kv lq) (.mk k n u s ks d) [.int .i64 k, .int .i64 n, .int .u64 u, .string s, kv, lq] ∧
    Below w.heap.size w (put6 W (w.heap.size + 1) 0 (.int .i64 k) (.int .i64 n) (.int .u64 u) (.string s) kv lq) := by
  have h := (h2.below ht.bl).below hb
  have h' := ht.below hb
  have hA := h2.2.1
  refine ⟨Bx.put6 h.2.2.2 _ _ _ _ _ _, ?_, put6_below h.1 _ _ _ _ _ _ _ _ (by omega)⟩
  refine NdO.step (w := W) (U := fun b => A.heap.size ≤ b) (fun b hb _ => ⟨put6_other _ _ _ _ _ _ _ _ _ _ (by omega), by omega⟩) _ _ ?_
  exact ⟨hr, hs, hks, kv, lq, ys, rfl, hk, Ow.of h'.row, NdOL.step (fun b hb _ => ⟨rfl, hb.1⟩) _ _ h'.kids⟩
theorem nfL_take {l : List T} {j : Nat} {t : T} (h : l[j]? = some t) : (nfL l).take (j + 1) = (nfL l).take j ++ [nfT t] := by
  rw [List.take_add_one, nfL_map, List.getElem?_map, h]; rfl

set_option maxRecDepth 100000 in
set_option maxHeartbeats 20000000 in
theorem rof_any (k : Nat) : ∀ (t : T) (cs : List Value) (w : World), dp t ≤ k → sz t ≤ 60000 → sm 1000 1000 t → okT t → Nd w t cs →
    Calls Tryd.prog 28 #[.agg cs.toArray] w fun e w' => (∃ cs', e = .returned (.agg cs'.toArray) ∧ NdO (fun b => w.heap.size ≤ b) w' (nfT t) cs') ∧ Below w.heap.size w w' := by
  induction k with
  | zero => intro t cs w h; exact absurd h (by have := dp_pos t; omega)
  | succ k ih =>
    rintro ⟨kk, nn, uu, s, ks, L⟩ cs w hk hsz hsm hok ⟨hr, hs, kv, A, m, c, rfl, hks, hl, hm, hmm, hL⟩
    simp only [dp] at hk
    simp only [sz] at hsz
    have hmx : m ≤ 60000 := by have := len_le_szL L; omega
    obtain ⟨KA, Kn, Kc, rfl, hkn, hkc, hkm, hksz, hK⟩ := hks.at
    have HT0 : Hid (Two w (.int .i64 kk) (.int .i64 nn) (.int .u64 uu) (.string s) (.slice KA Kn Kc) (.slice A m c) (.int .i64 0) (.int .i64 0) (.int .u64 0) (.string ⟨#[]⟩) (.slice none 0 0) (.slice none 0 0) ((w.alloc (.cells #[.int .i64 kk, .int .i64 nn, .int .u64 uu, .string s, .slice KA Kn Kc, .slice A m c] 27)).alloc (.cells #[.int .i64 0, .int .i64 0, .int .u64 0, .string ⟨#[]⟩, .slice none 0 0, .slice none 0 0] 27))) := Lib.hid (Two.start w _ _ _ _ _ _ _ _ _ _ _ _)
    have HSM := Lib.hid hsm
    have HKS := Lib.hid hks
    have HKL : Hid (ks.length ≤ 1000) := Lib.hid hsm.2.1
    have HL := Lib.hid hL
    have HLL := Lib.hid hl
    have HOK := Lib.hid hok
    have HI := Lib.hid ih
    have HFA := Lib.hid (such_facts (ownE_zero.1 hok.1).1)
    clear hsm hks hL hK hok ih
    go_enter Tryd.func28, Tryd.ntmps28
    go_wp2_with fail
    obtain ⟨A0, hA0⟩ : ∃ A0, ((w.alloc (.cells #[.int .i64 kk, .int .i64 nn, .int .u64 uu, .string s, .slice KA Kn Kc, .slice A m c] 27)).alloc (.cells #[.int .i64 0, .int .i64 0, .int .u64 0, .string ⟨#[]⟩, .slice none 0 0, .slice none 0 0] 27)) = A0 := ⟨_, rfl⟩
    rw [hA0] at HT0
    simp only [hA0]
    clear hA0
    go_loopw [3, 4] (fun lv vi wr => ∃ (j : Nat) (ys : List Value), j ≤ m ∧ vi = .int .i64 (j : Int) ∧ Hid (TA A0 (.slice none 0 0) lv [] ((nfL L).take j) ys wr)) (fun _ vi _ => m - (intOf vi).toNat)
    case atStart => exact ⟨0, [], Nat.zero_le _, rfl, Lib.hid (TA.start A0)⟩
    case round =>
      obtain ⟨j, ys, hj, rfl, HS⟩ := hrel
      obtain ⟨LA, Lc, hlv⟩ := (Ow.of HS.out.row).shape
      obtain ⟨Ln, hLn⟩ : ∃ Ln, ((nfL L).take j).length = Ln := ⟨_, rfl⟩
      rw [hLn] at hlv
      subst hlv
      have H2 := Lib.hid (HT0.out.below HS.out.bl)
      obtain ⟨c0, c1, c2, c3, c4, c5⟩ := Bx.all H2.out.2.2.1
      by_cases hjm : j < m
      · obtain ⟨bb, off, rfl, hbb, hN⟩ := HL.out (by omega)
        obtain ⟨t0, ht0⟩ : ∃ t, L[j]? = some t := ⟨_, List.getElem?_eq_getElem (by rw [HLL.out]; omega)⟩
        obtain ⟨v0, v1, v2, v3, v4, v5, hS, hn0⟩ := hN.six' H2.out.1 hbb ht0
        obtain ⟨a0, a1, a2, a3, a4, a5⟩ := hS
        have hdl := dp_le_of ht0
        have hsl := sz_le_of ht0
        have ihj := Lib.hid (HI.out t0 _ wr (by omega) (by omega) (smL_at HSM.out.2.2.2 ht0) (okL_mem.1 HOK.out.2 t0 (List.mem_of_getElem? ht0)) hn0)
        have HTK : Hid ((nfL L).take (j + 1) = (nfL L).take j ++ [nfT t0]) := Lib.hid (nfL_take ht0)
        have HLJ : Hid (((nfL L).take j).length = j) := Lib.hid (by rw [List.length_take, nfL_len, HLL.out]; omega)
        obtain ⟨y, hy⟩ : ∃ y, nfT t0 = y := ⟨_, rfl⟩
        rw [hy] at HTK ihj
        obtain ⟨i0, hi, hz0, hz1, hz2⟩ := info_parts infoN
        have ji0 : (0 : Int) ≤ (j : Int) := by omega
        have ji1 : (j : Int) < (m : Int) := by omega
        clear hn0 ht0 hdl hsl hN hbb hy
        go_wp2_with (first
          | (go_at_call 28; refine ihj.out.mono ?_; clear ihj; rintro e w5 ⟨⟨cs', rfl, hno⟩, hb5⟩; obtain ⟨k8, i8, u8, s8, C1', m1', d1', C2', m2', d2', rfl⟩ := hno.shape6; have HK5 := Lib.hid (HS.out.kidat hb5 hno); have HO5 := Lib.hid (NdO.one hno); clear hno hb5)
          | (at_builtin; refine wpList_append_own_at _ rfl _ _ 25 rfl A0.heap.size 27 i0 _ 6 88 Tryd.underlying25 hi hz0 hz1 hz2 rfl (by decide) _ ((nfL L).take j).length ys rfl (HK5.out.ta.row.alloc _) ⟨w5.heap.size, 0, none⟩ 1 1 [.int .i64 k8, .int .i64 i8, .int .u64 u8, .string s8, .slice C1' m1' d1', .slice C2' m2' d2'] rfl rfl ?q1 ?q2 ?q3 ?q4 ?q5 ?_; rotate_left 5; intro v' w6 hown6 hgrow6 hnil6 hloc6))
        case roundEnd =>
          have HF := Lib.hid ((HK5.out.below (al0 _ _)).app hown6 hgrow6 hloc6)
          refine ⟨⟨j + 1, ys ++ _, by omega, by simp, by rw [HTK.out]; exact HF⟩, ?_⟩
          simp [intOf]
          omega
        case q1 => exact cells_new _ _ _
        case q2 => exact HO5.out
        case q3 => have := HLJ.out; unfold maxLen; omega
        case q4 => have := HLJ.out; omega
        case q5 => have := HK5.out.ta.bl.size; rw [World.size_alloc]; omega
      · obtain rfl : j = m := by omega
        have hT := HS.out
        rw [List.take_of_length_le (by rw [nfL_len, HLL.out]; exact Nat.le_refl _)] at hT
        have HT := Lib.hid hT
        obtain ⟨⟨o0, o1, o2, o3, o4, o5⟩, f0, f1, f2, f3, f4, f5⟩ := Bx.both H2.out.2.2.2
        have hne1 : ¬ w.heap.size = w.heap.size + 1 := by omega
        have hks17 : kk = 1 ∨ kk = 2 ∨ kk = 3 ∨ kk = 4 ∨ kk = 5 ∨ kk = 6 ∨ kk = 7 ∨ kk = 8 ∨ kk = 9 ∨ kk = 10 ∨ kk = 11 ∨ kk = 12 ∨ kk = 13 ∨ kk = 14 ∨ kk = 15 ∨ kk = 16 ∨ kk = 17 := by have h1 := HFA.out.1; have h2 := HFA.out.2.1; omega
        obtain ⟨hr1, hr2, hr3, hr4, hr5, hr6⟩ := id hr
        clear hT HI
        rcases hks17 with rfl | rfl | rfl | rfl | rfl | rfl | rfl | rfl | rfl | rfl | rfl | rfl | rfl | rfl | rfl | rfl | rfl
        · obtain rfl : ks = [] := HFA.out.2.2.2.2.2.1 (by omega)
          obtain rfl : L = [] := HFA.out.2.2.2.2.2.2.1 (by omega)
          obtain rfl : uu = 0 := HFA.out.2.2.2.1 (by omega)
          have HF := Lib.hid (rof_leaf (W := wr) (k := 1) (n := nn) (u := 0) (s := s) HT0.out HS.out.bl hr hs)
          have HE : Hid (nfT (.mk 1 nn 0 s [] []) = .mk 1 nn 0 s [] []) := Lib.hid (nf_else (by omega) (by omega) (by omega) (by omega))
          go_wp2_with (first | (go_at_call 41; refine (refLeaf_any _ _).mono ?_; rintro e w9 ⟨rfl, rfl⟩))
          refine ret_six (p := 2) (g := w.heap.size + 1) rfl rfl HF.out.1 rfl ⟨⟨_, rfl, by rw [HE.out]; exact HF.out.2.1⟩, HF.out.2.2⟩
        · obtain rfl : ks = [] := HFA.out.2.2.2.2.2.1 (by omega)
          obtain rfl : L = [] := HFA.out.2.2.2.2.2.2.1 (by omega)
          obtain rfl : uu = 0 := HFA.out.2.2.2.1 (by omega)
          have HF := Lib.hid (rof_leaf (W := wr) (k := 2) (n := nn) (u := 0) (s := s) HT0.out HS.out.bl hr hs)
          have HE : Hid (nfT (.mk 2 nn 0 s [] []) = .mk 2 nn 0 s [] []) := Lib.hid (nf_else (by omega) (by omega) (by omega) (by omega))
          go_wp2_with (first | (go_at_call 41; refine (refLeaf_any _ _).mono ?_; rintro e w9 ⟨rfl, rfl⟩))
          refine ret_six (p := 2) (g := w.heap.size + 1) rfl rfl HF.out.1 rfl ⟨⟨_, rfl, by rw [HE.out]; exact HF.out.2.1⟩, HF.out.2.2⟩
        · obtain rfl : ks = [] := HFA.out.2.2.2.2.2.1 (by omega)
          obtain rfl : L = [] := HFA.out.2.2.2.2.2.2.1 (by omega)
          obtain rfl : uu = 0 := HFA.out.2.2.2.1 (by omega)
          have HF := Lib.hid (rof_leaf (W := wr) (k := 3) (n := nn) (u := 0) (s := s) HT0.out HS.out.bl hr hs)
          have HE : Hid (nfT (.mk 3 nn 0 s [] []) = .mk 3 nn 0 s [] []) := Lib.hid (nf_else (by omega) (by omega) (by omega) (by omega))
          go_wp2_with (first | (go_at_call 41; refine (refLeaf_any _ _).mono ?_; rintro e w9 ⟨rfl, rfl⟩))
          refine ret_six (p := 2) (g := w.heap.size + 1) rfl rfl HF.out.1 rfl ⟨⟨_, rfl, by rw [HE.out]; exact HF.out.2.1⟩, HF.out.2.2⟩
        · by_cases hu : uu ≤ 9223372036854775807
          · have hlt : decide (uu < 9223372036854775808) = true := by simp; omega
            have hw : IntKind.i64.wrap uu = uu := by simp [IntKind.wrap, IntKind.bits, IntKind.signed]; omega
            have HF := Lib.hid (rof_leaf (W := wr) (k := 3) (n := uu) (u := 0) (s := ⟨#[]⟩) HT0.out HS.out.bl ⟨by omega, by omega, by omega, by omega, by omega, by omega⟩ (by decide))
            have HE : Hid (nfT (.mk 4 nn uu s ks L) = .mk 3 uu 0 ⟨#[]⟩ [] []) := Lib.hid (by rw [nf_uint (by omega), if_pos hu]; rfl)
            go_wp2_with fail
            refine ret_six (p := 2) (g := w.heap.size + 1) rfl rfl HF.out.1 rfl ⟨⟨_, rfl, by rw [HE.out]; exact HF.out.2.1⟩, HF.out.2.2⟩
          · have hlt : decide (uu < 9223372036854775808) = false := by simp; omega
            have HF := Lib.hid (rof_leaf (W := wr) (k := 4) (n := 0) (u := uu) (s := ⟨#[]⟩) HT0.out HS.out.bl ⟨by omega, by omega, by omega, by omega, by omega, by omega⟩ (by decide))
            have HE : Hid (nfT (.mk 4 nn uu s ks L) = .mk 4 0 uu ⟨#[]⟩ [] []) := Lib.hid (by rw [nf_uint (by omega), if_neg hu]; rfl)
            go_wp2_with fail
            refine ret_six (p := 2) (g := w.heap.size + 1) rfl rfl HF.out.1 rfl ⟨⟨_, rfl, by rw [HE.out]; exact HF.out.2.1⟩, HF.out.2.2⟩
        · have HF := Lib.hid (rof_leaf (W := wr) (k := 6) (n := 0) (u := 0) (s := s) HT0.out HS.out.bl ⟨by omega, by omega, by omega, by omega, by omega, by omega⟩ hs)
          have HE : Hid (nfT (.mk 5 nn uu s ks L) = .mk 6 0 0 s [] []) := Lib.hid nf_key
          go_wp2_with (first | (go_at_call 41; refine (refLeaf_any _ _).mono ?_; rintro e w9 ⟨rfl, rfl⟩))
          refine ret_six (p := 2) (g := w.heap.size + 1) rfl rfl HF.out.1 rfl ⟨⟨_, rfl, by rw [HE.out]; exact HF.out.2.1⟩, HF.out.2.2⟩
        · obtain rfl : ks = [] := HFA.out.2.2.2.2.2.1 (by omega)
          obtain rfl : L = [] := HFA.out.2.2.2.2.2.2.1 (by omega)
          obtain rfl : uu = 0 := HFA.out.2.2.2.1 (by omega)
          have HF := Lib.hid (rof_leaf (W := wr) (k := 6) (n := nn) (u := 0) (s := s) HT0.out HS.out.bl hr hs)
          have HE : Hid (nfT (.mk 6 nn 0 s [] []) = .mk 6 nn 0 s [] []) := Lib.hid (nf_else (by omega) (by omega) (by omega) (by omega))
          go_wp2_with (first | (go_at_call 41; refine (refLeaf_any _ _).mono ?_; rintro e w9 ⟨rfl, rfl⟩))
          refine ret_six (p := 2) (g := w.heap.size + 1) rfl rfl HF.out.1 rfl ⟨⟨_, rfl, by rw [HE.out]; exact HF.out.2.1⟩, HF.out.2.2⟩
        · obtain rfl : ks = [] := HFA.out.2.2.2.2.2.1 (by omega)
          obtain rfl : L = [] := HFA.out.2.2.2.2.2.2.1 (by omega)
          obtain rfl : uu = 0 := HFA.out.2.2.2.1 (by omega)
          have HF := Lib.hid (rof_leaf (W := wr) (k := 7) (n := nn) (u := 0) (s := s) HT0.out HS.out.bl hr hs)
          have HE : Hid (nfT (.mk 7 nn 0 s [] []) = .mk 7 nn 0 s [] []) := Lib.hid (nf_else (by omega) (by omega) (by omega) (by omega))
          go_wp2_with (first | (go_at_call 41; refine (refLeaf_any _ _).mono ?_; rintro e w9 ⟨rfl, rfl⟩))
          refine ret_six (p := 2) (g := w.heap.size + 1) rfl rfl HF.out.1 rfl ⟨⟨_, rfl, by rw [HE.out]; exact HF.out.2.1⟩, HF.out.2.2⟩
        · have HF := Lib.hid (rof_leaf (W := wr) (k := 3) (n := nn) (u := 0) (s := ⟨#[]⟩) HT0.out HS.out.bl ⟨by omega, by omega, by omega, by omega, by omega, by omega⟩ (by decide))
          have HE : Hid (nfT (.mk 8 nn uu s ks L) = .mk 3 nn 0 ⟨#[]⟩ [] []) := Lib.hid nf_int
          go_wp2_with (first | (go_at_call 41; refine (refLeaf_any _ _).mono ?_; rintro e w9 ⟨rfl, rfl⟩))
          refine ret_six (p := 2) (g := w.heap.size + 1) rfl rfl HF.out.1 rfl ⟨⟨_, rfl, by rw [HE.out]; exact HF.out.2.1⟩, HF.out.2.2⟩
        · by_cases hu : uu ≤ 9223372036854775807
          · have hlt : decide (uu < 9223372036854775808) = true := by simp; omega
            have hw : IntKind.i64.wrap uu = uu := by simp [IntKind.wrap, IntKind.bits, IntKind.signed]; omega
            have HF := Lib.hid (rof_leaf (W := wr) (k := 3) (n := uu) (u := 0) (s := ⟨#[]⟩) HT0.out HS.out.bl ⟨by omega, by omega, by omega, by omega, by omega, by omega⟩ (by decide))
            have HE : Hid (nfT (.mk 9 nn uu s ks L) = .mk 3 uu 0 ⟨#[]⟩ [] []) := Lib.hid (by rw [nf_uint (by omega), if_pos hu]; rfl)
            go_wp2_with fail
            refine ret_six (p := 2) (g := w.heap.size + 1) rfl rfl HF.out.1 rfl ⟨⟨_, rfl, by rw [HE.out]; exact HF.out.2.1⟩, HF.out.2.2⟩
          · have hlt : decide (uu < 9223372036854775808) = false := by simp; omega
            have HF := Lib.hid (rof_leaf (W := wr) (k := 4) (n := 0) (u := uu) (s := ⟨#[]⟩) HT0.out HS.out.bl ⟨by omega, by omega, by omega, by omega, by omega, by omega⟩ (by decide))
            have HE : Hid (nfT (.mk 9 nn uu s ks L) = .mk 4 0 uu ⟨#[]⟩ [] []) := Lib.hid (by rw [nf_uint (by omega), if_neg hu]; rfl)
            go_wp2_with fail
            refine ret_six (p := 2) (g := w.heap.size + 1) rfl rfl HF.out.1 rfl ⟨⟨_, rfl, by rw [HE.out]; exact HF.out.2.1⟩, HF.out.2.2⟩
        · obtain rfl : nn = 0 := HFA.out.2.2.1 (by omega)
          obtain rfl : uu = 0 := HFA.out.2.2.2.1 (by omega)
          obtain rfl : s = ⟨#[]⟩ := HFA.out.2.2.2.2.1 (by omega)
          obtain rfl : ks = [] := HFA.out.2.2.2.2.2.1 (by omega)
          have HE : Hid (nfT (.mk 10 0 0 ⟨#[]⟩ [] L) = .mk 10 0 0 ⟨#[]⟩ [] (nfL L)) := Lib.hid (nf_else (by omega) (by omega) (by omega) (by omega))
          have HF := Lib.hid (rof_fin HT0.out HT.out (Below.refl _ wr) (Ow.of HT.out.keys) (k := 10) (n := 0) (u := 0) (s := ⟨#[]⟩) ⟨by omega, by omega, by omega, by omega, by omega, by omega⟩ (by decide) (by simp))
          go_wp2_with (first | (go_at_call 41; refine (refLeaf_any _ _).mono ?_; rintro e w9 ⟨rfl, rfl⟩))
          refine ret_six (p := 2) (g := w.heap.size + 1) rfl rfl HF.out.1 rfl ⟨⟨_, rfl, by rw [HE.out]; exact HF.out.2.1⟩, HF.out.2.2⟩
        · have HE : Hid (nfT (.mk 11 nn uu s ks L) = .mk 10 0 0 ⟨#[]⟩ [] (nfL L)) := Lib.hid (nf_vec (by omega))
          have HF := Lib.hid (rof_fin HT0.out HT.out (Below.refl _ wr) (Ow.of HT.out.keys) (k := 10) (n := 0) (u := 0) (s := ⟨#[]⟩) ⟨by omega, by omega, by omega, by omega, by omega, by omega⟩ (by decide) (by simp))
          go_wp2_with (first | (go_at_call 41; refine (refLeaf_any _ _).mono ?_; rintro e w9 ⟨rfl, rfl⟩))
          refine ret_six (p := 2) (g := w.heap.size + 1) rfl rfl HF.out.1 rfl ⟨⟨_, rfl, by rw [HE.out]; exact HF.out.2.1⟩, HF.out.2.2⟩
        · have HE : Hid (nfT (.mk 12 nn uu s ks L) = .mk 10 0 0 ⟨#[]⟩ [] (nfL L)) := Lib.hid (nf_vec (by omega))
          have HF := Lib.hid (rof_fin HT0.out HT.out (Below.refl _ wr) (Ow.of HT.out.keys) (k := 10) (n := 0) (u := 0) (s := ⟨#[]⟩) ⟨by omega, by omega, by omega, by omega, by omega, by omega⟩ (by decide) (by simp))
          go_wp2_with (first | (go_at_call 41; refine (refLeaf_any _ _).mono ?_; rintro e w9 ⟨rfl, rfl⟩))
          refine ret_six (p := 2) (g := w.heap.size + 1) rfl rfl HF.out.1 rfl ⟨⟨_, rfl, by rw [HE.out]; exact HF.out.2.1⟩, HF.out.2.2⟩
        · have HE : Hid (nfT (.mk 13 nn uu s ks L) = .mk 10 0 0 ⟨#[]⟩ [] (nfL L)) := Lib.hid (nf_vec (by omega))
          have HF := Lib.hid (rof_fin HT0.out HT.out (Below.refl _ wr) (Ow.of HT.out.keys) (k := 10) (n := 0) (u := 0) (s := ⟨#[]⟩) ⟨by omega, by omega, by omega, by omega, by omega, by omega⟩ (by decide) (by simp))
          go_wp2_with (first | (go_at_call 41; refine (refLeaf_any _ _).mono ?_; rintro e w9 ⟨rfl, rfl⟩))
          refine ret_six (p := 2) (g := w.heap.size + 1) rfl rfl HF.out.1 rfl ⟨⟨_, rfl, by rw [HE.out]; exact HF.out.2.1⟩, HF.out.2.2⟩
        · have HE : Hid (nfT (.mk 14 nn uu s ks L) = .mk 10 0 0 ⟨#[]⟩ [] (nfL L)) := Lib.hid (nf_vec (by omega))
          have HF := Lib.hid (rof_fin HT0.out HT.out (Below.refl _ wr) (Ow.of HT.out.keys) (k := 10) (n := 0) (u := 0) (s := ⟨#[]⟩) ⟨by omega, by omega, by omega, by omega, by omega, by omega⟩ (by decide) (by simp))
          go_wp2_with (first | (go_at_call 41; refine (refLeaf_any _ _).mono ?_; rintro e w9 ⟨rfl, rfl⟩))
          refine ret_six (p := 2) (g := w.heap.size + 1) rfl rfl HF.out.1 rfl ⟨⟨_, rfl, by rw [HE.out]; exact HF.out.2.1⟩, HF.out.2.2⟩
        · have HE : Hid (nfT (.mk 15 nn uu s ks L) = .mk 10 0 0 ⟨#[]⟩ [] (nfL L)) := Lib.hid (nf_vec (by omega))
          have HF := Lib.hid (rof_fin HT0.out HT.out (Below.refl _ wr) (Ow.of HT.out.keys) (k := 10) (n := 0) (u := 0) (s := ⟨#[]⟩) ⟨by omega, by omega, by omega, by omega, by omega, by omega⟩ (by decide) (by simp))
          go_wp2_with (first | (go_at_call 41; refine (refLeaf_any _ _).mono ?_; rintro e w9 ⟨rfl, rfl⟩))
          refine ret_six (p := 2) (g := w.heap.size + 1) rfl rfl HF.out.1 rfl ⟨⟨_, rfl, by rw [HE.out]; exact HF.out.2.1⟩, HF.out.2.2⟩
        · have HE : Hid (nfT (.mk 16 nn uu s ks L) = .mk 10 0 0 ⟨#[]⟩ [] (nfL L)) := Lib.hid (nf_vec (by omega))
          have HF := Lib.hid (rof_fin HT0.out HT.out (Below.refl _ wr) (Ow.of HT.out.keys) (k := 10) (n := 0) (u := 0) (s := ⟨#[]⟩) ⟨by omega, by omega, by omega, by omega, by omega, by omega⟩ (by decide) (by simp))
          go_wp2_with (first | (go_at_call 41; refine (refLeaf_any _ _).mono ?_; rintro e w9 ⟨rfl, rfl⟩))
          refine ret_six (p := 2) (g := w.heap.size + 1) rfl rfl HF.out.1 rfl ⟨⟨_, rfl, by rw [HE.out]; exact HF.out.2.1⟩, HF.out.2.2⟩
        · obtain rfl : nn = 0 := HFA.out.2.2.1 (by omega)
          obtain rfl : uu = 0 := HFA.out.2.2.2.1 (by omega)
          obtain rfl : s = ⟨#[]⟩ := HFA.out.2.2.2.2.1 (by omega)
          have HE : Hid (nfT (.mk 17 0 0 ⟨#[]⟩ ks L) = .mk 17 0 0 ⟨#[]⟩ ks (nfL L)) := Lib.hid (nf_else (by omega) (by omega) (by omega) (by omega))
          have HCT := Lib.hid (copyTexts_any ks _ wr (HKS.out.below H2.out.1) (by have := HKL.out; omega))
          go_wp2_with (first | (go_at_call 41; refine (refLeaf_any _ _).mono ?_; rintro e w9 ⟨rfl, rfl⟩))
          refine HCT.out.mono ?_
          rintro e w7 ⟨⟨v', rfl, hko⟩, hb7⟩
          obtain ⟨XA, Xc, rfl⟩ := hko.shape
          obtain ⟨Xn, hXn⟩ : ∃ Xn, ks.length = Xn := ⟨_, rfl⟩
          have HF := Lib.hid (rof_fin HT0.out HT.out hb7 (hko.step (fun b hb _ => ⟨rfl, Nat.le_trans HT.out.bl.size hb⟩)) (k := 17) (n := 0) (u := 0) (s := ⟨#[]⟩) hr hs hksz)
          have H7 := Lib.hid (H2.out.below hb7)
          rw [hXn] at HF ⊢
          clear c0 c1 c2 c3 c4 c5 o0 o1 o2 o3 o4 o5 f0 f1 f2 f3 f4 f5 hb7 hko HCT hXn
          obtain ⟨⟨o0, o1, o2, o3, o4, o5⟩, f0, f1, f2, f3, f4, f5⟩ := Bx.both H7.out.2.2.2
          go_wp2_with fail
          refine ret_six (p := 2) (g := w.heap.size + 1) rfl rfl HF.out.1 rfl ⟨⟨_, rfl, by rw [HE.out]; exact HF.out.2.1⟩, HF.out.2.2⟩
end Go.Proofs.YtemkfpofmblblaaDoor
namespace Go.Proofs.YtemkfpofmblblaaDoor
open Go.RowKit Go.Sort

set_option maxRecDepth 100000 in
set_option maxHeartbeats 4000000 in
theorem refOf_err (t : T) (n : Nat) (cs : List Value) (w : World) (hsz : sz t ≤ 100000) (hc : chk t = n) (h0 : n ≠ 0) (hnd : Nd w t cs) :
    Calls Tryd.prog 16 #[.agg cs.toArray] w fun e w' => e = .returned (.tuple #[.agg #[.int .i64 0, .int .i64 0, .int .u64 0, .string ⟨#[]⟩, .slice none 0 0, .slice none 0 0], .int .i64 (n : Int)]) ∧ Hid (Below w.heap.size w w') := by
  obtain ⟨ka0, na0, ua0, sa0, EA0, qa0, fa0, GA0, ra0, ha0, rfl⟩ := hnd.shape
  have hT0 := Two.start w (.int .i64 ka0) (.int .i64 na0) (.int .u64 ua0) (.string sa0) (.slice EA0 qa0 fa0) (.slice GA0 ra0 ha0) (.int .i64 0) (.int .i64 0) (.int .u64 0) (.string ⟨#[]⟩) (.slice none 0 0) (.slice none 0 0)
  have HT0 := Lib.hid hT0
  have HCK := Lib.hid (refSorted_err t n _ _ hsz hc h0 (hnd.bel hT0.1))
  obtain ⟨c0, c1, c2, c3, c4, c5⟩ := hT0.2.2.1.all
  have H0 := Lib.hid h0
  clear hnd hT0 hc h0
  go_enter Tryd.func16, Tryd.ntmps16
  go_wp2_with fail
  refine HCK.out.mono ?_
  rintro e w2 ⟨rfl, hb2⟩
  have HT2 := Lib.hid (HT0.out.below (tr hb2.out (al0 w2 (.cells #[.int .i64 0, .int .i64 0, .int .u64 0, .string ⟨#[]⟩, .slice none 0 0, .slice none 0 0] 27))))
  clear c0 c1 c2 c3 c4 c5 hb2
  have hx0 : ((n : Int) != 0) = true := by have := H0.out; simp; omega
  obtain ⟨⟨z0, z1, z2, z3, z4, z5⟩, y0, y1, y2, y3, y4, y5⟩ := Bx.both HT2.out.2.2.2
  go_wp2_with fail
  refine ret_six2 (p := 2) (q := 3) (g := w.heap.size + 1) rfl rfl rfl (Bx.put6 HT2.out.2.2.2 _ _ _ _ _ _) rfl ?_
  exact ⟨rfl, Lib.hid (put6_below HT2.out.1 _ _ _ _ _ _ _ _ (by omega))⟩

set_option maxRecDepth 100000 in
set_option maxHeartbeats 4000000 in
theorem refOf_ok (t t' : T) (cs : List Value) (w : World) (hsz : sz t ≤ 60000) (hsm : sm 1000 1000 t) (hc : chk t = 0) (hs : Srt t t') (hnd : Nd w t cs) :
    Calls Tryd.prog 16 #[.agg cs.toArray] w fun e w' => ∃ (ka9 na9 ua9 : Int) (sa9 : ByteArray) (EA9 : Option Addr) (qa9 fa9 : Nat) (GA9 : Option Addr) (ra9 ha9 : Nat), e = .returned (.tuple #[.agg #[.int .i64 ka9, .int .i64 na9, .int .u64 ua9, .string sa9, .slice EA9 qa9 fa9, .slice GA9 ra9 ha9], .int .i64 0]) ∧ Hid (Nd w' (nfT t') [.int .i64 ka9, .int .i64 na9, .int .u64 ua9, .string sa9, .slice EA9 qa9 fa9, .slice GA9 ra9 ha9]) ∧ Hid (Below w.heap.size w w') := by
  obtain ⟨ka0, na0, ua0, sa0, EA0, qa0, fa0, GA0, ra0, ha0, rfl⟩ := hnd.shape
  have hT0 := Two.start w (.int .i64 ka0) (.int .i64 na0) (.int .u64 ua0) (.string sa0) (.slice EA0 qa0 fa0) (.slice GA0 ra0 ha0) (.int .i64 0) (.int .i64 0) (.int .u64 0) (.string ⟨#[]⟩) (.slice none 0 0) (.slice none 0 0)
  have HT0 := Lib.hid hT0
  have HSO := Lib.hid (refSorted_ok t t' _ _ hsz hsm hc hs (hnd.bel hT0.1))
  have hok := ((chk_zero t).1 hc).1
  have hpm := Srt.pm (okT_mpT hok) hs
  have HR : Hid (sz t' ≤ 60000 ∧ sm 1000 1000 t' ∧ okT t') := Lib.hid ⟨by rw [hpm.sz]; exact hsz, (hpm.qq ⟨by omega, hsm⟩).2, hpm.ok hok⟩
  obtain ⟨c0, c1, c2, c3, c4, c5⟩ := hT0.2.2.1.all
  clear hnd hT0 hc hs hok hpm
  go_enter Tryd.func16, Tryd.ntmps16
  go_wp2_with fail
  refine HSO.out.mono ?_
  rintro e w2 ⟨ka1, na1, ua1, sa1, EA1, qa1, fa1, GA1, ra1, ha1, rfl, HN1, hb2⟩
  obtain ⟨wA, hwA⟩ : ∃ wA, w2.alloc (.cells #[.int .i64 ka1, .int .i64 na1, .int .u64 ua1, .string sa1, .slice EA1 qa1 fa1, .slice GA1 ra1 ha1] 27) = wA := ⟨_, rfl⟩
  obtain ⟨ba, hba⟩ : ∃ ba, w2.heap.size = ba := ⟨_, rfl⟩
  have HT2 := Lib.hid (HT0.out.below (tr hb2.out (al0 w2 (.cells #[.int .i64 ka1, .int .i64 na1, .int .u64 ua1, .string sa1, .slice EA1 qa1 fa1, .slice GA1 ra1 ha1] 27))))
  rw [hwA] at HT2
  have HBA : Hid (Bx wA ba (.int .i64 ka1) (.int .i64 na1) (.int .u64 ua1) (.string sa1) (.slice EA1 qa1 fa1) (.slice GA1 ra1 ha1) ∧ Nd wA t' [.int .i64 ka1, .int .i64 na1, .int .u64 ua1, .string sa1, .slice EA1 qa1 fa1, .slice GA1 ra1 ha1]) := Lib.hid (by rw [← hwA, ← hba]; exact ⟨Blk.new _ _ _, HN1.out.bel (al0 w2 _)⟩)
  clear c0 c1 c2 c3 c4 c5 hb2 HSO HN1
  have HOF := Lib.hid (rof_any (dp t') t' _ wA (Nat.le_refl _) HR.out.1 HR.out.2.1 HR.out.2.2 HBA.out.2)
  obtain ⟨c0, c1, c2, c3, c4, c5⟩ := HBA.out.1.all
  go_wp2_with fail
  (try rw [hwA])
  (try simp only [hba])
  refine HOF.out.mono ?_
  rintro e w4 ⟨⟨cs'', rfl, h2⟩, hb4⟩
  obtain ⟨ka2, na2, ua2, sa2, EA2, qa2, fa2, GA2, ra2, ha2, rfl⟩ := h2.shape6
  have HT4 := Lib.hid (HT2.out.below hb4)
  have H2 := Lib.hid h2
  have HL : Hid (w.heap.size + 2 ≤ wA.heap.size) := Lib.hid HT2.out.2.1
  clear hb4 HOF h2 c0 c1 c2 c3 c4 c5 hwA hba
  obtain ⟨⟨z0, z1, z2, z3, z4, z5⟩, y0, y1, y2, y3, y4, y5⟩ := Bx.both HT4.out.2.2.2
  go_wp2_with fail
  refine ret_six2 (p := 2) (q := 3) (g := w.heap.size + 1) rfl rfl rfl (Bx.put6 HT4.out.2.2.2 _ _ _ _ _ _) rfl ?_
  refine ⟨ka2, na2, ua2, sa2, EA2, qa2, fa2, GA2, ra2, ha2, rfl, Lib.hid (NdO.nd _ _ (NdO.step (U' := fun _ => True) (fun b hb _ => ⟨put6_other _ _ _ _ _ _ _ _ _ _ ?_, trivial⟩) _ _ H2.out)), Lib.hid (put6_below HT4.out.1 _ _ _ _ _ _ _ _ (by omega))⟩
  have := HL.out
  omega
end Go.Proofs.YtemkfpofmblblaaDoor
