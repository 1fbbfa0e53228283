/-
  What is proved here: the contract of the reference's number; condition: a string of at most 2^39 bytes.
-/
import Derived.Test.YtodmlgbomhmbpaaGreatDoorLRefB
import Derived.Test.YtodmlgbomhmbpaaGreatDoorLNext
import Derived.Deep.DeepCutAuto
namespace Go.Proofs.YtodmlgbomhmbpaaGreatDoor
open Go.RowKit Ut Lx

theorem tok2 (w : World) : Hid (Below w.heap.size w (w.alloc (.cells #[.int .i64 0, .int .i64 0, .int .i64 0, .int .i64 0, .int .u64 0, .string ⟨#[]⟩] 39))) := (Below.refl _ _).alloc (Nat.le_refl _) _
set_option maxRecDepth 100000 in
theorem wrong_ref (k : Nat) (x : Int) (w : World) : Calls Tryz.prog 25 #[.int .i64 k, .int .i64 x] w fun e w' => e = .returned (.tuple #[.agg #[.int .i64 0, .int .i64 k, .int .i64 k, .int .i64 0, .int .u64 0, .string ⟨#[]⟩], .int .i64 x]) ∧ Below w.heap.size w w' := by
  have HB0 := tok2 w
  go_enter Tryz.func25, Tryz.ntmps25
  go_wp2
  exact bodyPost_ret (v := .tuple #[.agg #[.int .i64 0, .int .i64 k, .int .i64 k, .int .i64 0, .int .u64 0, .string ⟨#[]⟩], .int .i64 x]) (by simp [results, Tryz.results25, go_sem]) rfl ⟨rfl, by with_reducible first | exact (Below.refl _ _).alloc (Nat.le_refl _) _ | exact six HB0.out (Nat.le_refl _) _ _ _ _ _ _⟩
theorem valV_shape (o : Option Nat) : ∃ (u : Nat) (b : Bool), valV o = .tuple #[.int .u64 (u : Nat), .bool b] := by
  cases o with
  | none => exact ⟨0, false, rfl⟩
  | some u => exact ⟨u, true, rfl⟩
theorem neg_val (u : Nat) (h : u ≤ 9223372036854775808) : wrap64 (IntKind.u64.wrap (-(u : Int))) = -(u : Int) := by
  rw [IntKind.wrap_u64]
  unfold wrap64
  omega
theorem lx_mid (s : ByteArray) (a b : Nat) : (s.extract a b).data.toList = (s.data.toList.drop a).take (b - a) := by
  rw [ByteArray.data_extract, Array.toList_extract, List.extract_eq_take_drop]
/-- The first cut: at, neg, first. -/
def N1 (w0 : World) (e1 f : Nat) (neg : Bool) (s6 s7 s8 : Value) (wx : World) : Prop := s6 = .int .i64 (e1 : Nat) ∧ s7 = .bool neg ∧ s8 = .int .i64 (f : Nat) ∧ ∃ n, wx = w0.drewN n
set_option maxHeartbeats 4000000 in
set_option maxRecDepth 100000 in
theorem number_at (s : ByteArray) (l : List UInt8) (k : Nat) (w : World) (hl : s.data.toList = l) (hs : s.size ≤ 549755813888) (hk : k ≤ s.size) (f i1 i2 i3 e1 e2 e3 : Nat) (c1 c2 c3 : Bool)
    (hf : k + sgn (l.drop k) = f) (h1 : mI (l.drop k) = (i1, c1)) (h2 : mF (l.drop k) = (i2, c2)) (h3 : mX (l.drop k) = (i3, c3)) (he1 : k + i1 = e1) (he2 : k + i2 = e2) (he3 : k + i3 = e3) :
    Calls Tryz.prog 27 #[.string s, .int .i64 k] w (TKE w (tokR k (num (l.drop k)))) := by
  have hsz : s.size = l.length := by rw [Lib.size_eq, hl]
  have hml : (l.drop k).length = s.size - k := by rw [List.length_drop, hsz]
  have hfs : f ≤ s.size := by have := sgn_le (l.drop k); omega
  have h1s : e1 ≤ s.size := by have := mI_le (l.drop k); rw [h1, hml] at this; have h : i1 ≤ s.size - k := this; omega
  have h2s : e2 ≤ s.size := by have := (mF_le (l.drop k)).1; rw [h2, hml] at this; have h : i2 ≤ s.size - k := this; omega
  have h3s : e3 ≤ s.size := by have := (mX_le (l.drop k)).1; rw [h3, hml] at this; have h : i3 ≤ s.size - k := this; omega
  have hfe : f ≤ e1 := by have := sgn_mI (l.drop k); rw [h1] at this; have h : sgn (l.drop k) ≤ i1 := this; omega
  have IS := Lib.hid (fun (j : Nat) (a : ByteArray) (b : Bool) (h : st a.data.toList (l.drop j) = b) (hj : j ≤ s.size + 2) (ha : a.size ≤ 1000) (W : World) => (show Calls Tryz.prog 26 #[.string s, .int .i64 j, .string a] W fun e w' => e = .returned (.bool b) ∧ ∃ n, w' = W.drewN n by
    have := is_any s a l a.data.toList j W hl rfl (by omega) (by omega) ha
    rw [h] at this
    exact this))
  have DG := Lib.hid (fun (j r : Nat) (h : j + cnt dgL (l.drop j) = r) (hj : j ≤ s.size + 2) (W : World) => (show Calls Tryz.prog 36 #[.string s, .int .i64 j] W fun e w' => e = .returned (.int .i64 (r : Nat)) ∧ ∃ n, w' = W.drewN n by
    have := digits_any s l j W hl (by omega) (by omega)
    rw [h] at this
    exact this))
  have HB0 := tok2 w
  have WR := Lib.hid (fun (j : Nat) (x : Int) (W : World) => wrong_ref j x W)
  have HF := Lib.hid hf
  have H1 := Lib.hid h1
  have H2 := Lib.hid h2
  have H3 := Lib.hid h3
  have HE1 := Lib.hid he1
  have HE2 := Lib.hid he2
  have HE3 := Lib.hid he3
  have HDF := Lib.hid (show l.drop f = (l.drop k).drop (sgn (l.drop k)) by rw [List.drop_drop, hf])
  have HD1 := Lib.hid (show l.drop e1 = (l.drop k).drop i1 by rw [List.drop_drop, he1])
  have HD2 := Lib.hid (show l.drop e2 = (l.drop k).drop i2 by rw [List.drop_drop, he2])
  have k0 : (0 : Int) ≤ (k : Int) := by omega
  have HLL := Lib.hid hl
  have HSZL := Lib.hid hsz
  clear hf h1 h2 h3 he1 he2 he3 hl hsz hml
  obtain ⟨w0, hw0⟩ : ∃ w0, w.alloc (.cells #[.int .i64 0, .int .i64 0, .int .i64 0, .int .i64 0, .int .u64 0, .string ⟨#[]⟩] 39) = w0 := ⟨_, rfl⟩
  have HW0 := Lib.hid hw0
  clear hw0
  obtain ⟨b0, hb0⟩ : ∃ b, st [45] (l.drop k) = b := ⟨_, rfl⟩
  have HI0 := Lib.hid (IS.out k ⟨#[45]⟩ _ hb0 (by omega) (by decide))
  have HB0' := Lib.hid hb0
  clear hb0
  go_enter Tryz.func27, Tryz.ntmps27
  go_upto_if 19 with (go_at_call 26; (with_reducible refine (HI0.out _).mono ?_); rintro e w1 ⟨rfl, n1, rfl⟩)
  go_cut [6, 7] (fun s6 s7 wx => Hid (s6 = .int .i64 (f : Nat) ∧ s7 = .bool b0 ∧ ∃ n, wx = (w.alloc (.cells #[.int .i64 0, .int .i64 0, .int .i64 0, .int .i64 0, .int .u64 0, .string ⟨#[]⟩] 39)).drewN n))
  case first =>
    rcases b0 with _ | _
    · have HQ := Lib.hid (show k = f by rw [← HF.out]; unfold sgn; rw [HB0'.out]; rfl)
      go_wp2_with fail
      go_meet
      exact ⟨by rw [← HQ.out], rfl, _, rfl⟩
    · have HQ := Lib.hid (show k + 1 = f by rw [← HF.out]; unfold sgn; rw [HB0'.out]; rfl)
      go_wp2_with fail
      go_meet
      exact ⟨by rw [← HQ.out]; rfl, rfl, _, rfl⟩
  case rest =>
    obtain ⟨rfl, rfl, n, rfl⟩ := hcut
    clear HI0
    obtain ⟨b1, hb1⟩ : ∃ b, st [48] (l.drop f) = b := ⟨_, rfl⟩
    have HI1 := Lib.hid (IS.out f ⟨#[48]⟩ _ hb1 (by omega) (by decide))
    have HB1' := Lib.hid hb1
    clear hb1
    go_upto_if 25 with (go_at_call 26; (with_reducible refine (HI1.out _).mono ?_); rintro e w1 ⟨rfl, n1, rfl⟩)
    go_cut [6, 7, 8] (fun s6 s7 s8 wx => Hid (N1 (w.alloc (.cells #[.int .i64 0, .int .i64 0, .int .i64 0, .int .i64 0, .int .u64 0, .string ⟨#[]⟩] 39)) e1 f b0 s6 s7 s8 wx))
    case first =>
      rcases b1 with _ | _
      · have HD := Lib.hid (DG.out f e1 (by have h := H1.out; unfold mI at h; rw [← HDF.out, HB1'.out] at h; injection h with h _; rw [← HDF.out] at h; have := HF.out; have := HE1.out; omega) (by omega))
        go_wp2_with (go_at_call 36; (with_reducible refine (HD.out _).mono ?_); rintro e w1 ⟨rfl, n1, rfl⟩)
        go_meet
        exact ⟨rfl, rfl, rfl, _, by first | rfl | rw [World.drewN_drewN, World.drewN_drewN] | rw [World.drewN_drewN]⟩
      · have HQ := Lib.hid (show f + 1 = e1 by rw [← HE1.out]; have h := H1.out; unfold mI at h; rw [← HDF.out, HB1'.out] at h; injection h with h _; rw [← h]; have := HF.out; omega)
        go_wp2_with fail
        go_meet
        exact ⟨by rw [← HQ.out]; rfl, rfl, rfl, _, by first | rfl | rw [World.drewN_drewN]⟩
    case rest =>
      obtain ⟨rfl, rfl, rfl, n2, rfl⟩ := hcut
      clear HI1 HB1'
      have HC1 := Lib.hid (show c1 = decide (f < e1) by have h := mI_c (l.drop k); rw [H1.out] at h; rw [show c1 = _ from h]; congr 1; have := HF.out; have := HE1.out; simp; omega)
      have VA := Lib.hid (fun W => (show Calls Tryz.prog 37 #[.string (s.extract f e1)] W fun e w' => e = .returned (valV (valG 0 (dgs (l.drop k)))) ∧ ∃ n, w' = W.drewN n from value_any _ _ W (by rw [lx_mid, HLL.out]; unfold dgs; rw [H1.out, List.drop_take, List.drop_drop, HF.out]; congr 1; have := HF.out; have := HE1.out; show e1 - f = i1 - _; omega) (dgs_dg _) (by rw [ByteArray.size_extract]; omega)))
      have f0 : (0 : Int) ≤ (f : Int) := by omega
      have f1 : (f : Int) ≤ (e1 : Int) := by omega
      have f2 : (e1 : Int) ≤ (s.size : Int) := by omega
      by_cases hlt1 : f < e1
      · have q1 : ((e1 : Int) == (f : Int)) = false := by simp; omega
        have HT1 := Lib.hid (show c1 = true by rw [HC1.out]; simpa using hlt1)
        obtain ⟨b2, hb2⟩ : ∃ b, st [46] (l.drop e1) = b := ⟨_, rfl⟩
        have HI2 := Lib.hid (IS.out e1 ⟨#[46]⟩ _ hb2 (by omega) (by decide))
        have HB2 := Lib.hid hb2
        clear hb2 hlt1
        have HM2 := Lib.hid (show mF (l.drop k) = if b2 = true then skd (l.drop k) (i1 + 1) else (i1, true) by unfold mF; rw [H1.out, HT1.out]; show (if (true && st [46] ((l.drop k).drop i1)) = true then _ else _) = _; rw [← HD1.out, HB2.out]; rfl)
        rcases b2 with _ | _
        · have HT2 := Lib.hid (show c2 = true by have h := HM2.out; rw [H2.out] at h; injection h)
          have HEQ := Lib.hid (show e2 = e1 by have h := HM2.out; rw [H2.out] at h; injection h with h _; have := HE1.out; have := HE2.out; omega)
          have HGE := Lib.hid (show e1 ≤ e1 from Nat.le_refl _)
          obtain ⟨b3, hb3⟩ : ∃ b, st [101, 69] (l.drop e1) = b := ⟨_, rfl⟩
          have HI3 := Lib.hid (IS.out e1 ⟨#[101, 69]⟩ _ hb3 (by omega) (by decide))
          have HB3 := Lib.hid hb3
          clear hb3
          have HM3 := Lib.hid (show mX (l.drop k) = if b3 = true then skd (l.drop k) (mS (l.drop k) (i2 + 1)) else (i2, true) by unfold mX; rw [H2.out, HT2.out]; show (if (true && st [101, 69] ((l.drop k).drop i2)) = true then _ else _) = _; rw [← HD2.out, HEQ.out, HB3.out]; rfl)
          rcases b3 with _ | _
          · have HC3 := Lib.hid (show c3 = true by have h := HM3.out; rw [H3.out] at h; injection h)
            have HX3 := Lib.hid (show e1 = e3 by have h := HM3.out; rw [H3.out] at h; injection h with h _; have := HE3.out; have := HE2.out; have := HEQ.out; omega)
            have hx3 := HX3.out
            subst hx3
            have HVA := Lib.hid (VA.out)
            have qf : decide ((e1 : Int) < (e1 : Int)) = false := decide_eq_false (by omega)
            have HNE := Lib.hid (show num (l.drop k) = match valG 0 (dgs (l.drop k)) with | none => bad 0 101 | some u => numR (sgn (l.drop k)) i1 u by have e : i3 = i1 := (by have := HE1.out; have := HE3.out; omega); have h := num_eq (l := l.drop k) (by rw [H3.out]; exact HC3.out); rw [if_neg (by rw [H1.out, H3.out]; show ¬ i1 < i3; omega), H3.out, e] at h; exact h)
            rcases hV : valG 0 (dgs (l.drop k)) with _ | u
            · rw [hV] at HVA HNE
              have HRR := Lib.hid (show tokR k (num (l.drop k)) = ⟨0, k, k, 0, 0, [], 101⟩ by rw [HNE.out]; rfl)
              have HVA2 := Lib.hid (fun W => (show Calls Tryz.prog 37 #[.string (s.extract f e1)] W fun e w' => e = .returned (.tuple #[.int .u64 0, .bool false]) ∧ ∃ n, w' = W.drewN n from HVA.out W))
              clear HVA hV
              go_wp2_with (first
                | (go_at_call 26; (with_reducible refine (HI2.out _).mono ?_); rintro e w1 ⟨rfl, n1, rfl⟩)
                | (go_at_call 26; (with_reducible refine (HI3.out _).mono ?_); rintro e w1 ⟨rfl, n1, rfl⟩)
                | (go_at_call 37; (with_reducible refine (HVA2.out _).mono ?_); rintro e w1 ⟨rfl, n1, rfl⟩)
                | (go_at_call 25; (with_reducible refine (WR.out _ _ _).mono ?_); rintro e w1 ⟨rfl, hb1⟩; have HBx := Lib.hid ((below_drewN HB0.out _).trans (hb1.mono (below_drewN HB0.out _).size)); obtain ⟨hc1, hf1⟩ := bcell hb1; clear hb1))
              exact bodyPost_ret (v := .tuple #[.agg #[.int .i64 0, .int .i64 k, .int .i64 k, .int .i64 0, .int .u64 0, .string ⟨#[]⟩], .int .i64 101]) (by simp [results, Tryz.results27, go_sem, hc1]) rfl ⟨by rw [HRR.out]; rfl, by with_reducible exact six HBx.out (Nat.le_refl _) _ _ _ _ _ _⟩
            · rw [hV] at HVA HNE
              have hu := valG_lt _ _ _ (dgs_dg (l.drop k)) (by omega) hV
              have HVA2 := Lib.hid (fun W => (show Calls Tryz.prog 37 #[.string (s.extract f e1)] W fun e w' => e = .returned (.tuple #[.int .u64 u, .bool true]) ∧ ∃ n, w' = W.drewN n from HVA.out W))
              clear HVA hV
              rcases b0 with _ | _
              · have HS := Lib.hid (show sgn (l.drop k) = 0 by unfold sgn; rw [HB0'.out]; rfl)
                by_cases hbig : 9223372036854775808 ≤ u
                · have qb : decide (9223372036854775808 ≤ (u : Int)) = true := decide_eq_true (by omega)
                  have HRR := Lib.hid (show tokR k (num (l.drop k)) = ⟨11, k, e1, 0, u, [], 0⟩ by rw [HNE.out]; show tokR k (numR _ i1 u) = _; rw [HS.out]; unfold numR; rw [if_neg (by decide), if_pos hbig]; unfold tokR; rw [if_pos rfl]; show (⟨11, k, k + i1, 0, u, [], 0⟩ : TK) = _; rw [HE1.out])
                  clear hbig
                  go_wp2_with (first
                    | (go_at_call 26; (with_reducible refine (HI2.out _).mono ?_); rintro e w1 ⟨rfl, n1, rfl⟩)
                    | (go_at_call 26; (with_reducible refine (HI3.out _).mono ?_); rintro e w1 ⟨rfl, n1, rfl⟩)
                    | (go_at_call 37; (with_reducible refine (HVA2.out _).mono ?_); rintro e w1 ⟨rfl, n1, rfl⟩))
                  exact bodyPost_ret (v := .tuple #[.agg #[.int .i64 11, .int .i64 k, .int .i64 e1, .int .i64 0, .int .u64 u, .string ⟨#[]⟩], .int .i64 0]) (by simp [results, Tryz.results27, go_sem]) rfl ⟨by rw [HRR.out]; rfl, by with_reducible exact sixA (below_drewN HB0.out _) (Nat.le_refl _) (Nat.le_refl _) _ _ _ _ _ _ _⟩
                · have qb : decide (9223372036854775808 ≤ (u : Int)) = false := decide_eq_false (by omega)
                  have HRR := Lib.hid (show tokR k (num (l.drop k)) = ⟨10, k, e1, u, 0, [], 0⟩ by rw [HNE.out]; show tokR k (numR _ i1 u) = _; rw [HS.out]; unfold numR; rw [if_neg (by decide), if_neg hbig]; unfold tokR; rw [if_pos rfl]; show (⟨10, k, k + i1, (u : Int), 0, [], 0⟩ : TK) = _; rw [HE1.out])
                  have hu63 : (u : Int) ≤ 9223372036854775807 := by omega
                  clear hbig
                  go_wp2_with (first
                    | (go_at_call 26; (with_reducible refine (HI2.out _).mono ?_); rintro e w1 ⟨rfl, n1, rfl⟩)
                    | (go_at_call 26; (with_reducible refine (HI3.out _).mono ?_); rintro e w1 ⟨rfl, n1, rfl⟩)
                    | (go_at_call 37; (with_reducible refine (HVA2.out _).mono ?_); rintro e w1 ⟨rfl, n1, rfl⟩))
                  exact bodyPost_ret (v := .tuple #[.agg #[.int .i64 10, .int .i64 k, .int .i64 e1, .int .i64 u, .int .u64 0, .string ⟨#[]⟩], .int .i64 0]) (by simp [results, Tryz.results27, go_sem]) rfl ⟨by rw [HRR.out]; rfl, by with_reducible exact sixA (below_drewN HB0.out _) (Nat.le_refl _) (Nat.le_refl _) _ _ _ _ _ _ _⟩
              · have HS := Lib.hid (show sgn (l.drop k) = 1 by unfold sgn; rw [HB0'.out]; rfl)
                by_cases hbig : 9223372036854775808 < u
                · have qb : decide (9223372036854775808 < (u : Int)) = true := decide_eq_true (by omega)
                  have HRR := Lib.hid (show tokR k (num (l.drop k)) = ⟨0, k, k, 0, 0, [], 101⟩ by rw [HNE.out]; show tokR k (numR _ i1 u) = _; rw [HS.out]; unfold numR; rw [if_pos rfl, if_pos hbig]; rfl)
                  clear hbig
                  go_wp2_with (first
                    | (go_at_call 26; (with_reducible refine (HI2.out _).mono ?_); rintro e w1 ⟨rfl, n1, rfl⟩)
                    | (go_at_call 26; (with_reducible refine (HI3.out _).mono ?_); rintro e w1 ⟨rfl, n1, rfl⟩)
                    | (go_at_call 37; (with_reducible refine (HVA2.out _).mono ?_); rintro e w1 ⟨rfl, n1, rfl⟩)
                    | (go_at_call 25; (with_reducible refine (WR.out _ _ _).mono ?_); rintro e w1 ⟨rfl, hb1⟩; have HBx := Lib.hid ((below_drewN HB0.out _).trans (hb1.mono (below_drewN HB0.out _).size)); obtain ⟨hc1, hf1⟩ := bcell hb1; clear hb1))
                  exact bodyPost_ret (v := .tuple #[.agg #[.int .i64 0, .int .i64 k, .int .i64 k, .int .i64 0, .int .u64 0, .string ⟨#[]⟩], .int .i64 101]) (by simp [results, Tryz.results27, go_sem, hc1]) rfl ⟨by rw [HRR.out]; rfl, by with_reducible exact six HBx.out (Nat.le_refl _) _ _ _ _ _ _⟩
                · have qb : decide (9223372036854775808 < (u : Int)) = false := decide_eq_false (by omega)
                  have HRR := Lib.hid (show tokR k (num (l.drop k)) = ⟨10, k, e1, -(u : Int), 0, [], 0⟩ by rw [HNE.out]; show tokR k (numR _ i1 u) = _; rw [HS.out]; unfold numR; rw [if_pos rfl, if_neg hbig]; unfold tokR; rw [if_pos rfl]; show (⟨10, k, k + i1, -(u : Int), 0, [], 0⟩ : TK) = _; rw [HE1.out])
                  have hu63 : (u : Int) ≤ 9223372036854775808 := by omega
                  clear hbig
                  go_wp2_with (first
                    | (go_at_call 26; (with_reducible refine (HI2.out _).mono ?_); rintro e w1 ⟨rfl, n1, rfl⟩)
                    | (go_at_call 26; (with_reducible refine (HI3.out _).mono ?_); rintro e w1 ⟨rfl, n1, rfl⟩)
                    | (go_at_call 37; (with_reducible refine (HVA2.out _).mono ?_); rintro e w1 ⟨rfl, n1, rfl⟩))
                  rw [neg_val u (by omega)]
                  exact bodyPost_ret (v := .tuple #[.agg #[.int .i64 10, .int .i64 k, .int .i64 e1, .int .i64 (-(u : Int)), .int .u64 0, .string ⟨#[]⟩], .int .i64 0]) (by simp [results, Tryz.results27, go_sem]) rfl ⟨by rw [HRR.out]; rfl, by with_reducible exact sixA (below_drewN HB0.out _) (Nat.le_refl _) (Nat.le_refl _) _ _ _ _ _ _ _⟩
          · obtain ⟨m3, hm3⟩ : ∃ m, e1 + 1 = m := ⟨_, rfl⟩
            have hm3i : (e1 : Int) + 1 = (m3 : Int) := by omega
            have HD3 := Lib.hid (show l.drop m3 = (l.drop k).drop (i2 + 1) by rw [List.drop_drop]; congr 1; have := HE2.out; have := HEQ.out; omega)
            obtain ⟨b4, hb4⟩ : ∃ b, st [43, 45] (l.drop m3) = b := ⟨_, rfl⟩
            have HI4 := Lib.hid (IS.out m3 ⟨#[43, 45]⟩ _ hb4 (by omega) (by decide))
            have HB4 := Lib.hid hb4
            clear hb4
            have HM4 := Lib.hid (show mS (l.drop k) (i2 + 1) = if b4 = true then i2 + 1 + 1 else i2 + 1 by unfold mS; rw [← HD3.out, HB4.out])
            have hms4 : m3 < s.size + 1 := by have h := st_pos HB3.out; rw [← HSZL.out] at h; omega
            rcases b4 with _ | _
            · obtain ⟨m4, hm4⟩ : ∃ m, m3 = m := ⟨_, rfl⟩
              subst hm4
              have HSK := Lib.hid (show (i3, c3) = skd (l.drop k) (i2 + 1) by rw [← H3.out, HM3.out, HM4.out]; rfl)
              have HDD := Lib.hid (show l.drop m3 = (l.drop k).drop (i2 + 1) by rw [List.drop_drop]; congr 1; have := HE2.out; have := HEQ.out; omega)
              have HDG := Lib.hid (DG.out m3 e3 (by have h := HSK.out; unfold skd at h; injection h with h _; rw [← HDD.out] at h; have := HE2.out; have := HE3.out; have := HEQ.out; omega) (by omega))
              have HC3' := Lib.hid (show c3 = decide (m3 < e3) by have h := skd_c (l.drop k) (i2 + 1); rw [← HSK.out] at h; rw [show c3 = _ from h]; congr 1; have := HE2.out; have := HE3.out; have := HEQ.out; simp; omega)
              have hle3 : m3 ≤ e3 := by have h := HDG; have h2 := HSK.out; unfold skd at h2; injection h2 with h2 _; have := HE2.out; have := HE3.out; have := HEQ.out; omega
              by_cases hlt4 : m3 < e3
              · have q4 : ((e3 : Int) == (m3 : Int)) = false := by simp; omega
                have HC3 := Lib.hid (show c3 = true by rw [HC3'.out]; simpa using hlt4)
                have hlt3 : e1 < e3 := by have := HGE.out; omega
                clear hlt4
                obtain ⟨vu, vb, hvv⟩ := valV_shape (valG 0 (dgs (l.drop k)))
                have HVA2 := Lib.hid (fun W => (show Calls Tryz.prog 37 #[.string (s.extract f e1)] W fun e w' => e = .returned (.tuple #[.int .u64 (vu : Nat), .bool vb]) ∧ ∃ n, w' = W.drewN n by rw [← hvv]; exact VA.out W))
                clear hvv
                have qf : decide ((e1 : Int) < (e3 : Int)) = true := decide_eq_true (by omega)
                have HRR := Lib.hid (show tokR k (num (l.drop k)) = ⟨0, k, k, 0, 0, [], 101⟩ by rw [num_eq (by rw [H3.out]; exact HC3.out), if_pos (by rw [H1.out, H3.out]; show i1 < i3; have := HE1.out; have := HE3.out; omega)]; rfl)
                go_wp2_with (first
                  | (go_at_call 26; (with_reducible refine (HI2.out _).mono ?_); rintro e w1 ⟨rfl, n1, rfl⟩)
                  | (go_at_call 26; (with_reducible refine (HI3.out _).mono ?_); rintro e w1 ⟨rfl, n1, rfl⟩)
                  | (go_at_call 26; (with_reducible refine (HI4.out _).mono ?_); rintro e w1 ⟨rfl, n1, rfl⟩)
                  | (go_at_call 36; (with_reducible refine (HDG.out _).mono ?_); rintro e w1 ⟨rfl, n1, rfl⟩)
                  | (go_at_call 37; (with_reducible refine (HVA2.out _).mono ?_); rintro e w1 ⟨rfl, n1, rfl⟩)
                  | (go_at_call 25; (with_reducible refine (WR.out _ _ _).mono ?_); rintro e w1 ⟨rfl, hb1⟩; have HBx := Lib.hid ((below_drewN HB0.out _).trans (hb1.mono (below_drewN HB0.out _).size)); obtain ⟨hc1, hf1⟩ := bcell hb1; clear hb1))
                exact bodyPost_ret (v := .tuple #[.agg #[.int .i64 0, .int .i64 k, .int .i64 k, .int .i64 0, .int .u64 0, .string ⟨#[]⟩], .int .i64 101]) (by simp [results, Tryz.results27, go_sem, hc1]) rfl ⟨by rw [HRR.out]; rfl, by with_reducible exact six HBx.out (Nat.le_refl _) _ _ _ _ _ _⟩
              · have q4 : ((e3 : Int) == (m3 : Int)) = true := by simp; omega
                have HRR := Lib.hid (show tokR k (num (l.drop k)) = ⟨0, e3, e3, 0, 0, [], 100⟩ by rw [num_inc (by rw [H3.out]; show c3 = false; rw [HC3'.out]; simpa using hlt4), H3.out]; show (⟨0, k + i3, k + i3, 0, 0, [], 100⟩ : TK) = _; rw [HE3.out])
                clear hlt4
                go_wp2_with (first
                  | (go_at_call 26; (with_reducible refine (HI2.out _).mono ?_); rintro e w1 ⟨rfl, n1, rfl⟩)
                  | (go_at_call 26; (with_reducible refine (HI3.out _).mono ?_); rintro e w1 ⟨rfl, n1, rfl⟩)
                  | (go_at_call 26; (with_reducible refine (HI4.out _).mono ?_); rintro e w1 ⟨rfl, n1, rfl⟩)
                  | (go_at_call 36; (with_reducible refine (HDG.out _).mono ?_); rintro e w1 ⟨rfl, n1, rfl⟩)
                  | (go_at_call 25; (with_reducible refine (WR.out _ _ _).mono ?_); rintro e w1 ⟨rfl, hb1⟩; have HBx := Lib.hid ((below_drewN HB0.out _).trans (hb1.mono (below_drewN HB0.out _).size)); obtain ⟨hc1, hf1⟩ := bcell hb1; clear hb1))
                exact bodyPost_ret (v := .tuple #[.agg #[.int .i64 0, .int .i64 e3, .int .i64 e3, .int .i64 0, .int .u64 0, .string ⟨#[]⟩], .int .i64 100]) (by simp [results, Tryz.results27, go_sem, hc1]) rfl ⟨by rw [HRR.out]; rfl, by with_reducible exact six HBx.out (Nat.le_refl _) _ _ _ _ _ _⟩
            · obtain ⟨m4, hm4⟩ : ∃ m, m3 + 1 = m := ⟨_, rfl⟩
              have hm4i : (m3 : Int) + 1 = (m4 : Int) := by omega
              have HSK := Lib.hid (show (i3, c3) = skd (l.drop k) (i2 + 1 + 1) by rw [← H3.out, HM3.out, HM4.out]; rfl)
              have HDD := Lib.hid (show l.drop m4 = (l.drop k).drop (i2 + 1 + 1) by rw [List.drop_drop]; congr 1; have := HE2.out; have := HEQ.out; omega)
              have HDG := Lib.hid (DG.out m4 e3 (by have h := HSK.out; unfold skd at h; injection h with h _; rw [← HDD.out] at h; have := HE2.out; have := HE3.out; have := HEQ.out; omega) (by omega))
              have HC3' := Lib.hid (show c3 = decide (m4 < e3) by have h := skd_c (l.drop k) (i2 + 1 + 1); rw [← HSK.out] at h; rw [show c3 = _ from h]; congr 1; have := HE2.out; have := HE3.out; have := HEQ.out; simp; omega)
              have hle3 : m4 ≤ e3 := by have h := HDG; have h2 := HSK.out; unfold skd at h2; injection h2 with h2 _; have := HE2.out; have := HE3.out; have := HEQ.out; omega
              by_cases hlt4 : m4 < e3
              · have q4 : ((e3 : Int) == (m4 : Int)) = false := by simp; omega
                have HC3 := Lib.hid (show c3 = true by rw [HC3'.out]; simpa using hlt4)
                have hlt3 : e1 < e3 := by have := HGE.out; omega
                clear hlt4
                obtain ⟨vu, vb, hvv⟩ := valV_shape (valG 0 (dgs (l.drop k)))
                have HVA2 := Lib.hid (fun W => (show Calls Tryz.prog 37 #[.string (s.extract f e1)] W fun e w' => e = .returned (.tuple #[.int .u64 (vu : Nat), .bool vb]) ∧ ∃ n, w' = W.drewN n by rw [← hvv]; exact VA.out W))
                clear hvv
                have qf : decide ((e1 : Int) < (e3 : Int)) = true := decide_eq_true (by omega)
                have HRR := Lib.hid (show tokR k (num (l.drop k)) = ⟨0, k, k, 0, 0, [], 101⟩ by rw [num_eq (by rw [H3.out]; exact HC3.out), if_pos (by rw [H1.out, H3.out]; show i1 < i3; have := HE1.out; have := HE3.out; omega)]; rfl)
                go_wp2_with (first
                  | (go_at_call 26; (with_reducible refine (HI2.out _).mono ?_); rintro e w1 ⟨rfl, n1, rfl⟩)
                  | (go_at_call 26; (with_reducible refine (HI3.out _).mono ?_); rintro e w1 ⟨rfl, n1, rfl⟩)
                  | (go_at_call 26; (with_reducible refine (HI4.out _).mono ?_); rintro e w1 ⟨rfl, n1, rfl⟩)
                  | (go_at_call 36; (with_reducible refine (HDG.out _).mono ?_); rintro e w1 ⟨rfl, n1, rfl⟩)
                  | (go_at_call 37; (with_reducible refine (HVA2.out _).mono ?_); rintro e w1 ⟨rfl, n1, rfl⟩)
                  | (go_at_call 25; (with_reducible refine (WR.out _ _ _).mono ?_); rintro e w1 ⟨rfl, hb1⟩; have HBx := Lib.hid ((below_drewN HB0.out _).trans (hb1.mono (below_drewN HB0.out _).size)); obtain ⟨hc1, hf1⟩ := bcell hb1; clear hb1))
                exact bodyPost_ret (v := .tuple #[.agg #[.int .i64 0, .int .i64 k, .int .i64 k, .int .i64 0, .int .u64 0, .string ⟨#[]⟩], .int .i64 101]) (by simp [results, Tryz.results27, go_sem, hc1]) rfl ⟨by rw [HRR.out]; rfl, by with_reducible exact six HBx.out (Nat.le_refl _) _ _ _ _ _ _⟩
              · have q4 : ((e3 : Int) == (m4 : Int)) = true := by simp; omega
                have HRR := Lib.hid (show tokR k (num (l.drop k)) = ⟨0, e3, e3, 0, 0, [], 100⟩ by rw [num_inc (by rw [H3.out]; show c3 = false; rw [HC3'.out]; simpa using hlt4), H3.out]; show (⟨0, k + i3, k + i3, 0, 0, [], 100⟩ : TK) = _; rw [HE3.out])
                clear hlt4
                go_wp2_with (first
                  | (go_at_call 26; (with_reducible refine (HI2.out _).mono ?_); rintro e w1 ⟨rfl, n1, rfl⟩)
                  | (go_at_call 26; (with_reducible refine (HI3.out _).mono ?_); rintro e w1 ⟨rfl, n1, rfl⟩)
                  | (go_at_call 26; (with_reducible refine (HI4.out _).mono ?_); rintro e w1 ⟨rfl, n1, rfl⟩)
                  | (go_at_call 36; (with_reducible refine (HDG.out _).mono ?_); rintro e w1 ⟨rfl, n1, rfl⟩)
                  | (go_at_call 25; (with_reducible refine (WR.out _ _ _).mono ?_); rintro e w1 ⟨rfl, hb1⟩; have HBx := Lib.hid ((below_drewN HB0.out _).trans (hb1.mono (below_drewN HB0.out _).size)); obtain ⟨hc1, hf1⟩ := bcell hb1; clear hb1))
                exact bodyPost_ret (v := .tuple #[.agg #[.int .i64 0, .int .i64 e3, .int .i64 e3, .int .i64 0, .int .u64 0, .string ⟨#[]⟩], .int .i64 100]) (by simp [results, Tryz.results27, go_sem, hc1]) rfl ⟨by rw [HRR.out]; rfl, by with_reducible exact six HBx.out (Nat.le_refl _) _ _ _ _ _ _⟩
        · obtain ⟨m2, hm2⟩ : ∃ m, e1 + 1 = m := ⟨_, rfl⟩
          have hm2i : (e1 : Int) + 1 = (m2 : Int) := by omega
          have hms2 : m2 < s.size + 1 := by have h := st_pos HB2.out; rw [← HSZL.out] at h; omega
          have HSK2 := Lib.hid (show (i2, c2) = skd (l.drop k) (i1 + 1) by rw [← H2.out, HM2.out]; rfl)
          have HDD2 := Lib.hid (show l.drop m2 = (l.drop k).drop (i1 + 1) by rw [List.drop_drop]; congr 1; have := HE1.out; omega)
          have HDG2 := Lib.hid (DG.out m2 e2 (by have h := HSK2.out; unfold skd at h; injection h with h _; rw [← HDD2.out] at h; have := HE1.out; have := HE2.out; omega) (by omega))
          have HC2' := Lib.hid (show c2 = decide (m2 < e2) by have h := skd_c (l.drop k) (i1 + 1); rw [← HSK2.out] at h; rw [show c2 = _ from h]; congr 1; have := HE1.out; have := HE2.out; simp; omega)
          have hle2 : m2 ≤ e2 := by have h2 := HSK2.out; unfold skd at h2; injection h2 with h2 _; have := HE1.out; have := HE2.out; omega
          by_cases hlt2 : m2 < e2
          · have q2 : ((e2 : Int) == (m2 : Int)) = false := by simp; omega
            have HT2 := Lib.hid (show c2 = true by rw [HC2'.out]; simpa using hlt2)
            have HEQ := Lib.hid (show e2 = e2 from rfl)
            have HLT := Lib.hid (show e1 < e2 by omega)
            have HGE := Lib.hid (show e1 ≤ e2 by omega)
            clear hlt2
            obtain ⟨b3, hb3⟩ : ∃ b, st [101, 69] (l.drop e2) = b := ⟨_, rfl⟩
            have HI3 := Lib.hid (IS.out e2 ⟨#[101, 69]⟩ _ hb3 (by omega) (by decide))
            have HB3 := Lib.hid hb3
            clear hb3
            have HM3 := Lib.hid (show mX (l.drop k) = if b3 = true then skd (l.drop k) (mS (l.drop k) (i2 + 1)) else (i2, true) by unfold mX; rw [H2.out, HT2.out]; show (if (true && st [101, 69] ((l.drop k).drop i2)) = true then _ else _) = _; rw [← HD2.out, HEQ.out, HB3.out]; rfl)
            rcases b3 with _ | _
            · have HC3 := Lib.hid (show c3 = true by have h := HM3.out; rw [H3.out] at h; injection h)
              have HX3 := Lib.hid (show e2 = e3 by have h := HM3.out; rw [H3.out] at h; injection h with h _; have := HE3.out; have := HE2.out; have := HEQ.out; omega)
              have hx3 := HX3.out
              subst hx3
              have hlt3 := HLT.out
              obtain ⟨vu, vb, hvv⟩ := valV_shape (valG 0 (dgs (l.drop k)))
              have HVA2 := Lib.hid (fun W => (show Calls Tryz.prog 37 #[.string (s.extract f e1)] W fun e w' => e = .returned (.tuple #[.int .u64 (vu : Nat), .bool vb]) ∧ ∃ n, w' = W.drewN n by rw [← hvv]; exact VA.out W))
              clear hvv
              have qf : decide ((e1 : Int) < (e2 : Int)) = true := decide_eq_true (by omega)
              have HRR := Lib.hid (show tokR k (num (l.drop k)) = ⟨0, k, k, 0, 0, [], 101⟩ by rw [num_eq (by rw [H3.out]; exact HC3.out), if_pos (by rw [H1.out, H3.out]; show i1 < i3; have := HE1.out; have := HE3.out; omega)]; rfl)
              go_wp2_with (first
                | (go_at_call 26; (with_reducible refine (HI2.out _).mono ?_); rintro e w1 ⟨rfl, n1, rfl⟩)
                | (go_at_call 36; (with_reducible refine (HDG2.out _).mono ?_); rintro e w1 ⟨rfl, n1, rfl⟩)
                | (go_at_call 26; (with_reducible refine (HI3.out _).mono ?_); rintro e w1 ⟨rfl, n1, rfl⟩)
                | (go_at_call 37; (with_reducible refine (HVA2.out _).mono ?_); rintro e w1 ⟨rfl, n1, rfl⟩)
                | (go_at_call 25; (with_reducible refine (WR.out _ _ _).mono ?_); rintro e w1 ⟨rfl, hb1⟩; have HBx := Lib.hid ((below_drewN HB0.out _).trans (hb1.mono (below_drewN HB0.out _).size)); obtain ⟨hc1, hf1⟩ := bcell hb1; clear hb1))
              exact bodyPost_ret (v := .tuple #[.agg #[.int .i64 0, .int .i64 k, .int .i64 k, .int .i64 0, .int .u64 0, .string ⟨#[]⟩], .int .i64 101]) (by simp [results, Tryz.results27, go_sem, hc1]) rfl ⟨by rw [HRR.out]; rfl, by with_reducible exact six HBx.out (Nat.le_refl _) _ _ _ _ _ _⟩
            · obtain ⟨m3, hm3⟩ : ∃ m, e2 + 1 = m := ⟨_, rfl⟩
              have hm3i : (e2 : Int) + 1 = (m3 : Int) := by omega
              have HD3 := Lib.hid (show l.drop m3 = (l.drop k).drop (i2 + 1) by rw [List.drop_drop]; congr 1; have := HE2.out; have := HEQ.out; omega)
              obtain ⟨b4, hb4⟩ : ∃ b, st [43, 45] (l.drop m3) = b := ⟨_, rfl⟩
              have HI4 := Lib.hid (IS.out m3 ⟨#[43, 45]⟩ _ hb4 (by omega) (by decide))
              have HB4 := Lib.hid hb4
              clear hb4
              have HM4 := Lib.hid (show mS (l.drop k) (i2 + 1) = if b4 = true then i2 + 1 + 1 else i2 + 1 by unfold mS; rw [← HD3.out, HB4.out])
              have hms4 : m3 < s.size + 1 := by have h := st_pos HB3.out; rw [← HSZL.out] at h; omega
              rcases b4 with _ | _
              · obtain ⟨m4, hm4⟩ : ∃ m, m3 = m := ⟨_, rfl⟩
                subst hm4
                have HSK := Lib.hid (show (i3, c3) = skd (l.drop k) (i2 + 1) by rw [← H3.out, HM3.out, HM4.out]; rfl)
                have HDD := Lib.hid (show l.drop m3 = (l.drop k).drop (i2 + 1) by rw [List.drop_drop]; congr 1; have := HE2.out; have := HEQ.out; omega)
                have HDG := Lib.hid (DG.out m3 e3 (by have h := HSK.out; unfold skd at h; injection h with h _; rw [← HDD.out] at h; have := HE2.out; have := HE3.out; have := HEQ.out; omega) (by omega))
                have HC3' := Lib.hid (show c3 = decide (m3 < e3) by have h := skd_c (l.drop k) (i2 + 1); rw [← HSK.out] at h; rw [show c3 = _ from h]; congr 1; have := HE2.out; have := HE3.out; have := HEQ.out; simp; omega)
                have hle3 : m3 ≤ e3 := by have h := HDG; have h2 := HSK.out; unfold skd at h2; injection h2 with h2 _; have := HE2.out; have := HE3.out; have := HEQ.out; omega
                by_cases hlt4 : m3 < e3
                · have q4 : ((e3 : Int) == (m3 : Int)) = false := by simp; omega
                  have HC3 := Lib.hid (show c3 = true by rw [HC3'.out]; simpa using hlt4)
                  have hlt3 : e1 < e3 := by have := HGE.out; omega
                  clear hlt4
                  obtain ⟨vu, vb, hvv⟩ := valV_shape (valG 0 (dgs (l.drop k)))
                  have HVA2 := Lib.hid (fun W => (show Calls Tryz.prog 37 #[.string (s.extract f e1)] W fun e w' => e = .returned (.tuple #[.int .u64 (vu : Nat), .bool vb]) ∧ ∃ n, w' = W.drewN n by rw [← hvv]; exact VA.out W))
                  clear hvv
                  have qf : decide ((e1 : Int) < (e3 : Int)) = true := decide_eq_true (by omega)
                  have HRR := Lib.hid (show tokR k (num (l.drop k)) = ⟨0, k, k, 0, 0, [], 101⟩ by rw [num_eq (by rw [H3.out]; exact HC3.out), if_pos (by rw [H1.out, H3.out]; show i1 < i3; have := HE1.out; have := HE3.out; omega)]; rfl)
                  go_wp2_with (first
                    | (go_at_call 26; (with_reducible refine (HI2.out _).mono ?_); rintro e w1 ⟨rfl, n1, rfl⟩)
                    | (go_at_call 36; (with_reducible refine (HDG2.out _).mono ?_); rintro e w1 ⟨rfl, n1, rfl⟩)
                    | (go_at_call 26; (with_reducible refine (HI3.out _).mono ?_); rintro e w1 ⟨rfl, n1, rfl⟩)
                    | (go_at_call 26; (with_reducible refine (HI4.out _).mono ?_); rintro e w1 ⟨rfl, n1, rfl⟩)
                    | (go_at_call 36; (with_reducible refine (HDG.out _).mono ?_); rintro e w1 ⟨rfl, n1, rfl⟩)
                    | (go_at_call 37; (with_reducible refine (HVA2.out _).mono ?_); rintro e w1 ⟨rfl, n1, rfl⟩)
                    | (go_at_call 25; (with_reducible refine (WR.out _ _ _).mono ?_); rintro e w1 ⟨rfl, hb1⟩; have HBx := Lib.hid ((below_drewN HB0.out _).trans (hb1.mono (below_drewN HB0.out _).size)); obtain ⟨hc1, hf1⟩ := bcell hb1; clear hb1))
                  exact bodyPost_ret (v := .tuple #[.agg #[.int .i64 0, .int .i64 k, .int .i64 k, .int .i64 0, .int .u64 0, .string ⟨#[]⟩], .int .i64 101]) (by simp [results, Tryz.results27, go_sem, hc1]) rfl ⟨by rw [HRR.out]; rfl, by with_reducible exact six HBx.out (Nat.le_refl _) _ _ _ _ _ _⟩
                · have q4 : ((e3 : Int) == (m3 : Int)) = true := by simp; omega
                  have HRR := Lib.hid (show tokR k (num (l.drop k)) = ⟨0, e3, e3, 0, 0, [], 100⟩ by rw [num_inc (by rw [H3.out]; show c3 = false; rw [HC3'.out]; simpa using hlt4), H3.out]; show (⟨0, k + i3, k + i3, 0, 0, [], 100⟩ : TK) = _; rw [HE3.out])
                  clear hlt4
                  go_wp2_with (first
                    | (go_at_call 26; (with_reducible refine (HI2.out _).mono ?_); rintro e w1 ⟨rfl, n1, rfl⟩)
                    | (go_at_call 36; (with_reducible refine (HDG2.out _).mono ?_); rintro e w1 ⟨rfl, n1, rfl⟩)
                    | (go_at_call 26; (with_reducible refine (HI3.out _).mono ?_); rintro e w1 ⟨rfl, n1, rfl⟩)
                    | (go_at_call 26; (with_reducible refine (HI4.out _).mono ?_); rintro e w1 ⟨rfl, n1, rfl⟩)
                    | (go_at_call 36; (with_reducible refine (HDG.out _).mono ?_); rintro e w1 ⟨rfl, n1, rfl⟩)
                    | (go_at_call 25; (with_reducible refine (WR.out _ _ _).mono ?_); rintro e w1 ⟨rfl, hb1⟩; have HBx := Lib.hid ((below_drewN HB0.out _).trans (hb1.mono (below_drewN HB0.out _).size)); obtain ⟨hc1, hf1⟩ := bcell hb1; clear hb1))
                  exact bodyPost_ret (v := .tuple #[.agg #[.int .i64 0, .int .i64 e3, .int .i64 e3, .int .i64 0, .int .u64 0, .string ⟨#[]⟩], .int .i64 100]) (by simp [results, Tryz.results27, go_sem, hc1]) rfl ⟨by rw [HRR.out]; rfl, by with_reducible exact six HBx.out (Nat.le_refl _) _ _ _ _ _ _⟩
              · obtain ⟨m4, hm4⟩ : ∃ m, m3 + 1 = m := ⟨_, rfl⟩
                have hm4i : (m3 : Int) + 1 = (m4 : Int) := by omega
                have HSK := Lib.hid (show (i3, c3) = skd (l.drop k) (i2 + 1 + 1) by rw [← H3.out, HM3.out, HM4.out]; rfl)
                have HDD := Lib.hid (show l.drop m4 = (l.drop k).drop (i2 + 1 + 1) by rw [List.drop_drop]; congr 1; have := HE2.out; have := HEQ.out; omega)
                have HDG := Lib.hid (DG.out m4 e3 (by have h := HSK.out; unfold skd at h; injection h with h _; rw [← HDD.out] at h; have := HE2.out; have := HE3.out; have := HEQ.out; omega) (by omega))
                have HC3' := Lib.hid (show c3 = decide (m4 < e3) by have h := skd_c (l.drop k) (i2 + 1 + 1); rw [← HSK.out] at h; rw [show c3 = _ from h]; congr 1; have := HE2.out; have := HE3.out; have := HEQ.out; simp; omega)
                have hle3 : m4 ≤ e3 := by have h := HDG; have h2 := HSK.out; unfold skd at h2; injection h2 with h2 _; have := HE2.out; have := HE3.out; have := HEQ.out; omega
                by_cases hlt4 : m4 < e3
                · have q4 : ((e3 : Int) == (m4 : Int)) = false := by simp; omega
                  have HC3 := Lib.hid (show c3 = true by rw [HC3'.out]; simpa using hlt4)
                  have hlt3 : e1 < e3 := by have := HGE.out; omega
                  clear hlt4
                  obtain ⟨vu, vb, hvv⟩ := valV_shape (valG 0 (dgs (l.drop k)))
                  have HVA2 := Lib.hid (fun W => (show Calls Tryz.prog 37 #[.string (s.extract f e1)] W fun e w' => e = .returned (.tuple #[.int .u64 (vu : Nat), .bool vb]) ∧ ∃ n, w' = W.drewN n by rw [← hvv]; exact VA.out W))
                  clear hvv
                  have qf : decide ((e1 : Int) < (e3 : Int)) = true := decide_eq_true (by omega)
                  have HRR := Lib.hid (show tokR k (num (l.drop k)) = ⟨0, k, k, 0, 0, [], 101⟩ by rw [num_eq (by rw [H3.out]; exact HC3.out), if_pos (by rw [H1.out, H3.out]; show i1 < i3; have := HE1.out; have := HE3.out; omega)]; rfl)
                  go_wp2_with (first
                    | (go_at_call 26; (with_reducible refine (HI2.out _).mono ?_); rintro e w1 ⟨rfl, n1, rfl⟩)
                    | (go_at_call 36; (with_reducible refine (HDG2.out _).mono ?_); rintro e w1 ⟨rfl, n1, rfl⟩)
                    | (go_at_call 26; (with_reducible refine (HI3.out _).mono ?_); rintro e w1 ⟨rfl, n1, rfl⟩)
                    | (go_at_call 26; (with_reducible refine (HI4.out _).mono ?_); rintro e w1 ⟨rfl, n1, rfl⟩)
                    | (go_at_call 36; (with_reducible refine (HDG.out _).mono ?_); rintro e w1 ⟨rfl, n1, rfl⟩)
                    | (go_at_call 37; (with_reducible refine (HVA2.out _).mono ?_); rintro e w1 ⟨rfl, n1, rfl⟩)
                    | (go_at_call 25; (with_reducible refine (WR.out _ _ _).mono ?_); rintro e w1 ⟨rfl, hb1⟩; have HBx := Lib.hid ((below_drewN HB0.out _).trans (hb1.mono (below_drewN HB0.out _).size)); obtain ⟨hc1, hf1⟩ := bcell hb1; clear hb1))
                  exact bodyPost_ret (v := .tuple #[.agg #[.int .i64 0, .int .i64 k, .int .i64 k, .int .i64 0, .int .u64 0, .string ⟨#[]⟩], .int .i64 101]) (by simp [results, Tryz.results27, go_sem, hc1]) rfl ⟨by rw [HRR.out]; rfl, by with_reducible exact six HBx.out (Nat.le_refl _) _ _ _ _ _ _⟩
                · have q4 : ((e3 : Int) == (m4 : Int)) = true := by simp; omega
                  have HRR := Lib.hid (show tokR k (num (l.drop k)) = ⟨0, e3, e3, 0, 0, [], 100⟩ by rw [num_inc (by rw [H3.out]; show c3 = false; rw [HC3'.out]; simpa using hlt4), H3.out]; show (⟨0, k + i3, k + i3, 0, 0, [], 100⟩ : TK) = _; rw [HE3.out])
                  clear hlt4
                  go_wp2_with (first
                    | (go_at_call 26; (with_reducible refine (HI2.out _).mono ?_); rintro e w1 ⟨rfl, n1, rfl⟩)
                    | (go_at_call 36; (with_reducible refine (HDG2.out _).mono ?_); rintro e w1 ⟨rfl, n1, rfl⟩)
                    | (go_at_call 26; (with_reducible refine (HI3.out _).mono ?_); rintro e w1 ⟨rfl, n1, rfl⟩)
                    | (go_at_call 26; (with_reducible refine (HI4.out _).mono ?_); rintro e w1 ⟨rfl, n1, rfl⟩)
                    | (go_at_call 36; (with_reducible refine (HDG.out _).mono ?_); rintro e w1 ⟨rfl, n1, rfl⟩)
                    | (go_at_call 25; (with_reducible refine (WR.out _ _ _).mono ?_); rintro e w1 ⟨rfl, hb1⟩; have HBx := Lib.hid ((below_drewN HB0.out _).trans (hb1.mono (below_drewN HB0.out _).size)); obtain ⟨hc1, hf1⟩ := bcell hb1; clear hb1))
                  exact bodyPost_ret (v := .tuple #[.agg #[.int .i64 0, .int .i64 e3, .int .i64 e3, .int .i64 0, .int .u64 0, .string ⟨#[]⟩], .int .i64 100]) (by simp [results, Tryz.results27, go_sem, hc1]) rfl ⟨by rw [HRR.out]; rfl, by with_reducible exact six HBx.out (Nat.le_refl _) _ _ _ _ _ _⟩
          · have q2 : ((e2 : Int) == (m2 : Int)) = true := by simp; omega
            have HF2 := Lib.hid (show c2 = false by rw [HC2'.out]; simpa using hlt2)
            have HRR := Lib.hid (show tokR k (num (l.drop k)) = ⟨0, e2, e2, 0, 0, [], 100⟩ by have e := mX_cut2 (l := l.drop k) (by rw [H2.out]; exact HF2.out); rw [num_inc (by rw [e, H2.out]; exact HF2.out), e, H2.out]; show (⟨0, k + i2, k + i2, 0, 0, [], 100⟩ : TK) = _; rw [HE2.out])
            clear hlt2
            go_wp2_with (first
              | (go_at_call 26; (with_reducible refine (HI2.out _).mono ?_); rintro e w1 ⟨rfl, n1, rfl⟩)
              | (go_at_call 36; (with_reducible refine (HDG2.out _).mono ?_); rintro e w1 ⟨rfl, n1, rfl⟩)
              | (go_at_call 25; (with_reducible refine (WR.out _ _ _).mono ?_); rintro e w1 ⟨rfl, hb1⟩; have HBx := Lib.hid ((below_drewN HB0.out _).trans (hb1.mono (below_drewN HB0.out _).size)); obtain ⟨hc1, hf1⟩ := bcell hb1; clear hb1))
            exact bodyPost_ret (v := .tuple #[.agg #[.int .i64 0, .int .i64 e2, .int .i64 e2, .int .i64 0, .int .u64 0, .string ⟨#[]⟩], .int .i64 100]) (by simp [results, Tryz.results27, go_sem, hc1]) rfl ⟨by rw [HRR.out]; rfl, by with_reducible exact six HBx.out (Nat.le_refl _) _ _ _ _ _ _⟩
      · have q1 : ((e1 : Int) == (f : Int)) = true := by simp; omega
        have HF1 := Lib.hid (show c1 = false by rw [HC1.out]; simpa using hlt1)
        have HRR := Lib.hid (show tokR k (num (l.drop k)) = ⟨0, e1, e1, 0, 0, [], 100⟩ by have e := mX_cut1 (l := l.drop k) (by rw [H1.out]; exact HF1.out); rw [num_inc (by rw [e, H1.out]; exact HF1.out), e, H1.out]; show (⟨0, k + i1, k + i1, 0, 0, [], 100⟩ : TK) = _; rw [HE1.out])
        clear hlt1
        go_wp2_with (first
          | (go_at_call 25; (with_reducible refine (WR.out _ _ _).mono ?_); rintro e w1 ⟨rfl, hb1⟩; have HBx := Lib.hid ((below_drewN HB0.out _).trans (hb1.mono (below_drewN HB0.out _).size)); obtain ⟨hc1, hf1⟩ := bcell hb1; clear hb1))
        exact bodyPost_ret (v := .tuple #[.agg #[.int .i64 0, .int .i64 e1, .int .i64 e1, .int .i64 0, .int .u64 0, .string ⟨#[]⟩], .int .i64 100]) (by simp [results, Tryz.results27, go_sem, hc1]) rfl ⟨by rw [HRR.out]; rfl, by with_reducible exact six HBx.out (Nat.le_refl _) _ _ _ _ _ _⟩
end Go.Proofs.YtodmlgbomhmbpaaGreatDoor
