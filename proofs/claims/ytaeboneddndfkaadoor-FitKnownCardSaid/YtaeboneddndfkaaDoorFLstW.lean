/-
  What is proved here: FitLeast, FitGrows and FitNearer return true; conditions: the contracts of fit.One and fit.All, the table of package tag, and arguments that the form reads.
-/
import Derived.Test.YtaeboneddndfkaaDoorFOneW
namespace Go.Proofs.YtaeboneddndfkaaDoor
open Go.RowKit Tg

theorem fitV_text (n at' idx : Int) : fitV ⟨5, 1, n⟩ at' idx = fitN n at' idx := by funext w; unfold fitV; rw [if_neg (by show ¬ (inl 5 = true); decide)]
theorem oneV_text {n at' idx : Int} (ha : 0 ≤ at' ∧ at' ≤ 1073741824) (hi : 0 ≤ idx ∧ idx ≤ 1073741824) : oneV ⟨5, 1, n⟩ at' idx = pick (fitN n at' idx) := by
  unfold oneV; rw [if_pos ⟨okA_iff.2 ha, okA_iff.2 hi⟩, fitV_text]
theorem fitN_8 {n at' idx : Int} (h : n ≤ at') : fitN n at' idx 8 = true := by unfold fitN; simp [h]
theorem fitN_far {n at' idx w : Int} (h : at' < n) : fitN n at' idx w = false := by unfold fitN; simp [show ¬ n ≤ at' by omega]
theorem least_far {n at' idx : Int} (ha : 0 ≤ at' ∧ at' ≤ 1073741824) (hi : 0 ≤ idx ∧ idx ≤ 1073741824) (h : at' < n) : oneV ⟨5, 1, n⟩ at' idx = 0 := by
  rw [oneV_text ha hi]; unfold pick; simp [fitN_far h]
theorem least_in {n at' idx : Int} (ha : 0 ≤ at' ∧ at' ≤ 1073741824) (hi : 0 ≤ idx ∧ idx ≤ 1073741824) (h : n ≤ at') :
    (oneV ⟨5, 1, n⟩ at' idx = 1 ∧ fitN n at' idx 1 = true ∧ fitN n at' idx 2 = true ∧ fitN n at' idx 4 = true ∧ fitN n at' idx 8 = true) ∨ (oneV ⟨5, 1, n⟩ at' idx = 2 ∧ fitN n at' idx 1 = false ∧ fitN n at' idx 2 = true ∧ fitN n at' idx 4 = true ∧ fitN n at' idx 8 = true) ∨
    (oneV ⟨5, 1, n⟩ at' idx = 4 ∧ fitN n at' idx 2 = false ∧ fitN n at' idx 4 = true ∧ fitN n at' idx 8 = true) ∨ (oneV ⟨5, 1, n⟩ at' idx = 8 ∧ fitN n at' idx 4 = false ∧ fitN n at' idx 8 = true) := by
  rw [oneV_text ha hi]
  obtain ⟨u1, u2, u3⟩ := fitN_up (n := n) ha.1 hi.1
  have h8 := fitN_8 (idx := idx) h
  rcases pick_cases (fitN n at' idx) with ⟨a, e⟩ | ⟨a, b, e⟩ | ⟨a, b, c, e⟩ | ⟨a, b, c, d, e⟩ | ⟨a, b, c, d, e⟩
  · exact .inl ⟨e, a, u1 a, u2 (u1 a), h8⟩
  · exact .inr (.inl ⟨e, a, b, u2 b, h8⟩)
  · exact .inr (.inr (.inl ⟨e, b, c, h8⟩))
  · exact .inr (.inr (.inr ⟨e, c, d⟩))
  · rw [h8] at d; cases d
theorem isW1 : isW 1 := .inl rfl
theorem isW2 : isW 2 := .inr (.inl rfl)
theorem isW4 : isW 4 := .inr (.inr (.inl rfl))
theorem isW8 : isW 8 := .inr (.inr (.inr rfl))
theorem mod_b (t : Int) {n : Int} (hn : 1 ≤ n) : 0 ≤ t % n ∧ t % n ≤ n - 1 := ⟨Int.emod_nonneg t (by omega), by have := Int.emod_lt_of_pos t (show 0 < n by omega); omega⟩
section
variable {w0 W W' : World}
theorem bring_L (h : WL w0 W) (t n : Int) (ht : -9223372036854775808 ≤ t ∧ t ≤ 9223372036854775807) (hn : 1 ≤ n) (hn2 : n ≤ 4000000) : Calls Tryd.prog 17 #[.int .i64 t, .int .i64 n] W fun e w' => e = .returned (.int .i64 (t % n)) ∧ WL w0 w' :=
  (bring_any t n W ht.1 ht.2 hn hn2).mono fun _ _ ⟨h1, h2⟩ => ⟨h1, h2 ▸ h⟩
theorem onet_L (H1 : OneOK) (h : WL w0 W) (n at' idx : Int) (hn : 0 ≤ n ∧ n ≤ 4000000) (ha : 0 ≤ at' ∧ at' ≤ 4000000) (hi : 0 ≤ idx ∧ idx ≤ 4000000) {r : Int} (hr : oneV ⟨5, 1, n⟩ at' idx = r) :
    Calls Tryd.prog 11 #[.agg #[.int .i64 5, .int .i64 1, .int .u64 n], .int .i64 at', .int .i64 idx] W fun e w' => e = .returned (.int .i64 r) ∧ WL w0 w' :=
  one_L H1 h ⟨5, 1, n⟩ at' idx (okT n hn.1 (by omega)) (by omega) (by omega) hr
theorem textt_L (h : WL w0 W) (n : Int) : Calls Tryd.prog 18 #[.int .u64 n] W fun e w' => e = .returned (.agg #[.int .i64 5, .int .i64 1, .int .u64 n]) ∧ WL w0 w' := text_L h n
theorem fits_L (h : WL w0 W) (n at' idx w : Int) (hn : 0 ≤ n ∧ n ≤ 4000000) (ha : 0 ≤ at' ∧ at' ≤ 4000000) (hi : 0 ≤ idx ∧ idx ≤ 4000000) (hw : isW w) {b : Bool} (hr : fitN n at' idx w = b) :
    Calls Tryd.prog 19 #[.int .i64 n, .int .i64 at', .int .i64 idx, .int .i64 w] W fun e w' => e = .returned (.bool b) ∧ WL w0 w' := by
  subst hr
  exact (lfits_any n at' idx w W hn.1 hn.2 ha.1 ha.2 hi.1 hi.2 hw).mono fun _ _ ⟨h1, h2⟩ => ⟨h1, h2 ▸ h⟩
end
set_option maxRecDepth 20000 in
set_option maxHeartbeats 1000000 in
theorem fitLeast_walk (H1 : OneOK) (H2 : AllOK) (n0 at0 idx0 : Int) (w : World) (bn : -9223372036854775808 ≤ n0 ∧ n0 ≤ 9223372036854775807) (ba : -9223372036854775808 ≤ at0 ∧ at0 ≤ 9223372036854775807) (bi : -9223372036854775808 ≤ idx0 ∧ idx0 ≤ 9223372036854775807) (hT : Tab w) :
    Calls Tryd.prog 5 #[.int .i64 n0, .int .i64 at0, .int .i64 idx0] w fun e w' => e = .returned (.bool true) ∧ Below w.heap.size w w' := by
  have HS := Lib.hid (WL.start hT)
  have HBN : Hid (∀ W, Hid (WL w W) → Calls Tryd.prog 17 #[.int .i64 n0, .int .i64 1048576] W fun e w' => e = .returned (.int .i64 (n0 % 1048576)) ∧ WL w w') := Lib.hid fun W h => bring_L h.out n0 _ bn (by omega) (by omega)
  have HBA : Hid (∀ W, Hid (WL w W) → Calls Tryd.prog 17 #[.int .i64 at0, .int .i64 1048576] W fun e w' => e = .returned (.int .i64 (at0 % 1048576)) ∧ WL w w') := Lib.hid fun W h => bring_L h.out at0 _ ba (by omega) (by omega)
  have HBI : Hid (∀ W, Hid (WL w W) → Calls Tryd.prog 17 #[.int .i64 idx0, .int .i64 5001] W fun e w' => e = .returned (.int .i64 (idx0 % 5001)) ∧ WL w w') := Lib.hid fun W h => bring_L h.out idx0 _ bi (by omega) (by omega)
  obtain ⟨n, hn⟩ : ∃ n, n0 % 1048576 = n := ⟨_, rfl⟩
  obtain ⟨a, ha⟩ : ∃ a, at0 % 1048576 = a := ⟨_, rfl⟩
  obtain ⟨i, hi⟩ : ∃ i, idx0 % 5001 = i := ⟨_, rfl⟩
  have en : 0 ≤ n ∧ n ≤ 1048576 := by have := mod_b n0 (n := 1048576) (by omega); omega
  have ea : 0 ≤ a ∧ a ≤ 1048576 := by have := mod_b at0 (n := 1048576) (by omega); omega
  have ei : 0 ≤ i ∧ i ≤ 5001 := by have := mod_b idx0 (n := 5001) (by omega); omega
  rw [hn] at HBN; rw [ha] at HBA; rw [hi] at HBI
  clear hn ha hi bn ba bi hT
  have HW : Hid (∀ W, Hid (WL w W) → Calls Tryd.prog 13 #[] W fun e w' => e = .returned (.bool true) ∧ WL w w') := Lib.hid fun W h => works_L H1 H2 h.out
  have HF : Hid (∀ W k b, Hid (WL w W) → isW k → fitN n a i k = b → Calls Tryd.prog 19 #[.int .i64 n, .int .i64 a, .int .i64 i, .int .i64 k] W fun e w' => e = .returned (.bool b) ∧ WL w w') := Lib.hid fun W k b h hk hb => fits_L h.out n a i k (by omega) (by omega) (by omega) hk hb
  have HO : Hid (∀ W r, Hid (WL w W) → oneV ⟨5, 1, n⟩ a i = r → Calls Tryd.prog 11 #[.agg #[.int .i64 5, .int .i64 1, .int .u64 n], .int .i64 a, .int .i64 i] W fun e w' => e = .returned (.int .i64 r) ∧ WL w w') := Lib.hid fun W r h hr => onet_L H1 h.out n a i (by omega) (by omega) (by omega) hr
  have HL := Lib.hid (least_far (n := n) (at' := a) (idx := i) (by omega) (by omega))
  have HI := Lib.hid (least_in (n := n) (at' := a) (idx := i) (by omega) (by omega))
  go_enter Tryd.func5, Tryd.ntmps5
  by_cases hna : n > a
  · have HR := Lib.hid (HL.out hna)
    go_wp2_with (first
      | (go_at_call 17; (with_reducible refine (HBN.out _ (by assumption)).mono ?_); rintro e w1 ⟨rfl, hs⟩; have HS := Lib.hid hs; clear hs)
      | (go_at_call 17; (with_reducible refine (HBA.out _ (by assumption)).mono ?_); rintro e w1 ⟨rfl, hs⟩; have HS := Lib.hid hs; clear hs)
      | (go_at_call 17; (with_reducible refine (HBI.out _ (by assumption)).mono ?_); rintro e w1 ⟨rfl, hs⟩; have HS := Lib.hid hs; clear hs)
      | (go_at_call 18; (with_reducible refine (textt_L HS.out _).mono ?_); rintro e w1 ⟨rfl, hs⟩; have HS := Lib.hid hs; clear hs)
      | (go_at_call 11; (with_reducible refine (HO.out _ _ (by assumption) HR.out).mono ?_); rintro e w1 ⟨rfl, hs⟩; have HS := Lib.hid hs; clear hs)
      | (go_at_call 13; (with_reducible refine (HW.out _ (by assumption)).mono ?_); rintro e w1 ⟨rfl, hs⟩; have HS := Lib.hid hs; clear hs))
    all_goals (go_ret; exact ⟨rfl, HS.out.2⟩)
  · have hle : n ≤ a := by omega
    rcases HI.out hle with ⟨hr, h1, h2, h4, h8⟩ | ⟨hr, h1, h2, h4, h8⟩ | ⟨hr, h2, h4, h8⟩ | ⟨hr, h4, h8⟩
    · have HR := Lib.hid hr
      have HF1 := Lib.hid h1
      clear hr h1 h2 h4 h8
      go_wp2_with (first
        | (go_at_call 17; (with_reducible refine (HBN.out _ (by assumption)).mono ?_); rintro e w1 ⟨rfl, hs⟩; have HS := Lib.hid hs; clear hs)
        | (go_at_call 17; (with_reducible refine (HBA.out _ (by assumption)).mono ?_); rintro e w1 ⟨rfl, hs⟩; have HS := Lib.hid hs; clear hs)
        | (go_at_call 17; (with_reducible refine (HBI.out _ (by assumption)).mono ?_); rintro e w1 ⟨rfl, hs⟩; have HS := Lib.hid hs; clear hs)
        | (go_at_call 18; (with_reducible refine (textt_L HS.out _).mono ?_); rintro e w1 ⟨rfl, hs⟩; have HS := Lib.hid hs; clear hs)
        | (go_at_call 11; (with_reducible refine (HO.out _ _ (by assumption) HR.out).mono ?_); rintro e w1 ⟨rfl, hs⟩; have HS := Lib.hid hs; clear hs)
        | (go_at_call 19; (with_reducible refine (HF.out _ 1 _ (by assumption) isW1 HF1.out).mono ?_); rintro e w1 ⟨rfl, hs⟩; have HS := Lib.hid hs; clear hs)
        | (go_at_call 13; (with_reducible refine (HW.out _ (by assumption)).mono ?_); rintro e w1 ⟨rfl, hs⟩; have HS := Lib.hid hs; clear hs))
      all_goals (go_ret; exact ⟨rfl, HS.out.2⟩)
    · have HR := Lib.hid hr
      have HF2 := Lib.hid h2
      have HF1 := Lib.hid h1
      clear hr h1 h2 h4 h8
      go_wp2_with (first
        | (go_at_call 17; (with_reducible refine (HBN.out _ (by assumption)).mono ?_); rintro e w1 ⟨rfl, hs⟩; have HS := Lib.hid hs; clear hs)
        | (go_at_call 17; (with_reducible refine (HBA.out _ (by assumption)).mono ?_); rintro e w1 ⟨rfl, hs⟩; have HS := Lib.hid hs; clear hs)
        | (go_at_call 17; (with_reducible refine (HBI.out _ (by assumption)).mono ?_); rintro e w1 ⟨rfl, hs⟩; have HS := Lib.hid hs; clear hs)
        | (go_at_call 18; (with_reducible refine (textt_L HS.out _).mono ?_); rintro e w1 ⟨rfl, hs⟩; have HS := Lib.hid hs; clear hs)
        | (go_at_call 11; (with_reducible refine (HO.out _ _ (by assumption) HR.out).mono ?_); rintro e w1 ⟨rfl, hs⟩; have HS := Lib.hid hs; clear hs)
        | (go_at_call 19; (with_reducible refine (HF.out _ 2 _ (by assumption) isW2 HF2.out).mono ?_); rintro e w1 ⟨rfl, hs⟩; have HS := Lib.hid hs; clear hs)
        | (go_at_call 19; (with_reducible refine (HF.out _ 1 _ (by assumption) isW1 HF1.out).mono ?_); rintro e w1 ⟨rfl, hs⟩; have HS := Lib.hid hs; clear hs)
        | (go_at_call 13; (with_reducible refine (HW.out _ (by assumption)).mono ?_); rintro e w1 ⟨rfl, hs⟩; have HS := Lib.hid hs; clear hs))
      all_goals (go_ret; exact ⟨rfl, HS.out.2⟩)
    · have HR := Lib.hid hr
      have HF4 := Lib.hid h4
      have HF2 := Lib.hid h2
      clear hr h2 h4 h8
      go_wp2_with (first
        | (go_at_call 17; (with_reducible refine (HBN.out _ (by assumption)).mono ?_); rintro e w1 ⟨rfl, hs⟩; have HS := Lib.hid hs; clear hs)
        | (go_at_call 17; (with_reducible refine (HBA.out _ (by assumption)).mono ?_); rintro e w1 ⟨rfl, hs⟩; have HS := Lib.hid hs; clear hs)
        | (go_at_call 17; (with_reducible refine (HBI.out _ (by assumption)).mono ?_); rintro e w1 ⟨rfl, hs⟩; have HS := Lib.hid hs; clear hs)
        | (go_at_call 18; (with_reducible refine (textt_L HS.out _).mono ?_); rintro e w1 ⟨rfl, hs⟩; have HS := Lib.hid hs; clear hs)
        | (go_at_call 11; (with_reducible refine (HO.out _ _ (by assumption) HR.out).mono ?_); rintro e w1 ⟨rfl, hs⟩; have HS := Lib.hid hs; clear hs)
        | (go_at_call 19; (with_reducible refine (HF.out _ 4 _ (by assumption) isW4 HF4.out).mono ?_); rintro e w1 ⟨rfl, hs⟩; have HS := Lib.hid hs; clear hs)
        | (go_at_call 19; (with_reducible refine (HF.out _ 2 _ (by assumption) isW2 HF2.out).mono ?_); rintro e w1 ⟨rfl, hs⟩; have HS := Lib.hid hs; clear hs)
        | (go_at_call 13; (with_reducible refine (HW.out _ (by assumption)).mono ?_); rintro e w1 ⟨rfl, hs⟩; have HS := Lib.hid hs; clear hs))
      all_goals (go_ret; exact ⟨rfl, HS.out.2⟩)
    · have HR := Lib.hid hr
      have HF8 := Lib.hid h8
      have HF4 := Lib.hid h4
      clear hr h4 h8
      go_wp2_with (first
        | (go_at_call 17; (with_reducible refine (HBN.out _ (by assumption)).mono ?_); rintro e w1 ⟨rfl, hs⟩; have HS := Lib.hid hs; clear hs)
        | (go_at_call 17; (with_reducible refine (HBA.out _ (by assumption)).mono ?_); rintro e w1 ⟨rfl, hs⟩; have HS := Lib.hid hs; clear hs)
        | (go_at_call 17; (with_reducible refine (HBI.out _ (by assumption)).mono ?_); rintro e w1 ⟨rfl, hs⟩; have HS := Lib.hid hs; clear hs)
        | (go_at_call 18; (with_reducible refine (textt_L HS.out _).mono ?_); rintro e w1 ⟨rfl, hs⟩; have HS := Lib.hid hs; clear hs)
        | (go_at_call 11; (with_reducible refine (HO.out _ _ (by assumption) HR.out).mono ?_); rintro e w1 ⟨rfl, hs⟩; have HS := Lib.hid hs; clear hs)
        | (go_at_call 19; (with_reducible refine (HF.out _ 8 _ (by assumption) isW8 HF8.out).mono ?_); rintro e w1 ⟨rfl, hs⟩; have HS := Lib.hid hs; clear hs)
        | (go_at_call 19; (with_reducible refine (HF.out _ 4 _ (by assumption) isW4 HF4.out).mono ?_); rintro e w1 ⟨rfl, hs⟩; have HS := Lib.hid hs; clear hs)
        | (go_at_call 13; (with_reducible refine (HW.out _ (by assumption)).mono ?_); rintro e w1 ⟨rfl, hs⟩; have HS := Lib.hid hs; clear hs))
      all_goals (go_ret; exact ⟨rfl, HS.out.2⟩)
end Go.Proofs.YtaeboneddndfkaaDoor
