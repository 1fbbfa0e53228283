/-
  What is proved here: FitGrows returns true; conditions: the contracts of fit.One and fit.All, the table of package tag, and arguments that the form reads.
-/
import Derived.Test.YtaeboneddndfkaaDoorFLstW
namespace Go.Proofs.YtaeboneddndfkaaDoor
open Go.RowKit Tg

set_option maxRecDepth 20000 in
set_option maxHeartbeats 1000000 in
theorem fitGrows_walk (H1 : OneOK) (H2 : AllOK) (n0 at0 idx0 : Int) (w : World) (bn : -9223372036854775808 ≤ n0 ∧ n0 ≤ 9223372036854775807) (ba : -9223372036854775808 ≤ at0 ∧ at0 ≤ 9223372036854775807) (bi : -9223372036854775808 ≤ idx0 ∧ idx0 ≤ 9223372036854775807) (hT : Tab w) :
    Calls Tryd.prog 6 #[.int .i64 n0, .int .i64 at0, .int .i64 idx0] w fun e w' => e = .returned (.bool true) ∧ Below w.heap.size w w' := by
  have HS := Lib.hid (WL.start hT)
  have HBA : Hid (∀ W, Hid (WL w W) → Calls Tryd.prog 17 #[.int .i64 at0, .int .i64 1048576] W fun e w' => e = .returned (.int .i64 (at0 % 1048576)) ∧ WL w w') := Lib.hid fun W h => bring_L h.out at0 _ ba (by omega) (by omega)
  have HBI : Hid (∀ W, Hid (WL w W) → Calls Tryd.prog 17 #[.int .i64 idx0, .int .i64 5001] W fun e w' => e = .returned (.int .i64 (idx0 % 5001)) ∧ WL w w') := Lib.hid fun W h => bring_L h.out idx0 _ bi (by omega) (by omega)
  obtain ⟨a, ha⟩ : ∃ a, at0 % 1048576 = a := ⟨_, rfl⟩
  obtain ⟨i, hi⟩ : ∃ i, idx0 % 5001 = i := ⟨_, rfl⟩
  have ea : 0 ≤ a ∧ a ≤ 1048576 := by have := mod_b at0 (n := 1048576) (by omega); omega
  have ei : 0 ≤ i ∧ i ≤ 5001 := by have := mod_b idx0 (n := 5001) (by omega); omega
  have HBN : Hid (∀ W, Hid (WL w W) → Calls Tryd.prog 17 #[.int .i64 n0, .int .i64 (1 + a)] W fun e w' => e = .returned (.int .i64 (n0 % (1 + a))) ∧ WL w w') := Lib.hid fun W h => bring_L h.out n0 _ bn (by omega) (by omega)
  obtain ⟨n, hn⟩ : ∃ n, n0 % (1 + a) = n := ⟨_, rfl⟩
  have en : 0 ≤ n ∧ n ≤ a := by have := mod_b n0 (n := 1 + a) (by omega); omega
  rw [hn] at HBN; rw [ha] at HBA; rw [hi] at HBI
  clear hn ha hi bn ba bi hT
  have HW : Hid (∀ W, Hid (WL w W) → Calls Tryd.prog 13 #[] W fun e w' => e = .returned (.bool true) ∧ WL w w') := Lib.hid fun W h => works_L H1 H2 h.out
  have HF : Hid (∀ W k, Hid (WL w W) → isW k → Hid (fitN n (1 + a) i k = true) → Calls Tryd.prog 19 #[.int .i64 n, .int .i64 (1 + a), .int .i64 i, .int .i64 k] W fun e w' => e = .returned (.bool true) ∧ WL w w') := Lib.hid fun W k h hk hb => fits_L h.out n (1 + a) i k (by omega) (by omega) (by omega) hk hb.out
  have HO : Hid (∀ W r, Hid (WL w W) → oneV ⟨5, 1, n⟩ (1 + a) i = r → Calls Tryd.prog 11 #[.agg #[.int .i64 5, .int .i64 1, .int .u64 n], .int .i64 (1 + a), .int .i64 i] W fun e w' => e = .returned (.int .i64 r) ∧ WL w w') := Lib.hid fun W r h hr => onet_L H1 h.out n (1 + a) i (by omega) (by omega) (by omega) hr
  have HI : Hid (∃ r, oneV ⟨5, 1, n⟩ (1 + a) i = r ∧ ((r = 1 ∧ Hid (fitN n (1 + a) i 1 = true) ∧ Hid (fitN n (1 + a) i 2 = true) ∧ Hid (fitN n (1 + a) i 4 = true) ∧ Hid (fitN n (1 + a) i 8 = true)) ∨ (r = 2 ∧ Hid (fitN n (1 + a) i 2 = true) ∧ Hid (fitN n (1 + a) i 4 = true) ∧ Hid (fitN n (1 + a) i 8 = true)) ∨ (r = 4 ∧ Hid (fitN n (1 + a) i 4 = true) ∧ Hid (fitN n (1 + a) i 8 = true)) ∨ (r = 8 ∧ Hid (fitN n (1 + a) i 8 = true)))) := Lib.hid (by
    refine ⟨_, rfl, ?_⟩
    rcases least_in (n := n) (at' := 1 + a) (idx := i) (by omega) (by omega) (by omega) with ⟨hr, h1, h2, h4, h8⟩ | ⟨hr, h1, h2, h4, h8⟩ | ⟨hr, h2, h4, h8⟩ | ⟨hr, h4, h8⟩
    · exact .inl ⟨hr, Lib.hid h1, Lib.hid h2, Lib.hid h4, Lib.hid h8⟩
    · exact .inr (.inl ⟨hr, Lib.hid h2, Lib.hid h4, Lib.hid h8⟩)
    · exact .inr (.inr (.inl ⟨hr, Lib.hid h4, Lib.hid h8⟩))
    · exact .inr (.inr (.inr ⟨hr, Lib.hid h8⟩)))
  obtain ⟨r, hr, hc⟩ := HI.out
  have HR := Lib.hid hr
  have HC := Lib.hid hc
  have hrb : 1 ≤ r ∧ r ≤ 8 := by rcases hc with ⟨h, _⟩ | ⟨h, _⟩ | ⟨h, _⟩ | ⟨h, _⟩ <;> omega
  clear hr hc HI
  go_enter Tryd.func6, Tryd.ntmps6
  go_wp2_with (first
    | (go_at_call 13; (with_reducible refine (HW.out _ (by assumption)).mono ?_); rintro e w1 ⟨rfl, hs⟩; have HS := Lib.hid hs; clear hs)
    | (go_at_call 17; (with_reducible refine (HBN.out _ (by assumption)).mono ?_); rintro e w1 ⟨rfl, hs⟩; have HS := Lib.hid hs; clear hs)
    | (go_at_call 17; (with_reducible refine (HBA.out _ (by assumption)).mono ?_); rintro e w1 ⟨rfl, hs⟩; have HS := Lib.hid hs; clear hs)
    | (go_at_call 17; (with_reducible refine (HBI.out _ (by assumption)).mono ?_); rintro e w1 ⟨rfl, hs⟩; have HS := Lib.hid hs; clear hs)
    | (go_at_call 18; (with_reducible refine (textt_L HS.out _).mono ?_); rintro e w1 ⟨rfl, hs⟩; have HS := Lib.hid hs; clear hs)
    | (go_at_call 11; (with_reducible refine (HO.out _ _ (by assumption) HR.out).mono ?_); rintro e w1 ⟨rfl, hs⟩; have HS := Lib.hid hs; clear hs))
  clear HBN HBA HBI HO
  go_loopw [7] (fun x wr => Hid (WL w wr) ∧ ((x = .int .i64 1 ∧ Hid (fitN n (1 + a) i 1 = true) ∧ Hid (fitN n (1 + a) i 2 = true) ∧ Hid (fitN n (1 + a) i 4 = true) ∧ Hid (fitN n (1 + a) i 8 = true)) ∨ (x = .int .i64 2 ∧ Hid (fitN n (1 + a) i 2 = true) ∧ Hid (fitN n (1 + a) i 4 = true) ∧ Hid (fitN n (1 + a) i 8 = true)) ∨ (x = .int .i64 4 ∧ Hid (fitN n (1 + a) i 4 = true) ∧ Hid (fitN n (1 + a) i 8 = true)) ∨ (x = .int .i64 8 ∧ Hid (fitN n (1 + a) i 8 = true)) ∨ x = .int .i64 16)) (fun x _ => (16 - intOf x).toNat)
  case atStart =>
    refine ⟨by assumption, ?_⟩
    rcases HC.out with ⟨e, h⟩ | ⟨e, h⟩ | ⟨e, h⟩ | ⟨e, h⟩
    · subst e; exact .inl ⟨rfl, h⟩
    · subst e; exact .inr (.inl ⟨rfl, h⟩)
    · subst e; exact .inr (.inr (.inl ⟨rfl, h⟩))
    · subst e; exact .inr (.inr (.inr (.inl ⟨rfl, h⟩)))
  case round =>
    obtain ⟨HS, ⟨rfl, F1, F2, F4, F8⟩ | ⟨rfl, F2, F4, F8⟩ | ⟨rfl, F4, F8⟩ | ⟨rfl, F8⟩ | rfl⟩ := hrel
    · go_wp2_with (go_at_call 19; (with_reducible refine (HF.out _ _ (by assumption) isW1 F1).mono ?_); rintro e w1 ⟨rfl, hs⟩; have HS := Lib.hid hs; clear hs)
      go_roundw
      case rel => exact ⟨HS, .inr (.inl ⟨rfl, F2, F4, F8⟩)⟩
      case measure => simp [intOf]
    · go_wp2_with (go_at_call 19; (with_reducible refine (HF.out _ _ (by assumption) isW2 F2).mono ?_); rintro e w1 ⟨rfl, hs⟩; have HS := Lib.hid hs; clear hs)
      go_roundw
      case rel => exact ⟨HS, .inr (.inr (.inl ⟨rfl, F4, F8⟩))⟩
      case measure => simp [intOf]
    · go_wp2_with (go_at_call 19; (with_reducible refine (HF.out _ _ (by assumption) isW4 F4).mono ?_); rintro e w1 ⟨rfl, hs⟩; have HS := Lib.hid hs; clear hs)
      go_roundw
      case rel => exact ⟨HS, .inr (.inr (.inr (.inl ⟨rfl, F8⟩)))⟩
      case measure => simp [intOf]
    · go_wp2_with (go_at_call 19; (with_reducible refine (HF.out _ _ (by assumption) isW8 F8).mono ?_); rintro e w1 ⟨rfl, hs⟩; have HS := Lib.hid hs; clear hs)
      go_roundw
      case rel => exact ⟨HS, .inr (.inr (.inr (.inr rfl)))⟩
      case measure => simp [intOf]
    · go_wp2
      go_ret
      exact ⟨rfl, HS.out.2⟩
end Go.Proofs.YtaeboneddndfkaaDoor
