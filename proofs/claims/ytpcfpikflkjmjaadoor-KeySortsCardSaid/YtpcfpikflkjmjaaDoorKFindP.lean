/-
  What is proved here: a contract of key.Find: it answers what the binary search of the chapter answers; condition: the list is one that the form reads.
-/
import Derived.Test.YtpcfpikflkjmjaaDoorKBase
namespace Go.Proofs.YtpcfpikflkjmjaaDoor
open Go.RowKit

set_option maxRecDepth 100000 in
set_option maxHeartbeats 2000000 in
theorem find_any (l : List ByteArray) (v : Value) (k : ByteArray) (w : World) (hl : RdS w v l) (hn : l.length ≤ 100000) :
    Calls Tryd.prog 64 #[v, .string k] w fun e w' => e = .returned (.tuple #[.int .i64 ((fdN l k : Nat) : Int), .bool (fdB l k)]) ∧ Below w.heap.size w w' := by
  obtain ⟨A, n, c, rfl, hln, hnc, hc, hsz, hA⟩ := hl.at
  have hn1 : (n : Int) ≤ 100000 := by omega
  obtain ⟨R, hR⟩ : ∃ R, bsE l k = R := ⟨_, rfl⟩
  have HS : Hid (BS l k 0 n R) := Lib.hid (by rw [← hR, ← hln]; exact BS.start l k)
  have HR := Lib.hid hR
  have HLS : Hid (∀ W x, x.size ≤ maxLen → Calls Tryd.prog 25 #[.string x, .string k] W fun e w' => e = .returned (.bool (lt x k)) ∧ Below W.heap.size W w') := Lib.hid fun W x _ => (keyLess_any x k W).mono fun e w' h => ⟨h.1, by rw [h.2]; exact Below.refl _ _⟩
  clear hR
  go_enter Tryd.func64, Tryd.ntmps64
  go_wp2
  go_step3
  go_wp2
  go_step3
  go_wp2
  go_loopw [6, 7] (fun a b wr => ∃ lo hi : Nat, lo ≤ hi ∧ hi ≤ n ∧ a = .int .i64 (lo : Int) ∧ b = .int .i64 (hi : Int) ∧ Hid (BS l k lo hi R) ∧ Hid (Below w.heap.size w wr)) (fun a b _ => (intOf b).toNat - (intOf a).toNat)
  case atStart => exact ⟨0, n, Nat.zero_le _, Nat.le_refl _, rfl, rfl, HS, Lib.hid (Below.refl _ _)⟩
  case round =>
    obtain ⟨lo, hi, hlh, hhn, rfl, rfl, HB, HW⟩ := hrel
    by_cases h1 : lo < hi
    · obtain ⟨b1, off1, rfl, _, hc1⟩ := hA (by omega)
      obtain ⟨m, hm⟩ : ∃ m, lo + (hi - lo) / 2 = m := ⟨_, rfl⟩
      obtain ⟨x, hx⟩ : ∃ x, l[m]? = some x := ⟨_, List.getElem?_eq_getElem (by omega)⟩
      have hcell := hc1 wr HW.out m x hx
      have hxs := hsz x (List.mem_of_getElem? hx)
      have HST := Lib.hid (HB.out.step h1 (by rw [hm]; exact hx))
      rw [hm] at HST
      have hmi := mid_int hlh hm
      have hmr : lo ≤ m ∧ m < hi := by omega
      obtain ⟨β, hβ⟩ : ∃ β, lt x k = β := ⟨_, rfl⟩
      have hcall := HLS.out wr x hxs
      rw [hβ] at hcall HST
      clear hc1 hx hm hβ hA
      cases β with
      | true =>
        have HN := Lib.hid (HST.out.1 rfl)
        go_wp2_with (go_at_call 25; refine hcall.mono ?_; clear hcall; rintro e w2 ⟨rfl, hb2⟩)
        go_roundw
        case rel => exact ⟨m + 1, hi, by omega, by omega, by simp, rfl, HN, Lib.hid (HW.out.trans (hb2.mono HW.out.size))⟩
        case measure => simp [intOf]; omega
      | false =>
        have HN := Lib.hid (HST.out.2 rfl)
        go_wp2_with (go_at_call 25; refine hcall.mono ?_; clear hcall; rintro e w2 ⟨rfl, hb2⟩)
        go_roundw
        case rel => exact ⟨lo, m, by omega, by omega, rfl, rfl, HN, Lib.hid (HW.out.trans (hb2.mono HW.out.size))⟩
        case measure => simp [intOf]; omega
    · have hRl := HB.out.stop h1
      subst hRl
      by_cases h2 : R < n
      · obtain ⟨b1, off1, rfl, _, hc1⟩ := hA (by omega)
        obtain ⟨x, hx⟩ : ∃ x, l[R]? = some x := ⟨_, List.getElem?_eq_getElem (by omega)⟩
        have hcell := hc1 wr HW.out R x hx
        have hf := fd_at HR.out hx
        clear hc1 hx
        by_cases hxk : x = k
        · have hT := strEq_true hxk
          obtain ⟨f1, f2⟩ := hf.1 hxk
          have HF1 := Lib.hid f1
          have HF2 := Lib.hid f2
          clear hf hxk f1 f2
          go_wp2_with fail
          change bodyPost Tryd.prog Tryd.f64 (fun e w' => e = .returned (.tuple #[.int .i64 ((fdN l k : Nat) : Int), .bool (fdB l k)]) ∧ Below w.heap.size w w') Exit.ret _ _
          go_ret2
          exact ⟨by rw [HF1.out, HF2.out]; rfl, HW.out⟩
        · have hF := strEq_false hxk
          obtain ⟨f1, f2⟩ := hf.2 hxk
          have HF1 := Lib.hid f1
          have HF2 := Lib.hid f2
          clear hf hxk f1 f2
          go_wp2_with fail
          change bodyPost Tryd.prog Tryd.f64 (fun e w' => e = .returned (.tuple #[.int .i64 ((fdN l k : Nat) : Int), .bool (fdB l k)]) ∧ Below w.heap.size w w') Exit.ret _ _
          go_ret2
          exact ⟨by rw [HF1.out, HF2.out]; rfl, HW.out⟩
      · obtain ⟨f1, f2⟩ := fd_end HR.out (by omega)
        have HF1 := Lib.hid f1
        have HF2 := Lib.hid f2
        clear f1 f2
        go_wp2_with fail
        change bodyPost Tryd.prog Tryd.f64 (fun e w' => e = .returned (.tuple #[.int .i64 ((fdN l k : Nat) : Int), .bool (fdB l k)]) ∧ Below w.heap.size w w') Exit.ret _ _
        go_ret2
        exact ⟨by rw [HF1.out, HF2.out]; rfl, HW.out⟩
end Go.Proofs.YtpcfpikflkjmjaaDoor
