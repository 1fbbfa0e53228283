/-
  What is proved here: the contract of b64.Put; condition: at most 10000 bytes.
-/
import Derived.Test.YtddgmpmfdgfcdaaPutG
namespace Go.Proofs.Ytddgmpmfdgfcdaa
open Go.RowKit Bs

theorem bd_nil {B b : Nat} {w : World} (h : Lib.BuilderAt 40 5 B b (.pointer (some ⟨b, 0, none⟩)) [] w) : Bd B b [] w := h
theorem Rds.pre {w : World} {A : Option Addr} {n c : Nat} {xs : List UInt8} (h : Rds w A n c xs) {m : Nat} (hm : m ≤ n) : Rds w A m c (xs.take m) := by
  refine ⟨by rw [List.length_take, h.1]; omega, Nat.le_trans hm h.2.1, fun hp => ?_⟩
  obtain ⟨b, off, rfl, hlt, hc⟩ := h.2.2 (by omega)
  refine ⟨b, off, rfl, hlt, fun j x hx => hc j x ?_⟩
  rw [List.getElem?_take] at hx
  split at hx
  · exact hx
  · cases hx
theorem Rds.suf {w : World} {b off n c : Nat} {xs : List UInt8} (h : Rds w (some ⟨b, off, none⟩) n c xs) {m : Nat} (hm : m ≤ n) : Rds w (some ⟨b, off + m, none⟩) (n - m) (c - m) (xs.drop m) := by
  have h2 := h.2.1
  have := h.cut (lo := m) (m := n - m) (c' := c - m) (by omega) (by omega)
  rwa [List.take_of_length_le (by rw [List.length_drop, h.1]; omega)] at this
theorem Rds.suf' {w : World} {b off n c : Nat} {xs : List UInt8} (h : Rds w (some ⟨b, off, none⟩) n c xs) {m : Nat} (hm : m ≤ n) : Rds w (if c = m then some ⟨b, off, none⟩ else some ⟨b, off + m, none⟩) (n - m) (c - m) (xs.drop m) := by
  have h2 := h.2.1
  split
  · have e : n - m = 0 := by omega
    rw [e]
    exact ⟨by rw [List.length_drop, h.1]; exact e, Nat.zero_le _, fun h => absurd h (by omega)⟩
  · exact h.suf hm
theorem Rds.nil {w : World} {A : Option Addr} {c : Nat} {xs : List UInt8} (h : xs = []) : Rds w A 0 c xs := by subst h; exact ⟨rfl, Nat.zero_le _, fun h => absurd h (by omega)⟩
theorem enc_step (xs : List UInt8) (k : Nat) (h : 3 * k ≤ xs.length) : enc (xs.take (3 * k)) ++ enc ((xs.drop (3 * k)).take 3) = enc (xs.take (3 * (k + 1))) := by
  rw [← enc_app _ _ (by rw [List.length_take]; omega), ← List.take_add, show 3 * k + 3 = 3 * (k + 1) by omega]
set_option maxHeartbeats 4000000 in
set_option maxRecDepth 100000 in
theorem put_any (A : Option Addr) (n c : Nat) (xs : List UInt8) (w : World) (hr : Rds w A n c xs) (hn : n ≤ 10000) (hc : c ≤ maxLen) :
    Calls Try.prog 12 #[.slice A n c] w fun e w' => e = .returned (.string (str (enc xs))) ∧ Below w.heap.size w w' := by
  unfold maxLen at hc
  have hnc := hr.2.1
  have HR := Lib.hid hr
  obtain ⟨G, hGe⟩ : ∃ G, (n + 2) / 3 = G := ⟨_, rfl⟩
  have HG := Lib.hid (show ((n : Int) + 3 - 1) / 3 = (G : Int) by omega)
  have HG4 := Lib.hid (show (((G : Int)) * 4) = ((G * 4 : Nat) : Int) by omega)
  have HGB := Lib.hid (show G * 4 ≤ 281474976710656 by omega)
  clear hr
  go_enter Try.func12, Try.ntmps12
  go_wp2_with (go_at_call 23; rw [HG.out, HG4.out]; go_loud (refine (Try.Builder_Grow_fresh w.heap.size w.heap.size (G * 4) _ (Nat.le_refl _) (heap_alloc_new w _) (by simp) HGB.out).mono ?_); rintro e w1 ⟨rfl, hbd, hbl⟩; have HBD := Lib.hid (bd_nil hbd); have HBL := Lib.hid hbl; clear hbd hbl)
  have hbw : Below w.heap.size w w1 := ((Below.refl _ w).alloc (Nat.le_refl _) _).trans HBL.out
  have HR0 := HR
  have HB1 := HBD
  have HW1 := Lib.hid hbw
  clear hbw HR HGB HG4 HBL
  go_wp2
  go_loopw [0, 15] (fun v i wr => ∃ (k n' c' : Nat) (A' : Option Addr), k ≤ G ∧ i = .int .i64 k ∧ v = .slice A' n' c' ∧ n' ≤ c' ∧ c' ≤ 9223372036854775807 ∧ Hid (n' + 3 * k = n ∨ (k = G ∧ n' = 0)) ∧ Hid (Rds w A' n' c' (xs.drop (3 * k))) ∧ Hid (Bd w.heap.size w.heap.size (enc (xs.take (3 * k))) wr) ∧ Hid (Below w.heap.size w wr)) (fun _ i _ => G + 1 - (intOf i).toNat)
  case atStart => exact ⟨0, n, c, A, by omega, rfl, rfl, hnc, by omega, .inl (by omega), by simpa [Hid] using HR0, by simpa [Hid, enc] using HB1, HW1⟩
  case round =>
    obtain ⟨k, n', c', A', hk, rfl, rfl, hnc', hcm, HN, HR', HD, HW⟩ := hrel
    by_cases hlt : k < G
    · have hn' : 0 < n' := by have := HN.out; omega
      have hxl : xs.length = n := by have h1 := HR0.out.1; exact h1
      have h3k : 3 * k ≤ n ∧ n' + 3 * k = n := by have := HN.out; omega
      have hel : (enc (xs.take (3 * k))).length ≤ 60000 := by rw [enc_len, List.length_take]; omega
      have HEL := Lib.hid hel
      have HXL := Lib.hid hxl
      have HST := Lib.hid (enc_step xs k (by omega))
      obtain ⟨g, off, rfl, _⟩ := HR'.out.2.2 hn'
      have HBW := Lib.hid (HW.out.size)
      clear hel hxl
      by_cases h3 : 3 ≤ n'
      · have hmin : min (3 : Int) (n' : Int) = 3 := by omega
        have HPRE := Lib.hid ((HR'.out.below HW.out).pre h3)
        have HSUF := Lib.hid (HR'.out.suf' h3)
        go_wp2_with (go_at_call 24; (with_reducible refine (putGroup_any w.heap.size w.heap.size _ _ 3 c' _ wr HD.out HEL.out HBW.out HPRE.out (by omega) (by omega)).mono ?_); rintro e w2 ⟨rfl, hd, hb⟩; have HD2 := Lib.hid hd; have HB2 := Lib.hid hb; clear hd hb)
        go_roundw
        case rel =>
          refine ⟨k + 1, n' - 3, c' - 3, _, by omega, by go_num, rfl, by omega, by omega, ?_, ?_, ?_, HW.out.trans HB2.out⟩
          · exact .inl (by omega)
          · have := HSUF.out
            rwa [List.drop_drop, show 3 * k + 3 = 3 * (k + 1) by omega] at this
          · have := HD2.out
            rwa [HST.out] at this
        case measure => simp [intOf]; omega
      · have hmin : min (3 : Int) (n' : Int) = n' := by omega
        have hkG : k + 1 = G := by omega
        have HPRE := Lib.hid (HR'.out.below HW.out)
        go_wp2_with (go_at_call 24; (with_reducible refine (putGroup_any w.heap.size w.heap.size _ _ n' c' _ wr HD.out HEL.out HBW.out HPRE.out (by omega) (by omega)).mono ?_); rintro e w2 ⟨rfl, hd, hb⟩; have HD2 := Lib.hid hd; have HB2 := Lib.hid hb; clear hd hb)
        go_roundw
        case rel =>
          refine ⟨k + 1, 0, c' - n', _, by omega, by go_num, rfl, by omega, by omega, ?_, ?_, ?_, HW.out.trans HB2.out⟩
          · exact .inr ⟨by omega, rfl⟩
          · exact Rds.nil (List.drop_eq_nil_of_le (by rw [HXL.out]; omega))
          · have := HD2.out
            rwa [← HST.out, List.take_of_length_le (i := 3) (by rw [List.length_drop, HXL.out]; omega)]
        case measure => simp [intOf]; omega
    · have hkG : k = G := by omega
      subst hkG
      have hxl : xs.length = n := by have h1 := HR0.out.1; exact h1
      have hd := HD.out
      rw [List.take_of_length_le (by omega)] at hd
      have HD2 := Lib.hid hd
      have HBW := Lib.hid (HW.out.size)
      clear hd hxl hlt
      go_wp2_with (go_at_call 25; go_loud (refine (Try.Builder_String_any w.heap.size w.heap.size (enc xs) wr (.inr HD2.out) HBW.out).mono ?_); rintro e w2 ⟨rfl, hb⟩; have HB2 := Lib.hid hb; clear hb)
      go_ret
      exact ⟨rfl, HW.out.trans HB2.out⟩
end Go.Proofs.Ytddgmpmfdgfcdaa
