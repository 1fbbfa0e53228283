/-
  What is proved here: the contract of the reference's Text; conditions: as it says.
-/
import Derived.Test.YtkcmpakcahemcaaRef2
import Derived.Lib.ConvBytes
namespace Go.Proofs.Ytkcmpakcahemcaa
open Go.RowKit Le

section
variable {B p m : Nat} {v : Value} {xs : List UInt8} {er : Int} {w : World}
theorem bw_below (w : World) (e : TypeId) (s : ByteArray) : Below w.heap.size w (Lib.bytesWorld w e s) :=
  ⟨rfl, rfl, rfl, by rw [Lib.bytesWorld_size]; omega, fun k hk => Lib.bytesWorld_at_old w e s k hk⟩
theorem bw_rds (w : World) (s : ByteArray) (c : Nat) (hc : s.size ≤ c) : Rds (Lib.bytesWorld w 5 s) (some ⟨w.heap.size, 0, none⟩) s.size c s.data.toList := by
  refine ⟨(size_dt s).symm, hc, fun _ => ⟨_, _, rfl, by rw [Lib.bytesWorld_size]; omega, fun j x hx => ?_⟩⟩
  have hj : j < s.data.toList.length := (List.getElem?_eq_some_iff.1 hx).1
  rw [Nat.zero_add, Lib.bytesWorld_cell w _ s j (by rw [size_dt]; exact hj)]
  simp [List.getD, hx]
set_option maxRecDepth 20000 in
theorem rText_any (h : Rf B w p m v xs er) {sv : Value} {L : List ByteArray} (hs : SR w sv L) (hL : L.length ≤ 1000) (hc : (cat L).length ≤ 2000000) :
    Calls Try.prog 31 #[.pointer (some ⟨p, 0, none⟩), sv] w (RP B w p m v (addS m (xs, er) (cat L))) := by
  obtain ⟨A, c, rfl, hcap, hA⟩ := hs
  obtain ⟨l, hl⟩ : ∃ l, l = L.length := ⟨_, rfl⟩
  have HPUT : Hid (∀ w1, Below w.heap.size w w1 → ∀ A' n' c', Rds w1 A' n' c' (cat L) → Calls Try.prog 50 #[.pointer (some ⟨p, 0, none⟩), .slice A' n' c'] w1 (RP B w p m v (addS m (xs, er) (cat L)))) :=
    Lib.hid fun w1 hb A' n' c' hrd => (rPut_any (h.below hb) hrd).mono fun e w' hh => RP.of (Ch.below _ _ hb) hh
  obtain ⟨s, hss⟩ : ∃ s, addS m (xs, er) (cat L) = s := ⟨_, rfl⟩
  rw [hss] at HPUT ⊢
  have HA := Lib.hid hA
  have HL := Lib.hid hl
  have HC := Lib.hid hc
  rw [← hl] at hcap hL ⊢
  clear h hss hA hl hc
  go_enter Try.func31, Try.ntmps31
  go_wp2
  go_loop [4, 5] (fun sv i => ∃ (k : Nat) (t : ByteArray), k ≤ l ∧ i = .int .i64 k ∧ sv = .string t ∧ t.size ≤ 2000000 ∧ Hid (t.data.toList = cat (L.take k))) (fun _ i => l - (intOf i).toNat)
  case atStart => exact ⟨0, ⟨#[]⟩, Nat.zero_le _, rfl, rfl, by decide, rfl⟩
  case round =>
    obtain ⟨k, t, hk, rfl, rfl, hts, HT⟩ := hrel
    by_cases hlt : k < l
    · obtain ⟨b, off, rfl, hbl, hcell⟩ := HA.out (by have := HL.out; omega)
      obtain ⟨y, hy⟩ : ∃ y, L[k]? = some y := ⟨_, List.getElem?_eq_getElem (by have := HL.out; omega)⟩
      have hce := hcell k y hy
      have h1 := cat_take hy
      have h2 := cat_le L (k + 1)
      have h3 : (t ++ y).data.toList = cat (L.take (k + 1)) := by rw [h1, ← HT.out]; simp
      have h4 : (t ++ y).size ≤ 2000000 := by rw [size_dt, h3]; have := HC.out; omega
      have h5 : t.size + y.size ≤ 2000000 := by rw [ByteArray.size_append] at h4; exact h4
      have H3 := Lib.hid h3
      clear h1 h2 h3 hcell hy
      go_wp2
      go_round
      case rel => exact ⟨k + 1, t ++ y, by omega, by go_num, rfl, h4, H3⟩
      case measure => simp [intOf]; omega
    · obtain rfl : k = l := by omega
      have HE : Hid (t.data.toList = cat L) := Lib.hid (by rw [HT.out, HL.out, List.take_length])
      have HCV := Lib.run_convert_string_bytes (P := Try.prog) w 9 32 5 t Try.underlying9 Try.underlying32 Try.underlying5
      have hgc : t.size ≤ grownCap w t.size 0 5 := grownCap_ge _ _ _ _
      have HRD : Hid (Rds (Lib.bytesWorld w 5 t) (some ⟨w.heap.size, 0, none⟩) t.size (grownCap w t.size 0 5) (cat L)) := Lib.hid (by rw [← HE.out]; exact bw_rds w t _ hgc)
      have HBW := Lib.hid (bw_below w 5 t)
      clear hgc
      go_wp2_with (go_at_call 50; refine (HPUT.out _ HBW.out _ _ _ HRD.out).mono ?_; rintro e w3 ⟨v', rfl, hbf, hch⟩; have HB3 := Lib.hid hbf; have HC3 := Lib.hid hch; clear hbf hch)
      go_end0
      exact ⟨_, rfl, HB3.out, HC3.out⟩
end
end Go.Proofs.Ytkcmpakcahemcaa
