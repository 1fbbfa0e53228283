/-
  What is proved here: contracts of le.decode and le.encode; conditions: at most eight bytes, and (encode) the bytes that are written lie in one row that is not frozen.
-/
import Derived.Test.YtkcmpakcahemcaaMem
namespace Go.Proofs.Ytkcmpakcahemcaa
open Go.RowKit Le

theorem dec_round {xs : List UInt8} {k d : Nat} {x : UInt8} (hd : d = dec (xs.take k)) (hx : xs[k]? = some x) (hk : k < 8) :
    bits .or .u64 (d : Int) (IntKind.u64.wrap ((x.toNat : Int) * 2 ^ (8 * k))) = ((dec (xs.take (k + 1)) : Nat) : Int) := by
  have hkl : k < xs.length := (List.getElem?_eq_some_iff.1 hx).1
  have hl : (xs.take k).length = k := by rw [List.length_take]; omega
  have h1 := dec_lt (xs.take k)
  rw [hl, ← hd] at h1
  have h2 := x.toNat_lt
  have hp : 256 ^ k ≤ 256 ^ 7 := Nat.pow_le_pow_right (by decide) (by omega)
  have hp' : (256 : Nat) ^ 7 = 72057594037927936 := by decide
  have hm : x.toNat * 256 ^ k ≤ 255 * 256 ^ k := Nat.mul_le_mul_right _ (by omega)
  have e1 : ((x.toNat : Int) * 2 ^ (8 * k)) = ((x.toNat * 256 ^ k : Nat) : Int) := by
    rw [← pow256]; simp
  rw [e1, IntWalk.u64_in _ ⟨by omega, by omega⟩, u64_or_nat _ _ (by omega) (by omega), ← pow256, or_step d x.toNat k h1]
  have e2 : xs.take (k + 1) = xs.take k ++ [x] := by
    rw [List.take_add_one, hx]; rfl
  rw [e2, dec_snoc, hl, ← hd]

theorem splice_set {α : Type} (L : List α) (off : Nat) (cs : List α) (v : α) (h : off + cs.length < L.length) :
    (splice L off cs).set (off + cs.length) v = splice L off (cs ++ [v]) := by
  have hd : L.drop (off + cs.length) = L[off + cs.length] :: L.drop (off + cs.length + 1) := List.drop_eq_getElem_cons h
  have h1 : (L.take off).length = off := by rw [List.length_take]; omega
  unfold splice
  rw [List.set_append_right _ _ (by omega), h1, List.set_append_right _ _ (by omega), hd]
  simp [Nat.add_assoc]

theorem splice_nil {α : Type} (L : List α) (off : Nat) : splice L off [] = L := by simp [splice]

theorem byte_wrap (u k : Nat) : IntKind.u8.wrap ((u : Int) / 2 ^ (8 * k)) = (((UInt8.ofNat (u / 256 ^ k)).toNat : Nat) : Int) := by
  rw [IntKind.wrap_u8', UInt8.toNat_ofNat', ← pow256]
  have e : (2 : Nat) ^ 8 = 256 := by decide
  rw [e]
  simp

theorem enc_round (cur : List Value) (off k u : Nat) (h : off + k < cur.length) :
    (splice cur off (bv (enc k u))).set (off + k) (.int .u8 (IntKind.u8.wrap ((u : Int) / 2 ^ (8 * k)))) = splice cur off (bv (enc (k + 1) u)) := by
  have hl : (bv (enc k u)).length = k := by rw [bv_length, enc_length]
  have := splice_set cur off (bv (enc k u)) (.int .u8 (IntKind.u8.wrap ((u : Int) / 2 ^ (8 * k)))) (by rw [hl]; exact h)
  rw [hl] at this
  rw [this, enc_snoc, ← bv_append, byte_wrap]
  rfl

theorem only_step {w wr : World} {b j : Nat} {cur : List Value} (hg : wr.heap[b]? = some (.cells cur.toArray 5 (0, 0))) (ho : w.grownBy wr (some b)) (u : Value) :
    (wr.setCell ⟨b, j, none⟩ u).heap[b]? = some (.cells (cur.set j u).toArray 5 (0, 0)) ∧ w.grownBy (wr.setCell ⟨b, j, none⟩ u) (some b) := by
  constructor
  · have := heap_setCell_same wr b j cur.toArray 5 u hg
    rw [this]
    simp
  · exact ⟨ho.os, ho.tape, ho.output, by simpa using ho.size, fun k hk hne => (heap_setCell_other wr ⟨b, j, none⟩ k u (fun e => hne (by simp [e]))).trans (ho.block k hk hne)⟩

theorem encode_any (b off n c u : Nat) (cur : List Value) (w : World) (h8 : n ≤ 8) (hg : w.heap[b]? = some (.cells cur.toArray 5 (0, 0))) (hfit : off + n ≤ cur.length) :
    Calls Try.prog 62 #[.slice (some ⟨b, off, none⟩) n c, .int .u64 (u : Int)] w fun e w' =>
      e = .returned (.tuple #[]) ∧ w'.heap[b]? = some (.cells (splice cur off (bv (enc n u))).toArray 5 (0, 0)) ∧ w.grownBy w' (some b) := by
  have HG := Lib.hid hg
  clear hg
  go_enter Try.func62, Try.ntmps62
  go_wp2
  go_loopw [7] (fun i wr => ∃ k : Nat, k ≤ n ∧ i = .int .i64 k ∧ Hid (wr.heap[b]? = some (.cells (splice cur off (bv (enc k u))).toArray 5 (0, 0))) ∧ Hid (w.grownBy wr (some b))) (fun i _ => n - (intOf i).toNat)
  case atStart => exact ⟨0, Nat.zero_le _, rfl, by simpa [enc, bv, splice_nil, Hid] using HG, World.grownBy.refl w _⟩
  case round =>
    obtain ⟨k, hk, rfl, HR, HO⟩ := hrel
    by_cases hlt : k < n
    · have hlen : (splice cur off (bv (enc k u))).length = cur.length := length_splice _ _ _ (by rw [bv_length, enc_length]; omega)
      obtain ⟨x, hx⟩ : ∃ x, wr.cell? ⟨b, off + k, none⟩ = some x := ⟨_, by
        rw [cell_of_row wr b (off + k) _ 5 (0, 0) HR.out]
        simp only [List.getElem?_toArray]
        exact List.getElem?_eq_getElem (by rw [hlen]; omega)⟩
      have hfz : wr.frozen? ⟨b, off + k, none⟩ = false := frozen_of_row wr b (off + k) _ 5 HR.out
      clear hlen
      go_wp2
      go_roundw
      case rel =>
        have h2 := only_step (j := off + k) HR.out HO.out (.int .u8 (IntKind.u8.wrap ((u : Int) / 2 ^ (8 * k))))
        rw [enc_round cur off k u (by omega)] at h2
        exact ⟨k + 1, by omega, by go_num, h2.1, h2.2⟩
      case measure => simp [intOf]; omega
    · obtain rfl : k = n := by omega
      go_wp2
      go_end0
      exact ⟨rfl, HR.out, HO.out⟩
end Go.Proofs.Ytkcmpakcahemcaa
