/-
  What is proved here: PoolTwo and PoolRefuses return true and leave all memory that was there as it was; condition: the arguments are ones that the form reads.
-/
import Derived.Test.YtoenigbfcbillaaWorks
namespace Go.Proofs.Ytoenigbfcbillaa
open Go.RowKit

section
variable {w0 w : World} {p : Nat} {xs xs' : List E} {L : List Ob} {R : List RowS}
theorem filled_F (h : Fm w0 L R w) {l : List ByteArray} {v : Value} (hl : RdS w v l) (K : List ByteArray) (hK : K = cutN 60 40 l) :
    Calls Try.prog 21 #[v] w fun e w' => ∃ p, e = .returned (.tuple #[.pointer (some ⟨p, 0, none⟩), .int .i64 (ag K K.length : Nat)]) ∧ Fm w0 ((p, true, fl K K.length) :: L) R w' := by
  refine (filled_any l v w hl K hK).mono ?_
  rintro e w' ⟨p, rfl, hf⟩
  obtain ⟨u, hu⟩ := hf.fst
  exact ⟨p, rfl, h.born hf.2 hu⟩
theorem works_F (h : Fm w0 L R w) : Calls Try.prog 20 #[] w fun e w' => e = .returned (.bool true) ∧ Fm w0 L R w' :=
  (works_true w).mono fun _ _ ⟨h1, h2⟩ => ⟨h1, h.below h2⟩
end
def longS : ByteArray := ⟨#[97, 32, 116, 101, 120, 116, 32, 116, 104, 97, 116, 32, 105, 115, 32, 108, 111, 110, 103, 101, 114, 32, 116, 104, 97, 110, 32, 102, 111, 114, 116, 121, 32, 98, 121, 116, 101, 115, 44, 32, 115, 111, 32, 116, 104, 97, 116, 32, 105, 116, 32, 105, 115, 32, 110, 111, 110, 101, 32, 111, 102, 32, 116, 104, 101, 109]⟩
theorem fl_key {K : List ByteArray} : ∀ {j : Nat} {e : E}, e ∈ fl K j → ∃ i, i < j ∧ e.k = ky K i
  | 0, e, h => by simp [fl] at h
  | j + 1, e, h => by
    rcases put_mem h with rfl | h
    · exact ⟨j, by omega, rfl⟩
    · obtain ⟨i, hi, hk⟩ := fl_key h; exact ⟨i, by omega, hk⟩
theorem fl_num {K : List ByteArray} : ∀ {j : Nat} {e : E}, K.length ≤ 60 → j ≤ K.length → e ∈ fl K j → 0 ≤ e.n ∧ e.n ≤ 60
  | 0, e, _, _, h => by simp [fl] at h
  | j + 1, e, hK, hj, h => by
    rcases put_mem h with rfl | h
    · exact ⟨by show (0 : Int) ≤ (j : Int); omega, by show (j : Int) ≤ 60; omega⟩
    · exact fl_num hK (by omega) h
theorem cutN_size {M N : Nat} {l : List ByteArray} {i : Nat} (h : i < (cutN M N l).length) : (ky (cutN M N l) i).size ≤ N := by
  unfold ky
  rw [getD_at _ _ h]
  have : (cutN M N l)[i] ∈ cutN M N l := List.getElem_mem h
  unfold cutN at this
  obtain ⟨s, _, hs⟩ := List.mem_map.1 this
  have h2 := shN_size N s
  rw [hs] at h2
  exact h2
theorem perm3 {α : Type} {a b c : α} : [a, b, c].Perm [c, a, b] := (List.Perm.cons a (List.Perm.swap c b [])).trans (List.Perm.swap c a [b])
set_option maxRecDepth 20000 in
set_option maxHeartbeats 1000000 in
theorem poolTwo_walk (l : List ByteArray) (v : Value) (m : List ByteArray) (u : Value) (w : World) (h1 : RdS w v l) (h2 : RdS w u m) :
    Calls Try.prog 7 #[v, u] w fun e w' => e = .returned (.bool true) ∧ Below w.heap.size w w' := by
  obtain ⟨K, hK⟩ : ∃ K, K = cutN 60 40 l := ⟨_, rfl⟩
  obtain ⟨M, hM⟩ : ∃ M, M = cutN 60 40 m := ⟨_, rfl⟩
  have HMM := Lib.hid hM
  have HF1 := Lib.hid (filled_F (Fm.start (Below.refl w.heap.size w)) h1 K hK)
  have HF2 : Hid (∀ L R W, Hid (Fm w L R W) → Calls Try.prog 21 #[u] W fun e w' => ∃ p, e = .returned (.tuple #[.pointer (some ⟨p, 0, none⟩), .int .i64 (ag M M.length : Nat)]) ∧ Fm w ((p, true, fl M M.length) :: L) R w') := Lib.hid fun L R W H => filled_F H.out (h2.below H.out.2) M hM
  have hML : M.length ≤ 60 := by rw [hM, cutN_length]; omega
  have hKL : K.length ≤ 60 := by rw [hK, cutN_length]; omega
  have HXL : Hid ((fl M M.length).length ≤ 60) := Lib.hid (Nat.le_trans (fl_le M (by omega) (Nat.le_refl _)) hML)
  have HPN : Hid (putE (fl M M.length) longS 7 = 0 ∧ (put true (fl M M.length) longS 7).length = (fl M M.length).length + 1) := Lib.hid (by
    have hn : has (fl M M.length) longS = false := by
      cases hc : has (fl M M.length) longS with
      | false => rfl
      | true =>
        obtain ⟨e, he, hk⟩ := has_iff.1 hc
        obtain ⟨i, hi, hke⟩ := fl_key he
        rw [hM] at hi hke
        have h := cutN_size hi
        rw [← hke, hk] at h
        exact absurd h (by decide)
    obtain ⟨a1, a2⟩ := put_new (b := true) (n := 7) (by decide) hn
    rw [a1, a2]
    exact ⟨rfl, ins_length _ _ _⟩)
  have HYL : Hid ((fl K K.length).length ≤ 60) := Lib.hid (Nat.le_trans (fl_le K (by omega) (Nat.le_refl _)) hKL)
  clear h1 h2 hK hM hML hKL
  obtain ⟨y, hy⟩ : ∃ y, fl K K.length = y := ⟨_, rfl⟩
  obtain ⟨x, hx⟩ : ∃ x, fl M M.length = x := ⟨_, rfl⟩
  obtain ⟨x', hx'⟩ : ∃ x', put true x longS 7 = x' := ⟨_, rfl⟩
  obtain ⟨ya, hya⟩ : ∃ ya, ag K K.length = ya := ⟨_, rfl⟩
  obtain ⟨xa, hxa⟩ : ∃ xa, ag M M.length = xa := ⟨_, rfl⟩
  rw [hy, hya] at HF1
  rw [hx, hxa] at HF2
  rw [hx, hx'] at HPN
  rw [hy] at HYL
  rw [hx] at HXL
  have HX' := Lib.hid hx'
  have HXN : Hid (x'.length = x.length + 1) := Lib.hid HPN.out.2
  clear hy hx hx' hya hxa HMM
  have HPU : Hid (∀ L R W p, Hid (Fm w ((p, true, x) :: L) R W) → Calls Try.prog 14 #[.pointer (some ⟨p, 0, none⟩), .string longS, .int .i64 7] W fun e w' => e = .returned (.int .i64 0) ∧ Fm w ((p, true, x') :: L) R w') := Lib.hid fun L R W p H => putE_F H.out longS 7 (by have := HXL.out; omega) (by decide) HPN.out.1 HX'.out
  have HPU2 : Hid (∀ L R W p, Hid (Fm w ((p, true, x) :: L) R W) → Calls Try.prog 14 #[.pointer (some ⟨p, 0, none⟩), .string ⟨#[97, 32, 116, 101, 120, 116, 32, 116, 104, 97, 116, 32, 105, 115, 32, 108, 111, 110, 103, 101, 114, 32, 116, 104, 97, 110, 32, 102, 111, 114, 116, 121, 32, 98, 121, 116, 101, 115, 44, 32, 115, 111, 32, 116, 104, 97, 116, 32, 105, 116, 32, 105, 115, 32, 110, 111, 110, 101, 32, 111, 102, 32, 116, 104, 101, 109]⟩, .int .i64 7] W fun e w' => e = .returned (.int .i64 0) ∧ Fm w ((p, true, x') :: L) R w') := HPU
  have HEQ : Hid (∀ L (R : List RowS) W (a b : Value), Hid (Fm w L ((b, y.map E.k) :: R) W) → (a, y.map E.k) ∈ R → Calls Try.prog 18 #[b, a] W fun e w' => e = .returned (.bool true) ∧ Fm w L ((b, y.map E.k) :: R) w') := Lib.hid fun L R W a b H hm => by
    have := eq_F H.out (H.out.rd (List.mem_cons_self ..)) (H.out.rd (List.mem_cons_of_mem _ hm)) (by rw [List.length_map]; have := HYL.out; omega)
    simpa using this
  clear HPU
  obtain ⟨nx, hnx⟩ : ∃ nx, nx = x.length := ⟨_, rfl⟩
  have HNX := Lib.hid hnx
  have hnx1 : nx ≤ 60 := by rw [hnx]; exact HXL.out
  clear hnx
  go_enter Try.func7, Try.ntmps7
  go_wp2_with (go_at_call 21; (with_reducible refine HF1.out.mono ?_); rintro e w1 ⟨p, rfl, hs⟩; have HS := Lib.hid hs; clear hs HF1)
  go_wp2_with (go_at_call 16; (with_reducible refine (list_F HS.out).mono ?_); rintro e w2 ⟨A1, c1, rfl, -, -, hs⟩; have HS2 := Lib.hid hs; clear hs HS)
  go_wp2_with (go_at_call 21; (with_reducible refine (HF2.out _ _ _ HS2).mono ?_); rintro e w3 ⟨q, rfl, hs⟩; have HS3 := Lib.hid hs; clear hs HS2)
  go_wp2_with (go_at_call 21; (with_reducible refine (HF2.out _ _ _ HS3).mono ?_); rintro e w4 ⟨r, rfl, hs⟩; have HS4 := Lib.hid hs.swap; clear hs HS3 HF2)
  go_wp2_with (go_at_call 14; (with_reducible refine (HPU2.out _ _ _ _ HS4).mono ?_); rintro e w5 ⟨rfl, hs⟩; have HS5 := Lib.hid (hs.perm perm3); clear hs HS4 HPU2)
  go_wp2_with (go_at_call 16; (with_reducible refine (list_F HS5.out).mono ?_); rintro e w6 ⟨A2, c2, rfl, -, -, hs⟩; have HS6 := Lib.hid hs; clear hs HS5)
  go_wp2_with (go_at_call 18; (with_reducible refine (HEQ.out _ _ _ _ _ HS6 (List.mem_cons_self ..)).mono ?_); rintro e w7 ⟨rfl, hs⟩; have HS7 := Lib.hid (hs.perm (perm3.trans perm3)); have HS8 := Lib.hid (hs.perm perm3); clear hs HS6)
  have HLQ : Hid (Calls Try.prog 17 #[.pointer (some ⟨q, 0, none⟩)] w7 fun e w' => e = .returned (.int .i64 ((nx : Int) + 1)) ∧ w7 = w') := Lib.hid (by
    have := len_F HS7.out
    rw [HXN.out, ← HNX.out] at this
    simpa using this)
  have HLR : Hid (Calls Try.prog 17 #[.pointer (some ⟨r, 0, none⟩)] w7 fun e w' => e = .returned (.int .i64 (nx : Int)) ∧ w7 = w') := Lib.hid (by
    have := len_F HS8.out
    rw [← HNX.out] at this
    exact this)
  go_wp2_with (first
    | (go_at_call 17; (with_reducible refine HLQ.out.mono ?_); rintro e w8 ⟨rfl, rfl⟩)
    | (go_at_call 17; (with_reducible refine HLR.out.mono ?_); rintro e w8 ⟨rfl, rfl⟩)
    | (go_at_call 20; (with_reducible refine (works_F HS8.out).mono ?_); rintro e w9 ⟨rfl, hs⟩; have HS9 := Lib.hid hs; clear hs))
  go_ret
  exact ⟨rfl, HS9.out.2⟩
end Go.Proofs.Ytoenigbfcbillaa
