/-
  What is proved here: the contract of le.Set: its results are those that the specification of layer 1 gives, in new memory; condition: the slice has at most 60000 bytes, and the integers are in the range of their types.
-/
import Derived.Test.YtfodocahneoipaaPut
import Derived.StillTailTactics
namespace Go.Proofs.Ytfodocahneoipaa
open Go.RowKit Le

theorem set1_no (p : Value) (A : Option Addr) (m c gu u : Nat) (p2 p3 p4 p5 : Value) (w : World) (hp : p = .slice A m c) (hw : isW (m : Int) = true) (hf : fitsU u m = false) (hu : w.cell? ⟨gu, 0, none⟩ = some (.int .u64 (u : Int))) :
    Calls Try.prog 41 #[p, .pointer (some ⟨gu, 0, none⟩), p2, p3, p4, p5] w fun e w' => e = .returned (.int .i64 10) ∧ w = w' := by
  subst hp
  have HW := Lib.hid hw
  have HF := Lib.hid hf
  clear hw hf
  go_enter Try.func41, Try.ntmps41
  go_wp2_with (go_at_call 34; refine (fits_any _ _ _ HW.out (by omega)).mono ?_; rintro e w' ⟨rfl, rfl⟩; rw [HF.out])
  go_ret
  exact ⟨rfl, rfl⟩

theorem Rds.setCell {w : World} {A : Option Addr} {n c : Nat} {xs : List UInt8} (h : Rds w A n c xs) {p : Addr} (hA : ∀ b off, A = some ⟨b, off, none⟩ → 0 < n → b ≠ p.block) (u : Value) : Rds (w.setCell p u) A n c xs := by
  refine ⟨h.1, h.2.1, fun hn => ?_⟩
  obtain ⟨b, off, rfl, hlt, hc⟩ := h.2.2 hn
  refine ⟨b, off, rfl, by simpa using hlt, fun j x hx => ?_⟩
  exact (World.cell?_of_block (heap_setCell_other w p b u (hA b off rfl hn))).trans (hc j x hx)

theorem set1_yes (p : Value) (Ap A : Option Addr) (m cp n c a gu gb gc ga gw u : Nat) (y : Value) (xs : List UInt8) (w : World) (hp : p = .slice Ap m cp) (hw : isW (m : Int) = true) (hf : fitsU u m = true)
    (hr : Rds w A n c xs) (hn : n ≤ 60000) (ham : a + m ≤ n)
    (hu : w.cell? ⟨gu, 0, none⟩ = some (.int .u64 (u : Int))) (hb : w.cell? ⟨gb, 0, none⟩ = some (.slice A n c)) (hc : w.cell? ⟨gc, 0, none⟩ = some y) (hcf : w.frozen? ⟨gc, 0, none⟩ = false)
    (ha : w.cell? ⟨ga, 0, none⟩ = some (.int .i64 (a : Int))) (hgw : w.cell? ⟨gw, 0, none⟩ = some (.int .i64 (m : Int)))
    (hne : gu ≠ gc ∧ gb ≠ gc ∧ ga ≠ gc ∧ gw ≠ gc) (hlt : gu < w.heap.size ∧ gb < w.heap.size ∧ gc < w.heap.size ∧ ga < w.heap.size ∧ gw < w.heap.size)
    (hA : ∀ b off, A = some ⟨b, off, none⟩ → 0 < n → b ≠ gc) :
    Calls Try.prog 41 #[p, .pointer (some ⟨gu, 0, none⟩), .pointer (some ⟨gb, 0, none⟩), .pointer (some ⟨gc, 0, none⟩), .pointer (some ⟨ga, 0, none⟩), .pointer (some ⟨gw, 0, none⟩)] w fun e w' =>
      e = .returned (.int .i64 0) ∧ ∃ G, w.heap.size ≤ G ∧ w'.cell? ⟨gc, 0, none⟩ = some (.slice (some ⟨G, 0, none⟩) n n) ∧ w'.heap[G]? = some (.cells (splice (bv xs) a (bv (enc m u))).toArray 5 (0, 0)) ∧ w.grownBy w' (some gc) := by
  subst hp
  have hmk := run_mk n (n : Int) rfl (by omega) w
  obtain ⟨Z, hZ⟩ : ∃ Z, zeros n = Z := ⟨_, rfl⟩
  have hZl : Z.length = n := by rw [← hZ, zeros_length]
  rw [hZ] at hmk
  have hm := isW_nat hw
  have hsz : (w.setCell ⟨gc, 0, none⟩ (.slice (some ⟨w.heap.size, 0, none⟩) n n)).heap.size = w.heap.size := by simp
  have hnew := heap_alloc_new (w.setCell ⟨gc, 0, none⟩ (.slice (some ⟨w.heap.size, 0, none⟩) n n)) (.cells Z.toArray 5)
  rw [hsz] at hnew
  obtain ⟨w2, hcp, hg2, ho2⟩ := run_cp (N := n) (C := n) hnew ((hr.setCell (p := ⟨gc, 0, none⟩) hA (.slice (some ⟨w.heap.size, 0, none⟩) n n)).alloc (.cells Z.toArray 5)) (by omega) (by omega)
  have hold : ∀ k, k < w.heap.size → w2.heap[k]? = (w.setCell ⟨gc, 0, none⟩ (.slice (some ⟨w.heap.size, 0, none⟩) n n)).heap[k]? := fun k hk =>
    (ho2.block k (by simp; omega) (fun e => by injection e with e; omega)).trans (Below.heap_alloc _ _ k (by rw [hsz]; exact hk))
  have hcell : ∀ k v, k < w.heap.size → k ≠ gc → w.cell? ⟨k, 0, none⟩ = some v → w2.cell? ⟨k, 0, none⟩ = some v := fun k v hk hkc hv =>
    (World.cell?_of_block (w := w) (a := ⟨k, 0, none⟩) ((hold k hk).trans (heap_setCell_other w ⟨gc, 0, none⟩ k _ hkc))).trans hv
  have hu2 := hcell gu _ hlt.1 hne.1 hu
  have ha2 := hcell ga _ hlt.2.2.2.1 hne.2.2.1 ha
  have hw2 := hcell gw _ hlt.2.2.2.2 hne.2.2.2 hgw
  have hc2 : w2.cell? ⟨gc, 0, none⟩ = some (.slice (some ⟨w.heap.size, 0, none⟩) n n) := by
    rw [World.cell?_of_block (w := w.setCell ⟨gc, 0, none⟩ (.slice (some ⟨w.heap.size, 0, none⟩) n n)) (a := ⟨gc, 0, none⟩) (hold gc hlt.2.2.1)]
    exact World.cell?_setCell_same w _ _ hc
  have hon : w.grownBy w2 (some gc) := ⟨ho2.os, ho2.tape, ho2.output, by have := ho2.size; simp at this; omega, fun k hk hkc => (hold k hk).trans (heap_setCell_other w ⟨gc, 0, none⟩ k _ (fun e => hkc (by rw [e])))⟩
  have hx : (bv xs).length = n := by rw [bv_length, hr.1]
  have hsp : splice Z 0 (bv xs) = bv xs := by
    unfold splice
    have : Z.drop (0 + (bv xs).length) = [] := List.drop_eq_nil_of_le (by omega)
    rw [this]; simp
  rw [hsp] at hg2
  have henc := encode_any w.heap.size a m (n - a) u (bv xs) w2.drew hm.2 hg2 (by omega)
  have HW := Lib.hid hw
  have HF := Lib.hid hf
  have HE := Lib.hid henc
  have HON := Lib.hid hon
  have HC2 := Lib.hid hc2
  have hlg : gc < w.heap.size := hlt.2.2.1
  have hwne : gc ≠ w.heap.size := by omega
  clear hw hf hZ hZl hr hsz hnew hg2 ho2 hold hcell henc hon hsp hx hA
  go_enter Try.func41, Try.ntmps41
  go_wp2_with (go_at_call 34; refine (fits_any _ _ _ HW.out (by omega)).mono ?_; rintro e w' ⟨rfl, rfl⟩; rw [HF.out])
  have hs1 : IntKind.i64.wrap ((a : Int) + (m : Int)) = (a : Int) + (m : Int) := IntWalk.i64_in _ (by omega)
  have hs2 : (0 : Int) ≤ (a : Int) + (m : Int) := by omega
  have hs3 : ((a : Int) + (m : Int)).toNat = a + m := by omega
  have hs4 : (a : Int) ≤ (a : Int) + (m : Int) := by omega
  have hs5 : (a : Int) + (m : Int) ≤ (n : Int) := by omega
  have hs6 : ¬ n = a := by omega
  go_still_tail 7, (by kernel_rfl)
  change wpList _ _ _ _ _ w2.drew
  clear hs1 hs2 hs3 hs4 hs5 hs6
  go_wp2_with (go_at_call 42; refine HE.out.mono ?_; rintro e w3 ⟨rfl, hg3, ho3⟩; have HG3 := Lib.hid hg3; have HO3 := Lib.hid ho3; clear hg3 ho3)
  go_ret
  have ho3 := HO3.out
  have hon := HON.out
  refine ⟨rfl, w.heap.size, Nat.le_refl _, ?_, HG3.out, ⟨ho3.os.trans hon.os, ho3.tape.trans hon.tape, ho3.output.trans hon.output, Nat.le_trans hon.size ho3.size, fun k hk hkc => (ho3.block k (Nat.lt_of_lt_of_le hk hon.size) (fun e => by injection e with e; omega)).trans (hon.block k hk hkc)⟩⟩
  rw [World.cell?_of_block (w := w2) (a := ⟨gc, 0, none⟩) (ho3.block gc (Nat.lt_of_lt_of_le hlg hon.size) (fun e => by injection e with e; omega))]
  exact HC2.out

theorem below5 (w : World) (o1 o2 o3 o4 o5 : Obj) : Below w.heap.size w (((((w.alloc o1).alloc o2).alloc o3).alloc o4).alloc o5) :=
  (((((Below.refl _ _).alloc (Nat.le_refl _) _).alloc (by simp) _).alloc (by simp; omega) _).alloc (by simp; omega) _).alloc (by simp; omega) _

theorem cells5 (w : World) (v1 v2 v3 v4 v5 : Value) (t1 t2 t3 t4 t5 : TypeId) :
    ((((((w.alloc (.cells #[v1] t1)).alloc (.cells #[v2] t2)).alloc (.cells #[v3] t3)).alloc (.cells #[v4] t4)).alloc (.cells #[v5] t5)).cell? ⟨w.heap.size, 0, none⟩ = some v1 ∧
    (((((w.alloc (.cells #[v1] t1)).alloc (.cells #[v2] t2)).alloc (.cells #[v3] t3)).alloc (.cells #[v4] t4)).alloc (.cells #[v5] t5)).cell? ⟨w.heap.size + 1, 0, none⟩ = some v2 ∧
    (((((w.alloc (.cells #[v1] t1)).alloc (.cells #[v2] t2)).alloc (.cells #[v3] t3)).alloc (.cells #[v4] t4)).alloc (.cells #[v5] t5)).cell? ⟨w.heap.size + 1 + 1, 0, none⟩ = some v3 ∧
    (((((w.alloc (.cells #[v1] t1)).alloc (.cells #[v2] t2)).alloc (.cells #[v3] t3)).alloc (.cells #[v4] t4)).alloc (.cells #[v5] t5)).cell? ⟨w.heap.size + 1 + 1 + 1, 0, none⟩ = some v4 ∧
    (((((w.alloc (.cells #[v1] t1)).alloc (.cells #[v2] t2)).alloc (.cells #[v3] t3)).alloc (.cells #[v4] t4)).alloc (.cells #[v5] t5)).cell? ⟨w.heap.size + 1 + 1 + 1 + 1, 0, none⟩ = some v5) ∧
    (((((w.alloc (.cells #[v1] t1)).alloc (.cells #[v2] t2)).alloc (.cells #[v3] t3)).alloc (.cells #[v4] t4)).alloc (.cells #[v5] t5)).frozen? ⟨w.heap.size + 1 + 1 + 1 + 1, 0, none⟩ = false ∧
    (((((w.alloc (.cells #[v1] t1)).alloc (.cells #[v2] t2)).alloc (.cells #[v3] t3)).alloc (.cells #[v4] t4)).alloc (.cells #[v5] t5)).heap.size = w.heap.size + 1 + 1 + 1 + 1 + 1 := by
  simp [go_sem]

theorem set_any (v : Value) (xs : List UInt8) (at' x : Int) (u : Nat) (w : World) (h : Rd w v xs) (hn : xs.length ≤ 60000) :
    Calls Try.prog 21 #[v, .int .i64 at', .int .i64 x, .int .u64 (u : Int)] w fun e w' =>
      ∃ v', e = .returned (.tuple #[v', .int .i64 (setE xs.length at' x u)]) ∧ w'.ownsRow w.heap.size 5 1 v' (setL xs at' x u).length (bv (setL xs at' x u)) ∧ Below w.heap.size w w' := by
  obtain ⟨A, n, c, rfl, hr⟩ := h
  rw [hr.1] at hn
  rcases look_cases n at' x with h2 | ⟨h1, h6⟩ | ⟨h1, h0, hle⟩
  · have e1 : setE xs.length at' x u = 2 := by rw [setE, look2_of h2]; rfl
    have e2 : setL xs at' x u = [] := by rw [setL, e1]; rfl
    rw [e1, e2]
    have H := Lib.hid h2
    clear hr h2 e1 e2
    go_enter Try.func21, Try.ntmps21
    go_wp2_with (first
      | (go_at_call 33; refine (isWidth_any _ _).mono ?_; rintro e w' ⟨rfl, rfl⟩; rw [H.out])
      | (go_at_call 25; go_in))
    go_ret2
    exact ⟨_, rfl, own_nil _ _, below5 w _ _ _ _ _⟩
  · have e1 : setE xs.length at' x u = 6 := by rw [setE, look6_of h1 (by rw [hr.1]; exact h6)]; rfl
    have e2 : setL xs at' x u = [] := by rw [setL, e1]; rfl
    rw [e1, e2]
    have hx := isW_bd h1
    have H := Lib.hid h1
    clear hr h1 e1 e2
    by_cases h0 : at' < 0
    · go_enter Try.func21, Try.ntmps21
      go_wp2_with (first
        | (go_at_call 33; refine (isWidth_any _ _).mono ?_; rintro e w' ⟨rfl, rfl⟩; rw [H.out])
        | (go_at_call 25; go_in))
      go_ret2
      exact ⟨_, rfl, own_nil _ _, below5 w _ _ _ _ _⟩
    · have h7 : (n : Int) - x < at' := by omega
      have h0' : 0 ≤ at' := by omega
      clear h6
      go_enter Try.func21, Try.ntmps21
      go_wp2_with (first
        | (go_at_call 33; refine (isWidth_any _ _).mono ?_; rintro e w' ⟨rfl, rfl⟩; rw [H.out])
        | (go_at_call 25; go_in))
      go_ret2
      exact ⟨_, rfl, own_nil _ _, below5 w _ _ _ _ _⟩
  · have hx := isW_bd h1
    obtain ⟨a, rfl⟩ := Int.eq_ofNat_of_zero_le h0
    obtain ⟨m, rfl⟩ := Int.eq_ofNat_of_zero_le (show 0 ≤ x by omega)
    have ham : a + m ≤ n := by omega
    obtain ⟨b, off, rfl, hlt, hcl⟩ := hr.2.2 (by omega)
    clear hcl
    have e0 : lookE xs.length a m = 0 := look0_of h1 h0 (by rw [hr.1]; exact hle)
    have hc := hr.2.1
    have hm := isW_nat h1
    have hca : ¬ c = a := by omega
    cases hf : fitsU u m with
    | false =>
      have e1 : setE xs.length a m u = 10 := by rw [setE, e0, hf]; rfl
      have e2 : setL xs a m u = [] := by rw [setL, e1]; rfl
      rw [e1, e2]
      have H := Lib.hid h1
      have HF := Lib.hid hf
      clear hr h1 hf e0 e1 e2 hle hx h0
      go_enter Try.func21, Try.ntmps21
      go_wp2_with (first
        | (go_at_call 33; refine (isWidth_any _ _).mono ?_; rintro e w' ⟨rfl, rfl⟩; rw [H.out])
        | (go_at_call 41; refine (set1_no _ _ _ _ _ u _ _ _ _ _ rfl H.out HF.out (by exact (cells5 w _ _ _ _ _ _ _ _ _ _).1.2.2.2.1)).mono ?_; rintro e w' ⟨rfl, rfl⟩)
        | (go_at_call 25; go_in))
      go_ret2
      exact ⟨_, rfl, own_nil _ _, below5 w _ _ _ _ _⟩
    | true =>
      have e1 : setE xs.length a m u = 0 := by rw [setE, e0, hf]; rfl
      have e2 : setL xs a m u = xs.take a ++ (enc m u ++ xs.drop (a + m)) := by rw [setL, e1, if_pos rfl]; simp
      have hlen : (xs.take a ++ (enc m u ++ xs.drop (a + m))).length = n := by
        rw [List.length_append, List.length_append, List.length_take, List.length_drop, enc_length, hr.1]; omega
      have hspl : splice (bv xs) a (bv (enc m u)) = bv (xs.take a ++ (enc m u ++ xs.drop (a + m))) := by
        simp [splice, bv, enc_length]
      rw [e1, e2, hlen]
      have HA : Hid (∀ b' off', (some ⟨b, off, none⟩ : Option Addr) = some ⟨b', off', none⟩ → 0 < n → b' ≠ w.heap.size + 1 + 1 + 1 + 1) := by
        intro b' off' he _
        injection he with he
        injection he with he
        omega
      have H := Lib.hid h1
      have HF := Lib.hid hf
      have HR := Lib.hid hr
      have HL := Lib.hid hlen
      have HS := Lib.hid hspl
      clear hr h1 hf e0 e1 e2 hle hx h0 hlen hspl
      go_enter Try.func21, Try.ntmps21
      go_wp2_with (first
        | (go_at_call 33; refine (isWidth_any _ _).mono ?_; rintro e w' ⟨rfl, rfl⟩; rw [H.out])
        | (go_at_call 41; refine (set1_yes _ _ _ m _ n c a _ _ _ _ _ u (.slice none 0 0) xs _ rfl H.out HF.out (HR.out.below (below5 w _ _ _ _ _)) hn ham (by exact (cells5 w _ _ _ _ _ _ _ _ _ _).1.2.2.2.1) (by exact (cells5 w _ _ _ _ _ _ _ _ _ _).1.1) (by exact (cells5 w _ _ _ _ _ _ _ _ _ _).1.2.2.2.2) (by exact (cells5 w _ _ _ _ _ _ _ _ _ _).2.1) (by exact (cells5 w _ _ _ _ _ _ _ _ _ _).1.2.1) (by exact (cells5 w _ _ _ _ _ _ _ _ _ _).1.2.2.1) (by omega) (by rw [(cells5 w _ _ _ _ _ _ _ _ _ _).2.2]; omega) HA.out).mono ?_; rintro e w' ⟨rfl, G, hG, hcell, hrow, ho⟩; have HG := Lib.hid hG; have HROW := Lib.hid hrow; have HO := Lib.hid ho; clear hG hrow ho)
        | (go_at_call 25; go_in))
      go_ret2
      have hG := HG.out
      have hrow := HROW.out
      rw [HS.out] at hrow
      simp at hG
      refine ⟨_, rfl, ?_, (below5 w _ _ _ _ _).grown HO.out (by simp; omega) (fun k hk => by injection hk with hk; omega)⟩
      exact own_of_row (by omega) HL.out (by omega) hrow
end Go.Proofs.Ytfodocahneoipaa
