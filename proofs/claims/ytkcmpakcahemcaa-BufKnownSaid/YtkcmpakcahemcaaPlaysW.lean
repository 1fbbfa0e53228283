/-
  What is proved here: BufPlays returns true and leaves all memory that was there as it was; condition: the argument reads as a list of calls.
-/
import Derived.Test.YtkcmpakcahemcaaLaw
namespace Go.Proofs.Ytkcmpakcahemcaa
open Go.RowKit Le

theorem adL_le (m : Nat) (xs ys : List UInt8) : (adL m xs ys).length ≤ xs.length + ys.length := by
  unfold adL
  split
  · rw [List.length_append]; omega
  · omega
theorem addS_le (m : Nat) (s : St) (ys : List UInt8) : (addS m s ys).1.length ≤ s.1.length + ys.length := by
  unfold addS
  split
  · exact adL_le _ _ _
  · exact Nat.le_add_right _ _
theorem algS_le (m : Nat) (s : St) (x : Int) : (algS m s x).1.length ≤ s.1.length + 8 := by
  unfold algS
  split
  · split
    · rename_i hx
      have := adL_le m s.1 (List.replicate (pad s.1.length x) 0)
      have h8 := pad_lt (n := s.1.length) hx
      rw [List.length_replicate] at this
      show (adL _ _ _).length ≤ _
      omega
    · exact Nat.le_add_right _ _
  · exact Nat.le_add_right _ _
theorem numS_le (m : Nat) (s : St) (x u : Int) : (numS m s x u).1.length ≤ s.1.length + 8 := by
  unfold numS
  split
  · split
    · rename_i hx
      have := adL_le m s.1 (enc x.toNat u.toNat)
      have hw : isW x = true := by cases h : isW x with | true => rfl | false => (unfold putE at hx; rw [if_neg (by simp [h])] at hx; cases hx)
      have := isW_bd hw
      rw [enc_length] at *
      show (adL _ _ _).length ≤ _
      omega
    · exact Nat.le_add_right _ _
  · exact Nat.le_add_right _ _
theorem cutS_le (s : St) (n : Int) : (cutS s n).1.length ≤ s.1.length := by
  unfold cutS
  split
  · split
    · exact Nat.le_refl _
    · show (s.1.take _).length ≤ _
      rw [List.length_take]; omega
  · exact Nat.le_refl _
theorem doS_le (m : Nat) (s : St) (K W N U : Int) (S : ByteArray) : (doS m s K W N U S).1.length ≤ s.1.length + 100 := by
  have h40 := shL_le S
  unfold doS
  split
  · have := algS_le m s W; omega
  · split
    · have := numS_le m s W U; omega
    · split
      · have := addS_le m s (shL S); omega
      · split
        · have := cutS_le s N; omega
        · have := addS_le m s (shL S ++ (120 :: shL S))
          simp only [List.length_append, List.length_cons] at this
          omega

/-- The program's buffer and the reference's. -/
def PR (w0 : World) (p q m : Nat) (s t : St) (w : World) : Prop :=
  (∃ v u, Bf w0.heap.size w p m v s.1 s.2 ∧ Rf w0.heap.size w q m u t.1 t.2 ∧ (∀ k, v.ownBlock = some k → u.ownBlock ≠ some k)) ∧ Below w0.heap.size w0 w
section
variable {w0 w w' : World} {p q m : Nat} {s t : St}
theorem bx_ne {w : World} {p q : Nat} {t1 t2 : TypeId} {c1 c2 : Array Value} (h1 : Bx w p t1 c1) (h2 : Bx w q t2 c2) (hne : t1 ≠ t2) : p ≠ q := by
  rintro rfl
  unfold Bx at h1 h2
  rw [h1] at h2
  injection h2 with h2
  injection h2 with _ h3
  exact hne h3
theorem PR.below (h : PR w0 p q m s t w) (hb : Below w.heap.size w w') : PR w0 p q m s t w' := by
  obtain ⟨⟨v, u, h1, h2, h3⟩, h0⟩ := h
  exact ⟨⟨v, u, h1.below hb, h2.below hb, h3⟩, h0.trans (hb.mono h0.size)⟩
theorem PR.on1 (h : PR w0 p q m s t w) {r : Value} {s' : St} {f : FuncId} {args : Array Value} (hc : ∀ v, Bf w0.heap.size w p m v s.1 s.2 → Calls Try.prog f args w (BP w0.heap.size w p m v s'.1 s'.2 r)) :
    Calls Try.prog f args w fun e w' => e = .returned r ∧ PR w0 p q m s' t w' := by
  obtain ⟨⟨v, u, h1, h2, h4⟩, h0⟩ := h
  refine (hc v h1).mono ?_
  rintro e w' ⟨v', rfl, hb, hch⟩
  have hpq := bx_ne h1.box h2.box (by decide)
  refine ⟨rfl, ⟨v', u, hb, h2.keep hch.size fun i hi hor => hch.block i hi ?_ ?_, fun i hi he => ?_⟩, Ch.to_below h0 hch h0.size h1.low (fun k hk => (h1.own.lt k hk).1)⟩
  · rcases hor with rfl | hu
    · exact fun he => hpq he.symm
    · rintro rfl
      exact h1.box.ne_row h2.own (by decide) hu
  · rcases hor with rfl | hu
    · exact h2.box.ne_row h1.own (by decide)
    · exact fun he => h4 i he hu
  · rcases hch.row i hi with k1 | k1
    · exact h4 i k1 he
    · have := h2.row_lt i he; omega
theorem PR.on2 (h : PR w0 p q m s t w) {t' : St} {f : FuncId} {args : Array Value} (hc : ∀ v, Rf w0.heap.size w q m v t.1 t.2 → Calls Try.prog f args w (RP w0.heap.size w q m v t')) :
    Calls Try.prog f args w fun e w' => e = .returned (.tuple #[]) ∧ PR w0 p q m s t' w' := by
  obtain ⟨⟨v, u, h1, h2, h4⟩, h0⟩ := h
  refine (hc u h2).mono ?_
  rintro e w' ⟨u', rfl, hb, hch⟩
  have hpq := bx_ne h1.box h2.box (by decide)
  refine ⟨rfl, ⟨v, u', h1.keep hch.size fun i hi hor => hch.block i hi ?_ ?_, hb, fun i hi he => ?_⟩, Ch.to_below h0 hch h0.size h2.low (fun k hk => (h2.own.lt k hk).1)⟩
  · rcases hor with rfl | hu
    · exact hpq
    · rintro rfl
      exact h2.box.ne_row h1.own (by decide) hu
  · rcases hor with rfl | hu
    · exact h1.box.ne_row h2.own (by decide)
    · exact fun he => h4 i hu he
  · rcases hch.row i he with k1 | k1
    · exact h4 i hi k1
    · have := h1.row_lt i hi; omega
theorem PR.bu (h : PR w0 p q m s t w) : Bu w0 p m s w := by
  obtain ⟨⟨v, u, h1, _⟩, h0⟩ := h
  exact ⟨⟨v, h1⟩, h0⟩
theorem PR.new (hb : Below w0.heap.size w0 w) (x : Int) {w1 w2 : World} (h1 : w1 = w.alloc (.cells #[.bool true, .int .i64 (cp x : Int), .slice none 0 0, .int .i64 0] 55)) (h2 : w2 = w1.alloc (.cells #[.slice none 0 0, .int .i64 (cp x : Int), .int .i64 0] 39)) :
    PR w0 w.heap.size w1.heap.size (cp x) ([], 0) ([], 0) w2 := by
  subst h2
  have hal : Below w1.heap.size w1 (w1.alloc (.cells #[.slice none 0 0, .int .i64 (cp x : Int), .int .i64 0] 39)) := (Below.refl _ _).alloc (Nat.le_refl _) _
  have hb1 : Below w0.heap.size w0 w1 := by rw [h1]; exact hb.alloc hb.size _
  have k1 : Bf w0.heap.size w1 w.heap.size (cp x) (.slice none 0 0) [] 0 := by rw [h1]; exact (Bf.new w (cp x) (cp_le x)).mono hb.size
  exact ⟨⟨.slice none 0 0, .slice none 0 0, k1.below hal, (Rf.new w1 (cp x) (cp_le x)).mono hb1.size, fun k hk => by simp [Value.ownBlock] at hk⟩, hb1.alloc hb1.size _⟩
end

theorem out_len (s : St) (h : s.1.length ≤ 60000) : (out s).length ≤ 60000 := by unfold out; split; (· exact h); (· simp)
set_option maxRecDepth 20000 in
set_option maxHeartbeats 1000000 in
theorem bufPlays_walk (a : Int) (l : List Dv) (v : Value) (w : World) (_ : -9223372036854775808 ≤ a) (_ : a ≤ 9223372036854775807) (h : RdD w v l) :
    Calls Try.prog 3 #[.int .i64 a, v] w fun e w' => e = .returned (.bool true) ∧ Below w.heap.size w w' := by
  obtain ⟨A, n, c, rfl, hn, hnc, hcm, hok, hA⟩ := h
  unfold maxLen at hcm
  have HA := Lib.hid hA
  have HOK := Lib.hid hok
  have HN := Lib.hid hn
  have HNEW := Lib.hid fun W => new_any a W
  have HRN := Lib.hid fun W => rNew_any a W
  obtain ⟨m, hm⟩ : ∃ m, m = cp a := ⟨_, rfl⟩
  have HP : Hid (∀ w1 w2, w1 = w.alloc (.cells #[.bool true, .int .i64 (cp a : Int), .slice none 0 0, .int .i64 0] 55) → w2 = w1.alloc (.cells #[.slice none 0 0, .int .i64 (cp a : Int), .int .i64 0] 39) → PR w w.heap.size w1.heap.size m ([], 0) ([], 0) w2) :=
    Lib.hid fun w1 w2 h1 h2 => by rw [hm]; exact PR.new (Below.refl _ _) a h1 h2
  clear hA hok hn hm
  go_enter Try.func3, Try.ntmps3
  go_wp2_with (first
    | (go_at_call 9; (with_reducible refine (HNEW.out _).mono ?_); rintro e w1 ⟨rfl, h1⟩; have H1 := Lib.hid h1; clear h1)
    | (go_at_call 10; (with_reducible refine (HRN.out _).mono ?_); rintro e w2 ⟨rfl, h2⟩; have HB0 := Lib.hid (HP.out _ _ H1.out h2); clear h2 H1))
  obtain ⟨p, hp⟩ : ∃ p, p = w.heap.size := ⟨_, rfl⟩
  obtain ⟨q, hq⟩ : ∃ q, q = w1.heap.size := ⟨_, rfl⟩
  have HBp : Hid (PR w p q m ([], 0) ([], 0) w2) := Lib.hid (by rw [hp, hq]; exact HB0.out)
  rw [← hp, ← hq]
  clear HB0 HP HNEW HRN hq hp
  go_loopw [7] (fun i wr => ∃ (k : Nat) (s : St), k ≤ n ∧ k ≤ 60 ∧ i = .int .i64 k ∧ Hid (PR w p q m s s wr) ∧ Hid (s.1.length ≤ 100 * k)) (fun i _ => 60 - (intOf i).toNat)
  case atStart => exact ⟨0, ([], 0), Nat.zero_le _, Nat.zero_le _, rfl, HBp, Nat.le_refl _⟩
  case round =>
    obtain ⟨k, s, hk, hk6, rfl, HPR, HLE⟩ := hrel
    by_cases hlt : k < n
    · by_cases hlt6 : k < 60
      · obtain ⟨d, hd⟩ : ∃ d, l[k]? = some d := ⟨_, List.getElem?_eq_getElem (by have := HN.out; omega)⟩
        obtain ⟨b, off, rfl, hbl, hcell⟩ := HA.out (by omega)
        have h5 := (hcell k d hd).below HPR.out.2 hbl
        have HAT : Hid (∀ W, Below w.heap.size w W → At5 W b (off + k * 5) d) := Lib.hid fun W hW => (hcell k d hd).below hW hbl
        obtain ⟨c0, c1, c2, c3, c4⟩ := h5
        have hdk := HOK.out d (List.mem_of_getElem? hd)
        have HD := Lib.hid hdk
        have h6 : s.1.length ≤ 60000 := by have := HLE.out; omega
        obtain ⟨t, ht⟩ : ∃ t, doS m s d.k d.w d.n (d.u : Int) d.s = t := ⟨_, rfl⟩
        have hle2 := doS_le m s d.k d.w d.n (d.u : Int) d.s
        rw [ht] at hle2
        have HT6 : Hid (t.1.length ≤ 60000) := Lib.hid (by have := HLE.out; omega)
        have HTL : Hid (t.1.length ≤ 100 * (k + 1)) := Lib.hid (by have := HLE.out; omega)
        have HDO : Hid (∀ W, Hid (PR w p q m s s W) → Calls Try.prog 11 #[.pointer (some ⟨p, 0, none⟩), .agg #[.int .i64 d.k, .int .i64 d.w, .int .i64 d.n, .int .u64 (d.u : Int), .string d.s]] W fun e w' => e = .returned (.tuple #[]) ∧ PR w p q m t s w') :=
          Lib.hid fun W hW => by rw [← ht]; exact hW.out.on1 fun v hv => does_any hv d.k d.w d.n d.u d.s hdk.k0 hdk.k1 hdk.s1
        have HOWN : Hid (∀ W, Hid (PR w p q m t s W) → Calls Try.prog 12 #[.pointer (some ⟨q, 0, none⟩), .agg #[.int .i64 d.k, .int .i64 d.w, .int .i64 d.n, .int .u64 (d.u : Int), .string d.s]] W fun e w' => e = .returned (.tuple #[]) ∧ PR w p q m t t w') :=
          Lib.hid fun W hW => by rw [← ht] at hW ⊢; exact hW.out.on2 fun v hv => own_any hv h6 d.k d.w d.n d.u d.s hdk.k0 hdk.k1 hdk.s1 hdk.u1
        have HBY : Hid (∀ W, Hid (PR w p q m t t W) → Calls Try.prog 13 #[.pointer (some ⟨p, 0, none⟩)] W fun e w' => ∃ v', e = .returned (.tuple #[v', .int .i64 t.2]) ∧ w'.ownsRow W.heap.size 5 1 v' (out t).length (bv (out t)) ∧ Below W.heap.size W w') :=
          Lib.hid fun W hW => by obtain ⟨⟨v1, u1, k1, _⟩, _⟩ := hW.out; exact bytes_any k1
        have HRB : Hid (∀ W, Hid (PR w p q m t t W) → Calls Try.prog 14 #[.pointer (some ⟨q, 0, none⟩)] W fun e w' => ∃ v', e = .returned (.tuple #[v', .int .i64 t.2]) ∧ w'.ownsRow W.heap.size 5 1 v' (out t).length (bv (out t)) ∧ Below W.heap.size W w') :=
          Lib.hid fun W hW => by obtain ⟨⟨v1, u1, _, k1, _⟩, _⟩ := hW.out; exact rBytes_any k1 HT6.out
        clear hd hcell hdk hle2 ht h6
        go_upto_region 9 with (first
          | (go_at_call 11; (with_reducible refine (HDO.out _ HPR).mono ?_); rintro e w3 ⟨rfl, h3⟩; obtain ⟨g0, g1, g2, g3, g4⟩ := HAT.out _ h3.2; have H3 := Lib.hid h3; clear h3)
          | (go_at_call 12; (with_reducible refine (HOWN.out _ H3).mono ?_); rintro e w4 ⟨rfl, h4⟩; have H4 := Lib.hid h4; clear h4)
          | (go_at_call 13; (with_reducible refine (HBY.out _ H4).mono ?_); rintro e w5 ⟨x1, rfl, ho5, hb5⟩; have HO5 := Lib.hid ho5; have HB5 := Lib.hid hb5; have H5 := Lib.hid (H4.out.below hb5); clear ho5 hb5)
          | (go_at_call 14; (with_reducible refine (HRB.out _ H5).mono ?_); rintro e w6 ⟨y1, rfl, ho6, hb6⟩; have HO6 := Lib.hid ho6; have HB6 := Lib.hid hb6; have H6 := Lib.hid (H5.out.below hb6); clear ho6 hb6))
        obtain ⟨X1, xn, xc, rfl, hrx⟩ := Rd.of_own HO5.out
        obtain ⟨Y1, yn, yc, rfl, hry⟩ := Rd.of_own HO6.out
        have HEQ : Hid (∀ z, Calls Try.prog 15 #[.slice X1 xn xc, .slice Y1 yn yc] (w6.drewN z) fun e w' => e = .returned (.bool true) ∧ w' = w6.drewN z) := Lib.hid fun z =>
          (eqBytes_any _ _ (out t) (out t) (w6.drewN z) ⟨_, _, _, rfl, hrx.below (HB6.out.trans ⟨rfl, rfl, rfl, Nat.le_refl _, fun _ _ => rfl⟩)⟩ ⟨_, _, _, rfl, hry⟩).mono fun _ _ ⟨h1, h2⟩ => ⟨by rw [h1]; simp, h2.symm⟩
        have HBZ : ∀ z, Bu w p m t (w6.drewN z) := fun z => (H6.out.below (w' := w6.drewN z) ⟨rfl, rfl, rfl, Nat.le_refl _, fun _ _ => rfl⟩).bu
        have hlx : Hid (∀ z, Calls Try.prog 16 #[.pointer (some ⟨p, 0, none⟩)] (w6.drewN z) fun e w' => e = .returned (.int .i64 (t.1.length : Int)) ∧ w' = w6.drewN z) := Lib.hid fun z => (len_U (HBZ z)).mono fun _ _ ⟨h1, h2⟩ => ⟨h1, h2.symm⟩
        have her : Hid (∀ z, Calls Try.prog 17 #[.pointer (some ⟨p, 0, none⟩)] (w6.drewN z) fun e w' => e = .returned (.int .i64 t.2) ∧ w' = w6.drewN z) := Lib.hid fun z => (err_U (HBZ z)).mono fun _ _ ⟨h1, h2⟩ => ⟨h1, h2.symm⟩
        obtain ⟨⟨v7, u7, j1, j2, j3⟩, j4⟩ := id H6.out
        obtain ⟨U, uc, rfl, _⟩ := j2.slice
        have q0 : w6.cell? ⟨q, 0, none⟩ = some (.slice U t.1.length uc) := j2.box.cell 0
        have q2 : w6.cell? ⟨q, 2, none⟩ = some (.int .i64 t.2) := j2.box.cell 2
        clear j1 j2 j3 j4
        obtain ⟨tl, htl⟩ : ∃ tl, tl = t.1.length := ⟨_, rfl⟩
        obtain ⟨te, hte⟩ : ∃ te, te = t.2 := ⟨_, rfl⟩
        rw [← htl] at hlx q0
        rw [← hte] at her q2
        rw [← hte]
        clear htl hte HBZ
        go_quiet (first
          | (go_at_call 15; exact Calls.quiet_of_same (HEQ.out _))
          | (go_at_call 16; exact Calls.quiet_of_same (hlx.out _))
          | (go_at_call 17; exact Calls.quiet_of_same (her.out _)))
        have HSP : Hid (Calls Try.prog 18 #[.slice X1 xn xc] (w6.drewN nq) fun e w' => e = .returned (.tuple #[]) ∧ PR w p q m t t w') := Lib.hid (by
          have ho : (w6.drewN nq).ownsRow w4.heap.size 5 1 (.slice X1 xn xc) (out t).length (bv (out t)) := own_below HO5.out (HB6.out.trans ⟨rfl, rfl, rfl, Nat.le_refl _, fun _ _ => rfl⟩)
          refine (spoil_any _ (out t) w4.heap.size _ _ ho (by have := out_len t HT6.out; omega)).mono ?_
          rintro e w7 ⟨rfl, hg⟩
          have hb6 : Below w4.heap.size w4 (w6.drewN nq) := (HB5.out.trans (HB6.out.mono HB5.out.size)).trans ⟨rfl, rfl, rfl, Nat.le_refl _, fun _ _ => rfl⟩
          exact ⟨rfl, H4.out.below (hb6.grown hg hb6.size (fun k hk => (ho.lt k hk).1))⟩)
        go_wp2_with (go_at_call 18; (with_reducible refine HSP.out.mono ?_); rintro e w8 ⟨rfl, h8⟩; have H8 := Lib.hid h8; clear h8)
        go_roundw
        case rel => exact ⟨k + 1, t, by omega, by omega, by go_num, H8, HTL⟩
        case measure => simp [intOf]; omega
      · obtain rfl : k = 60 := by omega
        have HWK := Lib.hid (works_true wr)
        go_wp2_with (go_at_call 19; (with_reducible refine HWK.out.mono ?_); rintro e w8 ⟨rfl, h8⟩; have H8 := Lib.hid h8; clear h8)
        go_ret
        exact ⟨rfl, HPR.out.2.trans (H8.out.mono HPR.out.2.size)⟩
    · have HWK := Lib.hid (works_true wr)
      go_wp2_with (go_at_call 19; (with_reducible refine HWK.out.mono ?_); rintro e w8 ⟨rfl, h8⟩; have H8 := Lib.hid h8; clear h8)
      go_ret
      exact ⟨rfl, HPR.out.2.trans (H8.out.mono HPR.out.2.size)⟩
end Go.Proofs.Ytkcmpakcahemcaa
