/-
  What is proved here: the laws TagPacks, TagTells, TagBack, TagOnly, TagVectors and TagApart of layer 2 return true and leave all memory that was there as it was; condition: the tables hold what is laid, and the numbers are in the range of their types.
-/
import Derived.Test.YtocdmjbmeindgaaDoorWorks
namespace Go.Proofs.YtocdmjbmeindgaaDoor
open Go.RowKit Tg

theorem pack_is (t x c er : Int) (w : World) (hT : Tab w) (hC : packC t x = c) (hE : packE t x = er) :
    Calls Tryd.prog 10 #[.int .i64 t, .int .i64 x] w fun e w' => e = .returned (.tuple #[.int .u8 c, .int .i64 er]) ∧ Below w.heap.size w w' := hC ▸ hE ▸ pack_any t x w hT
theorem unpack_is (c t x er : Int) (w : World) (hT : Tab w) (h0 : 0 ≤ c) (h1 : c ≤ 255) (hC : unT c = t) (hW : unW c = x) (hE : unE c = er) :
    Calls Tryd.prog 12 #[.int .u8 c] w fun e w' => e = .returned (.tuple #[.int .i64 t, .int .i64 x, .int .i64 er]) ∧ Below w.heap.size w w' := hC ▸ hW ▸ hE ▸ unpack_any c w hT h0 h1
theorem elem_is (t el n : Int) (is : Bool) (w : World) (hT : Tab w) (h1 : elm t = el) (h2 : mny t = n) (h3 : isV t = is) :
    Calls Tryd.prog 15 #[.int .i64 t] w fun e w' => e = .returned (.tuple #[.int .i64 el, .int .i64 n, .bool is]) ∧ Below w.heap.size w w' := h1 ▸ h2 ▸ h3 ▸ elem_any t w hT
theorem typed_is (el n t : Int) (is : Bool) (w : World) (he : (Lit.int .i64 el).wf = true) (hn : (Lit.int .i64 n).wf = true) (h1 : typT el n = t) (h3 : typB el n = is) :
    Calls Tryd.prog 17 #[.int .i64 el, .int .i64 n] w fun e w' => e = .returned (.tuple #[.int .i64 t, .bool is]) ∧ Below w.heap.size w w' := h1 ▸ h3 ▸ typed_any el n w he hn

theorem un_no {c : Int} (h : legal (c / 4) = false) : unT c = 0 ∧ unW c = 0 ∧ unE c = 20 := by rw [unT, unW, unE, h]; exact ⟨rfl, rfl, rfl⟩
theorem un_yes {c : Int} (h : legal (c / 4) = true) : unT c = c / 4 ∧ unW c = wid (c % 4) ∧ unE c = 0 := by rw [unT, unW, unE, h]; exact ⟨rfl, rfl, rfl⟩
theorem code_wid {k : Int} (h0 : 0 ≤ k) (h1 : k < 4) : code (wid k) = k := by
  rcases (show k = 0 ∨ k = 1 ∨ k = 2 ∨ k = 3 by omega) with rfl | rfl | rfl | rfl <;> rfl
theorem wid_inj {a b : Int} (a0 : 0 ≤ a) (a1 : a < 4) (b0 : 0 ≤ b) (b1 : b < 4) (h : wid a = wid b) : a = b := by rw [← code_wid a0 a1, h, code_wid b0 b1]
theorem pack_un {c : Int} (h : legal (c / 4) = true) : packC (c / 4) (wid (c % 4)) = c ∧ packE (c / 4) (wid (c % 4)) = 0 := by
  have e := code_wid (k := c % 4) (by omega) (by omega)
  constructor
  · rw [packC_of h (by rw [e]; omega), e]; omega
  · rw [packE, if_pos h, e, if_pos (by omega)]
theorem typ_elem {e m : Int} (h : typB e m = true) : isV (typT e m) = true ∧ elm (typT e m) = e ∧ mny (typT e m) = m := by
  unfold typB at h
  unfold typT
  cases hf : vecs.find? fun p => p.1 == (e, m) with
  | none => rw [hf] at h; cases h
  | some p =>
    have hm := List.mem_of_find?_eq_some hf
    have hb : p.1 = (e, m) := by simpa using List.find?_some hf
    have T : ∀ p ∈ vecs, isV p.2 = true ∧ elm p.2 = p.1.1 ∧ mny p.2 = p.1.2 := by decide +kernel
    have := T p hm
    rw [hb] at this
    exact this
theorem typ_no {e m : Int} (h : typB e m = false) : typT e m = 0 := by
  unfold typB at h
  unfold typT
  cases hf : vecs.find? fun p => p.1 == (e, m) with
  | none => rfl
  | some p => rw [hf] at h; cases h
theorem isV_no {t : Int} (h : isV t = false) : elm t = 0 ∧ mny t = 0 := by
  rcases in_or (t := t) with h' | ⟨k, rfl, hk⟩
  · rw [elm, mny, prop_out h']; exact ⟨rfl, rfl⟩
  · have T : ∀ k : Fin 37, isV (k : Nat) = false → elm (k : Nat) = 0 ∧ mny (k : Nat) = 0 := by decide +kernel
    exact T ⟨k, hk⟩ h
theorem isV_yes {t : Int} (h : isV t = true) : typT (elm t) (mny t) = t ∧ typB (elm t) (mny t) = true ∧ inl t = false ∧ legal t = true ∧ (inl (elm t) = true ∨ (elm t = 4 ∧ inl (elm t) = false)) ∧ (0 ≤ elm t ∧ elm t ≤ 26) ∧ 0 ≤ mny t ∧ mny t ≤ 4 := by
  rcases in_or (t := t) with h' | ⟨k, rfl, hk⟩
  · rw [isV, cls, prop_out h'] at h; cases h
  · have T : ∀ k : Fin 37, isV (k : Nat) = true → typT (elm (k : Nat)) (mny (k : Nat)) = (k : Nat) ∧ typB (elm (k : Nat)) (mny (k : Nat)) = true ∧ inl (k : Nat) = false ∧ legal (k : Nat) = true ∧ (inl (elm (k : Nat)) = true ∨ (elm (k : Nat) = 4 ∧ inl (elm (k : Nat)) = false)) ∧ (0 ≤ elm (k : Nat) ∧ elm (k : Nat) ≤ 26) ∧ 0 ≤ mny (k : Nat) ∧ mny (k : Nat) ≤ 4 := by decide +kernel
    exact T ⟨k, hk⟩ h
theorem wf_small {x : Int} (h0 : 0 ≤ x) (h1 : x ≤ 255) : (Lit.int .i64 x).wf = true := by
  simp [Lit.wf, IntKind.min, IntKind.max, IntKind.signed, IntKind.bits]; omega
theorem isV_elm {t : Int} (h : isV t = true) : (Lit.int .i64 (elm t)).wf = true ∧ (Lit.int .i64 (mny t)).wf = true := by
  obtain ⟨_, _, _, _, _, ⟨a, b⟩, c, d⟩ := isV_yes h
  exact ⟨wf_small a (by omega), wf_small c (by omega)⟩

theorem tagPacks_walk (t x c : Int) (w : World) (hT : Tab w) (h0 : 0 ≤ c) (h1 : c ≤ 255) :
    Calls Tryd.prog 3 #[.int .i64 t, .int .i64 x, .int .u8 c] w fun e w' => e = .returned (.bool true) ∧ Below w.heap.size w w' := by
  have HS := Lib.hid (St.start hT)
  clear hT
  go_enter Tryd.func3, Tryd.ntmps3
  go_wp2_with fail
  refine (pack_any _ _ _ HS.out.1).mono ?_
  rintro e w1 ⟨rfl, hb⟩
  replace HS := Lib.hid (HS.out.step hb)
  clear hb
  go_wp2_with fail
  refine (rpack_any _ _ _).mono ?_
  rintro e w' ⟨rfl, rfl⟩
  go_wp2_with fail
  refine (unpack_any _ _ HS.out.1 h0 h1).mono ?_
  rintro e w2 ⟨rfl, hb⟩
  replace HS := Lib.hid (HS.out.step hb)
  clear hb
  go_wp2_with fail
  refine (runpack_any _ _ h0 h1).mono ?_
  rintro e w' ⟨rfl, rfl⟩
  go_wp2_with fail
  refine (works_true _ HS.out.1).mono ?_
  rintro e w3 ⟨rfl, hb⟩
  replace HS := Lib.hid (HS.out.step hb)
  clear hb
  go_wp2_with fail
  go_ret
  exact ⟨rfl, HS.out.2⟩

theorem tagTells_walk (t m : Int) (w : World) (hT : Tab w) (h0 : (Lit.int .i64 t).wf = true) (h1 : (Lit.int .i64 m).wf = true) :
    Calls Tryd.prog 4 #[.int .i64 t, .int .i64 m] w fun e w' => e = .returned (.bool true) ∧ Below w.heap.size w w' := by
  have HS := Lib.hid (St.start hT)
  clear hT
  have H0 := Lib.hid h0
  have H1 := Lib.hid h1
  clear h0 h1
  go_enter Tryd.func4, Tryd.ntmps4
  go_wp2_with fail
  refine (elem_any _ _ HS.out.1).mono ?_
  rintro e w4 ⟨rfl, hb⟩
  replace HS := Lib.hid (HS.out.step hb)
  clear hb
  go_wp2_with fail
  refine (relem_any _ _).mono ?_
  rintro e w' ⟨rfl, rfl⟩
  go_wp2_with fail
  refine (typed_any _ _ _ H0.out H1.out).mono ?_
  rintro e w5 ⟨rfl, hb⟩
  replace HS := Lib.hid (HS.out.step hb)
  clear hb
  go_wp2_with fail
  refine (rtyped_any _ _ _).mono ?_
  rintro e w' ⟨rfl, rfl⟩
  go_wp2_with fail
  refine (legal_any _ _ HS.out.1).mono ?_
  rintro e w6 ⟨rfl, hb⟩
  replace HS := Lib.hid (HS.out.step hb)
  clear hb
  go_wp2_with fail
  refine (rlegal_any _ _).mono ?_
  rintro e w' ⟨rfl, rfl⟩
  go_wp2_with fail
  refine (inline_any _ _ HS.out.1).mono ?_
  rintro e w7 ⟨rfl, hb⟩
  replace HS := Lib.hid (HS.out.step hb)
  clear hb
  go_wp2_with fail
  refine (rinline_any _ _).mono ?_
  rintro e w' ⟨rfl, rfl⟩
  go_wp2_with fail
  refine (works_true _ HS.out.1).mono ?_
  rintro e w8 ⟨rfl, hb⟩
  replace HS := Lib.hid (HS.out.step hb)
  clear hb
  go_wp2_with fail
  go_ret
  exact ⟨rfl, HS.out.2⟩

theorem tagBack_walk (t x : Int) (w : World) (hT : Tab w) :
    Calls Tryd.prog 5 #[.int .i64 t, .int .i64 x] w fun e w' => e = .returned (.bool true) ∧ Below w.heap.size w w' := by
  have HS := Lib.hid (St.start hT)
  clear hT
  cases h : legal t
  · have hc : packC t x = 0 ∧ packE t x = 20 := by rw [packC, packE, if_neg (by rw [h]; simp), if_neg (by rw [h]; simp)]; exact ⟨rfl, rfl⟩
    have HC := Lib.hid hc
    have HL := Lib.hid h
    clear hc h
    go_enter Tryd.func5, Tryd.ntmps5
    go_wp2_with fail
    refine (works_true _ HS.out.1).mono ?_
    rintro e w9 ⟨rfl, hb⟩
    replace HS := Lib.hid (HS.out.step hb)
    clear hb
    go_wp2_with fail
    refine (pack_is t x 0 20 _ HS.out.1 HC.out.1 HC.out.2).mono ?_
    rintro e w10 ⟨rfl, hb⟩
    replace HS := Lib.hid (HS.out.step hb)
    clear hb
    go_wp2_with fail
    refine (legal_is t false _ HS.out.1 HL.out).mono ?_
    rintro e w11 ⟨rfl, hb⟩
    replace HS := Lib.hid (HS.out.step hb)
    clear hb
    go_wp2_with fail
    go_ret
    exact ⟨rfl, HS.out.2⟩
  · rcases Int.lt_or_le (code x) 4 with hk | hk
    · have t0 := legal_in h
      have hk0 : 0 ≤ code x := by rcases code_cases x with ⟨_, e⟩ | ⟨_, e⟩ | ⟨_, e⟩ | ⟨_, e⟩ | ⟨_, _, _, _, e⟩ <;> omega
      have hc : packC t x = 4 * t + code x ∧ packE t x = 0 := by rw [packC_of h hk, packE, if_pos h, if_pos hk]; exact ⟨rfl, rfl⟩
      have hq : (4 * t + code x) / 4 = t := by omega
      have hr : (4 * t + code x) % 4 = code x := by omega
      have hw : wid (code x) = x := by rcases code_cases x with ⟨rfl, e⟩ | ⟨rfl, e⟩ | ⟨rfl, e⟩ | ⟨rfl, e⟩ | ⟨_, _, _, _, e⟩ <;> first | rfl | omega
      have hu := un_yes (c := 4 * t + code x) (by rw [hq]; exact h)
      rw [hq, hr, hw] at hu
      have hb0 : 0 ≤ 4 * t + code x := by omega
      have hb1 : 4 * t + code x ≤ 255 := by omega
      generalize 4 * t + code x = c at hc hu hb0 hb1
      have HC := Lib.hid hc
      have HU := Lib.hid hu
      have HL := Lib.hid h
      clear hc hu h hq hr hw hk hk0 t0
      go_enter Tryd.func5, Tryd.ntmps5
      go_wp2_with fail
      refine (works_true _ HS.out.1).mono ?_
      rintro e w12 ⟨rfl, hb⟩
      replace HS := Lib.hid (HS.out.step hb)
      clear hb
      go_wp2_with fail
      refine (pack_is t x c 0 _ HS.out.1 HC.out.1 HC.out.2).mono ?_
      rintro e w13 ⟨rfl, hb⟩
      replace HS := Lib.hid (HS.out.step hb)
      clear hb
      go_wp2_with fail
      refine (unpack_is c t x 0 _ HS.out.1 hb0 hb1 HU.out.1 HU.out.2.1 HU.out.2.2).mono ?_
      rintro e w14 ⟨rfl, hb⟩
      replace HS := Lib.hid (HS.out.step hb)
      clear hb
      go_wp2_with fail
      refine (legal_is t true _ HS.out.1 HL.out).mono ?_
      rintro e w15 ⟨rfl, hb⟩
      replace HS := Lib.hid (HS.out.step hb)
      clear hb
      go_wp2_with fail
      go_ret
      exact ⟨rfl, HS.out.2⟩
    · have hc : packC t x = 0 ∧ packE t x = 2 := by rw [packC, packE, if_neg (by omega), if_pos h, if_neg (by omega)]; exact ⟨rfl, rfl⟩
      have HC := Lib.hid hc
      have HL := Lib.hid h
      clear hc h hk
      go_enter Tryd.func5, Tryd.ntmps5
      go_wp2_with fail
      refine (works_true _ HS.out.1).mono ?_
      rintro e w16 ⟨rfl, hb⟩
      replace HS := Lib.hid (HS.out.step hb)
      clear hb
      go_wp2_with fail
      refine (pack_is t x 0 2 _ HS.out.1 HC.out.1 HC.out.2).mono ?_
      rintro e w17 ⟨rfl, hb⟩
      replace HS := Lib.hid (HS.out.step hb)
      clear hb
      go_wp2_with fail
      refine (legal_is t true _ HS.out.1 HL.out).mono ?_
      rintro e w18 ⟨rfl, hb⟩
      replace HS := Lib.hid (HS.out.step hb)
      clear hb
      go_wp2_with fail
      go_ret
      exact ⟨rfl, HS.out.2⟩

theorem tagOnly_walk (c : Int) (w : World) (hT : Tab w) (h0 : 0 ≤ c) (h1 : c ≤ 255) :
    Calls Tryd.prog 6 #[.int .u8 c] w fun e w' => e = .returned (.bool true) ∧ Below w.heap.size w w' := by
  have HS := Lib.hid (St.start hT)
  clear hT
  cases h : legal (c / 4)
  · have HU := Lib.hid (un_no h)
    have HL := Lib.hid h
    clear h
    go_enter Tryd.func6, Tryd.ntmps6
    go_wp2_with fail
    refine (unpack_is c 0 0 20 _ HS.out.1 h0 h1 HU.out.1 HU.out.2.1 HU.out.2.2).mono ?_
    rintro e w19 ⟨rfl, hb⟩
    replace HS := Lib.hid (HS.out.step hb)
    clear hb
    go_wp2_with fail
    refine (legal_is (c / 4) false _ HS.out.1 HL.out).mono ?_
    rintro e w20 ⟨rfl, hb⟩
    replace HS := Lib.hid (HS.out.step hb)
    clear hb
    go_wp2_with fail
    refine (works_true _ HS.out.1).mono ?_
    rintro e w21 ⟨rfl, hb⟩
    replace HS := Lib.hid (HS.out.step hb)
    clear hb
    go_wp2_with fail
    go_ret
    exact ⟨rfl, HS.out.2⟩
  · have HU := Lib.hid (un_yes h)
    have HC := Lib.hid (pack_un h)
    clear h
    go_enter Tryd.func6, Tryd.ntmps6
    go_wp2_with fail
    refine (unpack_is c (c / 4) (wid (c % 4)) 0 _ HS.out.1 h0 h1 HU.out.1 HU.out.2.1 HU.out.2.2).mono ?_
    rintro e w22 ⟨rfl, hb⟩
    replace HS := Lib.hid (HS.out.step hb)
    clear hb
    go_wp2_with fail
    refine (pack_is (c / 4) (wid (c % 4)) c 0 _ HS.out.1 HC.out.1 HC.out.2).mono ?_
    rintro e w23 ⟨rfl, hb⟩
    replace HS := Lib.hid (HS.out.step hb)
    clear hb
    go_wp2_with fail
    refine (works_true _ HS.out.1).mono ?_
    rintro e w24 ⟨rfl, hb⟩
    replace HS := Lib.hid (HS.out.step hb)
    clear hb
    go_wp2_with fail
    go_ret
    exact ⟨rfl, HS.out.2⟩

theorem tagApart_walk (c d : Int) (w : World) (hT : Tab w) (h0 : 0 ≤ c) (h1 : c ≤ 255) (g0 : 0 ≤ d) (g1 : d ≤ 255) :
    Calls Tryd.prog 8 #[.int .u8 c, .int .u8 d] w fun e w' => e = .returned (.bool true) ∧ Below w.heap.size w w' := by
  have HS := Lib.hid (St.start hT)
  clear hT
  cases h : legal (c / 4)
  · have HU := Lib.hid (un_no h)
    clear h
    go_enter Tryd.func8, Tryd.ntmps8
    go_wp2_with fail
    refine (unpack_is c 0 0 20 _ HS.out.1 h0 h1 HU.out.1 HU.out.2.1 HU.out.2.2).mono ?_
    rintro e w25 ⟨rfl, hb⟩
    replace HS := Lib.hid (HS.out.step hb)
    clear hb
    go_wp2_with fail
    refine (unpack_any d _ HS.out.1 g0 g1).mono ?_
    rintro e w26 ⟨rfl, hb⟩
    replace HS := Lib.hid (HS.out.step hb)
    clear hb
    go_wp2_with fail
    refine (works_true _ HS.out.1).mono ?_
    rintro e w27 ⟨rfl, hb⟩
    replace HS := Lib.hid (HS.out.step hb)
    clear hb
    go_wp2_with fail
    go_ret
    exact ⟨rfl, HS.out.2⟩
  · have HU := Lib.hid (un_yes h)
    clear h
    cases h : legal (d / 4)
    · have HV := Lib.hid (un_no h)
      clear h
      go_enter Tryd.func8, Tryd.ntmps8
      go_wp2_with fail
      refine (unpack_is c (c / 4) (wid (c % 4)) 0 _ HS.out.1 h0 h1 HU.out.1 HU.out.2.1 HU.out.2.2).mono ?_
      rintro e w28 ⟨rfl, hb⟩
      replace HS := Lib.hid (HS.out.step hb)
      clear hb
      go_wp2_with fail
      refine (unpack_is d 0 0 20 _ HS.out.1 g0 g1 HV.out.1 HV.out.2.1 HV.out.2.2).mono ?_
      rintro e w29 ⟨rfl, hb⟩
      replace HS := Lib.hid (HS.out.step hb)
      clear hb
      go_wp2_with fail
      refine (works_true _ HS.out.1).mono ?_
      rintro e w30 ⟨rfl, hb⟩
      replace HS := Lib.hid (HS.out.step hb)
      clear hb
      go_wp2_with fail
      go_ret
      exact ⟨rfl, HS.out.2⟩
    · have HV := Lib.hid (un_yes h)
      clear h
      by_cases e : c = d
      · subst e
        generalize c / 4 = p at HU HV
        generalize wid (c % 4) = q at HU HV
        go_enter Tryd.func8, Tryd.ntmps8
        go_wp2_with fail
        refine (unpack_is c p q 0 _ HS.out.1 h0 h1 HU.out.1 HU.out.2.1 HU.out.2.2).mono ?_
        rintro e w31 ⟨rfl, hb⟩
        replace HS := Lib.hid (HS.out.step hb)
        clear hb
        go_wp2_with fail
        refine (unpack_is c p q 0 _ HS.out.1 g0 g1 HV.out.1 HV.out.2.1 HV.out.2.2).mono ?_
        rintro e w32 ⟨rfl, hb⟩
        replace HS := Lib.hid (HS.out.step hb)
        clear hb
        go_wp2_with fail
        refine (works_true _ HS.out.1).mono ?_
        rintro e w33 ⟨rfl, hb⟩
        replace HS := Lib.hid (HS.out.step hb)
        clear hb
        go_wp2_with fail
        go_ret
        exact ⟨rfl, HS.out.2⟩
      · have b0 : (c == d) = false := by simpa using e
        by_cases e2 : c / 4 = d / 4
        · have b1 : (wid (c % 4) == wid (d % 4)) = false := by
            simp only [beq_eq_false_iff_ne, ne_eq]
            intro hw
            have := wid_inj (by omega) (by omega) (by omega) (by omega) hw
            omega
          rw [← e2] at HV
          clear e e2
          generalize c / 4 = p at HU HV
          generalize wid (c % 4) = q at HU b1
          generalize wid (d % 4) = q2 at HV b1
          go_enter Tryd.func8, Tryd.ntmps8
          go_wp2_with fail
          refine (unpack_is c p q 0 _ HS.out.1 h0 h1 HU.out.1 HU.out.2.1 HU.out.2.2).mono ?_
          rintro e w34 ⟨rfl, hb⟩
          replace HS := Lib.hid (HS.out.step hb)
          clear hb
          go_wp2_with fail
          refine (unpack_is d p q2 0 _ HS.out.1 g0 g1 HV.out.1 HV.out.2.1 HV.out.2.2).mono ?_
          rintro e w35 ⟨rfl, hb⟩
          replace HS := Lib.hid (HS.out.step hb)
          clear hb
          go_wp2_with fail
          refine (works_true _ HS.out.1).mono ?_
          rintro e w36 ⟨rfl, hb⟩
          replace HS := Lib.hid (HS.out.step hb)
          clear hb
          go_wp2_with fail
          go_ret
          exact ⟨rfl, HS.out.2⟩
        · have b1 : (c / 4 == d / 4) = false := by simpa using e2
          clear e e2
          generalize c / 4 = p at HU b1
          generalize d / 4 = p2 at HV b1
          generalize wid (c % 4) = q at HU
          generalize wid (d % 4) = q2 at HV
          go_enter Tryd.func8, Tryd.ntmps8
          go_wp2_with fail
          refine (unpack_is c p q 0 _ HS.out.1 h0 h1 HU.out.1 HU.out.2.1 HU.out.2.2).mono ?_
          rintro e w37 ⟨rfl, hb⟩
          replace HS := Lib.hid (HS.out.step hb)
          clear hb
          go_wp2_with fail
          refine (unpack_is d p2 q2 0 _ HS.out.1 g0 g1 HV.out.1 HV.out.2.1 HV.out.2.2).mono ?_
          rintro e w38 ⟨rfl, hb⟩
          replace HS := Lib.hid (HS.out.step hb)
          clear hb
          go_wp2_with fail
          refine (works_true _ HS.out.1).mono ?_
          rintro e w39 ⟨rfl, hb⟩
          replace HS := Lib.hid (HS.out.step hb)
          clear hb
          go_wp2_with fail
          go_ret
          exact ⟨rfl, HS.out.2⟩

theorem tagVectors_walk (t m : Int) (w : World) (hT : Tab w) (h0 : (Lit.int .i64 t).wf = true) (h1 : (Lit.int .i64 m).wf = true) :
    Calls Tryd.prog 7 #[.int .i64 t, .int .i64 m] w fun e w' => e = .returned (.bool true) ∧ Below w.heap.size w w' := by
  have HS := Lib.hid (St.start hT)
  clear hT
  have H0 := Lib.hid h0
  have H1 := Lib.hid h1
  clear h0 h1
  cases hv : isV t
  · have HE := Lib.hid (isV_no hv)
    have HV := Lib.hid hv
    clear hv
    cases hb : typB t m
    · have HT2 := Lib.hid (typ_no hb)
      have HB2 := Lib.hid hb
      clear hb
      go_enter Tryd.func7, Tryd.ntmps7
      go_wp2_with fail
      refine (elem_is t 0 0 false _ HS.out.1 HE.out.1 HE.out.2 HV.out).mono ?_
      rintro e w40 ⟨rfl, hb⟩
      replace HS := Lib.hid (HS.out.step hb)
      clear hb
      go_wp2_with fail
      refine (typed_is t m 0 false _ H0.out H1.out HT2.out HB2.out).mono ?_
      rintro e w41 ⟨rfl, hb⟩
      replace HS := Lib.hid (HS.out.step hb)
      clear hb
      go_wp2_with fail
      refine (works_true _ HS.out.1).mono ?_
      rintro e w42 ⟨rfl, hb⟩
      replace HS := Lib.hid (HS.out.step hb)
      clear hb
      go_wp2_with fail
      go_ret
      exact ⟨rfl, HS.out.2⟩
    · have HX := Lib.hid (typ_elem hb)
      have HB2 := Lib.hid hb
      clear hb
      obtain ⟨v, hv⟩ : ∃ v, typT t m = v := ⟨_, rfl⟩
      have HT2 := Lib.hid hv
      rw [hv] at HX
      clear hv
      go_enter Tryd.func7, Tryd.ntmps7
      go_wp2_with fail
      refine (elem_is t 0 0 false _ HS.out.1 HE.out.1 HE.out.2 HV.out).mono ?_
      rintro e w43 ⟨rfl, hb⟩
      replace HS := Lib.hid (HS.out.step hb)
      clear hb
      go_wp2_with fail
      refine (typed_is t m v true _ H0.out H1.out HT2.out HB2.out).mono ?_
      rintro e w44 ⟨rfl, hb⟩
      replace HS := Lib.hid (HS.out.step hb)
      clear hb
      go_wp2_with fail
      refine (elem_is v t m true _ HS.out.1 HX.out.2.1 HX.out.2.2 HX.out.1).mono ?_
      rintro e w45 ⟨rfl, hb⟩
      replace HS := Lib.hid (HS.out.step hb)
      clear hb
      go_wp2_with fail
      refine (works_true _ HS.out.1).mono ?_
      rintro e w46 ⟨rfl, hb⟩
      replace HS := Lib.hid (HS.out.step hb)
      clear hb
      go_wp2_with fail
      go_ret
      exact ⟨rfl, HS.out.2⟩
  · have HW := Lib.hid (isV_elm hv)
    have HV := Lib.hid hv
    obtain ⟨y1, y2, y3, y4, y5, _⟩ := isV_yes hv
    clear hv
    obtain ⟨el, hel⟩ : ∃ el, elm t = el := ⟨_, rfl⟩
    obtain ⟨mn, hmn⟩ : ∃ mn, mny t = mn := ⟨_, rfl⟩
    rw [hel, hmn] at y1 y2 HW
    rw [hel] at y5
    have HE := Lib.hid hel
    have HM := Lib.hid hmn
    have HY1 := Lib.hid y1
    have HY2 := Lib.hid y2
    have HY3 := Lib.hid y3
    have HY4 := Lib.hid y4
    clear hel hmn y1 y2 y3 y4
    rcases y5 with y5 | ⟨rfl, y5⟩
    · have HY5 := Lib.hid y5
      clear y5
      cases hb : typB t m
      · have HT2 := Lib.hid (typ_no hb)
        have HB2 := Lib.hid hb
        clear hb
        go_enter Tryd.func7, Tryd.ntmps7
        go_wp2_with fail
        refine (elem_is t el mn true _ HS.out.1 HE.out HM.out HV.out).mono ?_
        rintro e w47 ⟨rfl, hb⟩
        replace HS := Lib.hid (HS.out.step hb)
        clear hb
        go_wp2_with fail
        refine (typed_is el mn t true _ HW.out.1 HW.out.2 HY1.out HY2.out).mono ?_
        rintro e w48 ⟨rfl, hb⟩
        replace HS := Lib.hid (HS.out.step hb)
        clear hb
        go_wp2_with fail
        refine (inline_is t false _ HS.out.1 HY3.out).mono ?_
        rintro e w49 ⟨rfl, hb⟩
        replace HS := Lib.hid (HS.out.step hb)
        clear hb
        go_wp2_with fail
        refine (legal_is t true _ HS.out.1 HY4.out).mono ?_
        rintro e w50 ⟨rfl, hb⟩
        replace HS := Lib.hid (HS.out.step hb)
        clear hb
        go_wp2_with fail
        refine (inline_is el true _ HS.out.1 HY5.out).mono ?_
        rintro e w51 ⟨rfl, hb⟩
        replace HS := Lib.hid (HS.out.step hb)
        clear hb
        go_wp2_with fail
        refine (typed_is t m 0 false _ H0.out H1.out HT2.out HB2.out).mono ?_
        rintro e w52 ⟨rfl, hb⟩
        replace HS := Lib.hid (HS.out.step hb)
        clear hb
        go_wp2_with fail
        refine (works_true _ HS.out.1).mono ?_
        rintro e w53 ⟨rfl, hb⟩
        replace HS := Lib.hid (HS.out.step hb)
        clear hb
        go_wp2_with fail
        go_ret
        exact ⟨rfl, HS.out.2⟩
      · have HX := Lib.hid (typ_elem hb)
        have HB2 := Lib.hid hb
        clear hb
        obtain ⟨v, hv⟩ : ∃ v, typT t m = v := ⟨_, rfl⟩
        have HT2 := Lib.hid hv
        rw [hv] at HX
        clear hv
        go_enter Tryd.func7, Tryd.ntmps7
        go_wp2_with fail
        refine (elem_is t el mn true _ HS.out.1 HE.out HM.out HV.out).mono ?_
        rintro e w54 ⟨rfl, hb⟩
        replace HS := Lib.hid (HS.out.step hb)
        clear hb
        go_wp2_with fail
        refine (typed_is el mn t true _ HW.out.1 HW.out.2 HY1.out HY2.out).mono ?_
        rintro e w55 ⟨rfl, hb⟩
        replace HS := Lib.hid (HS.out.step hb)
        clear hb
        go_wp2_with fail
        refine (inline_is t false _ HS.out.1 HY3.out).mono ?_
        rintro e w56 ⟨rfl, hb⟩
        replace HS := Lib.hid (HS.out.step hb)
        clear hb
        go_wp2_with fail
        refine (legal_is t true _ HS.out.1 HY4.out).mono ?_
        rintro e w57 ⟨rfl, hb⟩
        replace HS := Lib.hid (HS.out.step hb)
        clear hb
        go_wp2_with fail
        refine (inline_is el true _ HS.out.1 HY5.out).mono ?_
        rintro e w58 ⟨rfl, hb⟩
        replace HS := Lib.hid (HS.out.step hb)
        clear hb
        go_wp2_with fail
        refine (typed_is t m v true _ H0.out H1.out HT2.out HB2.out).mono ?_
        rintro e w59 ⟨rfl, hb⟩
        replace HS := Lib.hid (HS.out.step hb)
        clear hb
        go_wp2_with fail
        refine (elem_is v t m true _ HS.out.1 HX.out.2.1 HX.out.2.2 HX.out.1).mono ?_
        rintro e w60 ⟨rfl, hb⟩
        replace HS := Lib.hid (HS.out.step hb)
        clear hb
        go_wp2_with fail
        refine (works_true _ HS.out.1).mono ?_
        rintro e w61 ⟨rfl, hb⟩
        replace HS := Lib.hid (HS.out.step hb)
        clear hb
        go_wp2_with fail
        go_ret
        exact ⟨rfl, HS.out.2⟩
    · have HY5 := Lib.hid y5
      clear y5
      cases hb : typB t m
      · have HT2 := Lib.hid (typ_no hb)
        have HB2 := Lib.hid hb
        clear hb
        go_enter Tryd.func7, Tryd.ntmps7
        go_wp2_with fail
        refine (elem_is t 4 mn true _ HS.out.1 HE.out HM.out HV.out).mono ?_
        rintro e w62 ⟨rfl, hb⟩
        replace HS := Lib.hid (HS.out.step hb)
        clear hb
        go_wp2_with fail
        refine (typed_is 4 mn t true _ HW.out.1 HW.out.2 HY1.out HY2.out).mono ?_
        rintro e w63 ⟨rfl, hb⟩
        replace HS := Lib.hid (HS.out.step hb)
        clear hb
        go_wp2_with fail
        refine (inline_is t false _ HS.out.1 HY3.out).mono ?_
        rintro e w64 ⟨rfl, hb⟩
        replace HS := Lib.hid (HS.out.step hb)
        clear hb
        go_wp2_with fail
        refine (legal_is t true _ HS.out.1 HY4.out).mono ?_
        rintro e w65 ⟨rfl, hb⟩
        replace HS := Lib.hid (HS.out.step hb)
        clear hb
        go_wp2_with fail
        refine (inline_is 4 false _ HS.out.1 HY5.out).mono ?_
        rintro e w66 ⟨rfl, hb⟩
        replace HS := Lib.hid (HS.out.step hb)
        clear hb
        go_wp2_with fail
        refine (typed_is t m 0 false _ H0.out H1.out HT2.out HB2.out).mono ?_
        rintro e w67 ⟨rfl, hb⟩
        replace HS := Lib.hid (HS.out.step hb)
        clear hb
        go_wp2_with fail
        refine (works_true _ HS.out.1).mono ?_
        rintro e w68 ⟨rfl, hb⟩
        replace HS := Lib.hid (HS.out.step hb)
        clear hb
        go_wp2_with fail
        go_ret
        exact ⟨rfl, HS.out.2⟩
      · have HX := Lib.hid (typ_elem hb)
        have HB2 := Lib.hid hb
        clear hb
        obtain ⟨v, hv⟩ : ∃ v, typT t m = v := ⟨_, rfl⟩
        have HT2 := Lib.hid hv
        rw [hv] at HX
        clear hv
        go_enter Tryd.func7, Tryd.ntmps7
        go_wp2_with fail
        refine (elem_is t 4 mn true _ HS.out.1 HE.out HM.out HV.out).mono ?_
        rintro e w69 ⟨rfl, hb⟩
        replace HS := Lib.hid (HS.out.step hb)
        clear hb
        go_wp2_with fail
        refine (typed_is 4 mn t true _ HW.out.1 HW.out.2 HY1.out HY2.out).mono ?_
        rintro e w70 ⟨rfl, hb⟩
        replace HS := Lib.hid (HS.out.step hb)
        clear hb
        go_wp2_with fail
        refine (inline_is t false _ HS.out.1 HY3.out).mono ?_
        rintro e w71 ⟨rfl, hb⟩
        replace HS := Lib.hid (HS.out.step hb)
        clear hb
        go_wp2_with fail
        refine (legal_is t true _ HS.out.1 HY4.out).mono ?_
        rintro e w72 ⟨rfl, hb⟩
        replace HS := Lib.hid (HS.out.step hb)
        clear hb
        go_wp2_with fail
        refine (inline_is 4 false _ HS.out.1 HY5.out).mono ?_
        rintro e w73 ⟨rfl, hb⟩
        replace HS := Lib.hid (HS.out.step hb)
        clear hb
        go_wp2_with fail
        refine (typed_is t m v true _ H0.out H1.out HT2.out HB2.out).mono ?_
        rintro e w74 ⟨rfl, hb⟩
        replace HS := Lib.hid (HS.out.step hb)
        clear hb
        go_wp2_with fail
        refine (elem_is v t m true _ HS.out.1 HX.out.2.1 HX.out.2.2 HX.out.1).mono ?_
        rintro e w75 ⟨rfl, hb⟩
        replace HS := Lib.hid (HS.out.step hb)
        clear hb
        go_wp2_with fail
        refine (works_true _ HS.out.1).mono ?_
        rintro e w76 ⟨rfl, hb⟩
        replace HS := Lib.hid (HS.out.step hb)
        clear hb
        go_wp2_with fail
        go_ret
        exact ⟨rfl, HS.out.2⟩

end Go.Proofs.YtocdmjbmeindgaaDoor
