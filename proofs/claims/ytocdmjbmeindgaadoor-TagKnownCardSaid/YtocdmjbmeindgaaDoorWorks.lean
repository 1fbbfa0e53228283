/-
  What is proved here: the examples of chapter 2 hold: accordionlaw02.works returns true wherever the tables hold what is laid, and leaves all memory that was there as it was.
-/
import Derived.Test.YtocdmjbmeindgaaDoorRef2
import Derived.Test.YtocdmjbmeindgaaDoorVec
namespace Go.Proofs.YtocdmjbmeindgaaDoor
open Go.RowKit Tg

/-- The world w has come from w0 by new memory alone, and the tables hold what is laid. -/
def St (w0 w : World) : Prop := Tab w ∧ Below w0.heap.size w0 w
theorem St.start {w : World} (h : Tab w) : St w w := ⟨h, Below.refl _ _⟩
theorem St.step {w0 w w' : World} (h : St w0 w) (hb : Below w.heap.size w w') : St w0 w' := ⟨h.1.keep hb, h.2.trans (hb.mono h.2.size)⟩

theorem packs_true (t x want er : Int) (w : World) (hT : Tab w) (hC : packC t x = want) (hE : packE t x = er) :
    Calls Tryd.prog 25 #[.int .i64 t, .int .i64 x, .int .u8 want, .int .i64 er] w fun e w' => e = .returned (.bool true) ∧ Below w.heap.size w w' := by
  have hl := pack_any t x w hT
  rw [hC, hE] at hl
  have HL := Lib.hid hl
  clear hl hT hC hE
  go_enter Tryd.func25, Tryd.ntmps25
  go_wp2_with (go_at_call 10; refine HL.out.mono ?_; rintro e w1 ⟨rfl, hb⟩; have HB := Lib.hid hb; clear hb)
  go_ret
  exact ⟨rfl, HB.out⟩
theorem says_true (c t x er : Int) (w : World) (hT : Tab w) (h0 : 0 ≤ c) (h1 : c ≤ 255) (hC : unT c = t) (hW : unW c = x) (hE : unE c = er) :
    Calls Tryd.prog 26 #[.int .u8 c, .int .i64 t, .int .i64 x, .int .i64 er] w fun e w' => e = .returned (.bool true) ∧ Below w.heap.size w w' := by
  have hl := unpack_any c w hT h0 h1
  rw [hC, hE, hW] at hl
  have HL := Lib.hid hl
  clear hl hT hC hE hW
  go_enter Tryd.func26, Tryd.ntmps26
  go_wp2_with (go_at_call 12; refine HL.out.mono ?_; rintro e w1 ⟨rfl, hb⟩; have HB := Lib.hid hb; clear hb)
  go_ret
  exact ⟨rfl, HB.out⟩
theorem has_true (t el n : Int) (is : Bool) (w : World) (hT : Tab w) (h1 : elm t = el) (h2 : mny t = n) (h3 : isV t = is) :
    Calls Tryd.prog 27 #[.int .i64 t, .int .i64 el, .int .i64 n, .bool is] w fun e w' => e = .returned (.bool true) ∧ Below w.heap.size w w' := by
  have hl := elem_any t w hT
  rw [h1, h2, h3] at hl
  have HL := Lib.hid hl
  clear hl hT h1 h2 h3
  cases is
  all_goals
    go_enter Tryd.func27, Tryd.ntmps27
    go_wp2_with (go_at_call 15; refine HL.out.mono ?_; rintro e w1 ⟨rfl, hb⟩; have HB := Lib.hid hb; clear hb)
    go_ret
    exact ⟨rfl, HB.out⟩
theorem typed_true (el n t : Int) (is : Bool) (w : World) (he : (Lit.int .i64 el).wf = true) (hn : (Lit.int .i64 n).wf = true) (h1 : typT el n = t) (h3 : typB el n = is) :
    Calls Tryd.prog 28 #[.int .i64 el, .int .i64 n, .int .i64 t, .bool is] w fun e w' => e = .returned (.bool true) ∧ Below w.heap.size w w' := by
  have hl := typed_any el n w he hn
  rw [h1, h3] at hl
  have HL := Lib.hid hl
  clear hl h1 h3 he hn
  cases is
  all_goals
    go_enter Tryd.func28, Tryd.ntmps28
    go_wp2_with (go_at_call 17; refine HL.out.mono ?_; rintro e w1 ⟨rfl, hb⟩; have HB := Lib.hid hb; clear hb)
    go_ret
    exact ⟨rfl, HB.out⟩
theorem inline_is (t : Int) (b : Bool) (w : World) (hT : Tab w) (h : inl t = b) :
    Calls Tryd.prog 21 #[.int .i64 t] w fun e w' => e = .returned (.bool b) ∧ Below w.heap.size w w' := h ▸ inline_any t w hT
theorem legal_is (t : Int) (b : Bool) (w : World) (hT : Tab w) (h : legal t = b) :
    Calls Tryd.prog 19 #[.int .i64 t] w fun e w' => e = .returned (.bool b) ∧ Below w.heap.size w w' := h ▸ legal_any t w hT

set_option maxHeartbeats 1000000 in
theorem works_true (w : World) (hT : Tab w) : Calls Tryd.prog 14 #[] w fun e w' => e = .returned (.bool true) ∧ Below w.heap.size w w' := by
  have HS := Lib.hid (St.start hT)
  clear hT
  go_enter Tryd.func14, Tryd.ntmps14
  go_wp2_with fail
  refine (packs_true 5 1 20 0 _ HS.out.1 (by decide +kernel) (by decide +kernel)).mono ?_
  rintro e w1 ⟨rfl, hb⟩
  replace HS := Lib.hid (HS.out.step hb)
  clear hb
  go_wp2_with fail
  refine (packs_true 10 4 42 0 _ HS.out.1 (by decide +kernel) (by decide +kernel)).mono ?_
  rintro e w2 ⟨rfl, hb⟩
  replace HS := Lib.hid (HS.out.step hb)
  clear hb
  go_wp2_with fail
  refine (packs_true 3 1 0 20 _ HS.out.1 (by decide +kernel) (by decide +kernel)).mono ?_
  rintro e w3 ⟨rfl, hb⟩
  replace HS := Lib.hid (HS.out.step hb)
  clear hb
  go_wp2_with fail
  refine (packs_true 1 3 0 2 _ HS.out.1 (by decide +kernel) (by decide +kernel)).mono ?_
  rintro e w4 ⟨rfl, hb⟩
  replace HS := Lib.hid (HS.out.step hb)
  clear hb
  go_wp2_with fail
  refine (says_true 106 26 4 0 _ HS.out.1 (by decide) (by decide) (by decide +kernel) (by decide +kernel) (by decide +kernel)).mono ?_
  rintro e w5 ⟨rfl, hb⟩
  replace HS := Lib.hid (HS.out.step hb)
  clear hb
  go_wp2_with fail
  refine (says_true 147 36 8 0 _ HS.out.1 (by decide) (by decide) (by decide +kernel) (by decide +kernel) (by decide +kernel)).mono ?_
  rintro e w6 ⟨rfl, hb⟩
  replace HS := Lib.hid (HS.out.step hb)
  clear hb
  go_wp2_with fail
  refine (says_true 12 0 0 20 _ HS.out.1 (by decide) (by decide) (by decide +kernel) (by decide +kernel) (by decide +kernel)).mono ?_
  rintro e w7 ⟨rfl, hb⟩
  replace HS := Lib.hid (HS.out.step hb)
  clear hb
  go_wp2_with fail
  refine (says_true 148 0 0 20 _ HS.out.1 (by decide) (by decide) (by decide +kernel) (by decide +kernel) (by decide +kernel)).mono ?_
  rintro e w8 ⟨rfl, hb⟩
  replace HS := Lib.hid (HS.out.step hb)
  clear hb
  go_wp2_with fail
  refine (inline_is 26 true _ HS.out.1 (by decide +kernel)).mono ?_
  rintro e w9 ⟨rfl, hb⟩
  replace HS := Lib.hid (HS.out.step hb)
  clear hb
  go_wp2_with fail
  refine (inline_is 4 false _ HS.out.1 (by decide +kernel)).mono ?_
  rintro e w10 ⟨rfl, hb⟩
  replace HS := Lib.hid (HS.out.step hb)
  clear hb
  go_wp2_with fail
  refine (legal_is 15 false _ HS.out.1 (by decide +kernel)).mono ?_
  rintro e w11 ⟨rfl, hb⟩
  replace HS := Lib.hid (HS.out.step hb)
  clear hb
  go_wp2_with fail
  refine (legal_is (-1) false _ HS.out.1 (by decide +kernel)).mono ?_
  rintro e w12 ⟨rfl, hb⟩
  replace HS := Lib.hid (HS.out.step hb)
  clear hb
  go_wp2_with fail
  refine (has_true 14 4 0 true _ HS.out.1 (by decide +kernel) (by decide +kernel) (by decide +kernel)).mono ?_
  rintro e w13 ⟨rfl, hb⟩
  replace HS := Lib.hid (HS.out.step hb)
  clear hb
  go_wp2_with fail
  refine (has_true 20 2 3 true _ HS.out.1 (by decide +kernel) (by decide +kernel) (by decide +kernel)).mono ?_
  rintro e w14 ⟨rfl, hb⟩
  replace HS := Lib.hid (HS.out.step hb)
  clear hb
  go_wp2_with fail
  refine (has_true 10 0 0 false _ HS.out.1 (by decide +kernel) (by decide +kernel) (by decide +kernel)).mono ?_
  rintro e w15 ⟨rfl, hb⟩
  replace HS := Lib.hid (HS.out.step hb)
  clear hb
  go_wp2_with fail
  refine (typed_true 1 2 16 true _ (by decide) (by decide) (by decide +kernel) (by decide +kernel)).mono ?_
  rintro e w16 ⟨rfl, hb⟩
  replace HS := Lib.hid (HS.out.step hb)
  clear hb
  go_wp2_with fail
  refine (typed_true 4 2 0 false _ (by decide) (by decide) (by decide +kernel) (by decide +kernel)).mono ?_
  rintro e w17 ⟨rfl, hb⟩
  replace HS := Lib.hid (HS.out.step hb)
  clear hb
  go_wp2_with fail
  refine (typed_true 26 0 36 true _ (by decide) (by decide) (by decide +kernel) (by decide +kernel)).mono ?_
  rintro e w18 ⟨rfl, hb⟩
  replace HS := Lib.hid (HS.out.step hb)
  clear hb
  go_wp2_with fail
  go_ret
  exact ⟨rfl, HS.out.2⟩
end Go.Proofs.YtocdmjbmeindgaaDoor
