/-
  What is proved here: the contract of utf.appendItem: it appends the shortest item of a scalar value; conditions: those that each fact states.
-/
import Derived.Test.YtodmlgbomhmbpaaDoorIdxB
import Derived.Test.YtodmlgbomhmbpaaDoorRune
namespace Go.Proofs.YtodmlgbomhmbpaaDoor
open Go.RowKit Ut Go.Lib

/-- The digits of a control character. -/
def hexB (n : Nat) : UInt8 := [48, 49, 50, 51, 52, 53, 54, 55, 56, 57, 97, 98, 99, 100, 101, 102].getD n 0
/-- The shortest item that denotes a byte. -/
def itemN (n : Nat) : List UInt8 :=
  if n = 34 then [92, 34] else if n = 92 then [92, 92] else if n = 8 then [92, 98] else if n = 12 then [92, 102] else if n = 10 then [92, 110] else if n = 13 then [92, 114] else if n = 9 then [92, 116]
  else if n < 32 then [92, 117, 48, 48, hexB (n / 16), hexB (n % 16)] else [UInt8.ofNat n]
def itemR (r : Nat) : List UInt8 := if r < 128 then itemN r else enc r
def special (n : Nat) : Prop := n = 34 ∨ n = 92 ∨ n = 8 ∨ n = 12 ∨ n = 10 ∨ n = 13 ∨ n = 9
theorem Gr.pre {w w1 w' : World} {v v' : Value} (hb : Below w.heap.size w w1) (h : Gr w1 w' v v') : Gr w w' v v' := by
  obtain ⟨h, hk⟩ := h
  have hs := hb.size
  refine ⟨⟨h.os.trans hb.os, h.tape.trans hb.tape, h.output.trans hb.output, Nat.le_trans hs h.size, fun k hk hne => (h.block k (by omega) hne).trans (hb.block k hk)⟩, ?_⟩
  rcases hk with hk | ⟨k, hk, hl⟩
  · exact Or.inl hk
  · exact Or.inr ⟨k, hk, by omega⟩
theorem own_below' {w w' : World} {B : Nat} {v : Value} {xs : List UInt8} (h : Own w B v xs) (hb : Below w.heap.size w w') : Own w' B v xs := own_below h hb (Nat.le_refl _)
theorem src_list (w : World) (ys : List UInt8) (cs : Array Value) (hcs : cs = (bv ys).toArray) : ∀ j u, (bv ys)[j]? = some u → (w.alloc (.cells cs 5)).cell? ((⟨w.heap.size, 0, none⟩ : Addr).add j) = some u := by
  subst hcs
  exact src_new
/-- What appendItem leaves. -/
def AI (w : World) (B : Nat) (v : Value) (xs ys : List UInt8) (e : Ending) (w' : World) : Prop := ∃ v', e = .returned v' ∧ Own w' B v' (xs ++ ys) ∧ Gr w w' v v'

set_option maxHeartbeats 1000000 in
theorem item_34 (B : Nat) (v : Value) (xs : List UInt8) (w : World) (hown : Own w B v xs) (hlen : xs.length ≤ 900000) (hB : B ≤ w.heap.size) :
    Calls Tryd.prog 51 #[v, .int .i32 34] w (AI w B v xs [92, 34]) := by
  have C := idx_ascii 34 w (by decide)
  rw [show Lib.indexByte escB (UInt8.ofNat 34) = 0 by decide] at C
  have HC := Lib.hid C
  have HO := Lib.hid hown
  have HL := Lib.hid hlen
  have HB := Lib.hid hB
  clear C hown hlen hB
  go_enter Tryd.func51, Tryd.ntmps51
  go_wp2_with (first
    | (go_at_call 68; refine HC.out.mono ?_; rintro e w1 ⟨rfl, hb⟩; have HBL := Lib.hid hb; clear hb)
    | (at_builtin; refine wpList_app (B := B) (xs := xs) (ys := [92, 34]) (v := v) rfl (.tmp 10) (.tmp 13) rfl rfl rfl rfl ((own_below' HO.out HBL.out).alloc _) (src_list w1 [92, 34] _ rfl) (by have := HL.out; simp; omega) (by have := HB.out; have := HBL.out.size; simp; omega) ?_; intro v2 w2 hown2 hgr2; have HO2 := Lib.hid hown2; have HG2 := Lib.hid hgr2; clear hown2 hgr2))
  go_ret
  exact ⟨v2, rfl, HO2.out, Gr.pre HBL.out HG2.out.alloc⟩

set_option maxHeartbeats 1000000 in
theorem item_92 (B : Nat) (v : Value) (xs : List UInt8) (w : World) (hown : Own w B v xs) (hlen : xs.length ≤ 900000) (hB : B ≤ w.heap.size) :
    Calls Tryd.prog 51 #[v, .int .i32 92] w (AI w B v xs [92, 92]) := by
  have C := idx_ascii 92 w (by decide)
  rw [show Lib.indexByte escB (UInt8.ofNat 92) = 1 by decide] at C
  have HC := Lib.hid C
  have HO := Lib.hid hown
  have HL := Lib.hid hlen
  have HB := Lib.hid hB
  clear C hown hlen hB
  go_enter Tryd.func51, Tryd.ntmps51
  go_wp2_with (first
    | (go_at_call 68; refine HC.out.mono ?_; rintro e w1 ⟨rfl, hb⟩; have HBL := Lib.hid hb; clear hb)
    | (at_builtin; refine wpList_app (B := B) (xs := xs) (ys := [92, 92]) (v := v) rfl (.tmp 10) (.tmp 13) rfl rfl rfl rfl ((own_below' HO.out HBL.out).alloc _) (src_list w1 [92, 92] _ rfl) (by have := HL.out; simp; omega) (by have := HB.out; have := HBL.out.size; simp; omega) ?_; intro v2 w2 hown2 hgr2; have HO2 := Lib.hid hown2; have HG2 := Lib.hid hgr2; clear hown2 hgr2))
  go_ret
  exact ⟨v2, rfl, HO2.out, Gr.pre HBL.out HG2.out.alloc⟩

set_option maxHeartbeats 1000000 in
theorem item_8 (B : Nat) (v : Value) (xs : List UInt8) (w : World) (hown : Own w B v xs) (hlen : xs.length ≤ 900000) (hB : B ≤ w.heap.size) :
    Calls Tryd.prog 51 #[v, .int .i32 8] w (AI w B v xs [92, 98]) := by
  have C := idx_ascii 8 w (by decide)
  rw [show Lib.indexByte escB (UInt8.ofNat 8) = 2 by decide] at C
  have HC := Lib.hid C
  have HO := Lib.hid hown
  have HL := Lib.hid hlen
  have HB := Lib.hid hB
  clear C hown hlen hB
  go_enter Tryd.func51, Tryd.ntmps51
  go_wp2_with (first
    | (go_at_call 68; refine HC.out.mono ?_; rintro e w1 ⟨rfl, hb⟩; have HBL := Lib.hid hb; clear hb)
    | (at_builtin; refine wpList_app (B := B) (xs := xs) (ys := [92, 98]) (v := v) rfl (.tmp 10) (.tmp 13) rfl rfl rfl rfl ((own_below' HO.out HBL.out).alloc _) (src_list w1 [92, 98] _ rfl) (by have := HL.out; simp; omega) (by have := HB.out; have := HBL.out.size; simp; omega) ?_; intro v2 w2 hown2 hgr2; have HO2 := Lib.hid hown2; have HG2 := Lib.hid hgr2; clear hown2 hgr2))
  go_ret
  exact ⟨v2, rfl, HO2.out, Gr.pre HBL.out HG2.out.alloc⟩

set_option maxHeartbeats 1000000 in
theorem item_12 (B : Nat) (v : Value) (xs : List UInt8) (w : World) (hown : Own w B v xs) (hlen : xs.length ≤ 900000) (hB : B ≤ w.heap.size) :
    Calls Tryd.prog 51 #[v, .int .i32 12] w (AI w B v xs [92, 102]) := by
  have C := idx_ascii 12 w (by decide)
  rw [show Lib.indexByte escB (UInt8.ofNat 12) = 3 by decide] at C
  have HC := Lib.hid C
  have HO := Lib.hid hown
  have HL := Lib.hid hlen
  have HB := Lib.hid hB
  clear C hown hlen hB
  go_enter Tryd.func51, Tryd.ntmps51
  go_wp2_with (first
    | (go_at_call 68; refine HC.out.mono ?_; rintro e w1 ⟨rfl, hb⟩; have HBL := Lib.hid hb; clear hb)
    | (at_builtin; refine wpList_app (B := B) (xs := xs) (ys := [92, 102]) (v := v) rfl (.tmp 10) (.tmp 13) rfl rfl rfl rfl ((own_below' HO.out HBL.out).alloc _) (src_list w1 [92, 102] _ rfl) (by have := HL.out; simp; omega) (by have := HB.out; have := HBL.out.size; simp; omega) ?_; intro v2 w2 hown2 hgr2; have HO2 := Lib.hid hown2; have HG2 := Lib.hid hgr2; clear hown2 hgr2))
  go_ret
  exact ⟨v2, rfl, HO2.out, Gr.pre HBL.out HG2.out.alloc⟩

set_option maxHeartbeats 1000000 in
theorem item_10 (B : Nat) (v : Value) (xs : List UInt8) (w : World) (hown : Own w B v xs) (hlen : xs.length ≤ 900000) (hB : B ≤ w.heap.size) :
    Calls Tryd.prog 51 #[v, .int .i32 10] w (AI w B v xs [92, 110]) := by
  have C := idx_ascii 10 w (by decide)
  rw [show Lib.indexByte escB (UInt8.ofNat 10) = 4 by decide] at C
  have HC := Lib.hid C
  have HO := Lib.hid hown
  have HL := Lib.hid hlen
  have HB := Lib.hid hB
  clear C hown hlen hB
  go_enter Tryd.func51, Tryd.ntmps51
  go_wp2_with (first
    | (go_at_call 68; refine HC.out.mono ?_; rintro e w1 ⟨rfl, hb⟩; have HBL := Lib.hid hb; clear hb)
    | (at_builtin; refine wpList_app (B := B) (xs := xs) (ys := [92, 110]) (v := v) rfl (.tmp 10) (.tmp 13) rfl rfl rfl rfl ((own_below' HO.out HBL.out).alloc _) (src_list w1 [92, 110] _ rfl) (by have := HL.out; simp; omega) (by have := HB.out; have := HBL.out.size; simp; omega) ?_; intro v2 w2 hown2 hgr2; have HO2 := Lib.hid hown2; have HG2 := Lib.hid hgr2; clear hown2 hgr2))
  go_ret
  exact ⟨v2, rfl, HO2.out, Gr.pre HBL.out HG2.out.alloc⟩

set_option maxHeartbeats 1000000 in
theorem item_13 (B : Nat) (v : Value) (xs : List UInt8) (w : World) (hown : Own w B v xs) (hlen : xs.length ≤ 900000) (hB : B ≤ w.heap.size) :
    Calls Tryd.prog 51 #[v, .int .i32 13] w (AI w B v xs [92, 114]) := by
  have C := idx_ascii 13 w (by decide)
  rw [show Lib.indexByte escB (UInt8.ofNat 13) = 5 by decide] at C
  have HC := Lib.hid C
  have HO := Lib.hid hown
  have HL := Lib.hid hlen
  have HB := Lib.hid hB
  clear C hown hlen hB
  go_enter Tryd.func51, Tryd.ntmps51
  go_wp2_with (first
    | (go_at_call 68; refine HC.out.mono ?_; rintro e w1 ⟨rfl, hb⟩; have HBL := Lib.hid hb; clear hb)
    | (at_builtin; refine wpList_app (B := B) (xs := xs) (ys := [92, 114]) (v := v) rfl (.tmp 10) (.tmp 13) rfl rfl rfl rfl ((own_below' HO.out HBL.out).alloc _) (src_list w1 [92, 114] _ rfl) (by have := HL.out; simp; omega) (by have := HB.out; have := HBL.out.size; simp; omega) ?_; intro v2 w2 hown2 hgr2; have HO2 := Lib.hid hown2; have HG2 := Lib.hid hgr2; clear hown2 hgr2))
  go_ret
  exact ⟨v2, rfl, HO2.out, Gr.pre HBL.out HG2.out.alloc⟩

set_option maxHeartbeats 1000000 in
theorem item_9 (B : Nat) (v : Value) (xs : List UInt8) (w : World) (hown : Own w B v xs) (hlen : xs.length ≤ 900000) (hB : B ≤ w.heap.size) :
    Calls Tryd.prog 51 #[v, .int .i32 9] w (AI w B v xs [92, 116]) := by
  have C := idx_ascii 9 w (by decide)
  rw [show Lib.indexByte escB (UInt8.ofNat 9) = 6 by decide] at C
  have HC := Lib.hid C
  have HO := Lib.hid hown
  have HL := Lib.hid hlen
  have HB := Lib.hid hB
  clear C hown hlen hB
  go_enter Tryd.func51, Tryd.ntmps51
  go_wp2_with (first
    | (go_at_call 68; refine HC.out.mono ?_; rintro e w1 ⟨rfl, hb⟩; have HBL := Lib.hid hb; clear hb)
    | (at_builtin; refine wpList_app (B := B) (xs := xs) (ys := [92, 116]) (v := v) rfl (.tmp 10) (.tmp 13) rfl rfl rfl rfl ((own_below' HO.out HBL.out).alloc _) (src_list w1 [92, 116] _ rfl) (by have := HL.out; simp; omega) (by have := HB.out; have := HBL.out.size; simp; omega) ?_; intro v2 w2 hown2 hgr2; have HO2 := Lib.hid hown2; have HG2 := Lib.hid hgr2; clear hown2 hgr2))
  go_ret
  exact ⟨v2, rfl, HO2.out, Gr.pre HBL.out HG2.out.alloc⟩

theorem ib_none {r : Nat} (h : r < 128) (hs : ¬ special r) : Lib.indexByte escB (UInt8.ofNat r) = -1 := by
  have key : ∀ x : Fin 128, ¬ (x.val = 34 ∨ x.val = 92 ∨ x.val = 8 ∨ x.val = 12 ∨ x.val = 10 ∨ x.val = 13 ∨ x.val = 9) → Lib.indexByte escB (UInt8.ofNat x.val) = -1 := by decide +kernel
  exact key ⟨r, h⟩ hs
theorem idx_plain (r : Nat) (w : World) (h : scal r) (hs : ¬ special r) :
    Calls Tryd.prog 68 #[.string ⟨#[34, 92, 8, 12, 10, 13, 9]⟩, .int .i32 (r : Int)] w fun e w' => e = .returned (.int .i64 (-1)) ∧ Below w.heap.size w w' := by
  by_cases h1 : r < 128
  · have C := idx_ascii r w h1
    rw [ib_none h1 hs] at C
    exact C
  · exact idx_high r w h (by omega)
set_option maxHeartbeats 1000000 in
theorem item_plain (B : Nat) (v : Value) (xs : List UInt8) (r : Nat) (hsc : scal r) (hs : ¬ special r) (h32 : 32 ≤ r) (w : World) (hown : Own w B v xs) (hlen : xs.length ≤ 900000) (hB : B ≤ w.heap.size) :
    Calls Tryd.prog 51 #[v, .int .i32 (r : Int)] w (AI w B v xs (enc r)) := by
  have HC := Lib.hid (idx_plain r w hsc hs)
  have d1 : decide ((r : Int) < 32) = false := decide_eq_false (by omega)
  have HO := Lib.hid hown
  have HL := Lib.hid hlen
  have HB := Lib.hid hB
  have HS := Lib.hid hsc
  clear hown hlen hB hs hsc h32
  go_enter Tryd.func51, Tryd.ntmps51
  go_wp2_with (first
    | (go_at_call 68; refine HC.out.mono ?_; rintro e w1 ⟨rfl, hb⟩; have HBL := Lib.hid hb; clear hb)
    | (go_at_call 69; refine (appendRune_any B v xs r HS.out _ (own_below' HO.out HBL.out) HL.out (Nat.le_trans HB.out HBL.out.size)).mono ?_; rintro e w2 ⟨v2, rfl, hown2, hgr2⟩; have HO2 := Lib.hid hown2; have HG2 := Lib.hid hgr2; clear hown2 hgr2))
  go_ret
  exact ⟨v2, rfl, HO2.out, Gr.pre HBL.out HG2.out⟩

set_option maxHeartbeats 1000000 in
theorem item_c0 (B : Nat) (v : Value) (xs : List UInt8) (w : World) (hown : Own w B v xs) (hlen : xs.length ≤ 900000) (hB : B ≤ w.heap.size) :
    Calls Tryd.prog 51 #[v, .int .i32 0] w (AI w B v xs [92, 117, 48, 48, 48, 48]) := by
  have HC := Lib.hid (idx_plain 0 w (by unfold scal; decide) (by unfold special; decide))
  have HO := Lib.hid hown
  have HL := Lib.hid hlen
  have HB := Lib.hid hB
  clear hown hlen hB
  have hbit : bits BinOp.and IntKind.i32 0 15 = 0 := by decide
  go_enter Tryd.func51, Tryd.ntmps51
  go_wp2_with (first
    | (go_at_call 68; refine HC.out.mono ?_; rintro e w1 ⟨rfl, hb⟩; have HBL := Lib.hid hb; clear hb))
  go_region_law (refine step_app (B := B) (v := v) (xs := xs) (ys := [92, 117, 48, 48, 48, 48]) rfl (.tmp 17) (.tmp 24) rfl rfl rfl rfl ((own_below' HO.out HBL.out).alloc _) (src_list w1.drew [92, 117, 48, 48, 48, 48] _ rfl) (by have := HL.out; simp; omega) (by have := HB.out; have := HBL.out.size; simp; omega) ?_; intro v2 w2 hown2 hgr2; have HO2 := Lib.hid hown2; have HG2 := Lib.hid hgr2; clear hown2 hgr2)
  all_goals
    go_wp2
    go_ret
    exact ⟨v2, rfl, HO2.out, Gr.pre HBL.out HG2.out.undrew.alloc⟩

set_option maxHeartbeats 1000000 in
theorem item_c1 (B : Nat) (v : Value) (xs : List UInt8) (w : World) (hown : Own w B v xs) (hlen : xs.length ≤ 900000) (hB : B ≤ w.heap.size) :
    Calls Tryd.prog 51 #[v, .int .i32 1] w (AI w B v xs [92, 117, 48, 48, 48, 49]) := by
  have HC := Lib.hid (idx_plain 1 w (by unfold scal; decide) (by unfold special; decide))
  have HO := Lib.hid hown
  have HL := Lib.hid hlen
  have HB := Lib.hid hB
  clear hown hlen hB
  have hbit : bits BinOp.and IntKind.i32 1 15 = 1 := by decide
  go_enter Tryd.func51, Tryd.ntmps51
  go_wp2_with (first
    | (go_at_call 68; refine HC.out.mono ?_; rintro e w1 ⟨rfl, hb⟩; have HBL := Lib.hid hb; clear hb))
  go_region_law (refine step_app (B := B) (v := v) (xs := xs) (ys := [92, 117, 48, 48, 48, 49]) rfl (.tmp 17) (.tmp 24) rfl rfl rfl rfl ((own_below' HO.out HBL.out).alloc _) (src_list w1.drew [92, 117, 48, 48, 48, 49] _ rfl) (by have := HL.out; simp; omega) (by have := HB.out; have := HBL.out.size; simp; omega) ?_; intro v2 w2 hown2 hgr2; have HO2 := Lib.hid hown2; have HG2 := Lib.hid hgr2; clear hown2 hgr2)
  all_goals
    go_wp2
    go_ret
    exact ⟨v2, rfl, HO2.out, Gr.pre HBL.out HG2.out.undrew.alloc⟩

set_option maxHeartbeats 1000000 in
theorem item_c2 (B : Nat) (v : Value) (xs : List UInt8) (w : World) (hown : Own w B v xs) (hlen : xs.length ≤ 900000) (hB : B ≤ w.heap.size) :
    Calls Tryd.prog 51 #[v, .int .i32 2] w (AI w B v xs [92, 117, 48, 48, 48, 50]) := by
  have HC := Lib.hid (idx_plain 2 w (by unfold scal; decide) (by unfold special; decide))
  have HO := Lib.hid hown
  have HL := Lib.hid hlen
  have HB := Lib.hid hB
  clear hown hlen hB
  have hbit : bits BinOp.and IntKind.i32 2 15 = 2 := by decide
  go_enter Tryd.func51, Tryd.ntmps51
  go_wp2_with (first
    | (go_at_call 68; refine HC.out.mono ?_; rintro e w1 ⟨rfl, hb⟩; have HBL := Lib.hid hb; clear hb))
  go_region_law (refine step_app (B := B) (v := v) (xs := xs) (ys := [92, 117, 48, 48, 48, 50]) rfl (.tmp 17) (.tmp 24) rfl rfl rfl rfl ((own_below' HO.out HBL.out).alloc _) (src_list w1.drew [92, 117, 48, 48, 48, 50] _ rfl) (by have := HL.out; simp; omega) (by have := HB.out; have := HBL.out.size; simp; omega) ?_; intro v2 w2 hown2 hgr2; have HO2 := Lib.hid hown2; have HG2 := Lib.hid hgr2; clear hown2 hgr2)
  all_goals
    go_wp2
    go_ret
    exact ⟨v2, rfl, HO2.out, Gr.pre HBL.out HG2.out.undrew.alloc⟩

set_option maxHeartbeats 1000000 in
theorem item_c3 (B : Nat) (v : Value) (xs : List UInt8) (w : World) (hown : Own w B v xs) (hlen : xs.length ≤ 900000) (hB : B ≤ w.heap.size) :
    Calls Tryd.prog 51 #[v, .int .i32 3] w (AI w B v xs [92, 117, 48, 48, 48, 51]) := by
  have HC := Lib.hid (idx_plain 3 w (by unfold scal; decide) (by unfold special; decide))
  have HO := Lib.hid hown
  have HL := Lib.hid hlen
  have HB := Lib.hid hB
  clear hown hlen hB
  have hbit : bits BinOp.and IntKind.i32 3 15 = 3 := by decide
  go_enter Tryd.func51, Tryd.ntmps51
  go_wp2_with (first
    | (go_at_call 68; refine HC.out.mono ?_; rintro e w1 ⟨rfl, hb⟩; have HBL := Lib.hid hb; clear hb))
  go_region_law (refine step_app (B := B) (v := v) (xs := xs) (ys := [92, 117, 48, 48, 48, 51]) rfl (.tmp 17) (.tmp 24) rfl rfl rfl rfl ((own_below' HO.out HBL.out).alloc _) (src_list w1.drew [92, 117, 48, 48, 48, 51] _ rfl) (by have := HL.out; simp; omega) (by have := HB.out; have := HBL.out.size; simp; omega) ?_; intro v2 w2 hown2 hgr2; have HO2 := Lib.hid hown2; have HG2 := Lib.hid hgr2; clear hown2 hgr2)
  all_goals
    go_wp2
    go_ret
    exact ⟨v2, rfl, HO2.out, Gr.pre HBL.out HG2.out.undrew.alloc⟩

set_option maxHeartbeats 1000000 in
theorem item_c4 (B : Nat) (v : Value) (xs : List UInt8) (w : World) (hown : Own w B v xs) (hlen : xs.length ≤ 900000) (hB : B ≤ w.heap.size) :
    Calls Tryd.prog 51 #[v, .int .i32 4] w (AI w B v xs [92, 117, 48, 48, 48, 52]) := by
  have HC := Lib.hid (idx_plain 4 w (by unfold scal; decide) (by unfold special; decide))
  have HO := Lib.hid hown
  have HL := Lib.hid hlen
  have HB := Lib.hid hB
  clear hown hlen hB
  have hbit : bits BinOp.and IntKind.i32 4 15 = 4 := by decide
  go_enter Tryd.func51, Tryd.ntmps51
  go_wp2_with (first
    | (go_at_call 68; refine HC.out.mono ?_; rintro e w1 ⟨rfl, hb⟩; have HBL := Lib.hid hb; clear hb))
  go_region_law (refine step_app (B := B) (v := v) (xs := xs) (ys := [92, 117, 48, 48, 48, 52]) rfl (.tmp 17) (.tmp 24) rfl rfl rfl rfl ((own_below' HO.out HBL.out).alloc _) (src_list w1.drew [92, 117, 48, 48, 48, 52] _ rfl) (by have := HL.out; simp; omega) (by have := HB.out; have := HBL.out.size; simp; omega) ?_; intro v2 w2 hown2 hgr2; have HO2 := Lib.hid hown2; have HG2 := Lib.hid hgr2; clear hown2 hgr2)
  all_goals
    go_wp2
    go_ret
    exact ⟨v2, rfl, HO2.out, Gr.pre HBL.out HG2.out.undrew.alloc⟩

set_option maxHeartbeats 1000000 in
theorem item_c5 (B : Nat) (v : Value) (xs : List UInt8) (w : World) (hown : Own w B v xs) (hlen : xs.length ≤ 900000) (hB : B ≤ w.heap.size) :
    Calls Tryd.prog 51 #[v, .int .i32 5] w (AI w B v xs [92, 117, 48, 48, 48, 53]) := by
  have HC := Lib.hid (idx_plain 5 w (by unfold scal; decide) (by unfold special; decide))
  have HO := Lib.hid hown
  have HL := Lib.hid hlen
  have HB := Lib.hid hB
  clear hown hlen hB
  have hbit : bits BinOp.and IntKind.i32 5 15 = 5 := by decide
  go_enter Tryd.func51, Tryd.ntmps51
  go_wp2_with (first
    | (go_at_call 68; refine HC.out.mono ?_; rintro e w1 ⟨rfl, hb⟩; have HBL := Lib.hid hb; clear hb))
  go_region_law (refine step_app (B := B) (v := v) (xs := xs) (ys := [92, 117, 48, 48, 48, 53]) rfl (.tmp 17) (.tmp 24) rfl rfl rfl rfl ((own_below' HO.out HBL.out).alloc _) (src_list w1.drew [92, 117, 48, 48, 48, 53] _ rfl) (by have := HL.out; simp; omega) (by have := HB.out; have := HBL.out.size; simp; omega) ?_; intro v2 w2 hown2 hgr2; have HO2 := Lib.hid hown2; have HG2 := Lib.hid hgr2; clear hown2 hgr2)
  all_goals
    go_wp2
    go_ret
    exact ⟨v2, rfl, HO2.out, Gr.pre HBL.out HG2.out.undrew.alloc⟩

set_option maxHeartbeats 1000000 in
theorem item_c6 (B : Nat) (v : Value) (xs : List UInt8) (w : World) (hown : Own w B v xs) (hlen : xs.length ≤ 900000) (hB : B ≤ w.heap.size) :
    Calls Tryd.prog 51 #[v, .int .i32 6] w (AI w B v xs [92, 117, 48, 48, 48, 54]) := by
  have HC := Lib.hid (idx_plain 6 w (by unfold scal; decide) (by unfold special; decide))
  have HO := Lib.hid hown
  have HL := Lib.hid hlen
  have HB := Lib.hid hB
  clear hown hlen hB
  have hbit : bits BinOp.and IntKind.i32 6 15 = 6 := by decide
  go_enter Tryd.func51, Tryd.ntmps51
  go_wp2_with (first
    | (go_at_call 68; refine HC.out.mono ?_; rintro e w1 ⟨rfl, hb⟩; have HBL := Lib.hid hb; clear hb))
  go_region_law (refine step_app (B := B) (v := v) (xs := xs) (ys := [92, 117, 48, 48, 48, 54]) rfl (.tmp 17) (.tmp 24) rfl rfl rfl rfl ((own_below' HO.out HBL.out).alloc _) (src_list w1.drew [92, 117, 48, 48, 48, 54] _ rfl) (by have := HL.out; simp; omega) (by have := HB.out; have := HBL.out.size; simp; omega) ?_; intro v2 w2 hown2 hgr2; have HO2 := Lib.hid hown2; have HG2 := Lib.hid hgr2; clear hown2 hgr2)
  all_goals
    go_wp2
    go_ret
    exact ⟨v2, rfl, HO2.out, Gr.pre HBL.out HG2.out.undrew.alloc⟩

set_option maxHeartbeats 1000000 in
theorem item_c7 (B : Nat) (v : Value) (xs : List UInt8) (w : World) (hown : Own w B v xs) (hlen : xs.length ≤ 900000) (hB : B ≤ w.heap.size) :
    Calls Tryd.prog 51 #[v, .int .i32 7] w (AI w B v xs [92, 117, 48, 48, 48, 55]) := by
  have HC := Lib.hid (idx_plain 7 w (by unfold scal; decide) (by unfold special; decide))
  have HO := Lib.hid hown
  have HL := Lib.hid hlen
  have HB := Lib.hid hB
  clear hown hlen hB
  have hbit : bits BinOp.and IntKind.i32 7 15 = 7 := by decide
  go_enter Tryd.func51, Tryd.ntmps51
  go_wp2_with (first
    | (go_at_call 68; refine HC.out.mono ?_; rintro e w1 ⟨rfl, hb⟩; have HBL := Lib.hid hb; clear hb))
  go_region_law (refine step_app (B := B) (v := v) (xs := xs) (ys := [92, 117, 48, 48, 48, 55]) rfl (.tmp 17) (.tmp 24) rfl rfl rfl rfl ((own_below' HO.out HBL.out).alloc _) (src_list w1.drew [92, 117, 48, 48, 48, 55] _ rfl) (by have := HL.out; simp; omega) (by have := HB.out; have := HBL.out.size; simp; omega) ?_; intro v2 w2 hown2 hgr2; have HO2 := Lib.hid hown2; have HG2 := Lib.hid hgr2; clear hown2 hgr2)
  all_goals
    go_wp2
    go_ret
    exact ⟨v2, rfl, HO2.out, Gr.pre HBL.out HG2.out.undrew.alloc⟩

set_option maxHeartbeats 1000000 in
theorem item_c11 (B : Nat) (v : Value) (xs : List UInt8) (w : World) (hown : Own w B v xs) (hlen : xs.length ≤ 900000) (hB : B ≤ w.heap.size) :
    Calls Tryd.prog 51 #[v, .int .i32 11] w (AI w B v xs [92, 117, 48, 48, 48, 98]) := by
  have HC := Lib.hid (idx_plain 11 w (by unfold scal; decide) (by unfold special; decide))
  have HO := Lib.hid hown
  have HL := Lib.hid hlen
  have HB := Lib.hid hB
  clear hown hlen hB
  have hbit : bits BinOp.and IntKind.i32 11 15 = 11 := by decide
  go_enter Tryd.func51, Tryd.ntmps51
  go_wp2_with (first
    | (go_at_call 68; refine HC.out.mono ?_; rintro e w1 ⟨rfl, hb⟩; have HBL := Lib.hid hb; clear hb))
  go_region_law (refine step_app (B := B) (v := v) (xs := xs) (ys := [92, 117, 48, 48, 48, 98]) rfl (.tmp 17) (.tmp 24) rfl rfl rfl rfl ((own_below' HO.out HBL.out).alloc _) (src_list w1.drew [92, 117, 48, 48, 48, 98] _ rfl) (by have := HL.out; simp; omega) (by have := HB.out; have := HBL.out.size; simp; omega) ?_; intro v2 w2 hown2 hgr2; have HO2 := Lib.hid hown2; have HG2 := Lib.hid hgr2; clear hown2 hgr2)
  all_goals
    go_wp2
    go_ret
    exact ⟨v2, rfl, HO2.out, Gr.pre HBL.out HG2.out.undrew.alloc⟩

set_option maxHeartbeats 1000000 in
theorem item_c14 (B : Nat) (v : Value) (xs : List UInt8) (w : World) (hown : Own w B v xs) (hlen : xs.length ≤ 900000) (hB : B ≤ w.heap.size) :
    Calls Tryd.prog 51 #[v, .int .i32 14] w (AI w B v xs [92, 117, 48, 48, 48, 101]) := by
  have HC := Lib.hid (idx_plain 14 w (by unfold scal; decide) (by unfold special; decide))
  have HO := Lib.hid hown
  have HL := Lib.hid hlen
  have HB := Lib.hid hB
  clear hown hlen hB
  have hbit : bits BinOp.and IntKind.i32 14 15 = 14 := by decide
  go_enter Tryd.func51, Tryd.ntmps51
  go_wp2_with (first
    | (go_at_call 68; refine HC.out.mono ?_; rintro e w1 ⟨rfl, hb⟩; have HBL := Lib.hid hb; clear hb))
  go_region_law (refine step_app (B := B) (v := v) (xs := xs) (ys := [92, 117, 48, 48, 48, 101]) rfl (.tmp 17) (.tmp 24) rfl rfl rfl rfl ((own_below' HO.out HBL.out).alloc _) (src_list w1.drew [92, 117, 48, 48, 48, 101] _ rfl) (by have := HL.out; simp; omega) (by have := HB.out; have := HBL.out.size; simp; omega) ?_; intro v2 w2 hown2 hgr2; have HO2 := Lib.hid hown2; have HG2 := Lib.hid hgr2; clear hown2 hgr2)
  all_goals
    go_wp2
    go_ret
    exact ⟨v2, rfl, HO2.out, Gr.pre HBL.out HG2.out.undrew.alloc⟩

set_option maxHeartbeats 1000000 in
theorem item_c15 (B : Nat) (v : Value) (xs : List UInt8) (w : World) (hown : Own w B v xs) (hlen : xs.length ≤ 900000) (hB : B ≤ w.heap.size) :
    Calls Tryd.prog 51 #[v, .int .i32 15] w (AI w B v xs [92, 117, 48, 48, 48, 102]) := by
  have HC := Lib.hid (idx_plain 15 w (by unfold scal; decide) (by unfold special; decide))
  have HO := Lib.hid hown
  have HL := Lib.hid hlen
  have HB := Lib.hid hB
  clear hown hlen hB
  have hbit : bits BinOp.and IntKind.i32 15 15 = 15 := by decide
  go_enter Tryd.func51, Tryd.ntmps51
  go_wp2_with (first
    | (go_at_call 68; refine HC.out.mono ?_; rintro e w1 ⟨rfl, hb⟩; have HBL := Lib.hid hb; clear hb))
  go_region_law (refine step_app (B := B) (v := v) (xs := xs) (ys := [92, 117, 48, 48, 48, 102]) rfl (.tmp 17) (.tmp 24) rfl rfl rfl rfl ((own_below' HO.out HBL.out).alloc _) (src_list w1.drew [92, 117, 48, 48, 48, 102] _ rfl) (by have := HL.out; simp; omega) (by have := HB.out; have := HBL.out.size; simp; omega) ?_; intro v2 w2 hown2 hgr2; have HO2 := Lib.hid hown2; have HG2 := Lib.hid hgr2; clear hown2 hgr2)
  all_goals
    go_wp2
    go_ret
    exact ⟨v2, rfl, HO2.out, Gr.pre HBL.out HG2.out.undrew.alloc⟩

set_option maxHeartbeats 1000000 in
theorem item_c16 (B : Nat) (v : Value) (xs : List UInt8) (w : World) (hown : Own w B v xs) (hlen : xs.length ≤ 900000) (hB : B ≤ w.heap.size) :
    Calls Tryd.prog 51 #[v, .int .i32 16] w (AI w B v xs [92, 117, 48, 48, 49, 48]) := by
  have HC := Lib.hid (idx_plain 16 w (by unfold scal; decide) (by unfold special; decide))
  have HO := Lib.hid hown
  have HL := Lib.hid hlen
  have HB := Lib.hid hB
  clear hown hlen hB
  have hbit : bits BinOp.and IntKind.i32 16 15 = 0 := by decide
  go_enter Tryd.func51, Tryd.ntmps51
  go_wp2_with (first
    | (go_at_call 68; refine HC.out.mono ?_; rintro e w1 ⟨rfl, hb⟩; have HBL := Lib.hid hb; clear hb))
  go_region_law (refine step_app (B := B) (v := v) (xs := xs) (ys := [92, 117, 48, 48, 49, 48]) rfl (.tmp 17) (.tmp 24) rfl rfl rfl rfl ((own_below' HO.out HBL.out).alloc _) (src_list w1.drew [92, 117, 48, 48, 49, 48] _ rfl) (by have := HL.out; simp; omega) (by have := HB.out; have := HBL.out.size; simp; omega) ?_; intro v2 w2 hown2 hgr2; have HO2 := Lib.hid hown2; have HG2 := Lib.hid hgr2; clear hown2 hgr2)
  all_goals
    go_wp2
    go_ret
    exact ⟨v2, rfl, HO2.out, Gr.pre HBL.out HG2.out.undrew.alloc⟩

set_option maxHeartbeats 1000000 in
theorem item_c17 (B : Nat) (v : Value) (xs : List UInt8) (w : World) (hown : Own w B v xs) (hlen : xs.length ≤ 900000) (hB : B ≤ w.heap.size) :
    Calls Tryd.prog 51 #[v, .int .i32 17] w (AI w B v xs [92, 117, 48, 48, 49, 49]) := by
  have HC := Lib.hid (idx_plain 17 w (by unfold scal; decide) (by unfold special; decide))
  have HO := Lib.hid hown
  have HL := Lib.hid hlen
  have HB := Lib.hid hB
  clear hown hlen hB
  have hbit : bits BinOp.and IntKind.i32 17 15 = 1 := by decide
  go_enter Tryd.func51, Tryd.ntmps51
  go_wp2_with (first
    | (go_at_call 68; refine HC.out.mono ?_; rintro e w1 ⟨rfl, hb⟩; have HBL := Lib.hid hb; clear hb))
  go_region_law (refine step_app (B := B) (v := v) (xs := xs) (ys := [92, 117, 48, 48, 49, 49]) rfl (.tmp 17) (.tmp 24) rfl rfl rfl rfl ((own_below' HO.out HBL.out).alloc _) (src_list w1.drew [92, 117, 48, 48, 49, 49] _ rfl) (by have := HL.out; simp; omega) (by have := HB.out; have := HBL.out.size; simp; omega) ?_; intro v2 w2 hown2 hgr2; have HO2 := Lib.hid hown2; have HG2 := Lib.hid hgr2; clear hown2 hgr2)
  all_goals
    go_wp2
    go_ret
    exact ⟨v2, rfl, HO2.out, Gr.pre HBL.out HG2.out.undrew.alloc⟩

set_option maxHeartbeats 1000000 in
theorem item_c18 (B : Nat) (v : Value) (xs : List UInt8) (w : World) (hown : Own w B v xs) (hlen : xs.length ≤ 900000) (hB : B ≤ w.heap.size) :
    Calls Tryd.prog 51 #[v, .int .i32 18] w (AI w B v xs [92, 117, 48, 48, 49, 50]) := by
  have HC := Lib.hid (idx_plain 18 w (by unfold scal; decide) (by unfold special; decide))
  have HO := Lib.hid hown
  have HL := Lib.hid hlen
  have HB := Lib.hid hB
  clear hown hlen hB
  have hbit : bits BinOp.and IntKind.i32 18 15 = 2 := by decide
  go_enter Tryd.func51, Tryd.ntmps51
  go_wp2_with (first
    | (go_at_call 68; refine HC.out.mono ?_; rintro e w1 ⟨rfl, hb⟩; have HBL := Lib.hid hb; clear hb))
  go_region_law (refine step_app (B := B) (v := v) (xs := xs) (ys := [92, 117, 48, 48, 49, 50]) rfl (.tmp 17) (.tmp 24) rfl rfl rfl rfl ((own_below' HO.out HBL.out).alloc _) (src_list w1.drew [92, 117, 48, 48, 49, 50] _ rfl) (by have := HL.out; simp; omega) (by have := HB.out; have := HBL.out.size; simp; omega) ?_; intro v2 w2 hown2 hgr2; have HO2 := Lib.hid hown2; have HG2 := Lib.hid hgr2; clear hown2 hgr2)
  all_goals
    go_wp2
    go_ret
    exact ⟨v2, rfl, HO2.out, Gr.pre HBL.out HG2.out.undrew.alloc⟩

set_option maxHeartbeats 1000000 in
theorem item_c19 (B : Nat) (v : Value) (xs : List UInt8) (w : World) (hown : Own w B v xs) (hlen : xs.length ≤ 900000) (hB : B ≤ w.heap.size) :
    Calls Tryd.prog 51 #[v, .int .i32 19] w (AI w B v xs [92, 117, 48, 48, 49, 51]) := by
  have HC := Lib.hid (idx_plain 19 w (by unfold scal; decide) (by unfold special; decide))
  have HO := Lib.hid hown
  have HL := Lib.hid hlen
  have HB := Lib.hid hB
  clear hown hlen hB
  have hbit : bits BinOp.and IntKind.i32 19 15 = 3 := by decide
  go_enter Tryd.func51, Tryd.ntmps51
  go_wp2_with (first
    | (go_at_call 68; refine HC.out.mono ?_; rintro e w1 ⟨rfl, hb⟩; have HBL := Lib.hid hb; clear hb))
  go_region_law (refine step_app (B := B) (v := v) (xs := xs) (ys := [92, 117, 48, 48, 49, 51]) rfl (.tmp 17) (.tmp 24) rfl rfl rfl rfl ((own_below' HO.out HBL.out).alloc _) (src_list w1.drew [92, 117, 48, 48, 49, 51] _ rfl) (by have := HL.out; simp; omega) (by have := HB.out; have := HBL.out.size; simp; omega) ?_; intro v2 w2 hown2 hgr2; have HO2 := Lib.hid hown2; have HG2 := Lib.hid hgr2; clear hown2 hgr2)
  all_goals
    go_wp2
    go_ret
    exact ⟨v2, rfl, HO2.out, Gr.pre HBL.out HG2.out.undrew.alloc⟩

set_option maxHeartbeats 1000000 in
theorem item_c20 (B : Nat) (v : Value) (xs : List UInt8) (w : World) (hown : Own w B v xs) (hlen : xs.length ≤ 900000) (hB : B ≤ w.heap.size) :
    Calls Tryd.prog 51 #[v, .int .i32 20] w (AI w B v xs [92, 117, 48, 48, 49, 52]) := by
  have HC := Lib.hid (idx_plain 20 w (by unfold scal; decide) (by unfold special; decide))
  have HO := Lib.hid hown
  have HL := Lib.hid hlen
  have HB := Lib.hid hB
  clear hown hlen hB
  have hbit : bits BinOp.and IntKind.i32 20 15 = 4 := by decide
  go_enter Tryd.func51, Tryd.ntmps51
  go_wp2_with (first
    | (go_at_call 68; refine HC.out.mono ?_; rintro e w1 ⟨rfl, hb⟩; have HBL := Lib.hid hb; clear hb))
  go_region_law (refine step_app (B := B) (v := v) (xs := xs) (ys := [92, 117, 48, 48, 49, 52]) rfl (.tmp 17) (.tmp 24) rfl rfl rfl rfl ((own_below' HO.out HBL.out).alloc _) (src_list w1.drew [92, 117, 48, 48, 49, 52] _ rfl) (by have := HL.out; simp; omega) (by have := HB.out; have := HBL.out.size; simp; omega) ?_; intro v2 w2 hown2 hgr2; have HO2 := Lib.hid hown2; have HG2 := Lib.hid hgr2; clear hown2 hgr2)
  all_goals
    go_wp2
    go_ret
    exact ⟨v2, rfl, HO2.out, Gr.pre HBL.out HG2.out.undrew.alloc⟩

set_option maxHeartbeats 1000000 in
theorem item_c21 (B : Nat) (v : Value) (xs : List UInt8) (w : World) (hown : Own w B v xs) (hlen : xs.length ≤ 900000) (hB : B ≤ w.heap.size) :
    Calls Tryd.prog 51 #[v, .int .i32 21] w (AI w B v xs [92, 117, 48, 48, 49, 53]) := by
  have HC := Lib.hid (idx_plain 21 w (by unfold scal; decide) (by unfold special; decide))
  have HO := Lib.hid hown
  have HL := Lib.hid hlen
  have HB := Lib.hid hB
  clear hown hlen hB
  have hbit : bits BinOp.and IntKind.i32 21 15 = 5 := by decide
  go_enter Tryd.func51, Tryd.ntmps51
  go_wp2_with (first
    | (go_at_call 68; refine HC.out.mono ?_; rintro e w1 ⟨rfl, hb⟩; have HBL := Lib.hid hb; clear hb))
  go_region_law (refine step_app (B := B) (v := v) (xs := xs) (ys := [92, 117, 48, 48, 49, 53]) rfl (.tmp 17) (.tmp 24) rfl rfl rfl rfl ((own_below' HO.out HBL.out).alloc _) (src_list w1.drew [92, 117, 48, 48, 49, 53] _ rfl) (by have := HL.out; simp; omega) (by have := HB.out; have := HBL.out.size; simp; omega) ?_; intro v2 w2 hown2 hgr2; have HO2 := Lib.hid hown2; have HG2 := Lib.hid hgr2; clear hown2 hgr2)
  all_goals
    go_wp2
    go_ret
    exact ⟨v2, rfl, HO2.out, Gr.pre HBL.out HG2.out.undrew.alloc⟩

set_option maxHeartbeats 1000000 in
theorem item_c22 (B : Nat) (v : Value) (xs : List UInt8) (w : World) (hown : Own w B v xs) (hlen : xs.length ≤ 900000) (hB : B ≤ w.heap.size) :
    Calls Tryd.prog 51 #[v, .int .i32 22] w (AI w B v xs [92, 117, 48, 48, 49, 54]) := by
  have HC := Lib.hid (idx_plain 22 w (by unfold scal; decide) (by unfold special; decide))
  have HO := Lib.hid hown
  have HL := Lib.hid hlen
  have HB := Lib.hid hB
  clear hown hlen hB
  have hbit : bits BinOp.and IntKind.i32 22 15 = 6 := by decide
  go_enter Tryd.func51, Tryd.ntmps51
  go_wp2_with (first
    | (go_at_call 68; refine HC.out.mono ?_; rintro e w1 ⟨rfl, hb⟩; have HBL := Lib.hid hb; clear hb))
  go_region_law (refine step_app (B := B) (v := v) (xs := xs) (ys := [92, 117, 48, 48, 49, 54]) rfl (.tmp 17) (.tmp 24) rfl rfl rfl rfl ((own_below' HO.out HBL.out).alloc _) (src_list w1.drew [92, 117, 48, 48, 49, 54] _ rfl) (by have := HL.out; simp; omega) (by have := HB.out; have := HBL.out.size; simp; omega) ?_; intro v2 w2 hown2 hgr2; have HO2 := Lib.hid hown2; have HG2 := Lib.hid hgr2; clear hown2 hgr2)
  all_goals
    go_wp2
    go_ret
    exact ⟨v2, rfl, HO2.out, Gr.pre HBL.out HG2.out.undrew.alloc⟩

set_option maxHeartbeats 1000000 in
theorem item_c23 (B : Nat) (v : Value) (xs : List UInt8) (w : World) (hown : Own w B v xs) (hlen : xs.length ≤ 900000) (hB : B ≤ w.heap.size) :
    Calls Tryd.prog 51 #[v, .int .i32 23] w (AI w B v xs [92, 117, 48, 48, 49, 55]) := by
  have HC := Lib.hid (idx_plain 23 w (by unfold scal; decide) (by unfold special; decide))
  have HO := Lib.hid hown
  have HL := Lib.hid hlen
  have HB := Lib.hid hB
  clear hown hlen hB
  have hbit : bits BinOp.and IntKind.i32 23 15 = 7 := by decide
  go_enter Tryd.func51, Tryd.ntmps51
  go_wp2_with (first
    | (go_at_call 68; refine HC.out.mono ?_; rintro e w1 ⟨rfl, hb⟩; have HBL := Lib.hid hb; clear hb))
  go_region_law (refine step_app (B := B) (v := v) (xs := xs) (ys := [92, 117, 48, 48, 49, 55]) rfl (.tmp 17) (.tmp 24) rfl rfl rfl rfl ((own_below' HO.out HBL.out).alloc _) (src_list w1.drew [92, 117, 48, 48, 49, 55] _ rfl) (by have := HL.out; simp; omega) (by have := HB.out; have := HBL.out.size; simp; omega) ?_; intro v2 w2 hown2 hgr2; have HO2 := Lib.hid hown2; have HG2 := Lib.hid hgr2; clear hown2 hgr2)
  all_goals
    go_wp2
    go_ret
    exact ⟨v2, rfl, HO2.out, Gr.pre HBL.out HG2.out.undrew.alloc⟩

set_option maxHeartbeats 1000000 in
theorem item_c24 (B : Nat) (v : Value) (xs : List UInt8) (w : World) (hown : Own w B v xs) (hlen : xs.length ≤ 900000) (hB : B ≤ w.heap.size) :
    Calls Tryd.prog 51 #[v, .int .i32 24] w (AI w B v xs [92, 117, 48, 48, 49, 56]) := by
  have HC := Lib.hid (idx_plain 24 w (by unfold scal; decide) (by unfold special; decide))
  have HO := Lib.hid hown
  have HL := Lib.hid hlen
  have HB := Lib.hid hB
  clear hown hlen hB
  have hbit : bits BinOp.and IntKind.i32 24 15 = 8 := by decide
  go_enter Tryd.func51, Tryd.ntmps51
  go_wp2_with (first
    | (go_at_call 68; refine HC.out.mono ?_; rintro e w1 ⟨rfl, hb⟩; have HBL := Lib.hid hb; clear hb))
  go_region_law (refine step_app (B := B) (v := v) (xs := xs) (ys := [92, 117, 48, 48, 49, 56]) rfl (.tmp 17) (.tmp 24) rfl rfl rfl rfl ((own_below' HO.out HBL.out).alloc _) (src_list w1.drew [92, 117, 48, 48, 49, 56] _ rfl) (by have := HL.out; simp; omega) (by have := HB.out; have := HBL.out.size; simp; omega) ?_; intro v2 w2 hown2 hgr2; have HO2 := Lib.hid hown2; have HG2 := Lib.hid hgr2; clear hown2 hgr2)
  all_goals
    go_wp2
    go_ret
    exact ⟨v2, rfl, HO2.out, Gr.pre HBL.out HG2.out.undrew.alloc⟩

set_option maxHeartbeats 1000000 in
theorem item_c25 (B : Nat) (v : Value) (xs : List UInt8) (w : World) (hown : Own w B v xs) (hlen : xs.length ≤ 900000) (hB : B ≤ w.heap.size) :
    Calls Tryd.prog 51 #[v, .int .i32 25] w (AI w B v xs [92, 117, 48, 48, 49, 57]) := by
  have HC := Lib.hid (idx_plain 25 w (by unfold scal; decide) (by unfold special; decide))
  have HO := Lib.hid hown
  have HL := Lib.hid hlen
  have HB := Lib.hid hB
  clear hown hlen hB
  have hbit : bits BinOp.and IntKind.i32 25 15 = 9 := by decide
  go_enter Tryd.func51, Tryd.ntmps51
  go_wp2_with (first
    | (go_at_call 68; refine HC.out.mono ?_; rintro e w1 ⟨rfl, hb⟩; have HBL := Lib.hid hb; clear hb))
  go_region_law (refine step_app (B := B) (v := v) (xs := xs) (ys := [92, 117, 48, 48, 49, 57]) rfl (.tmp 17) (.tmp 24) rfl rfl rfl rfl ((own_below' HO.out HBL.out).alloc _) (src_list w1.drew [92, 117, 48, 48, 49, 57] _ rfl) (by have := HL.out; simp; omega) (by have := HB.out; have := HBL.out.size; simp; omega) ?_; intro v2 w2 hown2 hgr2; have HO2 := Lib.hid hown2; have HG2 := Lib.hid hgr2; clear hown2 hgr2)
  all_goals
    go_wp2
    go_ret
    exact ⟨v2, rfl, HO2.out, Gr.pre HBL.out HG2.out.undrew.alloc⟩

set_option maxHeartbeats 1000000 in
theorem item_c26 (B : Nat) (v : Value) (xs : List UInt8) (w : World) (hown : Own w B v xs) (hlen : xs.length ≤ 900000) (hB : B ≤ w.heap.size) :
    Calls Tryd.prog 51 #[v, .int .i32 26] w (AI w B v xs [92, 117, 48, 48, 49, 97]) := by
  have HC := Lib.hid (idx_plain 26 w (by unfold scal; decide) (by unfold special; decide))
  have HO := Lib.hid hown
  have HL := Lib.hid hlen
  have HB := Lib.hid hB
  clear hown hlen hB
  have hbit : bits BinOp.and IntKind.i32 26 15 = 10 := by decide
  go_enter Tryd.func51, Tryd.ntmps51
  go_wp2_with (first
    | (go_at_call 68; refine HC.out.mono ?_; rintro e w1 ⟨rfl, hb⟩; have HBL := Lib.hid hb; clear hb))
  go_region_law (refine step_app (B := B) (v := v) (xs := xs) (ys := [92, 117, 48, 48, 49, 97]) rfl (.tmp 17) (.tmp 24) rfl rfl rfl rfl ((own_below' HO.out HBL.out).alloc _) (src_list w1.drew [92, 117, 48, 48, 49, 97] _ rfl) (by have := HL.out; simp; omega) (by have := HB.out; have := HBL.out.size; simp; omega) ?_; intro v2 w2 hown2 hgr2; have HO2 := Lib.hid hown2; have HG2 := Lib.hid hgr2; clear hown2 hgr2)
  all_goals
    go_wp2
    go_ret
    exact ⟨v2, rfl, HO2.out, Gr.pre HBL.out HG2.out.undrew.alloc⟩

set_option maxHeartbeats 1000000 in
theorem item_c27 (B : Nat) (v : Value) (xs : List UInt8) (w : World) (hown : Own w B v xs) (hlen : xs.length ≤ 900000) (hB : B ≤ w.heap.size) :
    Calls Tryd.prog 51 #[v, .int .i32 27] w (AI w B v xs [92, 117, 48, 48, 49, 98]) := by
  have HC := Lib.hid (idx_plain 27 w (by unfold scal; decide) (by unfold special; decide))
  have HO := Lib.hid hown
  have HL := Lib.hid hlen
  have HB := Lib.hid hB
  clear hown hlen hB
  have hbit : bits BinOp.and IntKind.i32 27 15 = 11 := by decide
  go_enter Tryd.func51, Tryd.ntmps51
  go_wp2_with (first
    | (go_at_call 68; refine HC.out.mono ?_; rintro e w1 ⟨rfl, hb⟩; have HBL := Lib.hid hb; clear hb))
  go_region_law (refine step_app (B := B) (v := v) (xs := xs) (ys := [92, 117, 48, 48, 49, 98]) rfl (.tmp 17) (.tmp 24) rfl rfl rfl rfl ((own_below' HO.out HBL.out).alloc _) (src_list w1.drew [92, 117, 48, 48, 49, 98] _ rfl) (by have := HL.out; simp; omega) (by have := HB.out; have := HBL.out.size; simp; omega) ?_; intro v2 w2 hown2 hgr2; have HO2 := Lib.hid hown2; have HG2 := Lib.hid hgr2; clear hown2 hgr2)
  all_goals
    go_wp2
    go_ret
    exact ⟨v2, rfl, HO2.out, Gr.pre HBL.out HG2.out.undrew.alloc⟩

set_option maxHeartbeats 1000000 in
theorem item_c28 (B : Nat) (v : Value) (xs : List UInt8) (w : World) (hown : Own w B v xs) (hlen : xs.length ≤ 900000) (hB : B ≤ w.heap.size) :
    Calls Tryd.prog 51 #[v, .int .i32 28] w (AI w B v xs [92, 117, 48, 48, 49, 99]) := by
  have HC := Lib.hid (idx_plain 28 w (by unfold scal; decide) (by unfold special; decide))
  have HO := Lib.hid hown
  have HL := Lib.hid hlen
  have HB := Lib.hid hB
  clear hown hlen hB
  have hbit : bits BinOp.and IntKind.i32 28 15 = 12 := by decide
  go_enter Tryd.func51, Tryd.ntmps51
  go_wp2_with (first
    | (go_at_call 68; refine HC.out.mono ?_; rintro e w1 ⟨rfl, hb⟩; have HBL := Lib.hid hb; clear hb))
  go_region_law (refine step_app (B := B) (v := v) (xs := xs) (ys := [92, 117, 48, 48, 49, 99]) rfl (.tmp 17) (.tmp 24) rfl rfl rfl rfl ((own_below' HO.out HBL.out).alloc _) (src_list w1.drew [92, 117, 48, 48, 49, 99] _ rfl) (by have := HL.out; simp; omega) (by have := HB.out; have := HBL.out.size; simp; omega) ?_; intro v2 w2 hown2 hgr2; have HO2 := Lib.hid hown2; have HG2 := Lib.hid hgr2; clear hown2 hgr2)
  all_goals
    go_wp2
    go_ret
    exact ⟨v2, rfl, HO2.out, Gr.pre HBL.out HG2.out.undrew.alloc⟩

set_option maxHeartbeats 1000000 in
theorem item_c29 (B : Nat) (v : Value) (xs : List UInt8) (w : World) (hown : Own w B v xs) (hlen : xs.length ≤ 900000) (hB : B ≤ w.heap.size) :
    Calls Tryd.prog 51 #[v, .int .i32 29] w (AI w B v xs [92, 117, 48, 48, 49, 100]) := by
  have HC := Lib.hid (idx_plain 29 w (by unfold scal; decide) (by unfold special; decide))
  have HO := Lib.hid hown
  have HL := Lib.hid hlen
  have HB := Lib.hid hB
  clear hown hlen hB
  have hbit : bits BinOp.and IntKind.i32 29 15 = 13 := by decide
  go_enter Tryd.func51, Tryd.ntmps51
  go_wp2_with (first
    | (go_at_call 68; refine HC.out.mono ?_; rintro e w1 ⟨rfl, hb⟩; have HBL := Lib.hid hb; clear hb))
  go_region_law (refine step_app (B := B) (v := v) (xs := xs) (ys := [92, 117, 48, 48, 49, 100]) rfl (.tmp 17) (.tmp 24) rfl rfl rfl rfl ((own_below' HO.out HBL.out).alloc _) (src_list w1.drew [92, 117, 48, 48, 49, 100] _ rfl) (by have := HL.out; simp; omega) (by have := HB.out; have := HBL.out.size; simp; omega) ?_; intro v2 w2 hown2 hgr2; have HO2 := Lib.hid hown2; have HG2 := Lib.hid hgr2; clear hown2 hgr2)
  all_goals
    go_wp2
    go_ret
    exact ⟨v2, rfl, HO2.out, Gr.pre HBL.out HG2.out.undrew.alloc⟩

set_option maxHeartbeats 1000000 in
theorem item_c30 (B : Nat) (v : Value) (xs : List UInt8) (w : World) (hown : Own w B v xs) (hlen : xs.length ≤ 900000) (hB : B ≤ w.heap.size) :
    Calls Tryd.prog 51 #[v, .int .i32 30] w (AI w B v xs [92, 117, 48, 48, 49, 101]) := by
  have HC := Lib.hid (idx_plain 30 w (by unfold scal; decide) (by unfold special; decide))
  have HO := Lib.hid hown
  have HL := Lib.hid hlen
  have HB := Lib.hid hB
  clear hown hlen hB
  have hbit : bits BinOp.and IntKind.i32 30 15 = 14 := by decide
  go_enter Tryd.func51, Tryd.ntmps51
  go_wp2_with (first
    | (go_at_call 68; refine HC.out.mono ?_; rintro e w1 ⟨rfl, hb⟩; have HBL := Lib.hid hb; clear hb))
  go_region_law (refine step_app (B := B) (v := v) (xs := xs) (ys := [92, 117, 48, 48, 49, 101]) rfl (.tmp 17) (.tmp 24) rfl rfl rfl rfl ((own_below' HO.out HBL.out).alloc _) (src_list w1.drew [92, 117, 48, 48, 49, 101] _ rfl) (by have := HL.out; simp; omega) (by have := HB.out; have := HBL.out.size; simp; omega) ?_; intro v2 w2 hown2 hgr2; have HO2 := Lib.hid hown2; have HG2 := Lib.hid hgr2; clear hown2 hgr2)
  all_goals
    go_wp2
    go_ret
    exact ⟨v2, rfl, HO2.out, Gr.pre HBL.out HG2.out.undrew.alloc⟩

set_option maxHeartbeats 1000000 in
theorem item_c31 (B : Nat) (v : Value) (xs : List UInt8) (w : World) (hown : Own w B v xs) (hlen : xs.length ≤ 900000) (hB : B ≤ w.heap.size) :
    Calls Tryd.prog 51 #[v, .int .i32 31] w (AI w B v xs [92, 117, 48, 48, 49, 102]) := by
  have HC := Lib.hid (idx_plain 31 w (by unfold scal; decide) (by unfold special; decide))
  have HO := Lib.hid hown
  have HL := Lib.hid hlen
  have HB := Lib.hid hB
  clear hown hlen hB
  have hbit : bits BinOp.and IntKind.i32 31 15 = 15 := by decide
  go_enter Tryd.func51, Tryd.ntmps51
  go_wp2_with (first
    | (go_at_call 68; refine HC.out.mono ?_; rintro e w1 ⟨rfl, hb⟩; have HBL := Lib.hid hb; clear hb))
  go_region_law (refine step_app (B := B) (v := v) (xs := xs) (ys := [92, 117, 48, 48, 49, 102]) rfl (.tmp 17) (.tmp 24) rfl rfl rfl rfl ((own_below' HO.out HBL.out).alloc _) (src_list w1.drew [92, 117, 48, 48, 49, 102] _ rfl) (by have := HL.out; simp; omega) (by have := HB.out; have := HBL.out.size; simp; omega) ?_; intro v2 w2 hown2 hgr2; have HO2 := Lib.hid hown2; have HG2 := Lib.hid hgr2; clear hown2 hgr2)
  all_goals
    go_wp2
    go_ret
    exact ⟨v2, rfl, HO2.out, Gr.pre HBL.out HG2.out.undrew.alloc⟩

theorem item_any (B : Nat) (v : Value) (xs : List UInt8) (r : Nat) (hsc : scal r) (w : World) (hown : Own w B v xs) (hlen : xs.length ≤ 900000) (hB : B ≤ w.heap.size) :
    Calls Tryd.prog 51 #[v, .int .i32 (r : Int)] w (AI w B v xs (itemR r)) := by
  by_cases hs : special r
  · rcases hs with rfl | rfl | rfl | rfl | rfl | rfl | rfl
    · exact item_34 B v xs w hown hlen hB
    · exact item_92 B v xs w hown hlen hB
    · exact item_8 B v xs w hown hlen hB
    · exact item_12 B v xs w hown hlen hB
    · exact item_10 B v xs w hown hlen hB
    · exact item_13 B v xs w hown hlen hB
    · exact item_9 B v xs w hown hlen hB
  · by_cases h32 : 32 ≤ r
    · have he : itemR r = enc r := by
        unfold special at hs
        unfold itemR itemN enc encN
        by_cases h : r < 128
        · rw [if_pos h, if_pos h]
          repeat rw [if_neg (by omega)]
          rfl
        · rw [if_neg h]
      rw [he]
      exact item_plain B v xs r hsc hs h32 w hown hlen hB
    · unfold special at hs
      rcases (show r = 0 ∨ r = 1 ∨ r = 2 ∨ r = 3 ∨ r = 4 ∨ r = 5 ∨ r = 6 ∨ r = 7 ∨ r = 11 ∨ r = 14 ∨ r = 15 ∨ r = 16 ∨ r = 17 ∨ r = 18 ∨ r = 19 ∨ r = 20 ∨ r = 21 ∨ r = 22 ∨ r = 23 ∨ r = 24 ∨ r = 25 ∨ r = 26 ∨ r = 27 ∨ r = 28 ∨ r = 29 ∨ r = 30 ∨ r = 31 by omega) with rfl | rfl | rfl | rfl | rfl | rfl | rfl | rfl | rfl | rfl | rfl | rfl | rfl | rfl | rfl | rfl | rfl | rfl | rfl | rfl | rfl | rfl | rfl | rfl | rfl | rfl | rfl
      · exact item_c0 B v xs w hown hlen hB
      · exact item_c1 B v xs w hown hlen hB
      · exact item_c2 B v xs w hown hlen hB
      · exact item_c3 B v xs w hown hlen hB
      · exact item_c4 B v xs w hown hlen hB
      · exact item_c5 B v xs w hown hlen hB
      · exact item_c6 B v xs w hown hlen hB
      · exact item_c7 B v xs w hown hlen hB
      · exact item_c11 B v xs w hown hlen hB
      · exact item_c14 B v xs w hown hlen hB
      · exact item_c15 B v xs w hown hlen hB
      · exact item_c16 B v xs w hown hlen hB
      · exact item_c17 B v xs w hown hlen hB
      · exact item_c18 B v xs w hown hlen hB
      · exact item_c19 B v xs w hown hlen hB
      · exact item_c20 B v xs w hown hlen hB
      · exact item_c21 B v xs w hown hlen hB
      · exact item_c22 B v xs w hown hlen hB
      · exact item_c23 B v xs w hown hlen hB
      · exact item_c24 B v xs w hown hlen hB
      · exact item_c25 B v xs w hown hlen hB
      · exact item_c26 B v xs w hown hlen hB
      · exact item_c27 B v xs w hown hlen hB
      · exact item_c28 B v xs w hown hlen hB
      · exact item_c29 B v xs w hown hlen hB
      · exact item_c30 B v xs w hown hlen hB
      · exact item_c31 B v xs w hown hlen hB
end Go.Proofs.YtodmlgbomhmbpaaDoor
