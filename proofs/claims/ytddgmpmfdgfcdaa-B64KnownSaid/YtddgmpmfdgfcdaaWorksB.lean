/-
  What is proved here: accordionlaw05.works returns true and leaves all memory as it was; no condition.
-/
import Derived.Test.YtddgmpmfdgfcdaaWorks
import Derived.Lib.SlBytesConst
namespace Go.Proofs.Ytddgmpmfdgfcdaa
open Go.RowKit Bs

theorem lit_rdm (w : World) (C : Array Value) (fr : Nat × Nat) (n : Nat) (xs : List UInt8) (hC : C = (bv xs).toArray) (hn : n = xs.length) (hm : xs.length ≤ 100) : Rdm (w.alloc (.cells C 5 fr)) (.slice (some ⟨w.heap.size, 0, none⟩) n n) xs := by
  subst hC hn
  refine ⟨_, _, _, rfl, ⟨rfl, Nat.le_refl _, fun _ => ⟨w.heap.size, 0, rfl, by simp, fun j x hx => ?_⟩⟩, by unfold maxLen; omega⟩
  have h : (w.alloc (.cells (bv xs).toArray 5 fr)).heap[w.heap.size]? = some (.cells (bv xs).toArray 5 fr) := heap_alloc_new w _
  rw [cell_of_row _ _ _ _ _ _ h]
  simp only [List.getElem?_toArray, Nat.zero_add]
  exact bv_get hx
theorem put_lit {w0 w : World} (C : Array Value) (fr : Nat × Nat) (n : Nat) (xs : List UInt8) (y : ByteArray) (hC : C = (bv xs).toArray) (hn : n = xs.length) (hm : xs.length ≤ 100) (hy : str (enc xs) = y) (hb : Below w0.heap.size w0 w) :
    Calls Try.prog 12 #[.slice (some ⟨w.heap.size, 0, none⟩) n n] (w.alloc (.cells C 5 fr)) (SE w0 (.string y)) := by
  subst hy
  refine (put_S (w0 := w0) _ xs (lit_rdm w C fr n xs hC hn hm) (by omega) (hb.alloc hb.size _)).mono ?_
  rintro e w' ⟨rfl, _, h⟩
  exact ⟨rfl, h⟩
set_option maxHeartbeats 4000000 in
set_option maxRecDepth 1000000 in
theorem works_S {w0 w : World} (hS : Below w0.heap.size w0 w) : Calls Try.prog 15 #[] w (SE w0 (.bool true)) := by
  have kc := fun (w : World) (C : Array Value) (n c : Nat) => Lib.run_convert_bytes_const (P := Try.prog) w 22 5 C n c Try.underlying22 Try.underlying5
  have HP1 := Lib.hid (fun (W : World) (h : Below w0.heap.size w0 W) (fr : Nat × Nat) => put_lit (w0 := w0) (w := W) #[.int .u8 102] fr 1 [102] ⟨#[90, 103, 61, 61]⟩ (by simp [bv]) rfl (by decide) (by decide +kernel) h)
  have HP2 := Lib.hid (fun (W : World) (h : Below w0.heap.size w0 W) (fr : Nat × Nat) => put_lit (w0 := w0) (w := W) #[.int .u8 102, .int .u8 111] fr 2 [102, 111] ⟨#[90, 109, 56, 61]⟩ (by simp [bv]) rfl (by decide) (by decide +kernel) h)
  have HP3 := Lib.hid (fun (W : World) (h : Below w0.heap.size w0 W) (fr : Nat × Nat) => put_lit (w0 := w0) (w := W) #[.int .u8 102, .int .u8 111, .int .u8 111] fr 3 [102, 111, 111] ⟨#[90, 109, 57, 118]⟩ (by simp [bv]) rfl (by decide) (by decide +kernel) h)
  have HP4 := Lib.hid (fun (W : World) (h : Below w0.heap.size w0 W) (fr : Nat × Nat) => put_lit (w0 := w0) (w := W) #[.int .u8 251, .int .u8 239, .int .u8 190, .int .u8 255] fr 4 [251, 239, 190, 255] ⟨#[43, 43, 43, 43, 47, 119, 61, 61]⟩ (by simp [bv]) rfl (by decide) (by decide +kernel) h)
  go_enter Try.func15, Try.ntmps15
  go_wp2_with (first
    | (go_at_call 12; (with_reducible refine (HP1.out _ (by assumption) _).mono ?_); rintro e w1 ⟨rfl, hS⟩)
    | (go_at_call 12; (with_reducible refine (HP2.out _ (by assumption) _).mono ?_); rintro e w1 ⟨rfl, hS⟩)
    | (go_at_call 12; (with_reducible refine (HP3.out _ (by assumption) _).mono ?_); rintro e w1 ⟨rfl, hS⟩)
    | (go_at_call 12; (with_reducible refine (HP4.out _ (by assumption) _).mono ?_); rintro e w1 ⟨rfl, hS⟩)
    | (go_at_call 20; refine (got_S (w0 := w0) _ _ (by decide +kernel) (by decide) (by assumption)).mono ?_; rintro e w1 ⟨rfl, hS⟩)
    | (go_at_call 22; refine (fails_S (w0 := w0) _ _ (by decide +kernel) (by decide) (by assumption)).mono ?_; rintro e w1 ⟨rfl, hS⟩))
  go_ret
  exact ⟨rfl, by assumption⟩
end Go.Proofs.Ytddgmpmfdgfcdaa
