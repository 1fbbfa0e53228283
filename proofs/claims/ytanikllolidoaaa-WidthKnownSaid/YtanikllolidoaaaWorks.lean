/-
  What is proved here: the examples of chapter 3 hold: accordionlaw03.works returns true in every world and leaves all memory that was there as it was; no condition.
-/
import Derived.Test.YtanikllolidoaaaMem
namespace Go.Proofs.Ytanikllolidoaaa
open Go.RowKit Wd

theorem of_is (u x : Int) (w : World) (h0 : 0 ≤ u) (h : mU u = x) : Calls Try.prog 14 #[.int .u64 u] w fun e w' => e = .returned (.int .i64 x) ∧ Below w.heap.size w w' := h ▸ of_any u w h0
theorem ofInt_is (u x : Int) (w : World) (h : mI u = x) : Calls Try.prog 16 #[.int .i64 u] w fun e w' => e = .returned (.int .i64 x) ∧ Below w.heap.size w w' := h ▸ ofInt_any u w
theorem code_is (x c er : Int) (w : World) (h : cdV x = c) (h' : cdE x = er) : Calls Try.prog 10 #[.int .i64 x] w fun e w' => e = .returned (.tuple #[.int .i64 c, .int .i64 er]) ∧ w = w' := h ▸ h' ▸ code_any x w
theorem back_is (x c er : Int) (w : World) (h : bkV x = c) (h' : bkE x = er) : Calls Try.prog 12 #[.int .i64 x] w fun e w' => e = .returned (.tuple #[.int .i64 c, .int .i64 er]) ∧ w = w' := h ▸ h' ▸ back_any x w
theorem up_is (a x c er : Int) (w : World) (h : upV a x = c) (h' : upE a x = er) : Calls Try.prog 20 #[.int .i64 a, .int .i64 x] w fun e w' => e = .returned (.tuple #[.int .i64 c, .int .i64 er]) ∧ w = w' := h ▸ h' ▸ up_any a x w
theorem max_is (v : Value) (xs : List Int) (m : Int) (w : World) (h : Rd w v xs) (hl : xs.length ≤ 60000) (hm : mx xs = m) :
    Calls Try.prog 22 #[v] w fun e w' => e = .returned (.int .i64 m) ∧ w = w' := hm ▸ max_any v xs w h hl

theorem rd_lit (w : World) (g : Nat) (cs : Array Value) (n : Nat) (xs : List Int) (hg : g = w.heap.size) (h : cs = (bv xs).toArray) (hn : xs.length = n) : Rd (w.alloc (.cells cs 3)) (.slice (some ⟨g, 0, none⟩) n n) xs := by
  subst h
  subst hg
  refine ⟨_, _, _, rfl, hn, Nat.le_refl _, fun _ => ⟨w.heap.size, 0, rfl, by simp, fun j x hx => ?_⟩⟩
  rw [Nat.zero_add, World.cell?_alloc_new]
  simpa using bv_at hx

set_option maxHeartbeats 1000000 in
set_option maxRecDepth 100000 in
theorem works_true (w : World) : Calls Try.prog 18 #[] w fun e w' => e = .returned (.bool true) ∧ Below w.heap.size w w' := by
  have HB := Lib.hid (Below.refl w.heap.size w)
  go_enter Try.func18, Try.ntmps18
  go_wp2_with fail
  refine (of_is 0 1 _ (by decide) (by decide)).mono ?_
  rintro e w1 ⟨rfl, hb⟩
  replace HB := Lib.hid (HB.out.trans (hb.mono HB.out.size))
  clear hb
  go_wp2_with fail
  refine (of_is 255 1 _ (by decide) (by decide)).mono ?_
  rintro e w2 ⟨rfl, hb⟩
  replace HB := Lib.hid (HB.out.trans (hb.mono HB.out.size))
  clear hb
  go_wp2_with fail
  refine (of_is 256 2 _ (by decide) (by decide)).mono ?_
  rintro e w3 ⟨rfl, hb⟩
  replace HB := Lib.hid (HB.out.trans (hb.mono HB.out.size))
  clear hb
  go_wp2_with fail
  refine (of_is 65536 4 _ (by decide) (by decide)).mono ?_
  rintro e w4 ⟨rfl, hb⟩
  replace HB := Lib.hid (HB.out.trans (hb.mono HB.out.size))
  clear hb
  go_wp2_with fail
  refine (of_is 4294967296 8 _ (by decide) (by decide)).mono ?_
  rintro e w5 ⟨rfl, hb⟩
  replace HB := Lib.hid (HB.out.trans (hb.mono HB.out.size))
  clear hb
  go_wp2_with fail
  refine (ofInt_is 127 1 _ (by decide)).mono ?_
  rintro e w6 ⟨rfl, hb⟩
  replace HB := Lib.hid (HB.out.trans (hb.mono HB.out.size))
  clear hb
  go_wp2_with fail
  refine (ofInt_is 128 2 _ (by decide)).mono ?_
  rintro e w7 ⟨rfl, hb⟩
  replace HB := Lib.hid (HB.out.trans (hb.mono HB.out.size))
  clear hb
  go_wp2_with fail
  refine (ofInt_is (-128) 1 _ (by decide)).mono ?_
  rintro e w8 ⟨rfl, hb⟩
  replace HB := Lib.hid (HB.out.trans (hb.mono HB.out.size))
  clear hb
  go_wp2_with fail
  refine (ofInt_is (-129) 2 _ (by decide)).mono ?_
  rintro e w9 ⟨rfl, hb⟩
  replace HB := Lib.hid (HB.out.trans (hb.mono HB.out.size))
  clear hb
  go_wp2_with fail
  refine (ofInt_is (-2147483649) 8 _ (by decide)).mono ?_
  rintro e w10 ⟨rfl, hb⟩
  replace HB := Lib.hid (HB.out.trans (hb.mono HB.out.size))
  clear hb
  go_wp2_with fail
  refine (code_is 4 2 0 _ (by decide) (by decide)).mono ?_
  rintro e w' ⟨rfl, rfl⟩
  go_wp2_with fail
  refine (code_is 3 0 2 _ (by decide) (by decide)).mono ?_
  rintro e w' ⟨rfl, rfl⟩
  go_wp2_with fail
  refine (back_is 3 8 0 _ (by decide) (by decide)).mono ?_
  rintro e w' ⟨rfl, rfl⟩
  go_wp2_with fail
  refine (back_is 4 0 2 _ (by decide) (by decide)).mono ?_
  rintro e w' ⟨rfl, rfl⟩
  go_wp2_with fail
  refine (is_any 2 0 _).mono ?_
  rintro e w' ⟨rfl, rfl⟩
  go_wp2_with fail
  refine (is_any 0 2 _).mono ?_
  rintro e w' ⟨rfl, rfl⟩
  go_wp2_with fail
  refine (is_any 8 0 _).mono ?_
  rintro e w' ⟨rfl, rfl⟩
  go_wp2_with fail
  refine (is_any 0 2 _).mono ?_
  rintro e w' ⟨rfl, rfl⟩
  have rx := Lib.hid (rd_lit w10 w10.heap.size #[.int .i64 1, .int .i64 4, .int .i64 2] 3 [1, 4, 2] rfl rfl rfl)
  have bx : Below w10.heap.size w10 (w10.alloc (.cells #[.int .i64 1, .int .i64 4, .int .i64 2] 3)) := (Below.refl _ _).alloc (Nat.le_refl _) _
  replace HB := Lib.hid (HB.out.trans (bx.mono HB.out.size))
  clear bx
  go_wp2_with fail
  refine (max_is _ [1, 4, 2] 4 _ rx.out (by decide) (by decide)).mono ?_
  rintro e w' ⟨rfl, rfl⟩
  clear rx
  go_wp2_with fail
  refine (max_is _ [] 1 _ (Rd.nil _ _ _) (by decide) (by decide)).mono ?_
  rintro e w' ⟨rfl, rfl⟩
  have ry := Lib.hid (rd_lit (w10.alloc (.cells #[.int .i64 1, .int .i64 4, .int .i64 2] 3)) (w10.heap.size + 1) #[.int .i64 (-3)] 1 [-3] (by simp) rfl rfl)
  have by' : Below (w10.alloc (.cells #[.int .i64 1, .int .i64 4, .int .i64 2] 3)).heap.size (w10.alloc (.cells #[.int .i64 1, .int .i64 4, .int .i64 2] 3)) ((w10.alloc (.cells #[.int .i64 1, .int .i64 4, .int .i64 2] 3)).alloc (.cells #[.int .i64 (-3)] 3)) := (Below.refl _ _).alloc (Nat.le_refl _) _
  replace HB := Lib.hid (HB.out.trans (by'.mono HB.out.size))
  clear by'
  go_wp2_with fail
  refine (max_is _ [-3] 1 _ ry.out (by decide) (by decide)).mono ?_
  rintro e w' ⟨rfl, rfl⟩
  clear ry
  go_wp2_with fail
  refine (up_is 5 4 8 0 _ (by decide) (by decide)).mono ?_
  rintro e w' ⟨rfl, rfl⟩
  go_wp2_with fail
  refine (up_is 8 8 8 0 _ (by decide) (by decide)).mono ?_
  rintro e w' ⟨rfl, rfl⟩
  go_wp2_with fail
  refine (up_is 0 2 0 0 _ (by decide) (by decide)).mono ?_
  rintro e w' ⟨rfl, rfl⟩
  go_wp2_with fail
  refine (up_is (-1) 1 0 2 _ (by decide) (by decide)).mono ?_
  rintro e w' ⟨rfl, rfl⟩
  go_wp2_with fail
  refine (up_is 9007199254740993 1 0 5 _ (by decide) (by decide)).mono ?_
  rintro e w' ⟨rfl, rfl⟩
  go_wp2_with fail
  refine (is_any 8 0 _).mono ?_
  rintro e w' ⟨rfl, rfl⟩
  go_wp2_with fail
  refine (is_any 8 0 _).mono ?_
  rintro e w' ⟨rfl, rfl⟩
  go_wp2_with fail
  refine (is_any 0 0 _).mono ?_
  rintro e w' ⟨rfl, rfl⟩
  go_wp2_with fail
  refine (is_any 0 2 _).mono ?_
  rintro e w' ⟨rfl, rfl⟩
  go_wp2_with fail
  refine (is_any 0 5 _).mono ?_
  rintro e w' ⟨rfl, rfl⟩
  go_wp2_with fail
  go_ret
  exact ⟨rfl, HB.out⟩
end Go.Proofs.Ytanikllolidoaaa
