/-
  What is proved here: the examples of chapter 1 hold: accordionlaw01.works returns true in every world and leaves all memory that was there as it was; no condition.
-/
import Derived.Test.YtfodocahneoipaaSet
namespace Go.Proofs.Ytfodocahneoipaa
open Go.RowKit Le

theorem loads_true (v : Value) (xs : List UInt8) (at' x want er : Int) (w : World) (h : Rd w v xs) (hn : xs.length ≤ 60000) (hU : loadU xs at' x = want) (hE : lookE xs.length at' x = er) :
    Calls Try.prog 31 #[v, .int .i64 at', .int .i64 x, .int .u64 want, .int .i64 er] w fun e w' => e = .returned (.bool true) ∧ Below w.heap.size w w' := by
  have hl := load_any v xs at' x w h hn
  rw [hU, hE] at hl
  have HL := Lib.hid hl
  clear hl h hU hE
  go_enter Try.func31, Try.ntmps31
  go_wp2_with (go_at_call 11; refine HL.out.mono ?_; rintro e w' ⟨rfl, hb⟩; have HB := Lib.hid hb; clear hb)
  go_ret
  exact ⟨rfl, HB.out⟩

theorem puts_true (v v2 : Value) (xs ys : List UInt8) (f er : Int) (w : World) (h : Rd w v xs) (h2 : Rd w v2 ys) (hxy : xs = ys) (hf : f = er) :
    Calls Try.prog 32 #[v, .int .i64 f, .int .i64 er, v2] w fun e w' => e = .returned (.bool true) ∧ w = w' := by
  subst hxy
  subst hf
  have hl := eqBytes_any v v2 xs xs w h h2
  rw [beq_self_eq_true] at hl
  have HL := Lib.hid hl
  clear hl h h2
  go_enter Try.func32, Try.ntmps32
  go_wp2_with (go_at_call 15; refine HL.out.mono ?_; rintro e w' ⟨rfl, rfl⟩)
  go_ret
  exact ⟨rfl, rfl⟩

theorem rd_lit (w : World) (g : Nat) (cs : Array Value) (n : Nat) (xs : List UInt8) (hg : g = w.heap.size) (h : cs = (bv xs).toArray) (hn : xs.length = n) : Rd (w.alloc (.cells cs 5)) (.slice (some ⟨g, 0, none⟩) n n) xs := by
  subst h
  subst hg
  refine ⟨_, _, _, rfl, hn, Nat.le_refl _, fun _ => ⟨w.heap.size, 0, rfl, by simp, fun j x hx => ?_⟩⟩
  rw [Nat.zero_add, World.cell?_alloc_new]
  simpa using bv_at hx

theorem loadInt_is (v : Value) (xs : List UInt8) (at' x n er : Int) (w : World) (h : Rd w v xs) (hn : xs.length ≤ 60000) (hU : loadI xs at' x = n) (hE : lookE xs.length at' x = er) :
    Calls Try.prog 13 #[v, .int .i64 at', .int .i64 x] w fun e w' => e = .returned (.tuple #[.int .i64 n, .int .i64 er]) ∧ Below w.heap.size w w' := by
  subst hU
  subst hE
  exact loadInt_any v xs at' x w h hn
theorem put_is (v : Value) (xs ys : List UInt8) (x u er : Int) (w : World) (h : Rd w v xs) (hn : xs.length ≤ 60000) (hu : 0 ≤ u) (hE : putE x u = er) (hL : putL xs x u = ys) :
    Calls Try.prog 17 #[v, .int .i64 x, .int .u64 u] w fun e w' => ∃ v', e = .returned (.tuple #[v', .int .i64 er]) ∧ w'.ownsRow w.heap.size 5 1 v' ys.length (bv ys) ∧ Below w.heap.size w w' := by
  obtain ⟨k, rfl⟩ := Int.eq_ofNat_of_zero_le hu
  subst hE
  subst hL
  exact put_any v xs x k w h hn
theorem putInt_is (v : Value) (xs ys : List UInt8) (x n er : Int) (w : World) (h : Rd w v xs) (hn : xs.length ≤ 60000) (hE : putIE x n = er) (hL : putIL xs x n = ys) :
    Calls Try.prog 19 #[v, .int .i64 x, .int .i64 n] w fun e w' => ∃ v', e = .returned (.tuple #[v', .int .i64 er]) ∧ w'.ownsRow w.heap.size 5 1 v' ys.length (bv ys) ∧ Below w.heap.size w w' := by
  subst hE
  subst hL
  exact putInt_any v xs x n w h hn
theorem set_is (v : Value) (xs ys : List UInt8) (at' x u er : Int) (w : World) (h : Rd w v xs) (hn : xs.length ≤ 60000) (hu : 0 ≤ u) (hE : setE xs.length at' x u = er) (hL : setL xs at' x u = ys) :
    Calls Try.prog 21 #[v, .int .i64 at', .int .i64 x, .int .u64 u] w fun e w' => ∃ v', e = .returned (.tuple #[v', .int .i64 er]) ∧ w'.ownsRow w.heap.size 5 1 v' ys.length (bv ys) ∧ Below w.heap.size w w' := by
  obtain ⟨k, rfl⟩ := Int.eq_ofNat_of_zero_le hu
  subst hE
  subst hL
  exact set_any v xs at' x k w h hn

set_option maxHeartbeats 1000000 in
set_option maxRecDepth 100000 in
theorem works_true (w : World) : Calls Try.prog 16 #[] w fun e w' => e = .returned (.bool true) ∧ Below w.heap.size w w' := by
  have rx := Lib.hid (rd_lit w w.heap.size #[.int .u8 1, .int .u8 2, .int .u8 255] 3 [1, 2, 255] rfl rfl rfl)
  have bel_x : Below w.heap.size w (w.alloc (.cells #[.int .u8 1, .int .u8 2, .int .u8 255] 5)) := (Below.refl _ _).alloc (Nat.le_refl _) _
  have HB := Lib.hid bel_x
  have Hx := rx
  clear rx bel_x
  go_enter Try.func16, Try.ntmps16
  go_wp2_with fail
  refine (loads_true _ [1, 2, 255] 0 2 513 0 _ Hx.out (by decide) (by decide) (by decide)).mono ?_
  rintro e w1 ⟨rfl, hb⟩
  replace Hx := Lib.hid (Hx.out.below hb)
  replace HB := Lib.hid (HB.out.trans (hb.mono HB.out.size))
  clear hb
  go_wp2_with fail
  refine (loads_true _ [1, 2, 255] 2 1 255 0 _ Hx.out (by decide) (by decide) (by decide)).mono ?_
  rintro e w2 ⟨rfl, hb⟩
  replace Hx := Lib.hid (Hx.out.below hb)
  replace HB := Lib.hid (HB.out.trans (hb.mono HB.out.size))
  clear hb
  go_wp2_with fail
  refine (loads_true _ [1, 2, 255] 2 2 0 6 _ Hx.out (by decide) (by decide) (by decide)).mono ?_
  rintro e w3 ⟨rfl, hb⟩
  replace Hx := Lib.hid (Hx.out.below hb)
  replace HB := Lib.hid (HB.out.trans (hb.mono HB.out.size))
  clear hb
  go_wp2_with fail
  refine (loads_true _ [1, 2, 255] 0 3 0 2 _ Hx.out (by decide) (by decide) (by decide)).mono ?_
  rintro e w4 ⟨rfl, hb⟩
  replace Hx := Lib.hid (Hx.out.below hb)
  replace HB := Lib.hid (HB.out.trans (hb.mono HB.out.size))
  clear hb
  go_wp2_with fail
  refine (loadInt_is _ [1, 2, 255] 2 1 (-1) 0 _ Hx.out (by decide) (by decide) (by decide)).mono ?_
  rintro e w5 ⟨rfl, hb⟩
  clear Hx
  replace HB := Lib.hid (HB.out.trans (hb.mono HB.out.size))
  clear hb
  have ry := Lib.hid (rd_lit w5 w5.heap.size #[.int .u8 0, .int .u8 128] 2 [0, 128] rfl rfl rfl)
  have bel_y : Below w5.heap.size w5 (w5.alloc (.cells #[.int .u8 0, .int .u8 128] 5)) := (Below.refl _ _).alloc (Nat.le_refl _) _
  replace HB := Lib.hid (HB.out.trans (bel_y.mono HB.out.size))
  have Hy := ry
  clear ry bel_y
  go_wp2_with fail
  refine (loadInt_is _ [0, 128] 0 2 (-32768) 0 _ Hy.out (by decide) (by decide) (by decide)).mono ?_
  rintro e w6 ⟨rfl, hb⟩
  clear Hy
  replace HB := Lib.hid (HB.out.trans (hb.mono HB.out.size))
  clear hb
  have rz := Lib.hid (rd_lit w6 w6.heap.size #[.int .u8 170] 1 [170] rfl rfl rfl)
  have bel_z : Below w6.heap.size w6 (w6.alloc (.cells #[.int .u8 170] 5)) := (Below.refl _ _).alloc (Nat.le_refl _) _
  replace HB := Lib.hid (HB.out.trans (bel_z.mono HB.out.size))
  have Hz := rz
  clear rz bel_z
  go_wp2_with fail
  refine (put_is _ [170] [170, 1, 2] 2 513 0 _ Hz.out (by decide) (by decide) (by decide) (by decide)).mono ?_
  rintro e w7 ⟨va, rfl, ho, hb⟩
  have ra := Lib.hid (Rd.of_own ho)
  clear Hz
  replace HB := Lib.hid (HB.out.trans (hb.mono HB.out.size))
  have Ha := ra
  clear ra ho
  clear hb
  go_wp2_with fail
  refine (put_is _ [] [] 1 256 10 _ (Rd.nil _ _ _) (by decide) (by decide) (by decide) (by decide)).mono ?_
  rintro e w8 ⟨vb, rfl, ho, hb⟩
  have rb := Lib.hid (Rd.of_own ho)
  replace Ha := Lib.hid (Ha.out.below hb)
  replace HB := Lib.hid (HB.out.trans (hb.mono HB.out.size))
  have Hb := rb
  clear rb ho
  clear hb
  go_wp2_with fail
  refine (putInt_is _ [] [254, 255] 2 (-2) 0 _ (Rd.nil _ _ _) (by decide) (by decide) (by decide)).mono ?_
  rintro e w9 ⟨vc, rfl, ho, hb⟩
  have rc := Lib.hid (Rd.of_own ho)
  replace Ha := Lib.hid (Ha.out.below hb)
  replace Hb := Lib.hid (Hb.out.below hb)
  replace HB := Lib.hid (HB.out.trans (hb.mono HB.out.size))
  have Hc := rc
  clear rc ho
  clear hb
  go_wp2_with fail
  refine (putInt_is _ [] [] 1 128 10 _ (Rd.nil _ _ _) (by decide) (by decide) (by decide)).mono ?_
  rintro e w10 ⟨vd, rfl, ho, hb⟩
  have rd := Lib.hid (Rd.of_own ho)
  replace Ha := Lib.hid (Ha.out.below hb)
  replace Hb := Lib.hid (Hb.out.below hb)
  replace Hc := Lib.hid (Hc.out.below hb)
  replace HB := Lib.hid (HB.out.trans (hb.mono HB.out.size))
  have Hd := rd
  clear rd ho
  clear hb
  have rp := Lib.hid (rd_lit w10 w10.heap.size #[.int .u8 170, .int .u8 1, .int .u8 2] 3 [170, 1, 2] rfl rfl rfl)
  have bel_p : Below w10.heap.size w10 (w10.alloc (.cells #[.int .u8 170, .int .u8 1, .int .u8 2] 5)) := (Below.refl _ _).alloc (Nat.le_refl _) _
  replace Ha := Lib.hid (Ha.out.below bel_p)
  replace Hb := Lib.hid (Hb.out.below bel_p)
  replace Hc := Lib.hid (Hc.out.below bel_p)
  replace Hd := Lib.hid (Hd.out.below bel_p)
  replace HB := Lib.hid (HB.out.trans (bel_p.mono HB.out.size))
  have Hp := rp
  clear rp bel_p
  go_wp2_with fail
  refine (puts_true _ _ [170, 1, 2] [170, 1, 2] 0 0 _ Ha.out Hp.out rfl rfl).mono ?_
  rintro e w' ⟨rfl, rfl⟩
  clear Ha
  clear Hp
  go_wp2_with fail
  refine (puts_true _ _ [] [] 10 10 _ Hb.out (Rd.nil _ _ _) rfl rfl).mono ?_
  rintro e w' ⟨rfl, rfl⟩
  clear Hb
  have rq := Lib.hid (rd_lit (w10.alloc (.cells #[.int .u8 170, .int .u8 1, .int .u8 2] 5)) (w10.heap.size + 1) #[.int .u8 254, .int .u8 255] 2 [254, 255] (by simp) rfl rfl)
  have bel_q : Below (w10.alloc (.cells #[.int .u8 170, .int .u8 1, .int .u8 2] 5)).heap.size (w10.alloc (.cells #[.int .u8 170, .int .u8 1, .int .u8 2] 5)) ((w10.alloc (.cells #[.int .u8 170, .int .u8 1, .int .u8 2] 5)).alloc (.cells #[.int .u8 254, .int .u8 255] 5)) := (Below.refl _ _).alloc (Nat.le_refl _) _
  replace Hc := Lib.hid (Hc.out.below bel_q)
  replace Hd := Lib.hid (Hd.out.below bel_q)
  replace HB := Lib.hid (HB.out.trans (bel_q.mono HB.out.size))
  have Hq := rq
  clear rq bel_q
  go_wp2_with fail
  refine (puts_true _ _ [254, 255] [254, 255] 0 0 _ Hc.out Hq.out rfl rfl).mono ?_
  rintro e w' ⟨rfl, rfl⟩
  clear Hc
  clear Hq
  go_wp2_with fail
  refine (puts_true _ _ [] [] 10 10 _ Hd.out (Rd.nil _ _ _) rfl rfl).mono ?_
  rintro e w' ⟨rfl, rfl⟩
  clear Hd
  have rr := Lib.hid (rd_lit ((w10.alloc (.cells #[.int .u8 170, .int .u8 1, .int .u8 2] 5)).alloc (.cells #[.int .u8 254, .int .u8 255] 5)) (w10.heap.size + 1 + 1) #[.int .u8 1, .int .u8 2, .int .u8 3] 3 [1, 2, 3] (by simp) rfl rfl)
  have bel_r : Below ((w10.alloc (.cells #[.int .u8 170, .int .u8 1, .int .u8 2] 5)).alloc (.cells #[.int .u8 254, .int .u8 255] 5)).heap.size ((w10.alloc (.cells #[.int .u8 170, .int .u8 1, .int .u8 2] 5)).alloc (.cells #[.int .u8 254, .int .u8 255] 5)) (((w10.alloc (.cells #[.int .u8 170, .int .u8 1, .int .u8 2] 5)).alloc (.cells #[.int .u8 254, .int .u8 255] 5)).alloc (.cells #[.int .u8 1, .int .u8 2, .int .u8 3] 5)) := (Below.refl _ _).alloc (Nat.le_refl _) _
  replace HB := Lib.hid (HB.out.trans (bel_r.mono HB.out.size))
  have Hr := rr
  clear rr bel_r
  go_wp2_with fail
  refine (set_is _ [1, 2, 3] [1, 0, 0] 1 2 0 0 _ Hr.out (by decide) (by decide) (by decide) (by decide)).mono ?_
  rintro e w15 ⟨va, rfl, ho, hb⟩
  have ra := Lib.hid (Rd.of_own ho)
  clear Hr
  replace HB := Lib.hid (HB.out.trans (hb.mono HB.out.size))
  have Ha := ra
  clear ra ho
  clear hb
  have rs := Lib.hid (rd_lit w15 w15.heap.size #[.int .u8 1] 1 [1] rfl rfl rfl)
  have bel_s : Below w15.heap.size w15 (w15.alloc (.cells #[.int .u8 1] 5)) := (Below.refl _ _).alloc (Nat.le_refl _) _
  replace Ha := Lib.hid (Ha.out.below bel_s)
  replace HB := Lib.hid (HB.out.trans (bel_s.mono HB.out.size))
  have Hs := rs
  clear rs bel_s
  go_wp2_with fail
  refine (set_is _ [1] [] 1 1 0 6 _ Hs.out (by decide) (by decide) (by decide) (by decide)).mono ?_
  rintro e w16 ⟨vb, rfl, ho, hb⟩
  have rb := Lib.hid (Rd.of_own ho)
  clear Hs
  replace Ha := Lib.hid (Ha.out.below hb)
  replace HB := Lib.hid (HB.out.trans (hb.mono HB.out.size))
  have Hb := rb
  clear rb ho
  clear hb
  have rt := Lib.hid (rd_lit w16 w16.heap.size #[.int .u8 1] 1 [1] rfl rfl rfl)
  have bel_t : Below w16.heap.size w16 (w16.alloc (.cells #[.int .u8 1] 5)) := (Below.refl _ _).alloc (Nat.le_refl _) _
  replace Ha := Lib.hid (Ha.out.below bel_t)
  replace Hb := Lib.hid (Hb.out.below bel_t)
  replace HB := Lib.hid (HB.out.trans (bel_t.mono HB.out.size))
  have Ht := rt
  clear rt bel_t
  go_wp2_with fail
  refine (set_is _ [1] [] (-1) 1 0 6 _ Ht.out (by decide) (by decide) (by decide) (by decide)).mono ?_
  rintro e w17 ⟨vc, rfl, ho, hb⟩
  have rc := Lib.hid (Rd.of_own ho)
  clear Ht
  replace Ha := Lib.hid (Ha.out.below hb)
  replace Hb := Lib.hid (Hb.out.below hb)
  replace HB := Lib.hid (HB.out.trans (hb.mono HB.out.size))
  have Hc := rc
  clear rc ho
  clear hb
  have ru := Lib.hid (rd_lit w17 w17.heap.size #[.int .u8 1, .int .u8 0, .int .u8 0] 3 [1, 0, 0] rfl rfl rfl)
  have bel_u : Below w17.heap.size w17 (w17.alloc (.cells #[.int .u8 1, .int .u8 0, .int .u8 0] 5)) := (Below.refl _ _).alloc (Nat.le_refl _) _
  replace Ha := Lib.hid (Ha.out.below bel_u)
  replace Hb := Lib.hid (Hb.out.below bel_u)
  replace Hc := Lib.hid (Hc.out.below bel_u)
  replace HB := Lib.hid (HB.out.trans (bel_u.mono HB.out.size))
  have Hu := ru
  clear ru bel_u
  go_wp2_with fail
  refine (puts_true _ _ [1, 0, 0] [1, 0, 0] 0 0 _ Ha.out Hu.out rfl rfl).mono ?_
  rintro e w' ⟨rfl, rfl⟩
  clear Ha
  clear Hu
  go_wp2_with fail
  refine (puts_true _ _ [] [] 6 6 _ Hb.out (Rd.nil _ _ _) rfl rfl).mono ?_
  rintro e w' ⟨rfl, rfl⟩
  clear Hb
  go_wp2_with fail
  refine (puts_true _ _ [] [] 6 6 _ Hc.out (Rd.nil _ _ _) rfl rfl).mono ?_
  rintro e w' ⟨rfl, rfl⟩
  clear Hc
  go_wp2_with fail
  go_ret
  exact ⟨rfl, HB.out⟩
end Go.Proofs.Ytfodocahneoipaa
