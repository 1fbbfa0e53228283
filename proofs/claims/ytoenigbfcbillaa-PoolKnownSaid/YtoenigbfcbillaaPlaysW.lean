/-
  What is proved here: PoolPlays returns true and leaves all memory that was there as it was; condition: the arguments are ones that the form reads.
-/
import Derived.Test.YtoenigbfcbillaaTwoW
import Derived.Test.YtoenigbfcbillaaLaw
namespace Go.Proofs.Ytoenigbfcbillaa
open Go.RowKit

theorem Fm.grown {w0 W W' : World} {L : List Ob} {v : Value} {n : Nat} {zs : List Value} (h : Fm w0 L [] W) (ho : W.ownsRow w0.heap.size 9 1 v n zs) (hg : W.grownBy W' v.ownBlock) : Fm w0 L [] W' := by
  obtain ⟨⟨V, h1, h2, h3⟩, h0⟩ := h
  refine ⟨⟨V, fun o hm => ?_, h2, by simp⟩, h0.grown hg h0.size (fun k hk => (ho.lt k hk).1)⟩
  refine (h1 o hm).keep hg.size fun i hi hor => hg.block i hi fun e => ?_
  rcases hor with rfl | hv
  · exact (h1 o hm).box.ne_row ho (st_ty _) e.symm
  · exact rows_ne ho (h1 o hm).own (st_te _) i e.symm hv
/-- The two pools between two rounds. -/
def PP (w : World) (p m : Nat) (xs ys : List E) (W : World) : Prop := Rel xs ys ∧ Fm w [(p, true, xs), (m, false, ys)] [] W
section
variable {w W : World} {p m : Nat} {xs ys : List E} {R : List RowS}
theorem get_P (h : Fm w [(p, true, xs), (m, false, ys)] R W) (s : ByteArray) : Calls Try.prog 12 #[.pointer (some ⟨p, 0, none⟩), .string s] W fun e w' => e = .returned (.tuple #[.int .i64 (gtN xs s), .bool (has xs s)]) ∧ Fm w [(p, true, xs), (m, false, ys)] R w' := get_F h s
theorem rGet_P (hr : Rel xs ys) (h : Fm w [(p, true, xs), (m, false, ys)] R W) (s : ByteArray) : Calls Try.prog 13 #[.pointer (some ⟨m, 0, none⟩), .string s] W fun e w' => e = .returned (.tuple #[.int .i64 (gtN xs s), .bool (has xs s)]) ∧ Fm w [(p, true, xs), (m, false, ys)] R w' := by
  have := rGet_F h.swap s
  rw [← hr.has, ← hr.gtN] at this
  exact this.mono fun _ _ ⟨h1, h2⟩ => ⟨h1, h2.swap⟩
theorem rPut_P (hr : Rel xs ys) {x' : List E} (h : Fm w [(p, true, x'), (m, false, ys)] R W) (s : ByteArray) (n : Int) (hl : xs.length ≤ 99) (hs : s.size ≤ 1000) :
    Calls Try.prog 15 #[.pointer (some ⟨m, 0, none⟩), .string s, .int .i64 n] W fun e w' => e = .returned (.int .i64 (putE xs s n)) ∧ Fm w [(p, true, x'), (m, false, put false ys s n)] R w' := by
  have := rPut_F h.swap s n (by rw [← hr.length]; exact hl) hs
  rw [← hr.putE] at this
  exact this.mono fun _ _ ⟨h1, h2⟩ => ⟨h1, h2.swap⟩
theorem rList_P (hr : Rel xs ys) (h : Fm w [(p, true, xs), (m, false, ys)] R W) : Calls Try.prog 19 #[.pointer (some ⟨m, 0, none⟩)] W fun e w' => ∃ A n c, e = .returned (.slice A n c) ∧ Fm w [(p, true, xs), (m, false, ys)] ((.slice A n c, xs.map E.k) :: R) w' :=
  (rList_F h.swap hr).mono fun _ _ ⟨A, n, c, h1, h2⟩ => ⟨A, n, c, h1, h2.swap⟩
theorem rList_B (hr : Rel xs ys) (h : Fm w [(p, true, xs), (m, false, ys)] R W) {u : Value} (hc : W.cell? ⟨m, 0, none⟩ = some u) : Calls Try.prog 19 #[.pointer (some ⟨m, 0, none⟩)] W fun e w' => ∃ A n c, e = .returned (.slice A n c) ∧ Fm w [(p, true, xs), (m, false, ys)] ((.slice A n c, xs.map E.k) :: R) w' ∧ w'.cell? ⟨m, 0, none⟩ = some u := by
  obtain ⟨v, hv⟩ := h.swap.fst
  refine (rList_any hv ((hr.2.map E.k).nodup_iff.1 hr.1.nodup)).mono ?_
  rintro e w' ⟨u, ks, rfl, ho, ⟨h1, h2⟩, hb⟩
  obtain rfl : ks = xs.map E.k := keys_eq h1 hr.1.keys (h2.trans (hr.2.map E.k).symm)
  obtain ⟨A, c, rfl, -, -⟩ := ho.slice
  exact ⟨A, _, c, rfl, h.row hb ho, (hb.cell (p := ⟨m, 0, none⟩) hv.box.lt).trans hc⟩
theorem eq_B (h : Fm w [(p, true, xs), (m, false, ys)] R W) {a b u : Value} {zs : List ByteArray} (ha : RdS W a zs) (hb : RdS W b zs) (hl : zs.length ≤ 1000) (hc : W.cell? ⟨m, 0, none⟩ = some u) : Calls Try.prog 18 #[a, b] W fun e w' => e = .returned (.bool true) ∧ Fm w [(p, true, xs), (m, false, ys)] R w' ∧ w'.cell? ⟨m, 0, none⟩ = some u := by
  obtain ⟨v, hv⟩ := h.swap.fst
  refine (eqTexts_any zs zs a b W ha hb hl).mono ?_
  rintro e w' ⟨rfl, hbl⟩
  exact ⟨by simp, h.below hbl, (hbl.cell (p := ⟨m, 0, none⟩) hv.box.lt).trans hc⟩
theorem len_P (hr : Rel xs ys) (h : Fm w [(p, true, xs), (m, false, ys)] R W) : ∃ A c, W.cell? ⟨m, 0, none⟩ = some (.slice A xs.length c) := by
  obtain ⟨v, hv⟩ := h.swap.fst
  obtain ⟨A, c, rfl, -⟩ := hv.own.at
  exact ⟨A, c, by rw [hr.length]; exact hv.cell⟩
end
set_option maxRecDepth 20000 in
set_option maxHeartbeats 2000000 in
theorem poolPlays_walk (l : List E) (v : Value) (other : ByteArray) (w : World) (h1 : RdT w v l) (ho : other.size ≤ maxLen) :
    Calls Try.prog 3 #[v, .string other] w fun e w' => e = .returned (.bool true) ∧ Below w.heap.size w w' := by
  have HNW := Lib.hid (new_F (Fm.start (Below.refl w.heap.size w)))
  have HRN : Hid (∀ W p, Hid (Fm w [(p, true, [])] [] W) → Calls Try.prog 10 #[] W fun e w' => ∃ m, e = .returned (.pointer (some ⟨m, 0, none⟩)) ∧ Fm w [(p, true, []), (m, false, [])] [] w') := Lib.hid fun W p H => (rNew_F H.out).mono fun _ _ ⟨m, a1, a2⟩ => ⟨m, a1, a2.swap⟩
  have HSH : Hid (∀ (x : ByteArray) W L, x.size ≤ maxLen → Hid (Fm w L [] W) → Calls Try.prog 11 #[.string x, .int .i64 40] W fun e w' => e = .returned (.string (shN 40 x)) ∧ Fm w L [] w') := Lib.hid fun x W L hx H => (shortN_any 40 x W hx (by omega)).mono fun _ _ ⟨a1, a2⟩ => ⟨a1, H.out.below a2⟩
  have HSO : Hid (∀ W L, Hid (Fm w L [] W) → Calls Try.prog 11 #[.string other, .int .i64 40] W fun e w' => e = .returned (.string (shN 40 other)) ∧ Fm w L [] w') := Lib.hid fun W L H => HSH.out other W L ho H
  obtain ⟨A, n, c, rfl, hn, hnc, hc, hsz, hA⟩ := h1
  have hmx : n ≤ 9223372036854775807 := Nat.le_trans hnc hc
  have HN := Lib.hid hn
  have HA := Lib.hid hA
  have HSZ := Lib.hid hsz
  obtain ⟨o4, ho4⟩ : ∃ o4, shN 40 other = o4 := ⟨_, rfl⟩
  rw [ho4] at HSO
  clear hn hA hsz hnc hc ho ho4
  go_enter Try.func3, Try.ntmps3
  go_wp2_with (first
    | (go_at_call 9; (with_reducible refine HNW.out.mono ?_); rintro e w1 ⟨p, rfl, hs⟩; have HS := Lib.hid hs; clear hs HNW)
    | (go_at_call 10; (with_reducible refine (HRN.out _ _ HS).mono ?_); rintro e w2 ⟨m, rfl, hs⟩; have HS2 := Lib.hid hs; clear hs HS)
    | (go_at_call 11; (with_reducible refine (HSO.out _ _ HS2).mono ?_); rintro e w3 ⟨rfl, hs⟩; have HS3 := Lib.hid hs; clear hs HS2))
  clear HRN HSO
  have HP3 : Hid (PP w p m [] [] w3) := Lib.hid ⟨Rel.nil, HS3.out⟩
  clear HS3
  go_loopw [7] (fun i wr => ∃ (j : Nat) (xs ys : List E), j ≤ n ∧ j ≤ 60 ∧ Hid (xs.length ≤ j) ∧ i = .int .i64 (j : Int) ∧ Hid (PP w p m xs ys wr)) (fun i _ => 60 - (intOf i).toNat)
  case atStart => exact ⟨0, [], [], Nat.zero_le _, Nat.zero_le _, Lib.hid (Nat.le_refl _), rfl, HP3⟩
  case round =>
    obtain ⟨j, xs, ys, hj, hj6, HX, rfl, H⟩ := hrel
    by_cases hjn : j < n
    · by_cases hj60 : j < 60
      · obtain ⟨x, hx⟩ : ∃ x, l[j]? = some x := ⟨_, List.getElem?_eq_getElem (by have := HN.out; omega)⟩
        obtain ⟨b1, off1, rfl, hbl, hc1⟩ := HA.out (by omega)
        have HC1 : Hid (∀ W, Below w.heap.size w W → At2 W b1 (off1 + j * 2) x) := Lib.hid fun W hW => ⟨(hW.cell (p := ⟨b1, _, none⟩) hbl).trans (hc1 j x hx).1, (hW.cell (p := ⟨b1, _, none⟩) hbl).trans (hc1 j x hx).2⟩
        obtain ⟨z0, z1⟩ := HC1.out wr H.out.2.2
        have hxs := (HSZ.out x (List.mem_of_getElem? hx)).1
        have HR := Lib.hid H.out.1
        have HF := Lib.hid H.out.2
        obtain ⟨xk, xn⟩ := x
        have HSX : Hid (Calls Try.prog 11 #[.string xk, .int .i64 40] wr fun e w' => e = .returned (.string (shN 40 xk)) ∧ Fm w [(p, true, xs), (m, false, ys)] [] w') := Lib.hid (HSH.out xk wr _ hxs HF)
        have hss : (shN 40 xk).size ≤ 1000 := by have := shN_size 40 xk; omega
        obtain ⟨s, hs⟩ : ∃ s, shN 40 xk = s := ⟨_, rfl⟩
        rw [hs] at HSX hss
        obtain ⟨g, hg⟩ : ∃ g, gtN xs s = g := ⟨_, rfl⟩
        obtain ⟨β, hβ⟩ : ∃ β, has xs s = β := ⟨_, rfl⟩
        obtain ⟨er, her⟩ : ∃ er, putE xs s xn = er := ⟨_, rfl⟩
        have HG1 : Hid (∀ W, Hid (Fm w [(p, true, xs), (m, false, ys)] [] W) → Calls Try.prog 12 #[.pointer (some ⟨p, 0, none⟩), .string s] W fun e w' => e = .returned (.tuple #[.int .i64 g, .bool β]) ∧ Fm w [(p, true, xs), (m, false, ys)] [] w') := Lib.hid fun W H => by rw [← hg, ← hβ]; exact get_P H.out s
        have HG2 : Hid (∀ W, Hid (Fm w [(p, true, xs), (m, false, ys)] [] W) → Calls Try.prog 13 #[.pointer (some ⟨m, 0, none⟩), .string s] W fun e w' => e = .returned (.tuple #[.int .i64 g, .bool β]) ∧ Fm w [(p, true, xs), (m, false, ys)] [] w') := Lib.hid fun W H => by rw [← hg, ← hβ]; exact rGet_P HR.out H.out s
        obtain ⟨x', hx'⟩ : ∃ x', put true xs s xn = x' := ⟨_, rfl⟩
        obtain ⟨y', hy'⟩ : ∃ y', put false ys s xn = y' := ⟨_, rfl⟩
        have HPU1 : Hid (∀ W, Hid (Fm w [(p, true, xs), (m, false, ys)] [] W) → Calls Try.prog 14 #[.pointer (some ⟨p, 0, none⟩), .string s, .int .i64 xn] W fun e w' => e = .returned (.int .i64 er) ∧ Fm w [(p, true, x'), (m, false, ys)] [] w') := Lib.hid fun W H => by rw [← her, ← hx']; exact put_F H.out s xn (by have := HX.out; omega) hss
        have HPU2 : Hid (∀ W, Hid (Fm w [(p, true, x'), (m, false, ys)] [] W) → Calls Try.prog 15 #[.pointer (some ⟨m, 0, none⟩), .string s, .int .i64 xn] W fun e w' => e = .returned (.int .i64 er) ∧ Fm w [(p, true, x'), (m, false, y')] [] w') := Lib.hid fun W H => by rw [← her, ← hy']; exact rPut_P HR.out H.out s xn (by have := HX.out; omega) hss
        have HR' : Hid (Rel x' y' ∧ x'.length ≤ j + 1) := Lib.hid ⟨by rw [← hx', ← hy']; exact HR.out.put s xn, by rw [← hx']; have := put_length true xs s xn; have := HX.out; omega⟩
        have i1 : (j : Int) < (n : Int) := by omega
        clear hc1 hx hxs hs hg hβ her hx' hy' hss H
        go_upto_region 9 with (first
          | (go_at_call 11; (with_reducible refine HSX.out.mono ?_); rintro e w4 ⟨rfl, hs⟩; have HS4 := Lib.hid hs; clear hs HSX HF)
          | (go_at_call 12; (with_reducible refine (HG1.out _ HS4).mono ?_); rintro e w5 ⟨rfl, hs⟩; have HS5 := Lib.hid hs; clear hs HS4)
          | (go_at_call 13; (with_reducible refine (HG2.out _ HS5).mono ?_); rintro e w6 ⟨rfl, hs⟩; have HS6 := Lib.hid hs; clear hs HS5))
        have hall : ∀ W, Hid (Below w.heap.size w W) → W.cell? ⟨b1, off1 + j * 2 + 1, none⟩ = some (.int .i64 xn) ∧ Hid (Below w.heap.size w W) := fun W h => ⟨(HC1.out W h.out).2, h⟩
        have HS6d : Hid (Fm w [(p, true, xs), (m, false, ys)] [] w6.drew) := Lib.hid (HS6.out.drewN 1)
        have HB6 : Hid (Below w.heap.size w w6) := Lib.hid HS6.out.2
        have HB6d : Hid (Below w.heap.size w w6.drew) := Lib.hid HS6d.out.2
        have hgg : (g != g) = false := by simp
        have hbb : (β != β) = false := by simp
        have heq : (er != er) = false := by simp
        go_region_held3 (fun W => W.cell? ⟨b1, off1 + j * 2 + 1, none⟩ = some (.int .i64 xn) ∧ Hid (Below w.heap.size w W))
          (first | (with_reducible exact hall _ HB6d) | (with_reducible exact hall _ HB6) | (with_reducible exact hall _ (by assumption)))
          (first
            | (go_at_call 14; (with_reducible refine (HPU1.out _ HS6d).mono ?_); rintro e w7 ⟨rfl, hs⟩; have HS7 := Lib.hid hs; have HB7 : Hid (Below w.heap.size w w7) := Lib.hid hs.2; clear hs)
            | (go_at_call 15; (with_reducible refine (HPU2.out _ HS7).mono ?_); rintro e w8 ⟨rfl, hs⟩; have HS8 := Lib.hid hs; have HB8 : Hid (Below w.heap.size w w8) := Lib.hid hs.2; clear hs))
        clear HC1 HPU1 HPU2 HG1 HG2 HS6 HS6d HB6 HB6d HS7 HB7 hall hgg hbb heq HR z0 z1
        have HRN := Lib.hid HR'.out.1
        obtain ⟨g, hg⟩ : ∃ g, gtN x' o4 = g := ⟨_, rfl⟩
        obtain ⟨β, hβ⟩ : ∃ β, has x' o4 = β := ⟨_, rfl⟩
        have HG1 : Hid (∀ W, Hid (Fm w [(p, true, x'), (m, false, y')] [] W) → Calls Try.prog 12 #[.pointer (some ⟨p, 0, none⟩), .string o4] W fun e w' => e = .returned (.tuple #[.int .i64 g, .bool β]) ∧ Fm w [(p, true, x'), (m, false, y')] [] w') := Lib.hid fun W H => by rw [← hg, ← hβ]; exact get_P H.out o4
        have HG2 : Hid (∀ W, Hid (Fm w [(p, true, x'), (m, false, y')] [] W) → Calls Try.prog 13 #[.pointer (some ⟨m, 0, none⟩), .string o4] W fun e w' => e = .returned (.tuple #[.int .i64 g, .bool β]) ∧ Fm w [(p, true, x'), (m, false, y')] [] w') := Lib.hid fun W H => by rw [← hg, ← hβ]; exact rGet_P HRN.out H.out o4
        clear hg hβ
        obtain ⟨lx, hlx⟩ : ∃ lx, lx = x'.length := ⟨_, rfl⟩
        have HLX := Lib.hid hlx
        have hlx60 : lx ≤ 61 := by rw [hlx]; have := HR'.out.2; omega
        have HLF : Hid (∀ R W, Hid (Fm w [(p, true, x'), (m, false, y')] R W) → Calls Try.prog 16 #[.pointer (some ⟨p, 0, none⟩)] W fun e w' => ∃ A c, e = .returned (.slice A lx c) ∧ lx ≤ c ∧ c ≤ 9223372036854775807 ∧ Fm w [(p, true, x'), (m, false, y')] ((.slice A lx c, x'.map E.k) :: R) w') := Lib.hid fun R W H => by rw [HLX.out]; exact list_F H.out
        have HLE : Hid (∀ R W, Hid (Fm w [(p, true, x'), (m, false, y')] R W) → Calls Try.prog 17 #[.pointer (some ⟨p, 0, none⟩)] W fun e w' => e = .returned (.int .i64 (lx : Int)) ∧ W = w') := Lib.hid fun R W H => by rw [HLX.out]; exact len_F H.out
        have HRL : Hid (∀ R W, Hid (Fm w [(p, true, x'), (m, false, y')] R W) → Calls Try.prog 19 #[.pointer (some ⟨m, 0, none⟩)] W fun e w' => ∃ A n c, e = .returned (.slice A n c) ∧ Fm w [(p, true, x'), (m, false, y')] ((.slice A n c, x'.map E.k) :: R) w') := Lib.hid fun R W H => rList_P HRN.out H.out
        have HEQ : Hid (∀ (R : List RowS) W (a b : Value), Hid (Fm w [(p, true, x'), (m, false, y')] ((b, x'.map E.k) :: R) W) → (a, x'.map E.k) ∈ R → Calls Try.prog 18 #[a, b] W fun e w' => e = .returned (.bool true) ∧ Fm w [(p, true, x'), (m, false, y')] ((b, x'.map E.k) :: R) w') := Lib.hid fun R W a b H hm => by
          have := eq_F H.out (H.out.rd (List.mem_cons_of_mem _ hm)) (H.out.rd (List.mem_cons_self ..)) (by rw [List.length_map]; have := HLX.out; omega)
          simpa using this
        have HCM : Hid (∀ R W, Fm w [(p, true, x'), (m, false, y')] R W → ∃ A c, W.cell? ⟨m, 0, none⟩ = some (.slice A lx c)) := Lib.hid fun R W h => by rw [HLX.out]; exact len_P HRN.out h
        clear hlx
        go_upto_region 14 with (first
          | (go_at_call 12; (with_reducible refine (HG1.out _ HS8).mono ?_); rintro e w5 ⟨rfl, hs⟩; have HS9 := Lib.hid hs; clear hs HS8)
          | (go_at_call 13; (with_reducible refine (HG2.out _ HS9).mono ?_); rintro e w6 ⟨rfl, hs⟩; have HS10 := Lib.hid hs; clear hs HS9)
          | (go_at_call 16; (with_reducible refine (HLF.out _ _ HS10).mono ?_); rintro e w9 ⟨A9, c9, rfl, hc9, hm9, hs⟩; have HS11 := Lib.hid hs; clear hs HS10))
        have HS12 : Hid (Fm w [(p, true, x'), (m, false, y')] [(.slice A9 lx c9, x'.map E.k)] w9.drew) := Lib.hid (HS11.out.drewN 1)
        obtain ⟨Am, cm, hcm⟩ := HCM.out _ _ HS11.out
        have hcm2 : w9.drew.cell? ⟨m, 0, none⟩ = some (.slice Am lx cm) := hcm
        have hgg : (g != g) = false := by simp
        have hbb : (β != β) = false := by simp
        have heq : ((lx : Int) != (lx : Int)) = false := by simp
        have HRL2 : Hid (Calls Try.prog 19 #[.pointer (some ⟨m, 0, none⟩)] w9.drew fun e w' => ∃ A n c, e = .returned (.slice A n c) ∧ Fm w [(p, true, x'), (m, false, y')] [(.slice A n c, x'.map E.k), (.slice A9 lx c9, x'.map E.k)] w' ∧ w'.cell? ⟨m, 0, none⟩ = some (.slice Am lx cm)) := Lib.hid (rList_B HRN.out HS12.out hcm2)
        have HEQ2 : Hid (∀ W b, Hid (Fm w [(p, true, x'), (m, false, y')] [(b, x'.map E.k), (.slice A9 lx c9, x'.map E.k)] W) → W.cell? ⟨m, 0, none⟩ = some (.slice Am lx cm) → Calls Try.prog 18 #[.slice A9 lx c9, b] W fun e w' => e = .returned (.bool true) ∧ Fm w [(p, true, x'), (m, false, y')] [(b, x'.map E.k), (.slice A9 lx c9, x'.map E.k)] w' ∧ w'.cell? ⟨m, 0, none⟩ = some (.slice Am lx cm)) := Lib.hid fun W b H hc =>
          eq_B (zs := x'.map E.k) H.out (H.out.rd (by simp)) (H.out.rd (by simp)) (by rw [List.length_map]; have := HLX.out; omega) hc
        go_region_held3 (fun W => W.cell? ⟨m, 0, none⟩ = some (.slice Am lx cm)) (first | (with_reducible exact hcm2) | (with_reducible exact hcm) | (with_reducible assumption))
          (first
            | (go_at_call 17; (with_reducible refine (HLE.out _ _ HS12).mono ?_); rintro e w10 ⟨rfl, rfl⟩)
            | (go_at_call 19; (with_reducible refine HRL2.out.mono ?_); rintro e w11 ⟨Ar, nr, cr, rfl, hs, hc11⟩; have HS13 := Lib.hid hs; clear hs)
            | (go_at_call 18; (with_reducible refine (HEQ2.out _ _ HS13 hc11).mono ?_); rintro e w12 ⟨rfl, hs, hc12⟩; have HS14 : Hid (Fm w [(p, true, x'), (m, false, y')] [(.slice A9 lx c9, x'.map E.k)] w12) := Lib.hid (hs.sub (by simp)); clear hs))
        all_goals
          have HOW := Lib.hid (HS14.out.own (a := .slice A9 lx c9) (zs := x'.map E.k) (by simp)).1
          have HF14 : Hid (Fm w [(p, true, x'), (m, false, y')] [] w12) := Lib.hid (HS14.out.sub (by simp))
          have HPJ : Hid (∀ W, Fm w [(p, true, x'), (m, false, y')] [] W → PP w p m x' y' W) := Lib.hid fun W h => ⟨HRN.out, h⟩
          have HXJ : Hid (x'.length ≤ j + 1) := Lib.hid HR'.out.2
          have HOW2 : Hid (∃ zs, w12.ownsRow w.heap.size 9 1 (.slice A9 lx c9) lx zs) := Lib.hid ⟨_, by have := HOW.out; rw [List.length_map, ← HLX.out] at this; exact this⟩
          clear HOW HS14 HS13 HS12 HS11 HEQ2 HRL2 hcm hcm2 hgg hbb heq hc12 hc11 HG1 HG2 HLF HLE HRL HEQ HCM HR' HRN hc9 hm9
          go_wp2_with fail
          go_loopw [18] (fun i wx => ∃ t : Nat, t ≤ lx ∧ i = .int .i64 (t : Int) ∧ Hid (Fm w [(p, true, x'), (m, false, y')] [] wx) ∧ Hid (∃ zs, wx.ownsRow w.heap.size 9 1 (.slice A9 lx c9) lx zs)) (fun i _ => lx - (intOf i).toNat)
          case atStart => exact ⟨0, Nat.zero_le _, rfl, HF14, HOW2⟩
          case round =>
            obtain ⟨t, ht, rfl, HT, HO⟩ := hrel
            by_cases hlt : t < lx
            · obtain ⟨zs, hz⟩ := HO.out
              obtain ⟨g9, rfl⟩ : ∃ g9, A9 = some ⟨g9, 0, none⟩ := by
                rcases hz.2 with ⟨h0, h1⟩ | ⟨g, cap, cur, h0, _⟩
                · omega
                · injection h0 with h0; exact ⟨g, h0⟩
              have HZ := Lib.hid hz
              have f0 := hz.frozenAt t
              obtain ⟨u0, q0⟩ : ∃ u0, wr.cell? ⟨g9, t, none⟩ = some u0 := ⟨_, (hz.cellAt t (by omega)).trans (List.getElem?_eq_getElem (by have := hz.1; omega))⟩
              have i3 : (t : Int) < (lx : Int) := by omega
              clear hz
              go_wp2_with fail
              obtain ⟨s1, t1⟩ := HZ.out.stored t (.string ⟨#[115, 112, 111, 105, 108, 116]⟩)
              exact ⟨⟨t + 1, by omega, by go_num, HT.out.grown HZ.out t1, ⟨_, s1⟩⟩, by simp [intOf]; omega⟩
            · go_wp2_with fail
              go_roundw
              case rel => exact ⟨j + 1, x', y', by omega, by omega, HXJ, by go_num, Lib.hid (HPJ.out _ HT.out)⟩
              case measure => simp [intOf]; omega
      · have HR := Lib.hid H.out.1
        have HF := Lib.hid H.out.2
        have HLF : Hid (∀ R W, Hid (Fm w [(p, true, xs), (m, false, ys)] R W) → Calls Try.prog 16 #[.pointer (some ⟨p, 0, none⟩)] W fun e w' => ∃ A n c, e = .returned (.slice A n c) ∧ Fm w [(p, true, xs), (m, false, ys)] ((.slice A n c, xs.map E.k) :: R) w') := Lib.hid fun R W H => (list_F H.out).mono fun _ _ ⟨A, c, a1, _, _, a2⟩ => ⟨A, _, c, a1, a2⟩
        have HRL : Hid (∀ R W, Hid (Fm w [(p, true, xs), (m, false, ys)] R W) → Calls Try.prog 19 #[.pointer (some ⟨m, 0, none⟩)] W fun e w' => ∃ A n c, e = .returned (.slice A n c) ∧ Fm w [(p, true, xs), (m, false, ys)] ((.slice A n c, xs.map E.k) :: R) w') := Lib.hid fun R W H => rList_P HR.out H.out
        have HEQ : Hid (∀ (R : List RowS) W (a b : Value), Hid (Fm w [(p, true, xs), (m, false, ys)] ((b, xs.map E.k) :: R) W) → (a, xs.map E.k) ∈ R → Calls Try.prog 18 #[a, b] W fun e w' => e = .returned (.bool true) ∧ Fm w [(p, true, xs), (m, false, ys)] ((b, xs.map E.k) :: R) w') := Lib.hid fun R W a b H hm => by
          have := eq_F H.out (H.out.rd (List.mem_cons_of_mem _ hm)) (H.out.rd (List.mem_cons_self ..)) (by rw [List.length_map]; have := HX.out; omega)
          simpa using this
        clear H
        go_wp2_with (first
          | (go_at_call 16; (with_reducible refine (HLF.out _ _ HF).mono ?_); rintro e w9 ⟨A9, n9, c9, rfl, hs⟩; have HS11 := Lib.hid hs; clear hs)
          | (go_at_call 19; (with_reducible refine (HRL.out _ _ HS11).mono ?_); rintro e w11 ⟨Ar, nr, cr, rfl, hs⟩; have HS13 := Lib.hid hs; clear hs)
          | (go_at_call 18; (with_reducible refine (HEQ.out _ _ _ _ HS13 (List.mem_cons_self ..)).mono ?_); rintro e w12 ⟨rfl, hs⟩; have HS14 := Lib.hid hs; clear hs)
          | (go_at_call 20; (with_reducible refine (works_F HS14.out).mono ?_); rintro e w13 ⟨rfl, hs⟩; have HS15 := Lib.hid hs; clear hs))
        go_ret
        exact ⟨rfl, HS15.out.2⟩
    · have HR := Lib.hid H.out.1
      have HF := Lib.hid H.out.2
      have HLF : Hid (∀ R W, Hid (Fm w [(p, true, xs), (m, false, ys)] R W) → Calls Try.prog 16 #[.pointer (some ⟨p, 0, none⟩)] W fun e w' => ∃ A n c, e = .returned (.slice A n c) ∧ Fm w [(p, true, xs), (m, false, ys)] ((.slice A n c, xs.map E.k) :: R) w') := Lib.hid fun R W H => (list_F H.out).mono fun _ _ ⟨A, c, a1, _, _, a2⟩ => ⟨A, _, c, a1, a2⟩
      have HRL : Hid (∀ R W, Hid (Fm w [(p, true, xs), (m, false, ys)] R W) → Calls Try.prog 19 #[.pointer (some ⟨m, 0, none⟩)] W fun e w' => ∃ A n c, e = .returned (.slice A n c) ∧ Fm w [(p, true, xs), (m, false, ys)] ((.slice A n c, xs.map E.k) :: R) w') := Lib.hid fun R W H => rList_P HR.out H.out
      have HEQ : Hid (∀ (R : List RowS) W (a b : Value), Hid (Fm w [(p, true, xs), (m, false, ys)] ((b, xs.map E.k) :: R) W) → (a, xs.map E.k) ∈ R → Calls Try.prog 18 #[a, b] W fun e w' => e = .returned (.bool true) ∧ Fm w [(p, true, xs), (m, false, ys)] ((b, xs.map E.k) :: R) w') := Lib.hid fun R W a b H hm => by
        have := eq_F H.out (H.out.rd (List.mem_cons_of_mem _ hm)) (H.out.rd (List.mem_cons_self ..)) (by rw [List.length_map]; have := HX.out; omega)
        simpa using this
      clear H
      go_wp2_with (first
        | (go_at_call 16; (with_reducible refine (HLF.out _ _ HF).mono ?_); rintro e w9 ⟨A9, n9, c9, rfl, hs⟩; have HS11 := Lib.hid hs; clear hs)
        | (go_at_call 19; (with_reducible refine (HRL.out _ _ HS11).mono ?_); rintro e w11 ⟨Ar, nr, cr, rfl, hs⟩; have HS13 := Lib.hid hs; clear hs)
        | (go_at_call 18; (with_reducible refine (HEQ.out _ _ _ _ HS13 (List.mem_cons_self ..)).mono ?_); rintro e w12 ⟨rfl, hs⟩; have HS14 := Lib.hid hs; clear hs)
        | (go_at_call 20; (with_reducible refine (works_F HS14.out).mono ?_); rintro e w13 ⟨rfl, hs⟩; have HS15 := Lib.hid hs; clear hs))
      go_ret
      exact ⟨rfl, HS15.out.2⟩
end Go.Proofs.Ytoenigbfcbillaa
