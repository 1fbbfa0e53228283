/-
  What is proved here: FitJoined returns true; conditions: the contracts of fit.One and fit.All, the table of package tag, and arguments that the form reads.
-/
import Derived.Test.YtaeboneddndfkaaDoorFJoP
namespace Go.Proofs.YtaeboneddndfkaaDoor
open Go.RowKit Tg

/-- The slice (A, n, c) reads as numbers. -/
def RsI (w : World) (A : Option Addr) (n : Nat) (l : List Int) : Prop :=
  l.length = n ∧ (∀ d ∈ l, -9223372036854775808 ≤ d ∧ d ≤ 9223372036854775807) ∧ (0 < n → ∃ b off, A = some ⟨b, off, none⟩ ∧ b < w.heap.size ∧ ∀ j d, l[j]? = some d → w.cell? ⟨b, off + j, none⟩ = some (.int .i64 d))
theorem RsI.below {w w' : World} {A : Option Addr} {n : Nat} {l : List Int} (h : RsI w A n l) (hb : Below w.heap.size w w') : RsI w' A n l := by
  refine ⟨h.1, h.2.1, fun hn => ?_⟩
  obtain ⟨b, off, rfl, hlt, hc⟩ := h.2.2 hn
  exact ⟨b, off, rfl, Nat.lt_of_lt_of_le hlt hb.size, fun j d hd => (hb.cell (p := ⟨b, off + j, none⟩) hlt).trans (hc j d hd)⟩
/-- Between two calls: the table, old memory, the box of the keys. -/
structure FJ (w0 : World) (g : Nat) (k : V3) (W : World) : Prop where
  tb : Tab W
  b0 : Below w0.heap.size w0 W
  bg : Bx W g 24 #[.int .i64 k.t, .int .i64 k.w, .int .u64 k.n]
  lo : w0.heap.size ≤ g
  ps : 1 ≤ w0.heap.size
section
variable {w0 W W' : World} {g : Nat} {k : V3} {v : Value} {xs : List V3}
theorem FJ.below (H : FJ w0 g k W) (hb : Below (g + 1) W W') : FJ w0 g k W' :=
  ⟨H.tb.below (by have := H.lo; omega) hb, H.b0.trans (hb.mono (by have := H.lo; omega)), H.bg.below hb (Nat.lt_succ_self g), H.lo, H.ps⟩
theorem FJ.keep (H : FJ w0 g k W) (hb : Below W.heap.size W W') : FJ w0 g k W' := H.below (hb.mono H.bg.lt)
theorem FJ.grown (H : FJ w0 g k W) (ho : OV W (g + 1) v xs) (hg : W.grownBy W' v.ownBlock) : FJ w0 g k W' := H.below ((Below.refl _ _).grown hg H.bg.lt fun k hk => (ho.bd k hk).1)
theorem FJ.all (H : Hid (FJ w0 g k W)) : W.cell? ⟨g, 0, none⟩ = some (.int .i64 k.t) ∧ W.cell? ⟨g, 1, none⟩ = some (.int .i64 k.w) ∧ W.cell? ⟨g, 2, none⟩ = some (.int .u64 k.n) ∧ Hid (FJ w0 g k W) := ⟨H.out.bg.cell 0, H.out.bg.cell 1, H.out.bg.cell 2, H⟩
theorem FJ.drew (H : Hid (FJ w0 g k W)) : Hid (FJ w0 g k W.drew) := Lib.hid (H.out.keep (Below.refl _ _).drew)
theorem FJ.born {w0 W : World} (h : WL w0 W) (p0 : 1 ≤ w0.heap.size) (k : V3) : FJ w0 W.heap.size k (W.alloc (.cells #[.int .i64 k.t, .int .i64 k.w, .int .u64 k.n] 24)) :=
  ⟨h.1.keep (al0 _ _), (h.keep (al0 _ _)).2, Bx.new _ _ _, h.2.size, p0⟩
end
/-- The values that the numbers select. -/
def vals (a : Int) (l : List Int) (m : Nat) : List V3 := (l.take m).map fun x => valV x a
theorem vals_length {a : Int} {l : List Int} {m : Nat} : (vals a l m).length = min m l.length := by unfold vals; simp
theorem vals_at {a : Int} {l : List Int} {m j : Nat} {x : Int} (h : l[j]? = some x) (hj : j < m) : (vals a l m)[j]? = some (valV x a) := by
  unfold vals
  rw [List.getElem?_map, List.getElem?_take, if_pos hj, h]; rfl
theorem vals_ok {a : Int} {l : List Int} {m : Nat} (h0 : 1 ≤ a ∧ a ≤ 4000000) : (∀ v ∈ vals a l m, okW a v) ∧ (∀ v ∈ vals a l m, okV v) := by
  unfold vals
  constructor <;> (intro v hv; obtain ⟨x, _, rfl⟩ := List.mem_map.1 hv)
  · exact (valV_ok x h0).1
  · exact (valV_ok x h0).2
theorem vals_next {a : Int} {l : List Int} {m j : Nat} {x : Int} (h : l[j]? = some x) (hj : j < m) : (vals a l m).take j ++ [valV x a] = (vals a l m).take (j + 1) := by
  obtain ⟨h1, h2⟩ := List.getElem?_eq_some_iff.1 (vals_at (a := a) h hj)
  rw [List.take_succ_eq_append_getElem h1, h2]
theorem wantL_next {a : Int} {l : List Int} {m j : Nat} {x : Int} (h : l[j]? = some x) (hj : j < m) (i acc : Int) : wantL a ((vals a l m).drop j) i acc = wantL a ((vals a l m).drop (j + 1)) (i + 1) (max acc (oneV (valV x a) a i)) := by
  obtain ⟨h1, h2⟩ := List.getElem?_eq_some_iff.1 (vals_at (a := a) h hj)
  rw [List.drop_eq_getElem_cons h1, h2, wantL]
theorem Rs.lit1 (w : World) (t wd n : Int) : Rs (w.alloc (.cells #[.int .i64 t, .int .i64 wd, .int .u64 n] 24)) (some ⟨w.heap.size, 0, none⟩) 1 1 [⟨t, wd, n⟩] := by
  obtain ⟨A, n', c, he, hr⟩ := Rd.lit w [⟨t, wd, n⟩] (cs := #[.int .i64 t, .int .i64 wd, .int .u64 n]) (g := w.heap.size) (n := 1) rfl rfl rfl (by decide)
  cases he
  exact hr
set_option maxRecDepth 20000 in
set_option maxHeartbeats 1000000 in
theorem fitJoined_walk (H1 : OneOK) (H2 : AllOK) (A0 : Option Addr) (n0 c0 : Nat) (l : List Int) (at0 wh0 : Int) (w : World) (hm0 : n0 ≤ 9223372036854775807) (hl : RsI w A0 n0 l) (ba : -9223372036854775808 ≤ at0 ∧ at0 ≤ 9223372036854775807) (bw : -9223372036854775808 ≤ wh0 ∧ wh0 ≤ 9223372036854775807) (hT : Tab w) :
    Calls Tryd.prog 7 #[.slice A0 n0 c0, .int .i64 at0, .int .i64 wh0] w fun e w' => e = .returned (.bool true) ∧ Below w.heap.size w w' := by
  have HS := Lib.hid (WL.start hT)
  have HBA : Hid (∀ W, Hid (WL w W) → Calls Tryd.prog 17 #[.int .i64 at0, .int .i64 70000] W fun e w' => e = .returned (.int .i64 (at0 % 70000)) ∧ WL w w') := Lib.hid fun W h => bring_L h.out at0 _ ba (by omega) (by omega)
  obtain ⟨a, ha⟩ : ∃ a, at0 % 70000 = a := ⟨_, rfl⟩
  have ea : 0 ≤ a ∧ a ≤ 70000 := by have := mod_b at0 (n := 70000) (by omega); omega
  have HBW : Hid (∀ W, Calls Tryd.prog 17 #[.int .i64 wh0, .int .i64 3] W fun e w' => e = .returned (.int .i64 (wh0 % 3)) ∧ W = w') := Lib.hid fun W => bring_any wh0 3 W bw.1 bw.2 (by omega) (by omega)
  have HBK : Hid (∀ W, Calls Tryd.prog 17 #[.int .i64 wh0, .int .i64 (1 + a)] W fun e w' => e = .returned (.int .i64 (wh0 % (1 + a))) ∧ W = w') := Lib.hid fun W => bring_any wh0 _ W bw.1 bw.2 (by omega) (by omega)
  obtain ⟨q, hq⟩ : ∃ q, wh0 % 3 = q := ⟨_, rfl⟩
  obtain ⟨k, hk⟩ : ∃ k, wh0 % (1 + a) = k := ⟨_, rfl⟩
  have eq : 0 ≤ q ∧ q ≤ 2 := by have := mod_b wh0 (n := 3) (by omega); omega
  have ek : 0 ≤ k ∧ k ≤ a := by have := mod_b wh0 (n := 1 + a) (by omega); omega
  rw [ha] at HBA; rw [hq] at HBW; rw [hk] at HBK
  clear ha hq hk bw ba
  have HL := Lib.hid hl
  clear hl
  obtain ⟨N, hN⟩ : ∃ N, N = min n0 300 := ⟨_, rfl⟩
  have hN3 : N ≤ 300 := by omega
  have hNn : N ≤ n0 := by omega
  have HNE := Lib.hid hN
  clear hN
  have HBY : Hid (∀ W, Calls Tryd.prog 20 #[.int .u64 (N : Int)] W fun e w' => e = .returned (.int .i64 (byt N)) ∧ W = w') := Lib.hid fun W => bytes_any N W (by omega) (by omega)
  obtain ⟨r0, hr0⟩ : ∃ r0, oneV ⟨5, 1, k⟩ (1 + a) 0 = r0 := ⟨_, rfl⟩
  have HKO : Hid (∀ W {g}, FJ w g ⟨5, 1, k⟩ W → Calls Tryd.prog 11 #[.agg #[.int .i64 5, .int .i64 1, .int .u64 k], .int .i64 (1 + a), .int .i64 0] W fun e w' => e = .returned (.int .i64 r0) ∧ FJ w g ⟨5, 1, k⟩ w') := Lib.hid fun W g h => by
    rw [← hr0]
    exact (H1 ⟨5, 1, k⟩ (1 + a) 0 W (okT k ek.1 (by omega)) (by omega) (by omega) (by omega) (by omega) h.tb).mono fun _ _ ⟨h1, h2⟩ => ⟨h1, h.keep h2⟩
  have HPS := Lib.hid hT.1
  have hq3 : q = 0 ∨ q = 1 ∨ q = 2 := by omega
  clear eq
  have HB3 : Hid (300 ≤ n0 → ∀ W, Calls Tryd.prog 20 #[.int .u64 300] W fun e w' => e = .returned (.int .i64 (byt N)) ∧ W = w') := Lib.hid fun h W => by have := HBY.out W; rw [show N = 300 by have := HNE.out; omega] at this ⊢; exact this
  have HBN : Hid (n0 ≤ 300 → ∀ W, Calls Tryd.prog 20 #[.int .u64 (n0 : Int)] W fun e w' => e = .returned (.int .i64 (byt N)) ∧ W = w') := Lib.hid fun h W => by have := HBY.out W; rw [show N = n0 by have := HNE.out; omega] at this ⊢; exact this
  rcases hq3 with rfl | rfl | rfl
  · have hq3 : True := trivial
    obtain ⟨F, hF⟩ : ∃ F, allV (1 + a) 0 ⟨5, 1, k⟩ (vals (1 + a) l 300) = F := ⟨_, rfl⟩
    have hvl : (vals (1 + a) l 300).length = N := by rw [vals_length, HL.out.1]; have := HNE.out; omega
    have hok := vals_ok (a := 1 + a) (l := l) (m := 300) (by omega)
    have HST : Hid (∀ z, z = headW (1 + a) 0 ⟨5, 1, k⟩ N → wantL (1 + a) (vals (1 + a) l 300) 0 z = F) := Lib.hid fun z hz => by
      rw [← hF, allV_want (by omega) (by omega) (okW_text (by omega)) (by omega) hok.1, hvl, hz]
    have HHD : Hid (headW (1 + a) 0 ⟨5, 1, k⟩ N = 1) := Lib.hid (by unfold headW; simp)
    have HAL : Hid (∀ W g y, Hid (FJ w g ⟨5, 1, k⟩ W) → Hid (OV W (g + 1) y (vals (1 + a) l 300)) → Calls Tryd.prog 15 #[.int .i64 (1 + a), .int .i64 0, .agg #[.int .i64 5, .int .i64 1, .int .u64 k], y] W fun e w' => e = .returned (.int .i64 F) ∧ FJ w g ⟨5, 1, k⟩ w') := Lib.hid fun W g y h ho => by
      rw [← hF]
      exact (H2 (1 + a) 0 ⟨5, 1, k⟩ _ y W (okT k ek.1 (by omega)) hok.2 ho.out.rd (by omega) (by omega) (by omega) (by omega) h.out.tb).mono fun _ _ ⟨h1, h2⟩ => ⟨h1, h.out.keep h2⟩
    clear hF hok
    have HVL := Lib.hid hvl
    clear hvl
    go_enter Tryd.func7, Tryd.ntmps7
    go_wp2_with (first
      | (go_at_call 17; (with_reducible refine (HBA.out _ (by assumption)).mono ?_); rintro e w1 ⟨rfl, hs⟩; have HS := Lib.hid hs; clear hs)
      | (go_at_call 17; (with_reducible refine (HBW.out _).mono ?_); rintro e w2 ⟨rfl, rfl⟩)
      | (go_at_call 17; (with_reducible refine (HBK.out _).mono ?_); rintro e w2 ⟨rfl, rfl⟩)
      | (go_at_call 18; (with_reducible refine (textt_L (HS.out.keep (al0 _ _)) _).mono ?_); rintro e w3 ⟨rfl, hs⟩; have HS3 := Lib.hid hs; clear hs)
      | (go_at_call 20; (with_reducible refine (HB3.out (by omega) _).mono ?_); rintro e w4 ⟨rfl, rfl⟩)
      | (go_at_call 20; (with_reducible refine (HBN.out (by omega) _).mono ?_); rintro e w4 ⟨rfl, rfl⟩)
      | (go_at_call 11; (with_reducible refine (HKO.out _ (FJ.born HS3.out HPS.out ⟨5, 1, k⟩)).mono ?_); rintro e w5 ⟨rfl, hs⟩; have HS5 := Lib.hid hs; clear hs))
    all_goals
      have HS5 := Lib.hid (FJ.born HS3.out HPS.out ⟨5, 1, k⟩)
      obtain ⟨w5, hw5⟩ : ∃ w5, w3.alloc (.cells #[.int .i64 5, .int .i64 1, .int .u64 k] 24) = w5 := ⟨_, rfl⟩
      simp only [hw5] at HS5 ⊢
      clear hw5
      obtain ⟨g, hg⟩ : ∃ g, w3.heap.size = g := ⟨_, rfl⟩
      simp only [hg] at HS5 ⊢
      clear hg
      go_loopw [9, 10, 11, 12] (fun x y z _ wr => ∃ (j : Nat) (cur : Int), x = .int .i64 cur ∧ z = .int .i64 j ∧ j ≤ N ∧ Hid (FJ w g ⟨5, 1, k⟩ wr) ∧ Hid (OV wr (g + 1) y ((vals (1 + a) l 300).take j)) ∧ Hid (wantL (1 + a) ((vals (1 + a) l 300).drop j) (0 + (j : Int)) cur = F)) (fun _ _ z _ _ => (N - intOf z).toNat)
      case atStart => exact ⟨0, _, rfl, rfl, by omega, HS5, Lib.hid (OV.nil _ _), Lib.hid (HST.out _ (by have := HHD.out; omega))⟩
      case round =>
        obtain ⟨j, cur, rfl, rfl, hj, HSJ, HOV, HWT⟩ := hrel
        by_cases hjn : j < N
        · have hjl : j < l.length := by rw [HL.out.1]; omega
          obtain ⟨x, hx⟩ : ∃ x, l[j]? = some x := ⟨_, List.getElem?_eq_getElem hjl⟩
          obtain ⟨b, o, rfl, hlt, hc⟩ := HL.out.2.2 (by omega)
          have cx : wr.cell? ⟨b, o + j, none⟩ = some (.int .i64 x) := (HSJ.out.b0.cell (p := ⟨b, o + j, none⟩) hlt).trans (hc j x hx)
          have bx := HL.out.2.1 x (List.mem_of_getElem? hx)
          obtain ⟨r, hr⟩ : ∃ r, oneV (valV x (1 + a)) (1 + a) (0 + (j : Int)) = r := ⟨_, rfl⟩
          have HVA : Hid (Calls Tryd.prog 21 #[.int .i64 x, .int .i64 (1 + a)] wr fun e w' => ∃ t wd nn, Hid (valV x (1 + a) = ⟨t, wd, nn⟩) ∧ e = .returned (.agg #[.int .i64 t, .int .i64 wd, .int .u64 nn]) ∧ Hid (FJ w g ⟨5, 1, k⟩ w') ∧ Hid (OV w' (g + 1) u10 ((vals (1 + a) l 300).take j))) := Lib.hid (by
            refine (value_any x (1 + a) wr bx.1 bx.2 (by omega) (by omega)).mono ?_
            rintro e w' ⟨rfl, hb⟩
            obtain ⟨t, wd, nn⟩ := valV x (1 + a)
            exact ⟨t, wd, nn, Lib.hid rfl, rfl, Lib.hid (HSJ.out.keep hb), Lib.hid (HOV.out.below hb)⟩)
          have HON : Hid (∀ W t wd nn z, Hid (valV x (1 + a) = ⟨t, wd, nn⟩) → z = 0 + (j : Int) → Hid (FJ w g ⟨5, 1, k⟩ W) → Hid (OV W (g + 1) u10 ((vals (1 + a) l 300).take j)) → Calls Tryd.prog 11 #[.agg #[.int .i64 t, .int .i64 wd, .int .u64 nn], .int .i64 (1 + a), .int .i64 z] W fun e w' => e = .returned (.int .i64 r) ∧ Hid (FJ w g ⟨5, 1, k⟩ w') ∧ Hid (OV w' (g + 1) u10 ((vals (1 + a) l 300).take j)) ∧ Hid (Below W.heap.size W w')) := Lib.hid fun W t wd nn z hv hz h ho => by
            subst hz
            rw [← hr, hv.out]
            exact (H1 ⟨t, wd, nn⟩ (1 + a) _ W (by rw [← hv.out]; exact (valV_ok x (by omega)).2) (by omega) (by omega) (by omega) (by omega) h.out.tb).mono fun _ _ ⟨h1, h2⟩ => ⟨h1, Lib.hid (h.out.keep h2), Lib.hid (ho.out.below h2), Lib.hid h2⟩
          have HNX : Hid (∀ z, z = max cur r → wantL (1 + a) ((vals (1 + a) l 300).drop (j + 1)) (0 + ((j + 1 : Nat) : Int)) z = F) := Lib.hid fun z hz => by
            rw [hz, ← HWT.out, wantL_next hx (by omega), hr, show (0 + ((j + 1 : Nat) : Int)) = 0 + (j : Int) + 1 by omega]
          have HVN := Lib.hid (vals_next (a := 1 + a) (m := 300) hx (by omega))
          have hj0 : (0 : Int) ≤ (j : Int) := by omega
          have hj1 : (j : Int) < (n0 : Int) := by omega
          have hj2 : (j : Int) < 300 := by omega
          have hlen : ((vals (1 + a) l 300).take j).length ≤ 300 := by rw [List.length_take]; omega
          have HLN := Lib.hid hlen
          clear hlen hr hx hc bx
          go_wp2_with (first
            | (go_at_call 21; (with_reducible refine HVA.out.mono ?_); rintro e w6 ⟨t, wd, nn, HV, rfl, HS6, HO6⟩)
            | (go_at_call 11; (with_reducible refine (HON.out _ t wd nn _ HV (by omega) (Lib.hid (HS6.out.keep (al0 _ _))) (Lib.hid (HO6.out.below (al0 _ _)))).mono ?_); rintro e w7 ⟨rfl, HS7, HO7, HB7⟩; have hbx := (Bx.new w6 24 #[.int .i64 t, .int .i64 wd, .int .u64 nn]).below HB7.out (by simp); have q0 : w7.cell? ⟨w6.heap.size, 0, none⟩ = some (.int .i64 t) := hbx.cell 0; have q1 : w7.cell? ⟨w6.heap.size, 1, none⟩ = some (.int .i64 wd) := hbx.cell 1; have q2 : w7.cell? ⟨w6.heap.size, 2, none⟩ = some (.int .u64 nn) := hbx.cell 2; clear hbx HB7)
            | (at_builtin; refine wpList_app (B := g + 1) (xs := (vals (1 + a) l 300).take j) (ys := [⟨t, wd, nn⟩]) (v := u10) rfl (.tmp 64) (.tmp 66) rfl rfl rfl (HO7.out.below (al0 _ _)) (Rs.lit1 _ _ _ _) (by have := HLN.out; omega) (by have := HS7.out.bg.lt; simp; omega) ?_; intro v1 w8 ho1 hg1 hl1
               have HS8 := Lib.hid ((HS7.out.keep (al0 _ _)).grown (HO7.out.below (al0 _ _)) hg1)
               have HO8 : Hid (OV w8 (g + 1) v1 ((vals (1 + a) l 300).take (j + 1))) := Lib.hid (by rw [← HVN.out, HV.out]; exact ho1)
               clear ho1 hg1 hl1))
          all_goals exact ⟨⟨j + 1, _, rfl, by simp, by omega, HS8, HO8, Lib.hid (HNX.out _ (by split <;> omega))⟩, by simp [intOf]; omega⟩
        · have hjN : j = N := by omega
          have hfull : (vals (1 + a) l 300).take j = vals (1 + a) l 300 := List.take_of_length_le (by rw [HVL.out]; omega)
          have HOF : Hid (OV wr (g + 1) u10 (vals (1 + a) l 300)) := Lib.hid (by have := HOV.out; rw [hfull] at this; exact this)
          have hcur : cur = F := by
            have := HWT.out
            rw [List.drop_of_length_le (by rw [HVL.out]; omega)] at this
            exact this
          subst hcur
          have HW : Hid (∀ W, Hid (FJ w g ⟨5, 1, k⟩ W) → Calls Tryd.prog 13 #[] W fun e w' => e = .returned (.bool true) ∧ FJ w g ⟨5, 1, k⟩ w') := Lib.hid fun W h => (works_true H1 H2 W h.out.tb).mono fun _ _ ⟨h1, h2⟩ => ⟨h1, h.out.keep h2⟩
          have hj0 : (0 : Int) ≤ (j : Int) := by omega
          clear hfull HWT HOV
          have hAB : ((j : Int) < (n0 : Int) ∧ ¬ (j : Int) < 300) ∨ ¬ (j : Int) < (n0 : Int) := by have := HNE.out; omega
          clear hjN hjn
          obtain ⟨k0, k1, k2, -⟩ := FJ.all HSJ
          rcases hAB with ⟨hA, hB⟩ | hA
          all_goals
            go_wp2_with (first
              | (go_at_call 15; (with_reducible refine (HAL.out _ _ _ (by assumption) (by assumption)).mono ?_); rintro e w9 ⟨rfl, hs⟩; have HS9 := Lib.hid hs; clear hs)
              | (go_at_call 13; (with_reducible refine (HW.out _ (by assumption)).mono ?_); rintro e w9 ⟨rfl, hs⟩; have HS9 := Lib.hid hs; clear hs))
            go_ret
            exact ⟨rfl, HS9.out.b0⟩
  · have hq3 : True := trivial
    obtain ⟨F, hF⟩ : ∃ F, allV (1 + a) 1 ⟨5, 1, k⟩ (vals (1 + a) l 300) = F := ⟨_, rfl⟩
    have hvl : (vals (1 + a) l 300).length = N := by rw [vals_length, HL.out.1]; have := HNE.out; omega
    have hok := vals_ok (a := 1 + a) (l := l) (m := 300) (by omega)
    have HST : Hid (∀ z, z = headW (1 + a) 1 ⟨5, 1, k⟩ N → wantL (1 + a) (vals (1 + a) l 300) 1 z = F) := Lib.hid fun z hz => by
      rw [← hF, allV_want (by omega) (by omega) (okW_text (by omega)) (by omega) hok.1, hvl, hz]
    have HHD : Hid (headW (1 + a) 1 ⟨5, 1, k⟩ N = byt N) := Lib.hid (by unfold headW; simp)
    have HAL : Hid (∀ W g y, Hid (FJ w g ⟨5, 1, k⟩ W) → Hid (OV W (g + 1) y (vals (1 + a) l 300)) → Calls Tryd.prog 15 #[.int .i64 (1 + a), .int .i64 1, .agg #[.int .i64 5, .int .i64 1, .int .u64 k], y] W fun e w' => e = .returned (.int .i64 F) ∧ FJ w g ⟨5, 1, k⟩ w') := Lib.hid fun W g y h ho => by
      rw [← hF]
      exact (H2 (1 + a) 1 ⟨5, 1, k⟩ _ y W (okT k ek.1 (by omega)) hok.2 ho.out.rd (by omega) (by omega) (by omega) (by omega) h.out.tb).mono fun _ _ ⟨h1, h2⟩ => ⟨h1, h.out.keep h2⟩
    clear hF hok
    have HVL := Lib.hid hvl
    clear hvl
    go_enter Tryd.func7, Tryd.ntmps7
    go_wp2_with (first
      | (go_at_call 17; (with_reducible refine (HBA.out _ (by assumption)).mono ?_); rintro e w1 ⟨rfl, hs⟩; have HS := Lib.hid hs; clear hs)
      | (go_at_call 17; (with_reducible refine (HBW.out _).mono ?_); rintro e w2 ⟨rfl, rfl⟩)
      | (go_at_call 17; (with_reducible refine (HBK.out _).mono ?_); rintro e w2 ⟨rfl, rfl⟩)
      | (go_at_call 18; (with_reducible refine (textt_L (HS.out.keep (al0 _ _)) _).mono ?_); rintro e w3 ⟨rfl, hs⟩; have HS3 := Lib.hid hs; clear hs)
      | (go_at_call 20; (with_reducible refine (HB3.out (by omega) _).mono ?_); rintro e w4 ⟨rfl, rfl⟩)
      | (go_at_call 20; (with_reducible refine (HBN.out (by omega) _).mono ?_); rintro e w4 ⟨rfl, rfl⟩)
      | (go_at_call 11; (with_reducible refine (HKO.out _ (FJ.born HS3.out HPS.out ⟨5, 1, k⟩)).mono ?_); rintro e w5 ⟨rfl, hs⟩; have HS5 := Lib.hid hs; clear hs))
    all_goals
      have HS5 := Lib.hid (FJ.born HS3.out HPS.out ⟨5, 1, k⟩)
      obtain ⟨w5, hw5⟩ : ∃ w5, w3.alloc (.cells #[.int .i64 5, .int .i64 1, .int .u64 k] 24) = w5 := ⟨_, rfl⟩
      simp only [hw5] at HS5 ⊢
      clear hw5
      obtain ⟨g, hg⟩ : ∃ g, w3.heap.size = g := ⟨_, rfl⟩
      simp only [hg] at HS5 ⊢
      clear hg
      go_loopw [9, 10, 11, 12] (fun x y z _ wr => ∃ (j : Nat) (cur : Int), x = .int .i64 cur ∧ z = .int .i64 j ∧ j ≤ N ∧ Hid (FJ w g ⟨5, 1, k⟩ wr) ∧ Hid (OV wr (g + 1) y ((vals (1 + a) l 300).take j)) ∧ Hid (wantL (1 + a) ((vals (1 + a) l 300).drop j) (1 + (j : Int)) cur = F)) (fun _ _ z _ _ => (N - intOf z).toNat)
      case atStart => exact ⟨0, _, rfl, rfl, by omega, HS5, Lib.hid (OV.nil _ _), Lib.hid (HST.out _ (by have := HHD.out; omega))⟩
      case round =>
        obtain ⟨j, cur, rfl, rfl, hj, HSJ, HOV, HWT⟩ := hrel
        by_cases hjn : j < N
        · have hjl : j < l.length := by rw [HL.out.1]; omega
          obtain ⟨x, hx⟩ : ∃ x, l[j]? = some x := ⟨_, List.getElem?_eq_getElem hjl⟩
          obtain ⟨b, o, rfl, hlt, hc⟩ := HL.out.2.2 (by omega)
          have cx : wr.cell? ⟨b, o + j, none⟩ = some (.int .i64 x) := (HSJ.out.b0.cell (p := ⟨b, o + j, none⟩) hlt).trans (hc j x hx)
          have bx := HL.out.2.1 x (List.mem_of_getElem? hx)
          obtain ⟨r, hr⟩ : ∃ r, oneV (valV x (1 + a)) (1 + a) (1 + (j : Int)) = r := ⟨_, rfl⟩
          have HVA : Hid (Calls Tryd.prog 21 #[.int .i64 x, .int .i64 (1 + a)] wr fun e w' => ∃ t wd nn, Hid (valV x (1 + a) = ⟨t, wd, nn⟩) ∧ e = .returned (.agg #[.int .i64 t, .int .i64 wd, .int .u64 nn]) ∧ Hid (FJ w g ⟨5, 1, k⟩ w') ∧ Hid (OV w' (g + 1) u10 ((vals (1 + a) l 300).take j))) := Lib.hid (by
            refine (value_any x (1 + a) wr bx.1 bx.2 (by omega) (by omega)).mono ?_
            rintro e w' ⟨rfl, hb⟩
            obtain ⟨t, wd, nn⟩ := valV x (1 + a)
            exact ⟨t, wd, nn, Lib.hid rfl, rfl, Lib.hid (HSJ.out.keep hb), Lib.hid (HOV.out.below hb)⟩)
          have HON : Hid (∀ W t wd nn z, Hid (valV x (1 + a) = ⟨t, wd, nn⟩) → z = 1 + (j : Int) → Hid (FJ w g ⟨5, 1, k⟩ W) → Hid (OV W (g + 1) u10 ((vals (1 + a) l 300).take j)) → Calls Tryd.prog 11 #[.agg #[.int .i64 t, .int .i64 wd, .int .u64 nn], .int .i64 (1 + a), .int .i64 z] W fun e w' => e = .returned (.int .i64 r) ∧ Hid (FJ w g ⟨5, 1, k⟩ w') ∧ Hid (OV w' (g + 1) u10 ((vals (1 + a) l 300).take j)) ∧ Hid (Below W.heap.size W w')) := Lib.hid fun W t wd nn z hv hz h ho => by
            subst hz
            rw [← hr, hv.out]
            exact (H1 ⟨t, wd, nn⟩ (1 + a) _ W (by rw [← hv.out]; exact (valV_ok x (by omega)).2) (by omega) (by omega) (by omega) (by omega) h.out.tb).mono fun _ _ ⟨h1, h2⟩ => ⟨h1, Lib.hid (h.out.keep h2), Lib.hid (ho.out.below h2), Lib.hid h2⟩
          have HNX : Hid (∀ z, z = max cur r → wantL (1 + a) ((vals (1 + a) l 300).drop (j + 1)) (1 + ((j + 1 : Nat) : Int)) z = F) := Lib.hid fun z hz => by
            rw [hz, ← HWT.out, wantL_next hx (by omega), hr, show (1 + ((j + 1 : Nat) : Int)) = 1 + (j : Int) + 1 by omega]
          have HVN := Lib.hid (vals_next (a := 1 + a) (m := 300) hx (by omega))
          have hj0 : (0 : Int) ≤ (j : Int) := by omega
          have hj1 : (j : Int) < (n0 : Int) := by omega
          have hj2 : (j : Int) < 300 := by omega
          have hlen : ((vals (1 + a) l 300).take j).length ≤ 300 := by rw [List.length_take]; omega
          have HLN := Lib.hid hlen
          clear hlen hr hx hc bx
          go_wp2_with (first
            | (go_at_call 21; (with_reducible refine HVA.out.mono ?_); rintro e w6 ⟨t, wd, nn, HV, rfl, HS6, HO6⟩)
            | (go_at_call 11; (with_reducible refine (HON.out _ t wd nn _ HV (by omega) (Lib.hid (HS6.out.keep (al0 _ _))) (Lib.hid (HO6.out.below (al0 _ _)))).mono ?_); rintro e w7 ⟨rfl, HS7, HO7, HB7⟩; have hbx := (Bx.new w6 24 #[.int .i64 t, .int .i64 wd, .int .u64 nn]).below HB7.out (by simp); have q0 : w7.cell? ⟨w6.heap.size, 0, none⟩ = some (.int .i64 t) := hbx.cell 0; have q1 : w7.cell? ⟨w6.heap.size, 1, none⟩ = some (.int .i64 wd) := hbx.cell 1; have q2 : w7.cell? ⟨w6.heap.size, 2, none⟩ = some (.int .u64 nn) := hbx.cell 2; clear hbx HB7)
            | (at_builtin; refine wpList_app (B := g + 1) (xs := (vals (1 + a) l 300).take j) (ys := [⟨t, wd, nn⟩]) (v := u10) rfl (.tmp 64) (.tmp 66) rfl rfl rfl (HO7.out.below (al0 _ _)) (Rs.lit1 _ _ _ _) (by have := HLN.out; omega) (by have := HS7.out.bg.lt; simp; omega) ?_; intro v1 w8 ho1 hg1 hl1
               have HS8 := Lib.hid ((HS7.out.keep (al0 _ _)).grown (HO7.out.below (al0 _ _)) hg1)
               have HO8 : Hid (OV w8 (g + 1) v1 ((vals (1 + a) l 300).take (j + 1))) := Lib.hid (by rw [← HVN.out, HV.out]; exact ho1)
               clear ho1 hg1 hl1))
          all_goals exact ⟨⟨j + 1, _, rfl, by simp, by omega, HS8, HO8, Lib.hid (HNX.out _ (by split <;> omega))⟩, by simp [intOf]; omega⟩
        · have hjN : j = N := by omega
          have hfull : (vals (1 + a) l 300).take j = vals (1 + a) l 300 := List.take_of_length_le (by rw [HVL.out]; omega)
          have HOF : Hid (OV wr (g + 1) u10 (vals (1 + a) l 300)) := Lib.hid (by have := HOV.out; rw [hfull] at this; exact this)
          have hcur : cur = F := by
            have := HWT.out
            rw [List.drop_of_length_le (by rw [HVL.out]; omega)] at this
            exact this
          subst hcur
          have HW : Hid (∀ W, Hid (FJ w g ⟨5, 1, k⟩ W) → Calls Tryd.prog 13 #[] W fun e w' => e = .returned (.bool true) ∧ FJ w g ⟨5, 1, k⟩ w') := Lib.hid fun W h => (works_true H1 H2 W h.out.tb).mono fun _ _ ⟨h1, h2⟩ => ⟨h1, h.out.keep h2⟩
          have hj0 : (0 : Int) ≤ (j : Int) := by omega
          clear hfull HWT HOV
          have hAB : ((j : Int) < (n0 : Int) ∧ ¬ (j : Int) < 300) ∨ ¬ (j : Int) < (n0 : Int) := by have := HNE.out; omega
          clear hjN hjn
          obtain ⟨k0, k1, k2, -⟩ := FJ.all HSJ
          rcases hAB with ⟨hA, hB⟩ | hA
          all_goals
            go_wp2_with (first
              | (go_at_call 15; (with_reducible refine (HAL.out _ _ _ (by assumption) (by assumption)).mono ?_); rintro e w9 ⟨rfl, hs⟩; have HS9 := Lib.hid hs; clear hs)
              | (go_at_call 13; (with_reducible refine (HW.out _ (by assumption)).mono ?_); rintro e w9 ⟨rfl, hs⟩; have HS9 := Lib.hid hs; clear hs))
            go_ret
            exact ⟨rfl, HS9.out.b0⟩
  · have hq3 : True := trivial
    obtain ⟨F, hF⟩ : ∃ F, allV (1 + a) 3 ⟨5, 1, k⟩ (vals (1 + a) l 300) = F := ⟨_, rfl⟩
    have hvl : (vals (1 + a) l 300).length = N := by rw [vals_length, HL.out.1]; have := HNE.out; omega
    have hok := vals_ok (a := 1 + a) (l := l) (m := 300) (by omega)
    have HST : Hid (∀ z, z = headW (1 + a) 3 ⟨5, 1, k⟩ N → wantL (1 + a) (vals (1 + a) l 300) 3 z = F) := Lib.hid fun z hz => by
      rw [← hF, allV_want (by omega) (by omega) (okW_text (by omega)) (by omega) hok.1, hvl, hz]
    have HHD : Hid (headW (1 + a) 3 ⟨5, 1, k⟩ N = max (byt N) r0) := Lib.hid (by unfold headW; simp [hr0])
    have HAL : Hid (∀ W g y, Hid (FJ w g ⟨5, 1, k⟩ W) → Hid (OV W (g + 1) y (vals (1 + a) l 300)) → Calls Tryd.prog 15 #[.int .i64 (1 + a), .int .i64 3, .agg #[.int .i64 5, .int .i64 1, .int .u64 k], y] W fun e w' => e = .returned (.int .i64 F) ∧ FJ w g ⟨5, 1, k⟩ w') := Lib.hid fun W g y h ho => by
      rw [← hF]
      exact (H2 (1 + a) 3 ⟨5, 1, k⟩ _ y W (okT k ek.1 (by omega)) hok.2 ho.out.rd (by omega) (by omega) (by omega) (by omega) h.out.tb).mono fun _ _ ⟨h1, h2⟩ => ⟨h1, h.out.keep h2⟩
    clear hF hok
    have HVL := Lib.hid hvl
    clear hvl
    go_enter Tryd.func7, Tryd.ntmps7
    go_wp2_with (first
      | (go_at_call 17; (with_reducible refine (HBA.out _ (by assumption)).mono ?_); rintro e w1 ⟨rfl, hs⟩; have HS := Lib.hid hs; clear hs)
      | (go_at_call 17; (with_reducible refine (HBW.out _).mono ?_); rintro e w2 ⟨rfl, rfl⟩)
      | (go_at_call 17; (with_reducible refine (HBK.out _).mono ?_); rintro e w2 ⟨rfl, rfl⟩)
      | (go_at_call 18; (with_reducible refine (textt_L (HS.out.keep (al0 _ _)) _).mono ?_); rintro e w3 ⟨rfl, hs⟩; have HS3 := Lib.hid hs; clear hs)
      | (go_at_call 20; (with_reducible refine (HB3.out (by omega) _).mono ?_); rintro e w4 ⟨rfl, rfl⟩)
      | (go_at_call 20; (with_reducible refine (HBN.out (by omega) _).mono ?_); rintro e w4 ⟨rfl, rfl⟩)
      | (go_at_call 11; (with_reducible refine (HKO.out _ (FJ.born HS3.out HPS.out ⟨5, 1, k⟩)).mono ?_); rintro e w5 ⟨rfl, hs⟩; have HS5 := Lib.hid hs; clear hs))
    all_goals
      obtain ⟨g, hg⟩ : ∃ g, w3.heap.size = g := ⟨_, rfl⟩
      simp only [hg] at HS5 ⊢
      clear hg
      go_loopw [9, 10, 11, 12] (fun x y z _ wr => ∃ (j : Nat) (cur : Int), x = .int .i64 cur ∧ z = .int .i64 j ∧ j ≤ N ∧ Hid (FJ w g ⟨5, 1, k⟩ wr) ∧ Hid (OV wr (g + 1) y ((vals (1 + a) l 300).take j)) ∧ Hid (wantL (1 + a) ((vals (1 + a) l 300).drop j) (3 + (j : Int)) cur = F)) (fun _ _ z _ _ => (N - intOf z).toNat)
      case atStart => exact ⟨0, _, rfl, rfl, by omega, HS5, Lib.hid (OV.nil _ _), Lib.hid (HST.out _ (by have := HHD.out; omega))⟩
      case round =>
        obtain ⟨j, cur, rfl, rfl, hj, HSJ, HOV, HWT⟩ := hrel
        by_cases hjn : j < N
        · have hjl : j < l.length := by rw [HL.out.1]; omega
          obtain ⟨x, hx⟩ : ∃ x, l[j]? = some x := ⟨_, List.getElem?_eq_getElem hjl⟩
          obtain ⟨b, o, rfl, hlt, hc⟩ := HL.out.2.2 (by omega)
          have cx : wr.cell? ⟨b, o + j, none⟩ = some (.int .i64 x) := (HSJ.out.b0.cell (p := ⟨b, o + j, none⟩) hlt).trans (hc j x hx)
          have bx := HL.out.2.1 x (List.mem_of_getElem? hx)
          obtain ⟨r, hr⟩ : ∃ r, oneV (valV x (1 + a)) (1 + a) (3 + (j : Int)) = r := ⟨_, rfl⟩
          have HVA : Hid (Calls Tryd.prog 21 #[.int .i64 x, .int .i64 (1 + a)] wr fun e w' => ∃ t wd nn, Hid (valV x (1 + a) = ⟨t, wd, nn⟩) ∧ e = .returned (.agg #[.int .i64 t, .int .i64 wd, .int .u64 nn]) ∧ Hid (FJ w g ⟨5, 1, k⟩ w') ∧ Hid (OV w' (g + 1) u10 ((vals (1 + a) l 300).take j))) := Lib.hid (by
            refine (value_any x (1 + a) wr bx.1 bx.2 (by omega) (by omega)).mono ?_
            rintro e w' ⟨rfl, hb⟩
            obtain ⟨t, wd, nn⟩ := valV x (1 + a)
            exact ⟨t, wd, nn, Lib.hid rfl, rfl, Lib.hid (HSJ.out.keep hb), Lib.hid (HOV.out.below hb)⟩)
          have HON : Hid (∀ W t wd nn z, Hid (valV x (1 + a) = ⟨t, wd, nn⟩) → z = 3 + (j : Int) → Hid (FJ w g ⟨5, 1, k⟩ W) → Hid (OV W (g + 1) u10 ((vals (1 + a) l 300).take j)) → Calls Tryd.prog 11 #[.agg #[.int .i64 t, .int .i64 wd, .int .u64 nn], .int .i64 (1 + a), .int .i64 z] W fun e w' => e = .returned (.int .i64 r) ∧ Hid (FJ w g ⟨5, 1, k⟩ w') ∧ Hid (OV w' (g + 1) u10 ((vals (1 + a) l 300).take j)) ∧ Hid (Below W.heap.size W w')) := Lib.hid fun W t wd nn z hv hz h ho => by
            subst hz
            rw [← hr, hv.out]
            exact (H1 ⟨t, wd, nn⟩ (1 + a) _ W (by rw [← hv.out]; exact (valV_ok x (by omega)).2) (by omega) (by omega) (by omega) (by omega) h.out.tb).mono fun _ _ ⟨h1, h2⟩ => ⟨h1, Lib.hid (h.out.keep h2), Lib.hid (ho.out.below h2), Lib.hid h2⟩
          have HNX : Hid (∀ z, z = max cur r → wantL (1 + a) ((vals (1 + a) l 300).drop (j + 1)) (3 + ((j + 1 : Nat) : Int)) z = F) := Lib.hid fun z hz => by
            rw [hz, ← HWT.out, wantL_next hx (by omega), hr, show (3 + ((j + 1 : Nat) : Int)) = 3 + (j : Int) + 1 by omega]
          have HVN := Lib.hid (vals_next (a := 1 + a) (m := 300) hx (by omega))
          have hj0 : (0 : Int) ≤ (j : Int) := by omega
          have hj1 : (j : Int) < (n0 : Int) := by omega
          have hj2 : (j : Int) < 300 := by omega
          have hlen : ((vals (1 + a) l 300).take j).length ≤ 300 := by rw [List.length_take]; omega
          have HLN := Lib.hid hlen
          clear hlen hr hx hc bx
          go_wp2_with (first
            | (go_at_call 21; (with_reducible refine HVA.out.mono ?_); rintro e w6 ⟨t, wd, nn, HV, rfl, HS6, HO6⟩)
            | (go_at_call 11; (with_reducible refine (HON.out _ t wd nn _ HV (by omega) (Lib.hid (HS6.out.keep (al0 _ _))) (Lib.hid (HO6.out.below (al0 _ _)))).mono ?_); rintro e w7 ⟨rfl, HS7, HO7, HB7⟩; have hbx := (Bx.new w6 24 #[.int .i64 t, .int .i64 wd, .int .u64 nn]).below HB7.out (by simp); have q0 : w7.cell? ⟨w6.heap.size, 0, none⟩ = some (.int .i64 t) := hbx.cell 0; have q1 : w7.cell? ⟨w6.heap.size, 1, none⟩ = some (.int .i64 wd) := hbx.cell 1; have q2 : w7.cell? ⟨w6.heap.size, 2, none⟩ = some (.int .u64 nn) := hbx.cell 2; clear hbx HB7)
            | (at_builtin; refine wpList_app (B := g + 1) (xs := (vals (1 + a) l 300).take j) (ys := [⟨t, wd, nn⟩]) (v := u10) rfl (.tmp 64) (.tmp 66) rfl rfl rfl (HO7.out.below (al0 _ _)) (Rs.lit1 _ _ _ _) (by have := HLN.out; omega) (by have := HS7.out.bg.lt; simp; omega) ?_; intro v1 w8 ho1 hg1 hl1
               have HS8 := Lib.hid ((HS7.out.keep (al0 _ _)).grown (HO7.out.below (al0 _ _)) hg1)
               have HO8 : Hid (OV w8 (g + 1) v1 ((vals (1 + a) l 300).take (j + 1))) := Lib.hid (by rw [← HVN.out, HV.out]; exact ho1)
               clear ho1 hg1 hl1))
          all_goals exact ⟨⟨j + 1, _, rfl, by simp, by omega, HS8, HO8, Lib.hid (HNX.out _ (by split <;> omega))⟩, by simp [intOf]; omega⟩
        · have hjN : j = N := by omega
          have hfull : (vals (1 + a) l 300).take j = vals (1 + a) l 300 := List.take_of_length_le (by rw [HVL.out]; omega)
          have HOF : Hid (OV wr (g + 1) u10 (vals (1 + a) l 300)) := Lib.hid (by have := HOV.out; rw [hfull] at this; exact this)
          have hcur : cur = F := by
            have := HWT.out
            rw [List.drop_of_length_le (by rw [HVL.out]; omega)] at this
            exact this
          subst hcur
          have HW : Hid (∀ W, Hid (FJ w g ⟨5, 1, k⟩ W) → Calls Tryd.prog 13 #[] W fun e w' => e = .returned (.bool true) ∧ FJ w g ⟨5, 1, k⟩ w') := Lib.hid fun W h => (works_true H1 H2 W h.out.tb).mono fun _ _ ⟨h1, h2⟩ => ⟨h1, h.out.keep h2⟩
          have hj0 : (0 : Int) ≤ (j : Int) := by omega
          clear hfull HWT HOV
          have hAB : ((j : Int) < (n0 : Int) ∧ ¬ (j : Int) < 300) ∨ ¬ (j : Int) < (n0 : Int) := by have := HNE.out; omega
          clear hjN hjn
          obtain ⟨k0, k1, k2, -⟩ := FJ.all HSJ
          rcases hAB with ⟨hA, hB⟩ | hA
          all_goals
            go_wp2_with (first
              | (go_at_call 15; (with_reducible refine (HAL.out _ _ _ (by assumption) (by assumption)).mono ?_); rintro e w9 ⟨rfl, hs⟩; have HS9 := Lib.hid hs; clear hs)
              | (go_at_call 13; (with_reducible refine (HW.out _ (by assumption)).mono ?_); rintro e w9 ⟨rfl, hs⟩; have HS9 := Lib.hid hs; clear hs))
            go_ret
            exact ⟨rfl, HS9.out.b0⟩
end Go.Proofs.YtaeboneddndfkaaDoor
