/-
  What is proved here: the walk of PathAll: true for every tree; conditions: the tables hold what is laid, the argument reads as a tree.
-/
import Derived.Test.YtjnfilbdokppiaaGreatDoorPal
import Derived.Deep.DeepCutAuto
import Derived.Deep.RegionHeld3
namespace Go.Proofs.YtjnfilbdokppiaaGreatDoor
open Go.RowKit U U.Ut

set_option maxRecDepth 100000 in
set_option maxHeartbeats 4000000 in
theorem pathAll_walk (t : T) (cs : List Value) (w : World) (hL : LP w.heap.size w) (hnd : Nd w t cs) :
    Calls Tryz.prog 11 #[.agg cs.toArray] w fun e w' => e = .returned (.bool true) ∧ Below w.heap.size w w' := by
  have HL := Lib.hid hL
  obtain ⟨ka0, na0, ua0, sa0, EA0, qa0, fa0, GA0, ra0, ha0, rfl⟩ := hnd.shape
  have HN := Lib.hid hnd
  obtain ⟨h11, h12⟩ := few_ok t
  obtain ⟨t1, ht1⟩ : ∃ t1, fewT t = t1 := ⟨_, rfl⟩
  have HFW := Lib.hid (fun W (hb : Below w.heap.size w W) => few_any t _ W (HN.out.bel hb))
  rw [ht1] at HFW h11 h12
  clear hL hnd ht1
  go_enter Tryz.func11, Tryz.ntmps11
  go_wp2_with fail
  with_reducible refine (HFW.out _ (al0 w _)).mono ?_
  rintro e w1 ⟨⟨cs1, rfl, hn1⟩, hb1⟩
  obtain ⟨tk, tn, tu, ts, tks, tl⟩ := t1
  have hnt := NdO.nd _ _ hn1
  obtain ⟨hr, hs, kv, LA, Lm, Lc, rfl, hks, hLl, hLc, hLm, hLn⟩ := id hnt
  obtain ⟨KA, Kn, Kc, rfl, hKn, hKc, hKm, hKs, hKA⟩ := hks.at
  subst hKn hLl
  have HD1 := Lib.hid (Bd.new hnt)
  have HB1 := Lib.hid (tr (al hb1) (al0 w1 (.cells #[.int .i64 tk, .int .i64 tn, .int .u64 tu, .string ts, .slice KA tks.length Kc, .slice LA tl.length Lc] 38)))
  have HQ1 : Hid (sz (.mk tk tn tu ts tks tl) ≤ 80 ∧ sm 1000 1000 (.mk tk tn tu ts tks tl)) := Lib.hid ⟨h11, h12⟩
  have hlen : tl.length ≤ 80 := kids_len (t := .mk tk tn tu ts tks tl) h11
  have HKA1 := Lib.hid hKA
  clear hn1 hb1 hnt hks hKA HFW HN h11 h12 hLn
  obtain ⟨wB, hwB⟩ : ∃ wB, w1.alloc (.cells #[.int .i64 tk, .int .i64 tn, .int .u64 tu, .string ts, .slice KA tks.length Kc, .slice LA tl.length Lc] 38) = wB := ⟨_, rfl⟩
  obtain ⟨bi, hbi⟩ : ∃ bi, w1.heap.size = bi := ⟨_, rfl⟩
  have H1B : Hid (Below w1.heap.size w1 wB) := Lib.hid (by rw [← hwB]; exact al0 _ _)
  rw [hwB] at HB1 HD1
  rw [hbi] at HD1
  have HCK := Lib.hid (check_any (.mk tk tn tu ts tks tl) _ wB (HL.out.keep HB1.out).tab (by have := HQ1.out.1; omega) HQ1.out.2 HD1.out.2)
  have HWK := Lib.hid (fun W (h : Below wB.heap.size wB W) => works_S8 HL.out (tr HB1.out h))
  obtain ⟨x0, x1, x2, x3, x4, x5⟩ := Bx.all HD1.out.1
  go_upto_region 2 with fail
  try simp only [hwB, hbi]
  clear hwB hbi
  by_cases hc : chk (.mk tk tn tu ts tks tl) = 0
  case neg =>
    obtain ⟨E, hE⟩ : ∃ E, chk (.mk tk tn tu ts tks tl) = E := ⟨_, rfl⟩
    rw [hE] at HCK hc
    have hEb := neB (show ¬ ((E : Nat) : Int) = 0 by omega)
    clear hE hc
    go_wp2_with (first
      | (go_at_call 30; (with_reducible refine HCK.out.mono ?_); rintro e w2 ⟨rfl, hb2⟩; have HB2 := Lib.hid hb2; clear hb2)
      | (go_at_call 17; (with_reducible refine (HWK.out _ HB2.out).mono ?_); rintro e w9 ⟨rfl, HB9⟩))
    go_ret
    exact ⟨rfl, tr HB1.out (tr HB2.out HB9.out)⟩
  rw [hc] at HCK
  have HCK : Hid (Calls Tryz.prog 30 #[.agg #[.int .i64 tk, .int .i64 tn, .int .u64 tu, .string ts, .slice KA tks.length Kc, .slice LA tl.length Lc]] wB fun e w' => e = .returned (.int .i64 0) ∧ Below wB.heap.size wB w') := HCK
  have HOK : Hid (okT (.mk tk tn tu ts tks tl)) := Lib.hid ((chk_zero _).1 hc).1
  clear hc
  go_wp2_with (go_at_call 30; (with_reducible refine HCK.out.mono ?_); rintro e wC ⟨rfl, hb2⟩; have HBC := Lib.hid hb2; clear hb2)
  have HLC : Hid (LP w.heap.size w) := HL
  have HBW := Lib.hid (tr HB1.out HBC.out)
  have HDi := Lib.hid (HD1.out.below HBC.out)
  clear x0 x1 x2 x3 x4 x5 HCK
  have HIN : Hid (∀ W, Hid (Below wC.heap.size wC W) → Bd W bi (.mk tk tn tu ts tks tl) (.int .i64 tk) (.int .i64 tn) (.int .u64 tu) (.string ts) (.slice KA tks.length Kc) (.slice LA tl.length Lc)) := Lib.hid fun W H => HDi.out.below H.out
  have HWKC : Hid (∀ W, Hid (Below wC.heap.size wC W) → Calls Tryz.prog 17 #[] W fun e w' => e = .returned (.bool true) ∧ Hid (Below W.heap.size W w')) := Lib.hid fun W H => works_S8 HL.out (tr HBW.out H.out)
  have HAT : Hid (∀ (n : Nat) W, Calls Tryz.prog 31 #[.int .i64 (n : Int)] W fun e w' => e = .returned (.agg #[.string ⟨#[]⟩, .int .i64 (n : Int), .bool false]) ∧ Hid (Below W.heap.size W w')) := Lib.hid fun n W => (at_any (n : Int) W).mono fun _ _ h => ⟨h.1, Lib.hid h.2⟩
  have HBY : Hid (∀ k W, Calls Tryz.prog 33 #[.string k] W fun e w' => e = .returned (.agg #[.string k, .int .i64 0, .bool true]) ∧ Hid (Below W.heap.size W w')) := Lib.hid fun k W => (by_any k W).mono fun _ _ h => ⟨h.1, Lib.hid h.2⟩
  go_wp2
  go_loopw [4] (fun i wr => ∃ j : Nat, j ≤ tl.length ∧ i = .int .i64 (j : Int) ∧ Hid (Below wC.heap.size wC wr)) (fun i _ => tl.length - (RowKit.intOf i).toNat)
  case atStart => exact ⟨0, Nat.zero_le _, rfl, Lib.hid (Below.refl _ _)⟩
  case round =>
    obtain ⟨j, hj, rfl, HR⟩ := hrel
    obtain ⟨x0, x1, x2, x3, x4, x5⟩ := Bx.all (HIN.out wr HR).1
    by_cases hlt : j < tl.length
    · obtain ⟨c, hc⟩ : ∃ c, tl[j]? = some c := ⟨_, List.getElem?_eq_getElem hlt⟩
      obtain ⟨b9, o9, q9, e9, hb9, u0, u1, u2, u3, u4, u5, h6, hnk⟩ := HDi.out.2.kid (Below.refl _ _) (show (T.mk tk tn tu ts tks tl).l[j]? = some c from hc)
      injection e9 with e91 e92 e93
      subst e91 e93
      clear e92
      obtain ⟨ka8, na8, ua8, sa8, EA8, qa8, fa8, GA8, ra8, ha8, g0, g1, g2, g3, g4, g5⟩ := hnk.shape6
      subst g0 g1 g2 g3 g4 g5
      have H6 := Lib.hid h6
      have HNK := Lib.hid hnk
      have hQc : sz c ≤ 80 ∧ sm 1000 1000 c := ⟨sz_kid (t := .mk tk tn tu ts tks tl) HQ1.out.1 hc, sm_kid (t := .mk tk tn tu ts tks tl) HQ1.out.2 hc⟩
      have HQC := Lib.hid hQc
      have HGJ : Hid (∀ W v, Hid (Below wC.heap.size wC W) → Hid (RdP W v [stA j]) → Calls Tryz.prog 22 #[.agg #[.int .i64 tk, .int .i64 tn, .int .u64 tu, .string ts, .slice KA tks.length Kc, .slice (some ⟨b9, o9, none⟩) tl.length Lc], v] W fun e w' => ∃ (ka4 na4 ua4 : Int) (sa4 : ByteArray) (EA4 : Option Addr) (qa4 fa4 : Nat) (GA4 : Option Addr) (ra4 ha4 : Nat), e = .returned (.tuple #[.agg #[.int .i64 ka4, .int .i64 na4, .int .u64 ua4, .string sa4, .slice EA4 qa4 fa4, .slice GA4 ra4 ha4], .int .i64 0]) ∧ Hid (NdO (fun b => W.heap.size ≤ b) w' c [.int .i64 ka4, .int .i64 na4, .int .u64 ua4, .string sa4, .slice EA4 qa4 fa4, .slice GA4 ra4 ha4]) ∧ Hid (Below W.heap.size W w')) := Lib.hid fun W v H h => get_S _ _ [stA j] v c 0 (getR_at (t := .mk tk tn tu ts tks tl) hc) W (HIN.out W H).2 h.out (by have := HQ1.out.1; omega) HQ1.out.2 (by simp)
      have hokj : ∀ s ∈ [stA j], okR s := fun s hs => by rw [List.mem_singleton.1 hs]; exact okR_at (by omega)
      have HOKJ := Lib.hid hokj
      have HCJ := Lib.hid hc
      have hall7 : ∀ W, Hid (Below wC.heap.size wC W) → Hid (Below wC.heap.size wC W) ∧ W.cell? ⟨bi, 0, none⟩ = some (.int .i64 tk) ∧ W.cell? ⟨bi, 1, none⟩ = some (.int .i64 tn) ∧ W.cell? ⟨bi, 2, none⟩ = some (.int .u64 tu) ∧ W.cell? ⟨bi, 3, none⟩ = some (.string ts) ∧ W.cell? ⟨bi, 4, none⟩ = some (.slice KA tks.length Kc) ∧ W.cell? ⟨bi, 5, none⟩ = some (.slice (some ⟨b9, o9, none⟩) tl.length Lc) := fun W H => ⟨H, Bx.all (HIN.out W H).1⟩
      have hc57 : ∀ (W : World) (ob : Obj), Hid (Below wC.heap.size wC W) → Hid (Below wC.heap.size wC (W.alloc ob)) ∧ (W.alloc ob).cell? ⟨bi, 0, none⟩ = some (.int .i64 tk) ∧ (W.alloc ob).cell? ⟨bi, 1, none⟩ = some (.int .i64 tn) ∧ (W.alloc ob).cell? ⟨bi, 2, none⟩ = some (.int .u64 tu) ∧ (W.alloc ob).cell? ⟨bi, 3, none⟩ = some (.string ts) ∧ (W.alloc ob).cell? ⟨bi, 4, none⟩ = some (.slice KA tks.length Kc) ∧ (W.alloc ob).cell? ⟨bi, 5, none⟩ = some (.slice (some ⟨b9, o9, none⟩) tl.length Lc) := fun W ob H => hall7 _ (Lib.hid (tr H.out (al0 W ob)))
      have hc27 : ∀ (W : World) (p : Nat) (a0 a1 a2 a3 a4 a5 : Value), Hid (Below wC.heap.size wC W) → Hid (wC.heap.size ≤ p) → Hid (Below wC.heap.size wC ((((((W.setCell ⟨p, 0, none⟩ a0).setCell ⟨p, 1, none⟩ a1).setCell ⟨p, 2, none⟩ a2).setCell ⟨p, 3, none⟩ a3).setCell ⟨p, 4, none⟩ a4).setCell ⟨p, 5, none⟩ a5)) ∧ ((((((W.setCell ⟨p, 0, none⟩ a0).setCell ⟨p, 1, none⟩ a1).setCell ⟨p, 2, none⟩ a2).setCell ⟨p, 3, none⟩ a3).setCell ⟨p, 4, none⟩ a4).setCell ⟨p, 5, none⟩ a5).cell? ⟨bi, 0, none⟩ = some (.int .i64 tk) ∧ ((((((W.setCell ⟨p, 0, none⟩ a0).setCell ⟨p, 1, none⟩ a1).setCell ⟨p, 2, none⟩ a2).setCell ⟨p, 3, none⟩ a3).setCell ⟨p, 4, none⟩ a4).setCell ⟨p, 5, none⟩ a5).cell? ⟨bi, 1, none⟩ = some (.int .i64 tn) ∧ ((((((W.setCell ⟨p, 0, none⟩ a0).setCell ⟨p, 1, none⟩ a1).setCell ⟨p, 2, none⟩ a2).setCell ⟨p, 3, none⟩ a3).setCell ⟨p, 4, none⟩ a4).setCell ⟨p, 5, none⟩ a5).cell? ⟨bi, 2, none⟩ = some (.int .u64 tu) ∧ ((((((W.setCell ⟨p, 0, none⟩ a0).setCell ⟨p, 1, none⟩ a1).setCell ⟨p, 2, none⟩ a2).setCell ⟨p, 3, none⟩ a3).setCell ⟨p, 4, none⟩ a4).setCell ⟨p, 5, none⟩ a5).cell? ⟨bi, 3, none⟩ = some (.string ts) ∧ ((((((W.setCell ⟨p, 0, none⟩ a0).setCell ⟨p, 1, none⟩ a1).setCell ⟨p, 2, none⟩ a2).setCell ⟨p, 3, none⟩ a3).setCell ⟨p, 4, none⟩ a4).setCell ⟨p, 5, none⟩ a5).cell? ⟨bi, 4, none⟩ = some (.slice KA tks.length Kc) ∧ ((((((W.setCell ⟨p, 0, none⟩ a0).setCell ⟨p, 1, none⟩ a1).setCell ⟨p, 2, none⟩ a2).setCell ⟨p, 3, none⟩ a3).setCell ⟨p, 4, none⟩ a4).setCell ⟨p, 5, none⟩ a5).cell? ⟨bi, 5, none⟩ = some (.slice (some ⟨b9, o9, none⟩) tl.length Lc) := fun W p a0 a1 a2 a3 a4 a5 H hp => hall7 _ (Lib.hid (below_put H.out hp.out a0 a1 a2 a3 a4 a5))
      have HRd : Hid (Below wC.heap.size wC wr.drew) := Lib.hid HR.out.drew
      have HRad : Hid (Below wC.heap.size wC (wr.alloc (.cells #[.int .i64 0, .int .i64 0, .int .u64 0, .string ⟨#[]⟩, .slice none 0 0, .slice none 0 0] 38)).drew) := Lib.hid (tr HR.out (al0 wr _)).drew
      have HRS : Hid (wC.heap.size ≤ wr.heap.size) := Lib.hid HR.out.size
      have hj1 : (0 : Int) ≤ (j : Int) := by omega
      have hj2 : (j : Int) < (tl.length : Int) := by omega
      clear h6 hnk hQc hokj hc
      go_upto_region 7 with fail
      go_cut [5, 6] (fun s8 s9 wn => Hid (ZG wC c 0 s8 s9 wn))
      case first =>
        go_region_held3 (fun W => Hid (Below wC.heap.size wC W) ∧ W.cell? ⟨bi, 0, none⟩ = some (.int .i64 tk) ∧ W.cell? ⟨bi, 1, none⟩ = some (.int .i64 tn) ∧ W.cell? ⟨bi, 2, none⟩ = some (.int .u64 tu) ∧ W.cell? ⟨bi, 3, none⟩ = some (.string ts) ∧ W.cell? ⟨bi, 4, none⟩ = some (.slice KA tks.length Kc) ∧ W.cell? ⟨bi, 5, none⟩ = some (.slice (some ⟨b9, o9, none⟩) tl.length Lc)) (first | (with_reducible exact hall7 _ (by assumption)) | (with_reducible exact hall7 _ HRd) | (with_reducible exact hall7 _ HRad) | (with_reducible exact hc57 _ _ (by assumption)) | (with_reducible exact hc27 _ _ _ _ _ _ _ _ (by assumption) (by assumption)))
          (first
            | (go_at_call 31; (with_reducible refine (HAT.out j _).mono ?_); rintro e w3 ⟨rfl, HB3⟩; have HBB3 : Hid (Below wC.heap.size wC w3) := (by first | exact Lib.hid (tr HRd.out HB3.out) | exact Lib.hid (tr HRad.out HB3.out)); have HA1 : Hid (AP wC [stA j] (.slice (some ⟨w3.heap.size, 0, none⟩) 1 1) (w3.alloc (.cells #[.string ⟨#[]⟩, .int .i64 (j : Int), .bool false] 51))) := Lib.hid (AP.lit HBB3.out (stA j)); have HZb : Hid (APZ wC [stA j] (.slice (some ⟨w3.heap.size + 1, 0, none⟩) 1 1) w3.heap.size ((w3.alloc (.cells #[.int .i64 0, .int .i64 0, .int .u64 0, .string ⟨#[]⟩, .slice none 0 0, .slice none 0 0] 38)).alloc (.cells #[.string ⟨#[]⟩, .int .i64 (j : Int), .bool false] 51))) := Lib.hid (APZ.litb HBB3.out (stA j)); have HZc : Hid (APZ wC [stA j] (.slice (some ⟨w3.heap.size, 0, none⟩) 1 1) (w3.heap.size + 1) ((w3.alloc (.cells #[.string ⟨#[]⟩, .int .i64 (j : Int), .bool false] 51)).alloc (.cells #[.int .i64 0, .int .i64 0, .int .u64 0, .string ⟨#[]⟩, .slice none 0 0, .slice none 0 0] 38))) := Lib.hid (APZ.litc HBB3.out (stA j)); have HK1 := Lib.hid HA1.out.1; have HKb := Lib.hid HZb.out.1.1; have HKc := Lib.hid HZc.out.1.1; have HR1 := Lib.hid (HA1.out.rdp HOKJ.out); have HRb := Lib.hid (HZb.out.1.rdp HOKJ.out); have HRc := Lib.hid (HZc.out.1.rdp HOKJ.out); have HBZb : Hid (Blk ((w3.alloc (.cells #[.int .i64 0, .int .i64 0, .int .u64 0, .string ⟨#[]⟩, .slice none 0 0, .slice none 0 0] 38)).alloc (.cells #[.string ⟨#[]⟩, .int .i64 (j : Int), .bool false] 51)) w3.heap.size 38 #[.int .i64 0, .int .i64 0, .int .u64 0, .string ⟨#[]⟩, .slice none 0 0, .slice none 0 0]) := Lib.hid HZb.out.2.2.1; have HBZc : Hid (Blk ((w3.alloc (.cells #[.string ⟨#[]⟩, .int .i64 (j : Int), .bool false] 51)).alloc (.cells #[.int .i64 0, .int .i64 0, .int .u64 0, .string ⟨#[]⟩, .slice none 0 0, .slice none 0 0] 38)) (w3.heap.size + 1) 38 #[.int .i64 0, .int .i64 0, .int .u64 0, .string ⟨#[]⟩, .slice none 0 0, .slice none 0 0]) := Lib.hid HZc.out.2.2.1; first | ((with_reducible have HPB3 := Lib.hid (born_drew HB3.out)); have HZa : Hid (APZ wC [stA j] (.slice (some ⟨w3.heap.size, 0, none⟩) 1 1) _ (w3.alloc (.cells #[.string ⟨#[]⟩, .int .i64 (j : Int), .bool false] 51))) := Lib.hid (APZ.lita HBB3.out HRS.out HPB3.out (stA j)); have HBZa : Hid (Blk (w3.alloc (.cells #[.string ⟨#[]⟩, .int .i64 (j : Int), .bool false] 51)) _ 38 #[.int .i64 0, .int .i64 0, .int .u64 0, .string ⟨#[]⟩, .slice none 0 0, .slice none 0 0]) := Lib.hid HZa.out.2.2.1) | skip)
            | (go_at_call 22; (with_reducible refine (HGJ.out _ _ (by with_reducible first | exact HK1 | exact HKb | exact HKc) (by with_reducible first | exact HR1 | exact HRb | exact HRc)).mono ?_); rintro e w4 ⟨ka4, na4, ua4, sa4, EA4, qa4, fa4, GA4, ra4, ha4, rfl, HO4, HB4⟩; have HBB4 : Hid (Below wC.heap.size wC w4) := (by first | exact Lib.hid (tr HK1.out HB4.out) | exact Lib.hid (tr HKb.out HB4.out) | exact Lib.hid (tr HKc.out HB4.out)); first
                | ((with_reducible have HP4 := Lib.hid (Blk.below HBZa.out HB4.out HBZa.out.lt)); have HPA4 := HRS; have HPL4 := Lib.hid HBZa.out.lt; obtain ⟨⟨z0, z1, z2, z3, z4, z5⟩, y0, y1, y2, y3, y4, y5⟩ := Bx.both HP4.out)
                | ((with_reducible have HP4 := Lib.hid (Blk.below HBZb.out HB4.out HBZb.out.lt)); have HPA4 := Lib.hid HBB3.out.size; have HPL4 := Lib.hid HBZb.out.lt; obtain ⟨⟨z0, z1, z2, z3, z4, z5⟩, y0, y1, y2, y3, y4, y5⟩ := Bx.both HP4.out)
                | ((with_reducible have HP4 := Lib.hid (Blk.below HBZc.out HB4.out HBZc.out.lt)); have HPA4 := Lib.hid (Nat.le_succ_of_le HBB3.out.size); have HPL4 := Lib.hid HBZc.out.lt; obtain ⟨⟨z0, z1, z2, z3, z4, z5⟩, y0, y1, y2, y3, y4, y5⟩ := Bx.both HP4.out)
                | skip))
        all_goals
          go_wp2_with fail
          go_meet
        all_goals
          refine Lib.hid ?_
          first
          | (with_reducible exact zg_new HBB4.out HK1.out.size HO4.out)
          | (with_reducible exact zg_put HBB4.out HO4.out HP4.out HPA4.out HPL4.out)
      case rest =>
        obtain ⟨wx, hwx⟩ : ∃ wx, wx = wc := ⟨_, rfl⟩
        subst hwx
        obtain ⟨rfl, hbx, p5, ka5, na5, ua5, sa5, EA5, qa5, fa5, GA5, ra5, ha5, rfl, hbo⟩ := hcut.out
        have HBX := Lib.hid hbx
        have HDX := Lib.hid hbo.bd
        obtain rfl : ra5 = c.l.length := Nd.len5 HDX.out.2
        have HCX : Hid (∀ W, Hid (Below wx.heap.size wx W) → Hid (Below wC.heap.size wC W)) := Lib.hid fun W H => Lib.hid (tr HBX.out H.out)
        have HNKX : Hid (∀ W, Hid (Below wx.heap.size wx W) → Six W b9 (o9 + j * 6) (.int .i64 ka8) (.int .i64 na8) (.int .u64 ua8) (.string sa8) (.slice EA8 qa8 fa8) (.slice GA8 ra8 ha8) ∧ Nd W c [.int .i64 ka8, .int .i64 na8, .int .u64 ua8, .string sa8, .slice EA8 qa8 fa8, .slice GA8 ra8 ha8]) := Lib.hid fun W H => ⟨H6.out.below (tr HBX.out H.out) hb9, HNK.out.bel (tr HBX.out H.out)⟩
        have hall8 : ∀ W, Hid (Below wx.heap.size wx W) → Hid (Below wx.heap.size wx W) ∧ (W.cell? ⟨p5, 0, none⟩ = some (.int .i64 ka5) ∧ W.cell? ⟨p5, 1, none⟩ = some (.int .i64 na5) ∧ W.cell? ⟨p5, 2, none⟩ = some (.int .u64 ua5) ∧ W.cell? ⟨p5, 3, none⟩ = some (.string sa5) ∧ W.cell? ⟨p5, 4, none⟩ = some (.slice EA5 qa5 fa5) ∧ W.cell? ⟨p5, 5, none⟩ = some (.slice GA5 c.l.length ha5)) ∧ (W.cell? ⟨bi, 0, none⟩ = some (.int .i64 tk) ∧ W.cell? ⟨bi, 1, none⟩ = some (.int .i64 tn) ∧ W.cell? ⟨bi, 2, none⟩ = some (.int .u64 tu) ∧ W.cell? ⟨bi, 3, none⟩ = some (.string ts) ∧ W.cell? ⟨bi, 4, none⟩ = some (.slice KA tks.length Kc) ∧ W.cell? ⟨bi, 5, none⟩ = some (.slice (some ⟨b9, o9, none⟩) tl.length Lc)) ∧ W.cell? ⟨b9, o9 + j * 6, none⟩ = some (.int .i64 ka8) ∧ W.cell? ⟨b9, o9 + j * 6 + 1, none⟩ = some (.int .i64 na8) ∧ W.cell? ⟨b9, o9 + j * 6 + 2, none⟩ = some (.int .u64 ua8) ∧ W.cell? ⟨b9, o9 + j * 6 + 3, none⟩ = some (.string sa8) ∧ W.cell? ⟨b9, o9 + j * 6 + 4, none⟩ = some (.slice EA8 qa8 fa8) ∧ W.cell? ⟨b9, o9 + j * 6 + 5, none⟩ = some (.slice GA8 ra8 ha8) := fun W H => ⟨H, Bx.all (HDX.out.below H.out).1, Bx.all (HIN.out W (HCX.out W H)).1, (HNKX.out W H).1⟩
        have HXd : Hid (Below wx.heap.size wx wx.drew) := Lib.hid (Below.refl _ wx).drew
        have HX0 : Hid (Below wx.heap.size wx wx) := Lib.hid (Below.refl _ wx)
        have HSM : Hid (∀ W, Hid (Below wx.heap.size wx W) → Calls Tryz.prog 29 #[.agg #[.int .i64 ka5, .int .i64 na5, .int .u64 ua5, .string sa5, .slice EA5 qa5 fa5, .slice GA5 c.l.length ha5], .agg #[.int .i64 ka8, .int .i64 na8, .int .u64 ua8, .string sa8, .slice EA8 qa8 fa8, .slice GA8 ra8 ha8]] W fun e w' => e = .returned (.bool true) ∧ Hid (Below W.heap.size W w')) := Lib.hid fun W H => same_S c _ _ W (by have := HQC.out.1; omega) (HDX.out.below H.out).2 (HNKX.out W H).2
        obtain ⟨_, ⟨y0, y1, y2, y3, y4, y5⟩, ⟨z0, z1, z2, z3, z4, z5⟩, v0, v1, v2, v3, v4, v5⟩ := hall8 wx HX0
        clear hcut hbx hbo hall7 hc57 hc27 HRd HRad HRS HGJ x0 x1 x2 x3 x4 x5
        go_upto_region 8 with fail
        go_region_held3 (fun W => Hid (Below wx.heap.size wx W) ∧ (W.cell? ⟨p5, 0, none⟩ = some (.int .i64 ka5) ∧ W.cell? ⟨p5, 1, none⟩ = some (.int .i64 na5) ∧ W.cell? ⟨p5, 2, none⟩ = some (.int .u64 ua5) ∧ W.cell? ⟨p5, 3, none⟩ = some (.string sa5) ∧ W.cell? ⟨p5, 4, none⟩ = some (.slice EA5 qa5 fa5) ∧ W.cell? ⟨p5, 5, none⟩ = some (.slice GA5 c.l.length ha5)) ∧ (W.cell? ⟨bi, 0, none⟩ = some (.int .i64 tk) ∧ W.cell? ⟨bi, 1, none⟩ = some (.int .i64 tn) ∧ W.cell? ⟨bi, 2, none⟩ = some (.int .u64 tu) ∧ W.cell? ⟨bi, 3, none⟩ = some (.string ts) ∧ W.cell? ⟨bi, 4, none⟩ = some (.slice KA tks.length Kc) ∧ W.cell? ⟨bi, 5, none⟩ = some (.slice (some ⟨b9, o9, none⟩) tl.length Lc)) ∧ W.cell? ⟨b9, o9 + j * 6, none⟩ = some (.int .i64 ka8) ∧ W.cell? ⟨b9, o9 + j * 6 + 1, none⟩ = some (.int .i64 na8) ∧ W.cell? ⟨b9, o9 + j * 6 + 2, none⟩ = some (.int .u64 ua8) ∧ W.cell? ⟨b9, o9 + j * 6 + 3, none⟩ = some (.string sa8) ∧ W.cell? ⟨b9, o9 + j * 6 + 4, none⟩ = some (.slice EA8 qa8 fa8) ∧ W.cell? ⟨b9, o9 + j * 6 + 5, none⟩ = some (.slice GA8 ra8 ha8)) (first | (with_reducible exact hall8 _ (by assumption)) | (with_reducible exact hall8 _ HXd))
          (first
            | (go_at_call 29; (with_reducible refine (HSM.out _ (by first | assumption | with_reducible exact HXd)).mono ?_); rintro e w5 ⟨rfl, HB5⟩; have HX5 : Hid (Below wx.heap.size wx w5) := (by first | exact Lib.hid (tr HXd.out HB5.out) | exact Lib.hid (tr HX0.out HB5.out))))
        clear y0 y1 y2 y3 y4 y5 z0 z1 z2 z3 z4 z5 v0 v1 v2 v3 v4 v5 hall8 HSM
        go_upto_region 10 with fail
        have HX5d : Hid (Below wx.heap.size wx w5.drew) := Lib.hid HX5.out.drew
        go_cut [73] (fun s wn => Hid (s = .bool false ∧ Hid (Below wx.heap.size wx wn)))
        case first =>
          by_cases h17 : tk = 17
          · obtain ⟨hkl, hnd⟩ := okT_map HOK.out h17
            obtain ⟨kj, hkj⟩ : ∃ kj, tks[j]? = some kj := ⟨_, List.getElem?_eq_getElem (by omega)⟩
            obtain ⟨b7, o7, rfl, hb7, hKC⟩ := HKA1.out (by omega)
            have HLK : Hid (∀ W v, Hid (Below wx.heap.size wx W) → Hid (RdP W v [stK kj]) → Calls Tryz.prog 32 #[.agg #[.int .i64 tk, .int .i64 tn, .int .u64 tu, .string ts, .slice (some ⟨b7, o7, none⟩) tks.length Kc, .slice (some ⟨b9, o9, none⟩) tl.length Lc], .agg #[.int .i64 ka8, .int .i64 na8, .int .u64 ua8, .string sa8, .slice EA8 qa8 fa8, .slice GA8 ra8 ha8], .int .i64 0, v] W fun e w' => e = .returned (.bool true) ∧ Hid (Below W.heap.size W w')) := Lib.hid fun W v H h => leads_S HL.out (.mk tk tn tu ts tks tl) c _ _ 0 v [stK kj] (getR_by (t := .mk tk tn tu ts tks tl) h17 hnd hkj HCJ.out) W (tr HBW.out (HCX.out W H).out) (HIN.out W (HCX.out W H)).2 (HNKX.out W H).2 h.out (by have := HQ1.out.1; omega) HQ1.out.2 (by simp)
            have HOKK : Hid (∀ s ∈ [stK kj], okR s) := Lib.hid fun s hs => by rw [List.mem_singleton.1 hs]; exact okR_by (hKs kj (List.mem_of_getElem? hkj))
            have hall10 : ∀ W, Hid (Below wx.heap.size wx W) → Hid (Below wx.heap.size wx W) ∧ (W.cell? ⟨bi, 0, none⟩ = some (.int .i64 tk) ∧ W.cell? ⟨bi, 1, none⟩ = some (.int .i64 tn) ∧ W.cell? ⟨bi, 2, none⟩ = some (.int .u64 tu) ∧ W.cell? ⟨bi, 3, none⟩ = some (.string ts) ∧ W.cell? ⟨bi, 4, none⟩ = some (.slice (some ⟨b7, o7, none⟩) tks.length Kc) ∧ W.cell? ⟨bi, 5, none⟩ = some (.slice (some ⟨b9, o9, none⟩) tl.length Lc)) ∧ (W.cell? ⟨b9, o9 + j * 6, none⟩ = some (.int .i64 ka8) ∧ W.cell? ⟨b9, o9 + j * 6 + 1, none⟩ = some (.int .i64 na8) ∧ W.cell? ⟨b9, o9 + j * 6 + 2, none⟩ = some (.int .u64 ua8) ∧ W.cell? ⟨b9, o9 + j * 6 + 3, none⟩ = some (.string sa8) ∧ W.cell? ⟨b9, o9 + j * 6 + 4, none⟩ = some (.slice EA8 qa8 fa8) ∧ W.cell? ⟨b9, o9 + j * 6 + 5, none⟩ = some (.slice GA8 ra8 ha8)) ∧ W.cell? ⟨b7, o7 + j, none⟩ = some (.string kj) := fun W H => ⟨H, Bx.all (HIN.out W (HCX.out W H)).1, (HNKX.out W H).1, hKC W (tr H1B.out (tr HBC.out (HCX.out W H).out)) j kj hkj⟩
            have hj3 : (j : Int) < (tks.length : Int) := by omega
            have hc510 : ∀ (W : World) (ob : Obj), Hid (Below wx.heap.size wx W) → Hid (Below wx.heap.size wx (W.alloc ob)) ∧ ((W.alloc ob).cell? ⟨bi, 0, none⟩ = some (.int .i64 tk) ∧ (W.alloc ob).cell? ⟨bi, 1, none⟩ = some (.int .i64 tn) ∧ (W.alloc ob).cell? ⟨bi, 2, none⟩ = some (.int .u64 tu) ∧ (W.alloc ob).cell? ⟨bi, 3, none⟩ = some (.string ts) ∧ (W.alloc ob).cell? ⟨bi, 4, none⟩ = some (.slice (some ⟨b7, o7, none⟩) tks.length Kc) ∧ (W.alloc ob).cell? ⟨bi, 5, none⟩ = some (.slice (some ⟨b9, o9, none⟩) tl.length Lc)) ∧ ((W.alloc ob).cell? ⟨b9, o9 + j * 6, none⟩ = some (.int .i64 ka8) ∧ (W.alloc ob).cell? ⟨b9, o9 + j * 6 + 1, none⟩ = some (.int .i64 na8) ∧ (W.alloc ob).cell? ⟨b9, o9 + j * 6 + 2, none⟩ = some (.int .u64 ua8) ∧ (W.alloc ob).cell? ⟨b9, o9 + j * 6 + 3, none⟩ = some (.string sa8) ∧ (W.alloc ob).cell? ⟨b9, o9 + j * 6 + 4, none⟩ = some (.slice EA8 qa8 fa8) ∧ (W.alloc ob).cell? ⟨b9, o9 + j * 6 + 5, none⟩ = some (.slice GA8 ra8 ha8)) ∧ (W.alloc ob).cell? ⟨b7, o7 + j, none⟩ = some (.string kj) := fun W ob H => hall10 _ (Lib.hid (tr H.out (al0 W ob)))
            obtain ⟨_, ⟨z0, z1, z2, z3, z4, z5⟩, ⟨v0, v1, v2, v3, v4, v5⟩, y0⟩ := hall10 w5 HX5
            subst h17
            clear hkj hnd hKC hkl
            refine wp_region_held_drew (S := fun W => Hid (Below wx.heap.size wx W) ∧ (W.cell? ⟨bi, 0, none⟩ = some (.int .i64 17) ∧ W.cell? ⟨bi, 1, none⟩ = some (.int .i64 tn) ∧ W.cell? ⟨bi, 2, none⟩ = some (.int .u64 tu) ∧ W.cell? ⟨bi, 3, none⟩ = some (.string ts) ∧ W.cell? ⟨bi, 4, none⟩ = some (.slice (some ⟨b7, o7, none⟩) tks.length Kc) ∧ W.cell? ⟨bi, 5, none⟩ = some (.slice (some ⟨b9, o9, none⟩) tl.length Lc)) ∧ (W.cell? ⟨b9, o9 + j * 6, none⟩ = some (.int .i64 ka8) ∧ W.cell? ⟨b9, o9 + j * 6 + 1, none⟩ = some (.int .i64 na8) ∧ W.cell? ⟨b9, o9 + j * 6 + 2, none⟩ = some (.int .u64 ua8) ∧ W.cell? ⟨b9, o9 + j * 6 + 3, none⟩ = some (.string sa8) ∧ W.cell? ⟨b9, o9 + j * 6 + 4, none⟩ = some (.slice EA8 qa8 fa8) ∧ W.cell? ⟨b9, o9 + j * 6 + 5, none⟩ = some (.slice GA8 ra8 ha8)) ∧ W.cell? ⟨b7, o7 + j, none⟩ = some (.string kj)) (by kernel_rfl) (hall10 _ HX5d) (fun hHeld => ?_)
            refine wpAnyH_take (i := 0) (oi := { dst := some 41, op := Op.fieldAddr 38 (Operand.tmp 3) 0, type := 0, pos := "outright.go:138", after := #[], guard := none }) (v := ?vx0) rfl (by kernel_rfl) (by kernel_rfl) (by kernel_rfl) (fun _ _ _ h => h) (Or.inl ⟨by rfl, ?hyx0⟩) (by assumption) ?rx0
            case hyx0 =>
              intro wq hSw
              (try dsimp only at hSw)
              go_split_ands
              go_simp <;> with_reducible rfl
            simp only [Act.put, List.setIfInBounds_toArray, List.set_cons_succ, List.set_cons_zero]
            refine wpAnyH_take (i := 1) (oi := { dst := some 42, op := Op.load 3 (Operand.tmp 41), type := 3, pos := "outright.go:138", after := #[{ on := 0, ground := Ground.data }], guard := none }) (v := ?vx1) rfl (by kernel_rfl) (by kernel_rfl) (by kernel_rfl) (fun _ _ _ h => h) (Or.inl ⟨by rfl, ?hyx1⟩) (by assumption) ?rx1
            case hyx1 =>
              intro wq hSw
              (try dsimp only at hSw)
              go_split_ands
              go_simp <;> with_reducible rfl
            simp only [Act.put, List.setIfInBounds_toArray, List.set_cons_succ, List.set_cons_zero]
            refine wpAnyH_take (i := 2) (oi := { dst := some 43, op := Op.binOp BinOp.eql 3 (Operand.tmp 42) (Operand.const (Value.int IntKind.i64 17)) 3, type := 4, pos := "outright.go:138", after := #[{ on := 1, ground := Ground.data }], guard := none }) (v := ?vx2) rfl (by kernel_rfl) (by kernel_rfl) (by kernel_rfl) (fun _ _ _ h => h) (Or.inl ⟨by rfl, ?hyx2⟩) (by assumption) ?rx2
            case hyx2 =>
              intro wq hSw
              (try dsimp only at hSw)
              go_split_ands
              go_simp <;> with_reducible rfl
            simp only [Act.put, List.setIfInBounds_toArray, List.set_cons_succ, List.set_cons_zero]
            refine wpAnyH_take (i := 3) (oi := { dst := some 44, op := Op.move (Operand.tmp 43), type := 4, pos := "outright.go:138", after := #[{ on := 2, ground := Ground.data }], guard := none }) (v := ?vx3) rfl (by kernel_rfl) (by kernel_rfl) (by kernel_rfl) (fun _ _ _ h => h) (Or.inl ⟨by rfl, ?hyx3⟩) (by assumption) ?rx3
            case hyx3 =>
              intro wq hSw
              (try dsimp only at hSw)
              go_split_ands
              go_simp <;> with_reducible rfl
            simp only [Act.put, List.setIfInBounds_toArray, List.set_cons_succ, List.set_cons_zero]
            refine wpAnyH_take (i := 4) (oi := { dst := some 45, op := Op.load 38 (Operand.tmp 3), type := 38, pos := "outright.go:138", after := #[{ on := 3, ground := Ground.guard }], guard := some (3, true) }) (v := ?vx4) rfl (by kernel_rfl) (by kernel_rfl) (by kernel_rfl) (fun _ _ _ h => h) (Or.inl ⟨by rfl, ?hyx4⟩) (by assumption) ?rx4
            case hyx4 =>
              intro wq hSw
              (try dsimp only at hSw)
              go_split_ands
              go_simp <;> with_reducible rfl
            simp only [Act.put, List.setIfInBounds_toArray, List.set_cons_succ, List.set_cons_zero]
            refine wpAnyH_take (i := 5) (oi := { dst := some 46, op := Op.fieldAddr 38 (Operand.tmp 3) 5, type := 0, pos := "outright.go:138", after := #[{ on := 3, ground := Ground.guard }], guard := some (3, true) }) (v := ?vx5) rfl (by kernel_rfl) (by kernel_rfl) (by kernel_rfl) (fun _ _ _ h => h) (Or.inl ⟨by rfl, ?hyx5⟩) (by assumption) ?rx5
            case hyx5 =>
              intro wq hSw
              (try dsimp only at hSw)
              go_split_ands
              go_simp <;> with_reducible rfl
            simp only [Act.put, List.setIfInBounds_toArray, List.set_cons_succ, List.set_cons_zero]
            refine wpAnyH_take (i := 6) (oi := { dst := some 47, op := Op.load 36 (Operand.tmp 46), type := 36, pos := "outright.go:138", after := #[{ on := 5, ground := Ground.data }, { on := 3, ground := Ground.guard }], guard := some (3, true) }) (v := ?vx6) rfl (by kernel_rfl) (by kernel_rfl) (by kernel_rfl) (fun _ _ _ h => h) (Or.inl ⟨by rfl, ?hyx6⟩) (by assumption) ?rx6
            case hyx6 =>
              intro wq hSw
              (try dsimp only at hSw)
              go_split_ands
              go_simp <;> with_reducible rfl
            simp only [Act.put, List.setIfInBounds_toArray, List.set_cons_succ, List.set_cons_zero]
            refine wpAnyH_take (i := 7) (oi := { dst := some 48, op := Op.move (Operand.tmp 4), type := 3, pos := "outright.go:138", after := #[{ on := 3, ground := Ground.guard }], guard := some (3, true) }) (v := ?vx7) rfl (by kernel_rfl) (by kernel_rfl) (by kernel_rfl) (fun _ _ _ h => h) (Or.inl ⟨by rfl, ?hyx7⟩) (by assumption) ?rx7
            case hyx7 =>
              intro wq hSw
              (try dsimp only at hSw)
              go_split_ands
              go_simp <;> with_reducible rfl
            simp only [Act.put, List.setIfInBounds_toArray, List.set_cons_succ, List.set_cons_zero]
            refine wpAnyH_take (i := 8) (oi := { dst := some 49, op := Op.indexAddr 36 (Operand.tmp 47) (Operand.tmp 48), type := 0, pos := "outright.go:138", after := #[{ on := 6, ground := Ground.data }, { on := 7, ground := Ground.data }, { on := 3, ground := Ground.guard }], guard := some (3, true) }) (v := ?vx8) rfl (by kernel_rfl) (by kernel_rfl) (by kernel_rfl) (fun _ _ _ h => h) (Or.inl ⟨by rfl, ?hyx8⟩) (by assumption) ?rx8
            case hyx8 =>
              intro wq hSw
              (try dsimp only at hSw)
              go_split_ands
              go_simp <;> with_reducible rfl
            simp only [Act.put, List.setIfInBounds_toArray, List.set_cons_succ, List.set_cons_zero]
            refine wpAnyH_take (i := 9) (oi := { dst := some 50, op := Op.load 38 (Operand.tmp 49), type := 38, pos := "outright.go:138", after := #[{ on := 8, ground := Ground.data }, { on := 3, ground := Ground.guard }], guard := some (3, true) }) (v := ?vx9) rfl (by kernel_rfl) (by kernel_rfl) (by kernel_rfl) (fun _ _ _ h => h) (Or.inl ⟨by rfl, ?hyx9⟩) (by assumption) ?rx9
            case hyx9 =>
              intro wq hSw
              (try dsimp only at hSw)
              go_split_ands
              go_simp <;> with_reducible rfl
            simp only [Act.put, List.setIfInBounds_toArray, List.set_cons_succ, List.set_cons_zero]
            refine wpAnyH_take (i := 10) (oi := { dst := some 51, op := Op.fieldAddr 38 (Operand.tmp 3) 4, type := 0, pos := "outright.go:138", after := #[{ on := 3, ground := Ground.guard }], guard := some (3, true) }) (v := ?vx10) rfl (by kernel_rfl) (by kernel_rfl) (by kernel_rfl) (fun _ _ _ h => h) (Or.inl ⟨by rfl, ?hyx10⟩) (by assumption) ?rx10
            case hyx10 =>
              intro wq hSw
              (try dsimp only at hSw)
              go_split_ands
              go_simp <;> with_reducible rfl
            simp only [Act.put, List.setIfInBounds_toArray, List.set_cons_succ, List.set_cons_zero]
            refine wpAnyH_take (i := 11) (oi := { dst := some 52, op := Op.load 35 (Operand.tmp 51), type := 35, pos := "outright.go:138", after := #[{ on := 10, ground := Ground.data }, { on := 3, ground := Ground.guard }], guard := some (3, true) }) (v := ?vx11) rfl (by kernel_rfl) (by kernel_rfl) (by kernel_rfl) (fun _ _ _ h => h) (Or.inl ⟨by rfl, ?hyx11⟩) (by assumption) ?rx11
            case hyx11 =>
              intro wq hSw
              (try dsimp only at hSw)
              go_split_ands
              go_simp <;> with_reducible rfl
            simp only [Act.put, List.setIfInBounds_toArray, List.set_cons_succ, List.set_cons_zero]
            refine wpAnyH_take (i := 12) (oi := { dst := some 53, op := Op.move (Operand.tmp 4), type := 3, pos := "outright.go:138", after := #[{ on := 3, ground := Ground.guard }], guard := some (3, true) }) (v := ?vx12) rfl (by kernel_rfl) (by kernel_rfl) (by kernel_rfl) (fun _ _ _ h => h) (Or.inl ⟨by rfl, ?hyx12⟩) (by assumption) ?rx12
            case hyx12 =>
              intro wq hSw
              (try dsimp only at hSw)
              go_split_ands
              go_simp <;> with_reducible rfl
            simp only [Act.put, List.setIfInBounds_toArray, List.set_cons_succ, List.set_cons_zero]
            refine wpAnyH_take (i := 13) (oi := { dst := some 54, op := Op.indexAddr 35 (Operand.tmp 52) (Operand.tmp 53), type := 0, pos := "outright.go:138", after := #[{ on := 11, ground := Ground.data }, { on := 12, ground := Ground.data }, { on := 3, ground := Ground.guard }], guard := some (3, true) }) (v := ?vx13) rfl (by kernel_rfl) (by kernel_rfl) (by kernel_rfl) (fun _ _ _ h => h) (Or.inl ⟨by rfl, ?hyx13⟩) (by assumption) ?rx13
            case hyx13 =>
              intro wq hSw
              (try dsimp only at hSw)
              go_split_ands
              go_simp <;> with_reducible rfl
            simp only [Act.put, List.setIfInBounds_toArray, List.set_cons_succ, List.set_cons_zero]
            refine wpAnyH_take (i := 14) (oi := { dst := some 55, op := Op.load 9 (Operand.tmp 54), type := 9, pos := "outright.go:138", after := #[{ on := 13, ground := Ground.data }, { on := 3, ground := Ground.guard }], guard := some (3, true) }) (v := ?vx14) rfl (by kernel_rfl) (by kernel_rfl) (by kernel_rfl) (fun _ _ _ h => h) (Or.inl ⟨by rfl, ?hyx14⟩) (by assumption) ?rx14
            case hyx14 =>
              intro wq hSw
              (try dsimp only at hSw)
              go_split_ands
              go_simp <;> with_reducible rfl
            simp only [Act.put, List.setIfInBounds_toArray, List.set_cons_succ, List.set_cons_zero]
            refine wpAnyH_ready (rs := [15]) (by kernel_rfl) (by simp) ?_
            refine AllReadyH.cons (o := { dst := some 56, op := Op.call { callee := Callee.value (Operand.func 33), args := #[Operand.tmp 55], argTypes := #[9] }, type := 51, pos := "outright.go:138", after := #[{ on := 14, ground := Ground.data }, { on := 3, ground := Ground.chain }, { on := 3, ground := Ground.guard }], guard := some (3, true) }) rfl (fun K hK => ?_) (AllReadyH.nil)
            replace hK := Lib.hid hK
            go_simp
            go_at_call 33
            (with_reducible refine (HBY.out kj _).mono ?_)
            rintro e w6 ⟨rfl, HB6⟩
            have HX6 : Hid (Below wx.heap.size wx w6) := Lib.hid (tr HX5d.out HB6.out)
            have HA6 : Hid (AP wx [stK kj] (.slice (some ⟨w6.heap.size, 0, none⟩) 1 1) (w6.alloc (.cells #[.string kj, .int .i64 0, .bool true] 51))) := Lib.hid (AP.lit HX6.out (stK kj))
            have HK6 := Lib.hid HA6.out.1
            have HR6 := Lib.hid (HA6.out.rdp HOKK.out)
            refine hK.out _ _ (hall10 _ HX6) (fun hHeldxa => ?_)
            try simp only [Act.put, List.setIfInBounds_toArray, List.set_cons_succ, List.set_cons_zero]
            refine wpAnyH_ready (rs := [16]) (by kernel_rfl) (by simp) ?_
            refine AllReadyH.cons (o := { dst := some 57, op := Op.buildSlice 22 1 #[(0, Operand.tmp 56)], type := 22, pos := "outright.go:138", after := #[{ on := 15, ground := Ground.data }, { on := 3, ground := Ground.guard }], guard := some (3, true) }) rfl (fun K hK => ?_) (AllReadyH.nil)
            replace hK := Lib.hid hK
            go_simp
            refine hK.out _ _ (hall10 _ HK6) (fun hHeldxb => ?_)
            try simp only [Act.put, List.setIfInBounds_toArray, List.set_cons_succ, List.set_cons_zero]
            refine wpAnyH_ready (rs := [17]) (by kernel_rfl) (by simp) ?_
            refine AllReadyH.cons (o := { dst := some 58, op := Op.call { callee := Callee.value (Operand.func 32), args := #[Operand.tmp 45, Operand.tmp 50, Operand.const (Value.int IntKind.i64 0), Operand.tmp 57], argTypes := #[38, 38, 24, 22] }, type := 4, pos := "outright.go:138", after := #[{ on := 4, ground := Ground.data }, { on := 9, ground := Ground.data }, { on := 16, ground := Ground.data }, { on := 15, ground := Ground.chain }, { on := 3, ground := Ground.guard }], guard := some (3, true) }) rfl (fun K hK => ?_) (AllReadyH.nil)
            replace hK := Lib.hid hK
            go_simp
            go_at_call 32
            (with_reducible refine (HLK.out _ _ HK6 HR6).mono ?_)
            rintro e w7 ⟨rfl, HB7⟩
            have HX7 := Lib.hid (tr HK6.out HB7.out)
            refine hK.out _ _ (hall10 _ HX7) (fun hHeldxc => ?_)
            try simp only [Act.put, List.setIfInBounds_toArray, List.set_cons_succ, List.set_cons_zero]
            refine wpAnyH_take (i := 18) (oi := { dst := some 59, op := Op.unOp UnOp.not 4 (Operand.tmp 58), type := 4, pos := "outright.go:138", after := #[{ on := 17, ground := Ground.data }, { on := 3, ground := Ground.guard }], guard := some (3, true) }) (v := ?vx18) rfl (by kernel_rfl) (by kernel_rfl) (by kernel_rfl) (fun _ _ _ h => h) (Or.inl ⟨by rfl, ?hyx18⟩) (by assumption) ?rx18
            case hyx18 =>
              intro wq hSw
              (try dsimp only at hSw)
              go_split_ands
              go_simp <;> with_reducible rfl
            simp only [Act.put, List.setIfInBounds_toArray, List.set_cons_succ, List.set_cons_zero]
            refine wpAnyH_take (i := 19) (oi := { dst := some 60, op := Op.pick (Operand.tmp 44) (Operand.tmp 59) (Operand.const (Value.bool false)), type := 4, pos := "outright.go:138", after := #[{ on := 3, ground := Ground.data }, { on := 18, ground := Ground.data }], guard := none }) (v := ?vx19) rfl (by kernel_rfl) (by kernel_rfl) (by kernel_rfl) (fun _ _ _ h => h) (Or.inl ⟨by rfl, ?hyx19⟩) (by assumption) ?rx19
            case hyx19 =>
              intro wq hSw
              (try dsimp only at hSw)
              go_split_ands
              go_simp <;> with_reducible rfl
            simp only [Act.put, List.setIfInBounds_toArray, List.set_cons_succ, List.set_cons_zero]
            refine wpAnyH_take (i := 20) (oi := { dst := some 61, op := Op.move (Operand.tmp 60), type := 4, pos := "outright.go:138", after := #[{ on := 19, ground := Ground.data }, { on := 17, ground := Ground.chain }], guard := none }) (v := ?vx20) rfl (by kernel_rfl) (by kernel_rfl) (by kernel_rfl) (fun _ _ _ h => h) (Or.inl ⟨by rfl, ?hyx20⟩) (by assumption) ?rx20
            case hyx20 =>
              intro wq hSw
              (try dsimp only at hSw)
              go_split_ands
              go_simp <;> with_reducible rfl
            simp only [Act.put, List.setIfInBounds_toArray, List.set_cons_succ, List.set_cons_zero]
            refine wpAnyH_take (i := 21) (oi := { dst := some 62, op := Op.fieldAddr 38 (Operand.tmp 3) 0, type := 0, pos := "outright.go:138", after := #[{ on := 20, ground := Ground.guard }], guard := some (20, false) }) (v := ?vx21) rfl (by kernel_rfl) (by kernel_rfl) (by kernel_rfl) (fun _ _ _ h => h) (Or.inl ⟨by rfl, ?hyx21⟩) (by assumption) ?rx21
            case hyx21 =>
              intro wq hSw
              (try dsimp only at hSw)
              go_split_ands
              go_simp <;> with_reducible rfl
            simp only [Act.put, List.setIfInBounds_toArray, List.set_cons_succ, List.set_cons_zero]
            refine wpAnyH_take (i := 22) (oi := { dst := some 63, op := Op.load 3 (Operand.tmp 62), type := 3, pos := "outright.go:138", after := #[{ on := 21, ground := Ground.data }, { on := 20, ground := Ground.guard }], guard := some (20, false) }) (v := ?vx22) rfl (by kernel_rfl) (by kernel_rfl) (by kernel_rfl) (fun _ _ _ h => h) (Or.inl ⟨by rfl, ?hyx22⟩) (by assumption) ?rx22
            case hyx22 =>
              intro wq hSw
              (try dsimp only at hSw)
              go_split_ands
              go_simp <;> with_reducible rfl
            simp only [Act.put, List.setIfInBounds_toArray, List.set_cons_succ, List.set_cons_zero]
            refine wpAnyH_take (i := 23) (oi := { dst := some 64, op := Op.binOp BinOp.neq 3 (Operand.tmp 63) (Operand.const (Value.int IntKind.i64 17)) 3, type := 4, pos := "outright.go:138", after := #[{ on := 22, ground := Ground.data }, { on := 20, ground := Ground.guard }], guard := some (20, false) }) (v := ?vx23) rfl (by kernel_rfl) (by kernel_rfl) (by kernel_rfl) (fun _ _ _ h => h) (Or.inl ⟨by rfl, ?hyx23⟩) (by assumption) ?rx23
            case hyx23 =>
              intro wq hSw
              (try dsimp only at hSw)
              go_split_ands
              go_simp <;> with_reducible rfl
            simp only [Act.put, List.setIfInBounds_toArray, List.set_cons_succ, List.set_cons_zero]
            refine wpAnyH_take (i := 24) (oi := { dst := some 65, op := Op.move (Operand.tmp 64), type := 4, pos := "outright.go:138", after := #[{ on := 23, ground := Ground.data }, { on := 20, ground := Ground.chain }, { on := 20, ground := Ground.guard }], guard := some (20, false) }) (v := ?vx24) rfl (by kernel_rfl) (by kernel_rfl) (by kernel_rfl) (fun _ _ _ h => h) (Or.inl ⟨by rfl, ?hyx24⟩) (by assumption) ?rx24
            case hyx24 =>
              intro wq hSw
              (try dsimp only at hSw)
              go_split_ands
              go_simp <;> with_reducible rfl
            simp only [Act.put, List.setIfInBounds_toArray, List.set_cons_succ, List.set_cons_zero]
            refine wpAnyH_take (i := 25) (oi := { dst := some 66, op := Op.load 38 (Operand.tmp 3), type := 38, pos := "outright.go:138", after := #[{ on := 24, ground := Ground.guard }], guard := some (24, true) }) (v := undef) rfl (by kernel_rfl) (by kernel_rfl) (by kernel_rfl) (fun _ _ _ h => h) (Or.inr ⟨by rfl, rfl⟩) (by assumption) ?_
            simp only [Act.put, List.setIfInBounds_toArray, List.set_cons_succ, List.set_cons_zero]
            refine wpAnyH_take (i := 26) (oi := { dst := some 67, op := Op.build 38 #[], type := 38, pos := "outright.go:138", after := #[{ on := 24, ground := Ground.guard }], guard := some (24, true) }) (v := undef) rfl (by kernel_rfl) (by kernel_rfl) (by kernel_rfl) (fun _ _ _ h => h) (Or.inr ⟨by rfl, rfl⟩) (by assumption) ?_
            simp only [Act.put, List.setIfInBounds_toArray, List.set_cons_succ, List.set_cons_zero]
            refine wpAnyH_take (i := 27) (oi := { dst := some 68, op := Op.call { callee := Callee.value (Operand.func 33), args := #[Operand.const (Value.string { data := #[] })], argTypes := #[9] }, type := 51, pos := "outright.go:138", after := #[{ on := 24, ground := Ground.chain }, { on := 24, ground := Ground.guard }], guard := some (24, true) }) (v := undef) rfl (by kernel_rfl) (by kernel_rfl) (by kernel_rfl) (fun _ _ _ h => h) (Or.inr ⟨by rfl, rfl⟩) (by assumption) ?_
            simp only [Act.put, List.setIfInBounds_toArray, List.set_cons_succ, List.set_cons_zero]
            refine wpAnyH_take (i := 28) (oi := { dst := some 69, op := Op.buildSlice 22 1 #[(0, Operand.tmp 68)], type := 22, pos := "outright.go:138", after := #[{ on := 27, ground := Ground.data }, { on := 24, ground := Ground.guard }], guard := some (24, true) }) (v := undef) rfl (by kernel_rfl) (by kernel_rfl) (by kernel_rfl) (fun _ _ _ h => h) (Or.inr ⟨by rfl, rfl⟩) (by assumption) ?_
            simp only [Act.put, List.setIfInBounds_toArray, List.set_cons_succ, List.set_cons_zero]
            refine wpAnyH_take (i := 29) (oi := { dst := some 70, op := Op.call { callee := Callee.value (Operand.func 32), args := #[Operand.tmp 66, Operand.tmp 67, Operand.const (Value.int IntKind.i64 80), Operand.tmp 69], argTypes := #[38, 38, 24, 22] }, type := 4, pos := "outright.go:138", after := #[{ on := 25, ground := Ground.data }, { on := 26, ground := Ground.data }, { on := 28, ground := Ground.data }, { on := 27, ground := Ground.chain }, { on := 24, ground := Ground.guard }], guard := some (24, true) }) (v := undef) rfl (by kernel_rfl) (by kernel_rfl) (by kernel_rfl) (fun _ _ _ h => h) (Or.inr ⟨by rfl, rfl⟩) (by assumption) ?_
            simp only [Act.put, List.setIfInBounds_toArray, List.set_cons_succ, List.set_cons_zero]
            refine wpAnyH_take (i := 30) (oi := { dst := some 71, op := Op.unOp UnOp.not 4 (Operand.tmp 70), type := 4, pos := "outright.go:138", after := #[{ on := 29, ground := Ground.data }, { on := 24, ground := Ground.guard }], guard := some (24, true) }) (v := undef) rfl (by kernel_rfl) (by kernel_rfl) (by kernel_rfl) (fun _ _ _ h => h) (Or.inr ⟨by rfl, rfl⟩) (by assumption) ?_
            simp only [Act.put, List.setIfInBounds_toArray, List.set_cons_succ, List.set_cons_zero]
            refine wpAnyH_take (i := 31) (oi := { dst := some 72, op := Op.pick (Operand.tmp 65) (Operand.tmp 71) (Operand.const (Value.bool false)), type := 4, pos := "outright.go:138", after := #[{ on := 24, ground := Ground.data }, { on := 30, ground := Ground.data }, { on := 20, ground := Ground.guard }], guard := some (20, false) }) (v := ?vx31) rfl (by kernel_rfl) (by kernel_rfl) (by kernel_rfl) (fun _ _ _ h => h) (Or.inl ⟨by rfl, ?hyx31⟩) (by assumption) ?rx31
            case hyx31 =>
              intro wq hSw
              (try dsimp only at hSw)
              go_split_ands
              go_simp <;> with_reducible rfl
            simp only [Act.put, List.setIfInBounds_toArray, List.set_cons_succ, List.set_cons_zero]
            refine wpAnyH_take (i := 32) (oi := { dst := some 73, op := Op.pick (Operand.tmp 61) (Operand.const (Value.bool true)) (Operand.tmp 72), type := 4, pos := "outright.go:138", after := #[{ on := 20, ground := Ground.data }, { on := 31, ground := Ground.data }], guard := none }) (v := ?vx32) rfl (by kernel_rfl) (by kernel_rfl) (by kernel_rfl) (fun _ _ _ h => h) (Or.inl ⟨by rfl, ?hyx32⟩) (by assumption) ?rx32
            case hyx32 =>
              intro wq hSw
              (try dsimp only at hSw)
              go_split_ands
              go_simp <;> with_reducible rfl
            simp only [Act.put, List.setIfInBounds_toArray, List.set_cons_succ, List.set_cons_zero]
            refine wpAnyH_done (by kernel_rfl) ?_ _
            go_wp2_with fail
            go_meet
            exact Lib.hid ⟨rfl, HX7⟩
          · have hne1 : (tk == 17) = false := by rw [beq_eq_false_iff_ne]; exact h17
            have hne2 := neB h17
            have hd17 : decide (tk = 17) = false := decide_eq_false h17
            have HLK : Hid (∀ W v, Hid (Below wx.heap.size wx W) → Hid (RdP W v [stK ⟨#[]⟩]) → Calls Tryz.prog 32 #[.agg #[.int .i64 tk, .int .i64 tn, .int .u64 tu, .string ts, .slice KA tks.length Kc, .slice (some ⟨b9, o9, none⟩) tl.length Lc], .agg #[.int .i64 0, .int .i64 0, .int .u64 0, .string ⟨#[]⟩, .slice none 0 0, .slice none 0 0], .int .i64 80, v] W fun e w' => e = .returned (.bool true) ∧ Hid (Below W.heap.size W w')) := Lib.hid fun W v H h => leads_S HL.out (.mk tk tn tu ts tks tl) T0 _ _ 80 v [stK ⟨#[]⟩] (getR_no (t := .mk tk tn tu ts tks tl) h17 _) W (tr HBW.out (HCX.out W H).out) (HIN.out W (HCX.out W H)).2 (NdO.nd _ _ (ndo_zero (fun _ => True) W)) h.out (by have := HQ1.out.1; omega) HQ1.out.2 (by simp)
            have HOKK : Hid (∀ s ∈ [stK ⟨#[]⟩], okR s) := Lib.hid fun s hs => by rw [List.mem_singleton.1 hs]; exact okR_by (Nat.zero_le _)
            have hall10 : ∀ W, Hid (Below wx.heap.size wx W) → Hid (Below wx.heap.size wx W) ∧ W.cell? ⟨bi, 0, none⟩ = some (.int .i64 tk) ∧ W.cell? ⟨bi, 1, none⟩ = some (.int .i64 tn) ∧ W.cell? ⟨bi, 2, none⟩ = some (.int .u64 tu) ∧ W.cell? ⟨bi, 3, none⟩ = some (.string ts) ∧ W.cell? ⟨bi, 4, none⟩ = some (.slice KA tks.length Kc) ∧ W.cell? ⟨bi, 5, none⟩ = some (.slice (some ⟨b9, o9, none⟩) tl.length Lc) := fun W H => ⟨H, Bx.all (HIN.out W (HCX.out W H)).1⟩
            have hc510 : ∀ (W : World) (ob : Obj), Hid (Below wx.heap.size wx W) → Hid (Below wx.heap.size wx (W.alloc ob)) ∧ (W.alloc ob).cell? ⟨bi, 0, none⟩ = some (.int .i64 tk) ∧ (W.alloc ob).cell? ⟨bi, 1, none⟩ = some (.int .i64 tn) ∧ (W.alloc ob).cell? ⟨bi, 2, none⟩ = some (.int .u64 tu) ∧ (W.alloc ob).cell? ⟨bi, 3, none⟩ = some (.string ts) ∧ (W.alloc ob).cell? ⟨bi, 4, none⟩ = some (.slice KA tks.length Kc) ∧ (W.alloc ob).cell? ⟨bi, 5, none⟩ = some (.slice (some ⟨b9, o9, none⟩) tl.length Lc) := fun W ob H => hall10 _ (Lib.hid (tr H.out (al0 W ob)))
            obtain ⟨_, z0, z1, z2, z3, z4, z5⟩ := hall10 w5 HX5
            refine wp_region_held_drew (S := fun W => Hid (Below wx.heap.size wx W) ∧ W.cell? ⟨bi, 0, none⟩ = some (.int .i64 tk) ∧ W.cell? ⟨bi, 1, none⟩ = some (.int .i64 tn) ∧ W.cell? ⟨bi, 2, none⟩ = some (.int .u64 tu) ∧ W.cell? ⟨bi, 3, none⟩ = some (.string ts) ∧ W.cell? ⟨bi, 4, none⟩ = some (.slice KA tks.length Kc) ∧ W.cell? ⟨bi, 5, none⟩ = some (.slice (some ⟨b9, o9, none⟩) tl.length Lc)) (by kernel_rfl) (hall10 _ HX5d) (fun hHeld => ?_)
            refine wpAnyH_take (i := 0) (oi := { dst := some 41, op := Op.fieldAddr 38 (Operand.tmp 3) 0, type := 0, pos := "outright.go:138", after := #[], guard := none }) (v := ?vy0) rfl (by kernel_rfl) (by kernel_rfl) (by kernel_rfl) (fun _ _ _ h => h) (Or.inl ⟨by rfl, ?hyy0⟩) (by assumption) ?ry0
            case hyy0 =>
              intro wq hSw
              (try dsimp only at hSw)
              go_split_ands
              go_simp <;> with_reducible rfl
            simp only [Act.put, List.setIfInBounds_toArray, List.set_cons_succ, List.set_cons_zero]
            refine wpAnyH_take (i := 1) (oi := { dst := some 42, op := Op.load 3 (Operand.tmp 41), type := 3, pos := "outright.go:138", after := #[{ on := 0, ground := Ground.data }], guard := none }) (v := ?vy1) rfl (by kernel_rfl) (by kernel_rfl) (by kernel_rfl) (fun _ _ _ h => h) (Or.inl ⟨by rfl, ?hyy1⟩) (by assumption) ?ry1
            case hyy1 =>
              intro wq hSw
              (try dsimp only at hSw)
              go_split_ands
              go_simp <;> with_reducible rfl
            simp only [Act.put, List.setIfInBounds_toArray, List.set_cons_succ, List.set_cons_zero]
            refine wpAnyH_take (i := 2) (oi := { dst := some 43, op := Op.binOp BinOp.eql 3 (Operand.tmp 42) (Operand.const (Value.int IntKind.i64 17)) 3, type := 4, pos := "outright.go:138", after := #[{ on := 1, ground := Ground.data }], guard := none }) (v := ?vy2) rfl (by kernel_rfl) (by kernel_rfl) (by kernel_rfl) (fun _ _ _ h => h) (Or.inl ⟨by rfl, ?hyy2⟩) (by assumption) ?ry2
            case hyy2 =>
              intro wq hSw
              (try dsimp only at hSw)
              go_split_ands
              go_simp <;> with_reducible rfl
            simp only [Act.put, List.setIfInBounds_toArray, List.set_cons_succ, List.set_cons_zero]
            refine wpAnyH_take (i := 3) (oi := { dst := some 44, op := Op.move (Operand.tmp 43), type := 4, pos := "outright.go:138", after := #[{ on := 2, ground := Ground.data }], guard := none }) (v := ?vy3) rfl (by kernel_rfl) (by kernel_rfl) (by kernel_rfl) (fun _ _ _ h => h) (Or.inl ⟨by rfl, ?hyy3⟩) (by assumption) ?ry3
            case hyy3 =>
              intro wq hSw
              (try dsimp only at hSw)
              go_split_ands
              go_simp <;> with_reducible rfl
            simp only [Act.put, List.setIfInBounds_toArray, List.set_cons_succ, List.set_cons_zero]
            refine wpAnyH_take (i := 4) (oi := { dst := some 45, op := Op.load 38 (Operand.tmp 3), type := 38, pos := "outright.go:138", after := #[{ on := 3, ground := Ground.guard }], guard := some (3, true) }) (v := undef) rfl (by kernel_rfl) (by kernel_rfl) (by kernel_rfl) (fun _ _ _ h => h) (Or.inr ⟨by rfl, rfl⟩) (by assumption) ?_
            simp only [Act.put, List.setIfInBounds_toArray, List.set_cons_succ, List.set_cons_zero]
            refine wpAnyH_take (i := 5) (oi := { dst := some 46, op := Op.fieldAddr 38 (Operand.tmp 3) 5, type := 0, pos := "outright.go:138", after := #[{ on := 3, ground := Ground.guard }], guard := some (3, true) }) (v := undef) rfl (by kernel_rfl) (by kernel_rfl) (by kernel_rfl) (fun _ _ _ h => h) (Or.inr ⟨by rfl, rfl⟩) (by assumption) ?_
            simp only [Act.put, List.setIfInBounds_toArray, List.set_cons_succ, List.set_cons_zero]
            refine wpAnyH_take (i := 6) (oi := { dst := some 47, op := Op.load 36 (Operand.tmp 46), type := 36, pos := "outright.go:138", after := #[{ on := 5, ground := Ground.data }, { on := 3, ground := Ground.guard }], guard := some (3, true) }) (v := undef) rfl (by kernel_rfl) (by kernel_rfl) (by kernel_rfl) (fun _ _ _ h => h) (Or.inr ⟨by rfl, rfl⟩) (by assumption) ?_
            simp only [Act.put, List.setIfInBounds_toArray, List.set_cons_succ, List.set_cons_zero]
            refine wpAnyH_take (i := 7) (oi := { dst := some 48, op := Op.move (Operand.tmp 4), type := 3, pos := "outright.go:138", after := #[{ on := 3, ground := Ground.guard }], guard := some (3, true) }) (v := undef) rfl (by kernel_rfl) (by kernel_rfl) (by kernel_rfl) (fun _ _ _ h => h) (Or.inr ⟨by rfl, rfl⟩) (by assumption) ?_
            simp only [Act.put, List.setIfInBounds_toArray, List.set_cons_succ, List.set_cons_zero]
            refine wpAnyH_take (i := 8) (oi := { dst := some 49, op := Op.indexAddr 36 (Operand.tmp 47) (Operand.tmp 48), type := 0, pos := "outright.go:138", after := #[{ on := 6, ground := Ground.data }, { on := 7, ground := Ground.data }, { on := 3, ground := Ground.guard }], guard := some (3, true) }) (v := undef) rfl (by kernel_rfl) (by kernel_rfl) (by kernel_rfl) (fun _ _ _ h => h) (Or.inr ⟨by rfl, rfl⟩) (by assumption) ?_
            simp only [Act.put, List.setIfInBounds_toArray, List.set_cons_succ, List.set_cons_zero]
            refine wpAnyH_take (i := 9) (oi := { dst := some 50, op := Op.load 38 (Operand.tmp 49), type := 38, pos := "outright.go:138", after := #[{ on := 8, ground := Ground.data }, { on := 3, ground := Ground.guard }], guard := some (3, true) }) (v := undef) rfl (by kernel_rfl) (by kernel_rfl) (by kernel_rfl) (fun _ _ _ h => h) (Or.inr ⟨by rfl, rfl⟩) (by assumption) ?_
            simp only [Act.put, List.setIfInBounds_toArray, List.set_cons_succ, List.set_cons_zero]
            refine wpAnyH_take (i := 10) (oi := { dst := some 51, op := Op.fieldAddr 38 (Operand.tmp 3) 4, type := 0, pos := "outright.go:138", after := #[{ on := 3, ground := Ground.guard }], guard := some (3, true) }) (v := undef) rfl (by kernel_rfl) (by kernel_rfl) (by kernel_rfl) (fun _ _ _ h => h) (Or.inr ⟨by rfl, rfl⟩) (by assumption) ?_
            simp only [Act.put, List.setIfInBounds_toArray, List.set_cons_succ, List.set_cons_zero]
            refine wpAnyH_take (i := 11) (oi := { dst := some 52, op := Op.load 35 (Operand.tmp 51), type := 35, pos := "outright.go:138", after := #[{ on := 10, ground := Ground.data }, { on := 3, ground := Ground.guard }], guard := some (3, true) }) (v := undef) rfl (by kernel_rfl) (by kernel_rfl) (by kernel_rfl) (fun _ _ _ h => h) (Or.inr ⟨by rfl, rfl⟩) (by assumption) ?_
            simp only [Act.put, List.setIfInBounds_toArray, List.set_cons_succ, List.set_cons_zero]
            refine wpAnyH_take (i := 12) (oi := { dst := some 53, op := Op.move (Operand.tmp 4), type := 3, pos := "outright.go:138", after := #[{ on := 3, ground := Ground.guard }], guard := some (3, true) }) (v := undef) rfl (by kernel_rfl) (by kernel_rfl) (by kernel_rfl) (fun _ _ _ h => h) (Or.inr ⟨by rfl, rfl⟩) (by assumption) ?_
            simp only [Act.put, List.setIfInBounds_toArray, List.set_cons_succ, List.set_cons_zero]
            refine wpAnyH_take (i := 13) (oi := { dst := some 54, op := Op.indexAddr 35 (Operand.tmp 52) (Operand.tmp 53), type := 0, pos := "outright.go:138", after := #[{ on := 11, ground := Ground.data }, { on := 12, ground := Ground.data }, { on := 3, ground := Ground.guard }], guard := some (3, true) }) (v := undef) rfl (by kernel_rfl) (by kernel_rfl) (by kernel_rfl) (fun _ _ _ h => h) (Or.inr ⟨by rfl, rfl⟩) (by assumption) ?_
            simp only [Act.put, List.setIfInBounds_toArray, List.set_cons_succ, List.set_cons_zero]
            refine wpAnyH_take (i := 14) (oi := { dst := some 55, op := Op.load 9 (Operand.tmp 54), type := 9, pos := "outright.go:138", after := #[{ on := 13, ground := Ground.data }, { on := 3, ground := Ground.guard }], guard := some (3, true) }) (v := undef) rfl (by kernel_rfl) (by kernel_rfl) (by kernel_rfl) (fun _ _ _ h => h) (Or.inr ⟨by rfl, rfl⟩) (by assumption) ?_
            simp only [Act.put, List.setIfInBounds_toArray, List.set_cons_succ, List.set_cons_zero]
            refine wpAnyH_take (i := 15) (oi := { dst := some 56, op := Op.call { callee := Callee.value (Operand.func 33), args := #[Operand.tmp 55], argTypes := #[9] }, type := 51, pos := "outright.go:138", after := #[{ on := 14, ground := Ground.data }, { on := 3, ground := Ground.chain }, { on := 3, ground := Ground.guard }], guard := some (3, true) }) (v := undef) rfl (by kernel_rfl) (by kernel_rfl) (by kernel_rfl) (fun _ _ _ h => h) (Or.inr ⟨by rfl, rfl⟩) (by assumption) ?_
            simp only [Act.put, List.setIfInBounds_toArray, List.set_cons_succ, List.set_cons_zero]
            refine wpAnyH_take (i := 16) (oi := { dst := some 57, op := Op.buildSlice 22 1 #[(0, Operand.tmp 56)], type := 22, pos := "outright.go:138", after := #[{ on := 15, ground := Ground.data }, { on := 3, ground := Ground.guard }], guard := some (3, true) }) (v := undef) rfl (by kernel_rfl) (by kernel_rfl) (by kernel_rfl) (fun _ _ _ h => h) (Or.inr ⟨by rfl, rfl⟩) (by assumption) ?_
            simp only [Act.put, List.setIfInBounds_toArray, List.set_cons_succ, List.set_cons_zero]
            refine wpAnyH_take (i := 17) (oi := { dst := some 58, op := Op.call { callee := Callee.value (Operand.func 32), args := #[Operand.tmp 45, Operand.tmp 50, Operand.const (Value.int IntKind.i64 0), Operand.tmp 57], argTypes := #[38, 38, 24, 22] }, type := 4, pos := "outright.go:138", after := #[{ on := 4, ground := Ground.data }, { on := 9, ground := Ground.data }, { on := 16, ground := Ground.data }, { on := 15, ground := Ground.chain }, { on := 3, ground := Ground.guard }], guard := some (3, true) }) (v := undef) rfl (by kernel_rfl) (by kernel_rfl) (by kernel_rfl) (fun _ _ _ h => h) (Or.inr ⟨by rfl, rfl⟩) (by assumption) ?_
            simp only [Act.put, List.setIfInBounds_toArray, List.set_cons_succ, List.set_cons_zero]
            refine wpAnyH_take (i := 18) (oi := { dst := some 59, op := Op.unOp UnOp.not 4 (Operand.tmp 58), type := 4, pos := "outright.go:138", after := #[{ on := 17, ground := Ground.data }, { on := 3, ground := Ground.guard }], guard := some (3, true) }) (v := undef) rfl (by kernel_rfl) (by kernel_rfl) (by kernel_rfl) (fun _ _ _ h => h) (Or.inr ⟨by rfl, rfl⟩) (by assumption) ?_
            simp only [Act.put, List.setIfInBounds_toArray, List.set_cons_succ, List.set_cons_zero]
            refine wpAnyH_take (i := 19) (oi := { dst := some 60, op := Op.pick (Operand.tmp 44) (Operand.tmp 59) (Operand.const (Value.bool false)), type := 4, pos := "outright.go:138", after := #[{ on := 3, ground := Ground.data }, { on := 18, ground := Ground.data }], guard := none }) (v := ?vy19) rfl (by kernel_rfl) (by kernel_rfl) (by kernel_rfl) (fun _ _ _ h => h) (Or.inl ⟨by rfl, ?hyy19⟩) (by assumption) ?ry19
            case hyy19 =>
              intro wq hSw
              (try dsimp only at hSw)
              go_split_ands
              go_simp <;> with_reducible rfl
            simp only [Act.put, List.setIfInBounds_toArray, List.set_cons_succ, List.set_cons_zero]
            refine wpAnyH_take (i := 20) (oi := { dst := some 61, op := Op.move (Operand.tmp 60), type := 4, pos := "outright.go:138", after := #[{ on := 19, ground := Ground.data }, { on := 17, ground := Ground.chain }], guard := none }) (v := ?vy20) rfl (by kernel_rfl) (by kernel_rfl) (by kernel_rfl) (fun _ _ _ h => h) (Or.inl ⟨by rfl, ?hyy20⟩) (by assumption) ?ry20
            case hyy20 =>
              intro wq hSw
              (try dsimp only at hSw)
              go_split_ands
              go_simp <;> with_reducible rfl
            simp only [Act.put, List.setIfInBounds_toArray, List.set_cons_succ, List.set_cons_zero]
            refine wpAnyH_take (i := 21) (oi := { dst := some 62, op := Op.fieldAddr 38 (Operand.tmp 3) 0, type := 0, pos := "outright.go:138", after := #[{ on := 20, ground := Ground.guard }], guard := some (20, false) }) (v := ?vy21) rfl (by kernel_rfl) (by kernel_rfl) (by kernel_rfl) (fun _ _ _ h => h) (Or.inl ⟨by rfl, ?hyy21⟩) (by assumption) ?ry21
            case hyy21 =>
              intro wq hSw
              (try dsimp only at hSw)
              go_split_ands
              go_simp <;> with_reducible rfl
            simp only [Act.put, List.setIfInBounds_toArray, List.set_cons_succ, List.set_cons_zero]
            refine wpAnyH_take (i := 22) (oi := { dst := some 63, op := Op.load 3 (Operand.tmp 62), type := 3, pos := "outright.go:138", after := #[{ on := 21, ground := Ground.data }, { on := 20, ground := Ground.guard }], guard := some (20, false) }) (v := ?vy22) rfl (by kernel_rfl) (by kernel_rfl) (by kernel_rfl) (fun _ _ _ h => h) (Or.inl ⟨by rfl, ?hyy22⟩) (by assumption) ?ry22
            case hyy22 =>
              intro wq hSw
              (try dsimp only at hSw)
              go_split_ands
              go_simp <;> with_reducible rfl
            simp only [Act.put, List.setIfInBounds_toArray, List.set_cons_succ, List.set_cons_zero]
            refine wpAnyH_take (i := 23) (oi := { dst := some 64, op := Op.binOp BinOp.neq 3 (Operand.tmp 63) (Operand.const (Value.int IntKind.i64 17)) 3, type := 4, pos := "outright.go:138", after := #[{ on := 22, ground := Ground.data }, { on := 20, ground := Ground.guard }], guard := some (20, false) }) (v := ?vy23) rfl (by kernel_rfl) (by kernel_rfl) (by kernel_rfl) (fun _ _ _ h => h) (Or.inl ⟨by rfl, ?hyy23⟩) (by assumption) ?ry23
            case hyy23 =>
              intro wq hSw
              (try dsimp only at hSw)
              go_split_ands
              go_simp <;> with_reducible rfl
            simp only [Act.put, List.setIfInBounds_toArray, List.set_cons_succ, List.set_cons_zero]
            refine wpAnyH_take (i := 24) (oi := { dst := some 65, op := Op.move (Operand.tmp 64), type := 4, pos := "outright.go:138", after := #[{ on := 23, ground := Ground.data }, { on := 20, ground := Ground.chain }, { on := 20, ground := Ground.guard }], guard := some (20, false) }) (v := ?vy24) rfl (by kernel_rfl) (by kernel_rfl) (by kernel_rfl) (fun _ _ _ h => h) (Or.inl ⟨by rfl, ?hyy24⟩) (by assumption) ?ry24
            case hyy24 =>
              intro wq hSw
              (try dsimp only at hSw)
              go_split_ands
              go_simp <;> with_reducible rfl
            simp only [Act.put, List.setIfInBounds_toArray, List.set_cons_succ, List.set_cons_zero]
            refine wpAnyH_take (i := 25) (oi := { dst := some 66, op := Op.load 38 (Operand.tmp 3), type := 38, pos := "outright.go:138", after := #[{ on := 24, ground := Ground.guard }], guard := some (24, true) }) (v := ?vy25) rfl (by kernel_rfl) (by kernel_rfl) (by kernel_rfl) (fun _ _ _ h => h) (Or.inl ⟨by rfl, ?hyy25⟩) (by assumption) ?ry25
            case hyy25 =>
              intro wq hSw
              (try dsimp only at hSw)
              go_split_ands
              go_simp <;> with_reducible rfl
            simp only [Act.put, List.setIfInBounds_toArray, List.set_cons_succ, List.set_cons_zero]
            refine wpAnyH_take (i := 26) (oi := { dst := some 67, op := Op.build 38 #[], type := 38, pos := "outright.go:138", after := #[{ on := 24, ground := Ground.guard }], guard := some (24, true) }) (v := ?vy26) rfl (by kernel_rfl) (by kernel_rfl) (by kernel_rfl) (fun _ _ _ h => h) (Or.inl ⟨by rfl, ?hyy26⟩) (by assumption) ?ry26
            case hyy26 =>
              intro wq hSw
              (try dsimp only at hSw)
              go_split_ands
              go_simp <;> with_reducible rfl
            simp only [Act.put, List.setIfInBounds_toArray, List.set_cons_succ, List.set_cons_zero]
            refine wpAnyH_ready (rs := [27]) (by kernel_rfl) (by simp) ?_
            refine AllReadyH.cons (o := { dst := some 68, op := Op.call { callee := Callee.value (Operand.func 33), args := #[Operand.const (Value.string { data := #[] })], argTypes := #[9] }, type := 51, pos := "outright.go:138", after := #[{ on := 24, ground := Ground.chain }, { on := 24, ground := Ground.guard }], guard := some (24, true) }) rfl (fun K hK => ?_) (AllReadyH.nil)
            replace hK := Lib.hid hK
            go_simp
            go_at_call 33
            (with_reducible refine (HBY.out ⟨#[]⟩ _).mono ?_)
            rintro e w6 ⟨rfl, HB6⟩
            have HX6 : Hid (Below wx.heap.size wx w6) := Lib.hid (tr HX5d.out HB6.out)
            have HA6 : Hid (AP wx [stK ⟨#[]⟩] (.slice (some ⟨w6.heap.size, 0, none⟩) 1 1) (w6.alloc (.cells #[.string ⟨#[]⟩, .int .i64 0, .bool true] 51))) := Lib.hid (AP.lit HX6.out (stK ⟨#[]⟩))
            have HK6 := Lib.hid HA6.out.1
            have HR6 := Lib.hid (HA6.out.rdp HOKK.out)
            refine hK.out _ _ (hall10 _ HX6) (fun hHeldya => ?_)
            try simp only [Act.put, List.setIfInBounds_toArray, List.set_cons_succ, List.set_cons_zero]
            refine wpAnyH_ready (rs := [28]) (by kernel_rfl) (by simp) ?_
            refine AllReadyH.cons (o := { dst := some 69, op := Op.buildSlice 22 1 #[(0, Operand.tmp 68)], type := 22, pos := "outright.go:138", after := #[{ on := 27, ground := Ground.data }, { on := 24, ground := Ground.guard }], guard := some (24, true) }) rfl (fun K hK => ?_) (AllReadyH.nil)
            replace hK := Lib.hid hK
            go_simp
            refine hK.out _ _ (hall10 _ HK6) (fun hHeldyb => ?_)
            try simp only [Act.put, List.setIfInBounds_toArray, List.set_cons_succ, List.set_cons_zero]
            refine wpAnyH_ready (rs := [29]) (by kernel_rfl) (by simp) ?_
            refine AllReadyH.cons (o := { dst := some 70, op := Op.call { callee := Callee.value (Operand.func 32), args := #[Operand.tmp 66, Operand.tmp 67, Operand.const (Value.int IntKind.i64 80), Operand.tmp 69], argTypes := #[38, 38, 24, 22] }, type := 4, pos := "outright.go:138", after := #[{ on := 25, ground := Ground.data }, { on := 26, ground := Ground.data }, { on := 28, ground := Ground.data }, { on := 27, ground := Ground.chain }, { on := 24, ground := Ground.guard }], guard := some (24, true) }) rfl (fun K hK => ?_) (AllReadyH.nil)
            replace hK := Lib.hid hK
            go_simp
            go_at_call 32
            (with_reducible refine (HLK.out _ _ HK6 HR6).mono ?_)
            rintro e w7 ⟨rfl, HB7⟩
            have HX7 := Lib.hid (tr HK6.out HB7.out)
            refine hK.out _ _ (hall10 _ HX7) (fun hHeldyc => ?_)
            try simp only [Act.put, List.setIfInBounds_toArray, List.set_cons_succ, List.set_cons_zero]
            refine wpAnyH_take (i := 30) (oi := { dst := some 71, op := Op.unOp UnOp.not 4 (Operand.tmp 70), type := 4, pos := "outright.go:138", after := #[{ on := 29, ground := Ground.data }, { on := 24, ground := Ground.guard }], guard := some (24, true) }) (v := ?vy30) rfl (by kernel_rfl) (by kernel_rfl) (by kernel_rfl) (fun _ _ _ h => h) (Or.inl ⟨by rfl, ?hyy30⟩) (by assumption) ?ry30
            case hyy30 =>
              intro wq hSw
              (try dsimp only at hSw)
              go_split_ands
              go_simp <;> with_reducible rfl
            simp only [Act.put, List.setIfInBounds_toArray, List.set_cons_succ, List.set_cons_zero]
            refine wpAnyH_take (i := 31) (oi := { dst := some 72, op := Op.pick (Operand.tmp 65) (Operand.tmp 71) (Operand.const (Value.bool false)), type := 4, pos := "outright.go:138", after := #[{ on := 24, ground := Ground.data }, { on := 30, ground := Ground.data }, { on := 20, ground := Ground.guard }], guard := some (20, false) }) (v := ?vy31) rfl (by kernel_rfl) (by kernel_rfl) (by kernel_rfl) (fun _ _ _ h => h) (Or.inl ⟨by rfl, ?hyy31⟩) (by assumption) ?ry31
            case hyy31 =>
              intro wq hSw
              (try dsimp only at hSw)
              go_split_ands
              go_simp <;> with_reducible rfl
            simp only [Act.put, List.setIfInBounds_toArray, List.set_cons_succ, List.set_cons_zero]
            refine wpAnyH_take (i := 32) (oi := { dst := some 73, op := Op.pick (Operand.tmp 61) (Operand.const (Value.bool true)) (Operand.tmp 72), type := 4, pos := "outright.go:138", after := #[{ on := 20, ground := Ground.data }, { on := 31, ground := Ground.data }], guard := none }) (v := ?vy32) rfl (by kernel_rfl) (by kernel_rfl) (by kernel_rfl) (fun _ _ _ h => h) (Or.inl ⟨by rfl, ?hyy32⟩) (by assumption) ?ry32
            case hyy32 =>
              intro wq hSw
              (try dsimp only at hSw)
              go_split_ands
              go_simp <;> with_reducible rfl
            simp only [Act.put, List.setIfInBounds_toArray, List.set_cons_succ, List.set_cons_zero]
            refine wpAnyH_done (by kernel_rfl) ?_ _
            go_wp2_with fail
            go_meet
            exact Lib.hid ⟨rfl, HX7⟩
        case rest =>
          obtain ⟨wz, hwz⟩ : ∃ wz, wz = wc := ⟨_, rfl⟩
          subst hwz
          obtain ⟨rfl, HXZ⟩ := hcut.out
          clear hcut HX5d HX5 HB5
          have hbx5 : ∀ W, Hid (Below wx.heap.size wx W) → Bd W p5 c (.int .i64 ka5) (.int .i64 na5) (.int .u64 ua5) (.string sa5) (.slice EA5 qa5 fa5) (.slice GA5 c.l.length ha5) := fun W H => HDX.out.below H.out
          obtain ⟨y0, y1, y2, y3, y4, y5⟩ := Bx.all (hbx5 wz HXZ).1
          go_wp2
          go_loopw [7] (fun i w2 => ∃ k : Nat, k ≤ c.l.length ∧ i = .int .i64 (k : Int) ∧ Hid (Below wx.heap.size wx w2)) (fun i _ => c.l.length - (RowKit.intOf i).toNat)
          case atStart => exact ⟨0, Nat.zero_le _, rfl, HXZ⟩
          case round =>
            obtain ⟨k, hk, rfl, HR2⟩ := hrel
            clear y0 y1 y2 y3 y4 y5
            by_cases hkl : k < c.l.length
            · obtain ⟨d, hd⟩ : ∃ d, c.l[k]? = some d := ⟨_, List.getElem?_eq_getElem hkl⟩
              obtain ⟨b6, o6, q6, e6, hb6, u0, u1, u2, u3, u4, u5, h6, hnd⟩ := HDX.out.2.kid (Below.refl _ _) hd
              injection e6 with e61 e62 e63
              subst e61 e63
              clear e62
              obtain ⟨ka9, na9, ua9, sa9, EA9, qa9, fa9, GA9, ra9, ha9, g0, g1, g2, g3, g4, g5⟩ := hnd.shape6
              subst g0 g1 g2 g3 g4 g5
              have hkl2 : c.l.length ≤ 80 := kids_len HQC.out.1
              have HL2 : Hid (∀ W v, Hid (Below wx.heap.size wx W) → Hid (RdP W v [stA j, stA k]) → Calls Tryz.prog 32 #[.agg #[.int .i64 tk, .int .i64 tn, .int .u64 tu, .string ts, .slice KA tks.length Kc, .slice (some ⟨b9, o9, none⟩) tl.length Lc], .agg #[.int .i64 ka9, .int .i64 na9, .int .u64 ua9, .string sa9, .slice EA9 qa9 fa9, .slice GA9 ra9 ha9], .int .i64 0, v] W fun e w' => e = .returned (.bool true) ∧ Hid (Below W.heap.size W w')) := Lib.hid fun W v H h => leads_S HL.out (.mk tk tn tu ts tks tl) d _ _ 0 v [stA j, stA k] (getR_at2 (t := .mk tk tn tu ts tks tl) HCJ.out hd) W (tr HBW.out (HCX.out W H).out) (HIN.out W (HCX.out W H)).2 (hnd.bel H.out) h.out (by have := HQ1.out.1; omega) HQ1.out.2 (by simp)
              have HOK2 : Hid (∀ s ∈ [stA j, stA k], okR s) := Lib.hid fun s hs => by
                rcases List.mem_cons.1 hs with rfl | hs
                · exact okR_at (by omega)
                · rw [List.mem_singleton.1 hs]; exact okR_at (by omega)
              have hall15 : ∀ W, Hid (Below wx.heap.size wx W) → Hid (Below wx.heap.size wx W) ∧ (W.cell? ⟨bi, 0, none⟩ = some (.int .i64 tk) ∧ W.cell? ⟨bi, 1, none⟩ = some (.int .i64 tn) ∧ W.cell? ⟨bi, 2, none⟩ = some (.int .u64 tu) ∧ W.cell? ⟨bi, 3, none⟩ = some (.string ts) ∧ W.cell? ⟨bi, 4, none⟩ = some (.slice KA tks.length Kc) ∧ W.cell? ⟨bi, 5, none⟩ = some (.slice (some ⟨b9, o9, none⟩) tl.length Lc)) ∧ W.cell? ⟨p5, 5, none⟩ = some (.slice (some ⟨b6, o6, none⟩) c.l.length ha5) ∧ W.cell? ⟨b6, o6 + k * 6, none⟩ = some (.int .i64 ka9) ∧ W.cell? ⟨b6, o6 + k * 6 + 1, none⟩ = some (.int .i64 na9) ∧ W.cell? ⟨b6, o6 + k * 6 + 2, none⟩ = some (.int .u64 ua9) ∧ W.cell? ⟨b6, o6 + k * 6 + 3, none⟩ = some (.string sa9) ∧ W.cell? ⟨b6, o6 + k * 6 + 4, none⟩ = some (.slice EA9 qa9 fa9) ∧ W.cell? ⟨b6, o6 + k * 6 + 5, none⟩ = some (.slice GA9 ra9 ha9) := fun W H => ⟨H, Bx.all (HIN.out W (HCX.out W H)).1, (Bx.all (hbx5 W H).1).2.2.2.2.2, h6.below H.out hb6⟩
              have hc515 : ∀ (W : World) (ob : Obj), Hid (Below wx.heap.size wx W) → Hid (Below wx.heap.size wx (W.alloc ob)) ∧ ((W.alloc ob).cell? ⟨bi, 0, none⟩ = some (.int .i64 tk) ∧ (W.alloc ob).cell? ⟨bi, 1, none⟩ = some (.int .i64 tn) ∧ (W.alloc ob).cell? ⟨bi, 2, none⟩ = some (.int .u64 tu) ∧ (W.alloc ob).cell? ⟨bi, 3, none⟩ = some (.string ts) ∧ (W.alloc ob).cell? ⟨bi, 4, none⟩ = some (.slice KA tks.length Kc) ∧ (W.alloc ob).cell? ⟨bi, 5, none⟩ = some (.slice (some ⟨b9, o9, none⟩) tl.length Lc)) ∧ (W.alloc ob).cell? ⟨p5, 5, none⟩ = some (.slice (some ⟨b6, o6, none⟩) c.l.length ha5) ∧ (W.alloc ob).cell? ⟨b6, o6 + k * 6, none⟩ = some (.int .i64 ka9) ∧ (W.alloc ob).cell? ⟨b6, o6 + k * 6 + 1, none⟩ = some (.int .i64 na9) ∧ (W.alloc ob).cell? ⟨b6, o6 + k * 6 + 2, none⟩ = some (.int .u64 ua9) ∧ (W.alloc ob).cell? ⟨b6, o6 + k * 6 + 3, none⟩ = some (.string sa9) ∧ (W.alloc ob).cell? ⟨b6, o6 + k * 6 + 4, none⟩ = some (.slice EA9 qa9 fa9) ∧ (W.alloc ob).cell? ⟨b6, o6 + k * 6 + 5, none⟩ = some (.slice GA9 ra9 ha9) := fun W ob H => hall15 _ (Lib.hid (tr H.out (al0 W ob)))
              have HR2d : Hid (Below wx.heap.size wx wr.drew) := Lib.hid HR2.out.drew
              have hk1 : (0 : Int) ≤ (k : Int) := by omega
              have hk2 : (k : Int) < (c.l.length : Int) := by omega
              obtain ⟨_, ⟨z0, z1, z2, z3, z4, z5⟩, y5, v0, v1, v2, v3, v4, v5⟩ := hall15 _ HR2
              clear hnd hd h6
              go_upto_region 15 with fail
              go_region_held3 (fun W => Hid (Below wx.heap.size wx W) ∧ (W.cell? ⟨bi, 0, none⟩ = some (.int .i64 tk) ∧ W.cell? ⟨bi, 1, none⟩ = some (.int .i64 tn) ∧ W.cell? ⟨bi, 2, none⟩ = some (.int .u64 tu) ∧ W.cell? ⟨bi, 3, none⟩ = some (.string ts) ∧ W.cell? ⟨bi, 4, none⟩ = some (.slice KA tks.length Kc) ∧ W.cell? ⟨bi, 5, none⟩ = some (.slice (some ⟨b9, o9, none⟩) tl.length Lc)) ∧ W.cell? ⟨p5, 5, none⟩ = some (.slice (some ⟨b6, o6, none⟩) c.l.length ha5) ∧ W.cell? ⟨b6, o6 + k * 6, none⟩ = some (.int .i64 ka9) ∧ W.cell? ⟨b6, o6 + k * 6 + 1, none⟩ = some (.int .i64 na9) ∧ W.cell? ⟨b6, o6 + k * 6 + 2, none⟩ = some (.int .u64 ua9) ∧ W.cell? ⟨b6, o6 + k * 6 + 3, none⟩ = some (.string sa9) ∧ W.cell? ⟨b6, o6 + k * 6 + 4, none⟩ = some (.slice EA9 qa9 fa9) ∧ W.cell? ⟨b6, o6 + k * 6 + 5, none⟩ = some (.slice GA9 ra9 ha9)) (first | (with_reducible exact hall15 _ (by assumption)) | (with_reducible exact hall15 _ HR2d) | (with_reducible exact hc515 _ _ (by assumption)))
                (first
                  | (go_at_call 31; (with_reducible refine (HAT.out j _).mono ?_); rintro e w8 ⟨rfl, HB8⟩; have HX8 : Hid (Below wx.heap.size wx w8) := (by first | exact Lib.hid (tr HR2d.out HB8.out) | exact Lib.hid (tr HR2.out HB8.out)))
                  | (go_at_call 31; (with_reducible refine (HAT.out k _).mono ?_); rintro e w9 ⟨rfl, HB9⟩; have HX9 := Lib.hid (tr HX8.out HB9.out); have HA9 : Hid (AP wx [stA j, stA k] (.slice (some ⟨w9.heap.size, 0, none⟩) 2 2) (w9.alloc (.cells #[.string ⟨#[]⟩, .int .i64 (j : Int), .bool false, .string ⟨#[]⟩, .int .i64 (k : Int), .bool false] 51))) := Lib.hid (AP.lit2 HX9.out (stA j) (stA k)); have HK9 := Lib.hid HA9.out.1; have HR9 := Lib.hid (HA9.out.rdp HOK2.out))
                  | (go_at_call 32; (with_reducible refine (HL2.out _ _ HK9 HR9).mono ?_); rintro e w10 ⟨rfl, HB10⟩; have HX10 := Lib.hid (tr HK9.out HB10.out)))
              all_goals
                go_wp2_with fail
                go_roundw
                case rel => exact ⟨k + 1, by omega, by simp, HX10⟩
                case measure => simp [RowKit.intOf]; omega
            · obtain ⟨y0, y1, y2, y3, y4, y5⟩ := Bx.all (hbx5 _ HR2).1
              go_wp2_with fail
              exact ⟨⟨j + 1, by omega, by simp, HCX.out _ HR2⟩, by simp [RowKit.intOf]; omega⟩
    · obtain rfl : j = tl.length := by omega
      have HLL : Hid (∀ W v, Hid (Below wC.heap.size wC W) → Hid (RdP W v [stA tl.length]) → Calls Tryz.prog 32 #[.agg #[.int .i64 tk, .int .i64 tn, .int .u64 tu, .string ts, .slice KA tks.length Kc, .slice LA tl.length Lc], .agg #[.int .i64 0, .int .i64 0, .int .u64 0, .string ⟨#[]⟩, .slice none 0 0, .slice none 0 0], .int .i64 80, v] W fun e w' => e = .returned (.bool true) ∧ Hid (Below W.heap.size W w')) := Lib.hid fun W v H h => leads_S HL.out (.mk tk tn tu ts tks tl) T0 _ _ 80 v [stA tl.length] (getR_end (.mk tk tn tu ts tks tl)) W (tr HBW.out H.out) (HIN.out W H).2 (NdO.nd _ _ (ndo_zero (fun _ => True) W)) h.out (by have := HQ1.out.1; omega) HQ1.out.2 (by simp)
      have HOKL : Hid (∀ s ∈ [stA tl.length], okR s) := Lib.hid fun s hs => by rw [List.mem_singleton.1 hs]; exact okR_at (by omega)
      have hall17 : ∀ W, Hid (Below wC.heap.size wC W) → Hid (Below wC.heap.size wC W) ∧ W.cell? ⟨bi, 0, none⟩ = some (.int .i64 tk) ∧ W.cell? ⟨bi, 1, none⟩ = some (.int .i64 tn) ∧ W.cell? ⟨bi, 2, none⟩ = some (.int .u64 tu) ∧ W.cell? ⟨bi, 3, none⟩ = some (.string ts) ∧ W.cell? ⟨bi, 4, none⟩ = some (.slice KA tks.length Kc) ∧ W.cell? ⟨bi, 5, none⟩ = some (.slice LA tl.length Lc) := fun W H => ⟨H, Bx.all (HIN.out W H).1⟩
      have hc517 : ∀ (W : World) (ob : Obj), Hid (Below wC.heap.size wC W) → Hid (Below wC.heap.size wC (W.alloc ob)) ∧ (W.alloc ob).cell? ⟨bi, 0, none⟩ = some (.int .i64 tk) ∧ (W.alloc ob).cell? ⟨bi, 1, none⟩ = some (.int .i64 tn) ∧ (W.alloc ob).cell? ⟨bi, 2, none⟩ = some (.int .u64 tu) ∧ (W.alloc ob).cell? ⟨bi, 3, none⟩ = some (.string ts) ∧ (W.alloc ob).cell? ⟨bi, 4, none⟩ = some (.slice KA tks.length Kc) ∧ (W.alloc ob).cell? ⟨bi, 5, none⟩ = some (.slice LA tl.length Lc) := fun W ob H => hall17 _ (Lib.hid (tr H.out (al0 W ob)))
      have HRd : Hid (Below wC.heap.size wC wr.drew) := Lib.hid HR.out.drew
      go_upto_region 17 with fail
      go_region_held3 (fun W => Hid (Below wC.heap.size wC W) ∧ W.cell? ⟨bi, 0, none⟩ = some (.int .i64 tk) ∧ W.cell? ⟨bi, 1, none⟩ = some (.int .i64 tn) ∧ W.cell? ⟨bi, 2, none⟩ = some (.int .u64 tu) ∧ W.cell? ⟨bi, 3, none⟩ = some (.string ts) ∧ W.cell? ⟨bi, 4, none⟩ = some (.slice KA tks.length Kc) ∧ W.cell? ⟨bi, 5, none⟩ = some (.slice LA tl.length Lc)) (first | (with_reducible exact hall17 _ (by assumption)) | (with_reducible exact hall17 _ HRd) | (with_reducible exact hc517 _ _ (by assumption)))
        (first
          | (go_at_call 31; (with_reducible refine (HAT.out tl.length _).mono ?_); rintro e w3 ⟨rfl, HB3⟩; have HBB3 : Hid (Below wC.heap.size wC w3) := (by first | exact Lib.hid (tr HRd.out HB3.out) | exact Lib.hid (tr HR.out HB3.out)); have HA3 : Hid (AP wC [stA tl.length] (.slice (some ⟨w3.heap.size, 0, none⟩) 1 1) (w3.alloc (.cells #[.string ⟨#[]⟩, .int .i64 (tl.length : Int), .bool false] 51))) := Lib.hid (AP.lit HBB3.out (stA tl.length)); have HK3 := Lib.hid HA3.out.1; have HR3 := Lib.hid (HA3.out.rdp HOKL.out))
          | (go_at_call 32; (with_reducible refine (HLL.out _ _ HK3 HR3).mono ?_); rintro e w4 ⟨rfl, HB4⟩; have HBB4 := Lib.hid (tr HK3.out HB4.out))
          | (go_at_call 17; (with_reducible refine (HWKC.out _ HBB4).mono ?_); rintro e w5 ⟨rfl, HB5⟩; have HBB5 := Lib.hid (tr HBB4.out HB5.out)))
      all_goals
        go_wp2_with fail
        go_ret
        exact ⟨rfl, tr HBW.out HBB5.out⟩
end Go.Proofs.YtjnfilbdokppiaaGreatDoor
