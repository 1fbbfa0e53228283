/-
  What is proved here: FitMore returns true; conditions: the contracts of fit.One and fit.All, the table of package tag, and arguments that the form reads.
-/
import Derived.Test.YtaeboneddndfkaaDoorFJoW
namespace Go.Proofs.YtaeboneddndfkaaDoor
open Go.RowKit Tg

section
variable {w0 W W' : World} {v : Value} {xs : List V3}
theorem WL.grown (H : WL w0 W) (ho : OV W w0.heap.size v xs) (hg : W.grownBy W' v.ownBlock) (hp : 1 ≤ w0.heap.size) : WL w0 W' := by
  have hb : Below w0.heap.size W W' := (Below.refl _ _).grown hg H.2.size fun k hk => (ho.bd k hk).1
  exact ⟨H.1.below hp hb, H.2.trans hb⟩
end
/-- The two lists, between two calls. -/
structure FM (W1 : World) (A : Option Addr) (N c : Nat) (ls : List V3) (u : Value) (zs : List V3) (W : World) : Prop where
  wl : WL W1 W
  rs : Rs W A N c ls
  ov : OV W W1.heap.size u zs
theorem FM.keep {W1 W W' : World} {A : Option Addr} {N c : Nat} {ls zs : List V3} {u : Value} (H : FM W1 A N c ls u zs W) (hb : Below W.heap.size W W') : FM W1 A N c ls u zs W' := ⟨H.wl.keep hb, H.rs.below hb, H.ov.below hb⟩
set_option maxRecDepth 20000 in
set_option maxHeartbeats 1000000 in
theorem fitMore_walk (H1 : OneOK) (H2 : AllOK) (A0 : Option Addr) (n0 c0 : Nat) (l : List Int) (A1 : Option Addr) (n1 c1 : Nat) (m : List Int) (p0 p1 : Int) (w : World) (hm0 : n0 ≤ 9223372036854775807) (hm1 : n1 ≤ 9223372036854775807) (hl : RsI w A0 n0 l) (hl1 : RsI w A1 n1 m)
    (ba : -9223372036854775808 ≤ p0 ∧ p0 ≤ 9223372036854775807) (bw : -9223372036854775808 ≤ p1 ∧ p1 ≤ 9223372036854775807) (hT : Tab w) :
    Calls Tryd.prog 8 #[.slice A0 n0 c0, .slice A1 n1 c1, .agg #[.int .i64 p0, .int .i64 p1]] w fun e w' => e = .returned (.bool true) ∧ Below w.heap.size w w' := by
  have HS := Lib.hid (WL.start hT)
  have HPS := Lib.hid hT.1
  have HBA : Hid (∀ W, Calls Tryd.prog 17 #[.int .i64 p0, .int .i64 70000] W fun e w' => e = .returned (.int .i64 (p0 % 70000)) ∧ W = w') := Lib.hid fun W => bring_any p0 _ W ba.1 ba.2 (by omega) (by omega)
  obtain ⟨a, ha⟩ : ∃ a, p0 % 70000 = a := ⟨_, rfl⟩
  have ea : 0 ≤ a ∧ a ≤ 70000 := by have := mod_b p0 (n := 70000) (by omega); omega
  have HBW : Hid (∀ W, Calls Tryd.prog 17 #[.int .i64 p1, .int .i64 3] W fun e w' => e = .returned (.int .i64 (p1 % 3)) ∧ W = w') := Lib.hid fun W => bring_any p1 3 W bw.1 bw.2 (by omega) (by omega)
  obtain ⟨q, hq⟩ : ∃ q, p1 % 3 = q := ⟨_, rfl⟩
  have eq : 0 ≤ q ∧ q ≤ 2 := by have := mod_b p1 (n := 3) (by omega); omega
  rw [ha] at HBA; rw [hq] at HBW
  clear ha hq bw ba
  have HL := Lib.hid hl
  have HM := Lib.hid hl1
  clear hl hl1
  obtain ⟨N, hN⟩ : ∃ N, N = min n0 100 := ⟨_, rfl⟩
  obtain ⟨M, hM⟩ : ∃ M, M = min n1 100 := ⟨_, rfl⟩
  have hN3 : N ≤ 100 := by omega
  have hM3 : M ≤ 100 := by omega
  have hNn : N ≤ n0 := by omega
  have hMn : M ≤ n1 := by omega
  have HNE := Lib.hid hN
  have HME := Lib.hid hM
  clear hN hM
  have hvl : (vals (1 + a) l 100).length = N := by rw [vals_length, HL.out.1]; have := HNE.out; omega
  have hvm : (vals (1 + a) m 100).length = M := by rw [vals_length, HM.out.1]; have := HME.out; omega
  have hokl := vals_ok (a := 1 + a) (l := l) (m := 100) (by omega)
  have hokm := vals_ok (a := 1 + a) (l := m) (m := 100) (by omega)
  have HOKL := Lib.hid hokl
  have HOKM := Lib.hid hokm
  clear hokl hokm
  have HVL := Lib.hid hvl
  have HVM := Lib.hid hvm
  clear hvl hvm
  have HVA : Hid (∀ w0 W x, Hid (WL w0 W) → (-9223372036854775808 ≤ x ∧ x ≤ 9223372036854775807) → Calls Tryd.prog 21 #[.int .i64 x, .int .i64 (1 + a)] W fun e w' => ∃ t wd nn, Hid (valV x (1 + a) = ⟨t, wd, nn⟩) ∧ e = .returned (.agg #[.int .i64 t, .int .i64 wd, .int .u64 nn]) ∧ Hid (WL w0 w') ∧ Hid (Below W.heap.size W w')) := Lib.hid fun w0 W x h bx => by
    refine (value_any x (1 + a) W bx.1 bx.2 (by omega) (by omega)).mono ?_
    rintro e w' ⟨rfl, hb⟩
    obtain ⟨t, wd, nn⟩ := valV x (1 + a)
    exact ⟨t, wd, nn, Lib.hid rfl, rfl, Lib.hid (h.out.keep hb), Lib.hid hb⟩
  have hq3 : q = 0 ∨ q = 1 ∨ q = 2 := by omega
  clear eq
  rcases hq3 with rfl | rfl | rfl
  · go_enter Tryd.func8, Tryd.ntmps8
    go_wp2_with (first
      | (go_at_call 17; (with_reducible refine (HBA.out _).mono ?_); rintro e w1 ⟨rfl, rfl⟩)
      | (go_at_call 17; (with_reducible refine (HBW.out _).mono ?_); rintro e w2 ⟨rfl, rfl⟩))
    have HS0 : Hid (WL w ((w.alloc (.cells #[.int .i64 p0, .int .i64 p1] 28)).alloc (.cells #[.int .i64 0, .int .i64 1, .int .i64 3] 3))) := Lib.hid ((HS.out.keep (al0 _ _)).keep (al0 _ _))
    go_loopw [9, 11] (fun y z wr => ∃ j : Nat, z = .int .i64 j ∧ j ≤ N ∧ Hid (WL w wr) ∧ Hid (OV wr w.heap.size y ((vals (1 + a) l 100).take j))) (fun _ z _ => (N - intOf z).toNat)
    case atStart => exact ⟨0, rfl, by omega, HS0, Lib.hid (OV.nil _ _)⟩
    case round =>
      obtain ⟨j, rfl, hj, HSJ, HOV⟩ := hrel
      clear HS0 HS
      by_cases hjn : j < N
      · have hjl : j < l.length := by rw [HL.out.1]; omega
        obtain ⟨x, hx⟩ : ∃ x, l[j]? = some x := ⟨_, List.getElem?_eq_getElem hjl⟩
        obtain ⟨b, o, rfl, hlt, hc⟩ := HL.out.2.2 (by omega)
        have cx : wr.cell? ⟨b, o + j, none⟩ = some (.int .i64 x) := (HSJ.out.2.cell (p := ⟨b, o + j, none⟩) hlt).trans (hc j x hx)
        have bx := HL.out.2.1 x (List.mem_of_getElem? hx)
        have HVN := Lib.hid (vals_next (a := 1 + a) (m := 100) hx (by omega))
        have hj0 : (0 : Int) ≤ (j : Int) := by omega
        have hj1 : (j : Int) < (n0 : Int) := by omega
        have hj2 : (j : Int) < 100 := by omega
        have hlen : ((vals (1 + a) l 100).take j).length ≤ 300 := by rw [List.length_take]; omega
        have HLN := Lib.hid hlen
        clear hlen hx hc
        go_wp2_with (first
          | (go_at_call 21; (with_reducible refine (HVA.out w _ x HSJ bx).mono ?_); rintro e w6 ⟨t, wd, nn, HV, rfl, HS6, HB6⟩; have HO6 := Lib.hid (HOV.out.below HB6.out))
          | (at_builtin; refine wpList_app (B := w.heap.size) (xs := (vals (1 + a) l 100).take j) (ys := [⟨t, wd, nn⟩]) (v := u9) rfl (.tmp 33) (.tmp 40) rfl rfl rfl (HO6.out.below (al0 _ _)) (Rs.lit1 _ _ _ _) (by have := HLN.out; omega) (by have := HS6.out.2.size; simp; omega) ?_; intro v1 w8 ho1 hg1 hl1
             have HS8 := Lib.hid ((HS6.out.keep (al0 _ _)).grown (HO6.out.below (al0 _ _)) hg1 HPS.out)
             have HO8 : Hid (OV w8 w.heap.size v1 ((vals (1 + a) l 100).take (j + 1))) := Lib.hid (by rw [← HVN.out, HV.out]; exact ho1)
             clear ho1 hg1 hl1))
        all_goals exact ⟨⟨j + 1, by simp, by omega, HS8, HO8⟩, by simp [intOf]; omega⟩
      · have hjN : j = N := by omega
        have hfull : (vals (1 + a) l 100).take j = vals (1 + a) l 100 := List.take_of_length_le (by rw [HVL.out]; omega)
        have hAB : ((j : Int) < (n0 : Int) ∧ ¬ (j : Int) < 100) ∨ ¬ (j : Int) < (n0 : Int) := by have := HNE.out; omega
        have hj0 : (0 : Int) ≤ (j : Int) := by omega
        obtain ⟨A, c, hu, hrs⟩ := HOV.out.rs
        rw [hfull] at hrs hu
        rw [HVL.out] at hrs hu
        subst hu
        have HRS := Lib.hid hrs
        clear hrs hfull HOV
        obtain ⟨W1, rfl⟩ : ∃ W1, W1 = wr := ⟨wr, rfl⟩
        have HS1 := HSJ
        clear HSJ hjN hjn hj
        rcases hAB with ⟨hA, hB⟩ | hA
        all_goals
          go_wp2_with (at_builtin; refine wpList_app (B := W1.heap.size) (xs := []) (ys := vals (1 + a) l 100) (v := .slice none 0 0) rfl (.tmp 42) (.tmp 43) rfl rfl rfl (OV.nil _ _) HRS.out (by simp; omega) (Nat.le_refl _) ?_; intro v1 w8 ho1 hg1 hl1
                       have HS2 := Lib.hid ((WL.start HS1.out.1).keep ((Below.refl W1.heap.size W1).grown hg1 (Nat.le_refl _) (fun k hk => by simp [Value.ownBlock] at hk)))
                       have HO2 : Hid (OV w8 W1.heap.size v1 (vals (1 + a) l 100 ++ (vals (1 + a) m 100).take 0)) := Lib.hid (by simpa using ho1)
                       clear ho1 hg1 hl1)
          go_loopw [10, 12] (fun y z wr => ∃ j : Nat, z = .int .i64 j ∧ j ≤ M ∧ Hid (WL W1 wr) ∧ Hid (OV wr W1.heap.size y (vals (1 + a) l 100 ++ (vals (1 + a) m 100).take j))) (fun _ z _ => (M - intOf z).toNat)
          case atStart => exact ⟨0, rfl, by omega, HS2, HO2⟩
          case round =>
            obtain ⟨j, rfl, hj, HSJ, HOV⟩ := hrel
            by_cases hjn : j < M
            · have hjl : j < m.length := by rw [HM.out.1]; omega
              obtain ⟨x, hx⟩ : ∃ x, m[j]? = some x := ⟨_, List.getElem?_eq_getElem hjl⟩
              obtain ⟨b, o, rfl, hlt, hc⟩ := HM.out.2.2 (by omega)
              have cx : wr.cell? ⟨b, o + j, none⟩ = some (.int .i64 x) := (HSJ.out.2.cell (p := ⟨b, o + j, none⟩) (Nat.lt_of_lt_of_le hlt HS1.out.2.size)).trans ((HS1.out.2.cell (p := ⟨b, o + j, none⟩) hlt).trans (hc j x hx))
              have bx := HM.out.2.1 x (List.mem_of_getElem? hx)
              have HVN := Lib.hid (vals_next (a := 1 + a) (m := 100) hx (by omega))
              have hj0 : (0 : Int) ≤ (j : Int) := by omega
              have hj1 : (j : Int) < (n1 : Int) := by omega
              have hj2 : (j : Int) < 100 := by omega
              have hlen : (vals (1 + a) l 100 ++ (vals (1 + a) m 100).take j).length ≤ 300 := by rw [List.length_append, List.length_take]; have := HVL.out; omega
              have HLN := Lib.hid hlen
              clear hlen hx hc
              go_wp2_with (first
                | (go_at_call 21; (with_reducible refine (HVA.out W1 _ x HSJ bx).mono ?_); rintro e w6 ⟨t, wd, nn, HV, rfl, HS6, HB6⟩; have HO6 := Lib.hid (HOV.out.below HB6.out))
                | (at_builtin; refine wpList_app (B := W1.heap.size) (xs := vals (1 + a) l 100 ++ (vals (1 + a) m 100).take j) (ys := [⟨t, wd, nn⟩]) (v := u10) rfl (.tmp 55) (.tmp 62) rfl rfl rfl (HO6.out.below (al0 _ _)) (Rs.lit1 _ _ _ _) (by have := HLN.out; omega) (by have := HS6.out.2.size; simp; omega) ?_; intro v1 w8 ho1 hg1 hl1
                   have HS8 := Lib.hid ((HS6.out.keep (al0 _ _)).grown (HO6.out.below (al0 _ _)) hg1 (Nat.le_trans HPS.out HS1.out.2.size))
                   have HO8 : Hid (OV w8 W1.heap.size v1 (vals (1 + a) l 100 ++ (vals (1 + a) m 100).take (j + 1))) := Lib.hid (by rw [← HVN.out, HV.out]; rw [← List.append_assoc]; exact ho1)
                   clear ho1 hg1 hl1))
              all_goals exact ⟨⟨j + 1, by simp, by omega, HS8, HO8⟩, by simp [intOf]; omega⟩
            · have hjN : j = M := by omega
              have hfull : (vals (1 + a) m 100).take j = vals (1 + a) m 100 := List.take_of_length_le (by rw [HVM.out]; omega)
              have hAB : ((j : Int) < (n1 : Int) ∧ ¬ (j : Int) < 100) ∨ ¬ (j : Int) < (n1 : Int) := by have := HME.out; omega
              have hj0 : (0 : Int) ≤ (j : Int) := by omega
              have HOF : Hid (FM W1 A N c (vals (1 + a) l 100) u10 (vals (1 + a) l 100 ++ vals (1 + a) m 100) wr) := Lib.hid ⟨HSJ.out, HRS.out.below HSJ.out.2, by have := HOV.out; rw [hfull] at this; exact this⟩
              have hokz : (∀ v ∈ vals (1 + a) l 100 ++ vals (1 + a) m 100, okW (1 + a) v) ∧ (∀ v ∈ vals (1 + a) l 100 ++ vals (1 + a) m 100, okV v) := by
                constructor <;> (intro v hv; rcases List.mem_append.1 hv with hv | hv)
                · exact HOKL.out.1 v hv
                · exact HOKM.out.1 v hv
                · exact HOKL.out.2 v hv
                · exact HOKM.out.2 v hv
              obtain ⟨F1, hF1⟩ : ∃ F1, allV (1 + a) 0 ⟨5, 1, 0⟩ (vals (1 + a) l 100) = F1 := ⟨_, rfl⟩
              obtain ⟨F2, hF2⟩ : ∃ F2, allV (1 + a) 0 ⟨5, 1, 0⟩ (vals (1 + a) l 100 ++ vals (1 + a) m 100) = F2 := ⟨_, rfl⟩
              have hle : F1 ≤ F2 := by
                rw [← hF1, ← hF2]
                exact allV_more (by omega) (by omega) (okW_text (by omega)) (by rw [List.length_append, HVL.out, HVM.out]; omega) hokz.1
              have HA1 : Hid (∀ W, Hid (FM W1 A N c (vals (1 + a) l 100) u10 (vals (1 + a) l 100 ++ vals (1 + a) m 100) W) → Calls Tryd.prog 15 #[.int .i64 (1 + a), .int .i64 0, .agg #[.int .i64 5, .int .i64 1, .int .u64 0], .slice A N c] W fun e w' => e = .returned (.int .i64 F1) ∧ FM W1 A N c (vals (1 + a) l 100) u10 (vals (1 + a) l 100 ++ vals (1 + a) m 100) w') := Lib.hid fun W h => by
                rw [← hF1]
                exact (H2 (1 + a) 0 ⟨5, 1, 0⟩ _ _ W (okT 0 (by omega) (by omega)) HOKL.out.2 h.out.rs.rd (by omega) (by omega) (by omega) (by omega) h.out.wl.1).mono fun _ _ ⟨h1, h2⟩ => ⟨h1, h.out.keep h2⟩
              have HA2 : Hid (∀ W, Hid (FM W1 A N c (vals (1 + a) l 100) u10 (vals (1 + a) l 100 ++ vals (1 + a) m 100) W) → Calls Tryd.prog 15 #[.int .i64 (1 + a), .int .i64 0, .agg #[.int .i64 5, .int .i64 1, .int .u64 0], u10] W fun e w' => e = .returned (.int .i64 F2) ∧ FM W1 A N c (vals (1 + a) l 100) u10 (vals (1 + a) l 100 ++ vals (1 + a) m 100) w') := Lib.hid fun W h => by
                rw [← hF2]
                exact (H2 (1 + a) 0 ⟨5, 1, 0⟩ _ _ W (okT 0 (by omega) (by omega)) hokz.2 h.out.ov.rd (by omega) (by omega) (by omega) (by omega) h.out.wl.1).mono fun _ _ ⟨h1, h2⟩ => ⟨h1, h.out.keep h2⟩
              have HTX : Hid (∀ W, Hid (FM W1 A N c (vals (1 + a) l 100) u10 (vals (1 + a) l 100 ++ vals (1 + a) m 100) W) → Calls Tryd.prog 18 #[.int .u64 0] W fun e w' => e = .returned (.agg #[.int .i64 5, .int .i64 1, .int .u64 0]) ∧ FM W1 A N c (vals (1 + a) l 100) u10 (vals (1 + a) l 100 ++ vals (1 + a) m 100) w') := Lib.hid fun W h => (text_any 0 W).mono fun _ _ ⟨h1, h2⟩ => ⟨h1, h.out.keep h2⟩
              have HW : Hid (∀ W, Hid (FM W1 A N c (vals (1 + a) l 100) u10 (vals (1 + a) l 100 ++ vals (1 + a) m 100) W) → Calls Tryd.prog 13 #[] W fun e w' => e = .returned (.bool true) ∧ FM W1 A N c (vals (1 + a) l 100) u10 (vals (1 + a) l 100 ++ vals (1 + a) m 100) w') := Lib.hid fun W h => (works_true H1 H2 W h.out.wl.1).mono fun _ _ ⟨h1, h2⟩ => ⟨h1, h.out.keep h2⟩
              clear hF1 hF2 hokz hfull HOV HSJ hjN hjn
              rcases hAB with ⟨hA2, hB2⟩ | hA2
              all_goals
                go_wp2_with (first
                  | (go_at_call 18; (with_reducible refine (HTX.out _ HOF).mono ?_); rintro e w9 ⟨rfl, hs⟩; have HOF := Lib.hid hs; clear hs)
                  | (go_at_call 15; (with_reducible refine (HA1.out _ HOF).mono ?_); rintro e w9 ⟨rfl, hs⟩; have HOF := Lib.hid hs; clear hs)
                  | (go_at_call 15; (with_reducible refine (HA2.out _ HOF).mono ?_); rintro e w9 ⟨rfl, hs⟩; have HOF := Lib.hid hs; clear hs)
                  | (go_at_call 13; (with_reducible refine (HW.out _ HOF).mono ?_); rintro e w9 ⟨rfl, hs⟩; have HOF := Lib.hid hs; clear hs))
                go_ret
                exact ⟨rfl, HS1.out.2.trans (HOF.out.wl.2.mono HS1.out.2.size)⟩
  · go_enter Tryd.func8, Tryd.ntmps8
    go_wp2_with (first
      | (go_at_call 17; (with_reducible refine (HBA.out _).mono ?_); rintro e w1 ⟨rfl, rfl⟩)
      | (go_at_call 17; (with_reducible refine (HBW.out _).mono ?_); rintro e w2 ⟨rfl, rfl⟩))
    have HS0 : Hid (WL w ((w.alloc (.cells #[.int .i64 p0, .int .i64 p1] 28)).alloc (.cells #[.int .i64 0, .int .i64 1, .int .i64 3] 3))) := Lib.hid ((HS.out.keep (al0 _ _)).keep (al0 _ _))
    go_loopw [9, 11] (fun y z wr => ∃ j : Nat, z = .int .i64 j ∧ j ≤ N ∧ Hid (WL w wr) ∧ Hid (OV wr w.heap.size y ((vals (1 + a) l 100).take j))) (fun _ z _ => (N - intOf z).toNat)
    case atStart => exact ⟨0, rfl, by omega, HS0, Lib.hid (OV.nil _ _)⟩
    case round =>
      obtain ⟨j, rfl, hj, HSJ, HOV⟩ := hrel
      clear HS0 HS
      by_cases hjn : j < N
      · have hjl : j < l.length := by rw [HL.out.1]; omega
        obtain ⟨x, hx⟩ : ∃ x, l[j]? = some x := ⟨_, List.getElem?_eq_getElem hjl⟩
        obtain ⟨b, o, rfl, hlt, hc⟩ := HL.out.2.2 (by omega)
        have cx : wr.cell? ⟨b, o + j, none⟩ = some (.int .i64 x) := (HSJ.out.2.cell (p := ⟨b, o + j, none⟩) hlt).trans (hc j x hx)
        have bx := HL.out.2.1 x (List.mem_of_getElem? hx)
        have HVN := Lib.hid (vals_next (a := 1 + a) (m := 100) hx (by omega))
        have hj0 : (0 : Int) ≤ (j : Int) := by omega
        have hj1 : (j : Int) < (n0 : Int) := by omega
        have hj2 : (j : Int) < 100 := by omega
        have hlen : ((vals (1 + a) l 100).take j).length ≤ 300 := by rw [List.length_take]; omega
        have HLN := Lib.hid hlen
        clear hlen hx hc
        go_wp2_with (first
          | (go_at_call 21; (with_reducible refine (HVA.out w _ x HSJ bx).mono ?_); rintro e w6 ⟨t, wd, nn, HV, rfl, HS6, HB6⟩; have HO6 := Lib.hid (HOV.out.below HB6.out))
          | (at_builtin; refine wpList_app (B := w.heap.size) (xs := (vals (1 + a) l 100).take j) (ys := [⟨t, wd, nn⟩]) (v := u9) rfl (.tmp 33) (.tmp 40) rfl rfl rfl (HO6.out.below (al0 _ _)) (Rs.lit1 _ _ _ _) (by have := HLN.out; omega) (by have := HS6.out.2.size; simp; omega) ?_; intro v1 w8 ho1 hg1 hl1
             have HS8 := Lib.hid ((HS6.out.keep (al0 _ _)).grown (HO6.out.below (al0 _ _)) hg1 HPS.out)
             have HO8 : Hid (OV w8 w.heap.size v1 ((vals (1 + a) l 100).take (j + 1))) := Lib.hid (by rw [← HVN.out, HV.out]; exact ho1)
             clear ho1 hg1 hl1))
        all_goals exact ⟨⟨j + 1, by simp, by omega, HS8, HO8⟩, by simp [intOf]; omega⟩
      · have hjN : j = N := by omega
        have hfull : (vals (1 + a) l 100).take j = vals (1 + a) l 100 := List.take_of_length_le (by rw [HVL.out]; omega)
        have hAB : ((j : Int) < (n0 : Int) ∧ ¬ (j : Int) < 100) ∨ ¬ (j : Int) < (n0 : Int) := by have := HNE.out; omega
        have hj0 : (0 : Int) ≤ (j : Int) := by omega
        obtain ⟨A, c, hu, hrs⟩ := HOV.out.rs
        rw [hfull] at hrs hu
        rw [HVL.out] at hrs hu
        subst hu
        have HRS := Lib.hid hrs
        clear hrs hfull HOV
        obtain ⟨W1, rfl⟩ : ∃ W1, W1 = wr := ⟨wr, rfl⟩
        have HS1 := HSJ
        clear HSJ hjN hjn hj
        rcases hAB with ⟨hA, hB⟩ | hA
        all_goals
          go_wp2_with (at_builtin; refine wpList_app (B := W1.heap.size) (xs := []) (ys := vals (1 + a) l 100) (v := .slice none 0 0) rfl (.tmp 42) (.tmp 43) rfl rfl rfl (OV.nil _ _) HRS.out (by simp; omega) (Nat.le_refl _) ?_; intro v1 w8 ho1 hg1 hl1
                       have HS2 := Lib.hid ((WL.start HS1.out.1).keep ((Below.refl W1.heap.size W1).grown hg1 (Nat.le_refl _) (fun k hk => by simp [Value.ownBlock] at hk)))
                       have HO2 : Hid (OV w8 W1.heap.size v1 (vals (1 + a) l 100 ++ (vals (1 + a) m 100).take 0)) := Lib.hid (by simpa using ho1)
                       clear ho1 hg1 hl1)
          go_loopw [10, 12] (fun y z wr => ∃ j : Nat, z = .int .i64 j ∧ j ≤ M ∧ Hid (WL W1 wr) ∧ Hid (OV wr W1.heap.size y (vals (1 + a) l 100 ++ (vals (1 + a) m 100).take j))) (fun _ z _ => (M - intOf z).toNat)
          case atStart => exact ⟨0, rfl, by omega, HS2, HO2⟩
          case round =>
            obtain ⟨j, rfl, hj, HSJ, HOV⟩ := hrel
            by_cases hjn : j < M
            · have hjl : j < m.length := by rw [HM.out.1]; omega
              obtain ⟨x, hx⟩ : ∃ x, m[j]? = some x := ⟨_, List.getElem?_eq_getElem hjl⟩
              obtain ⟨b, o, rfl, hlt, hc⟩ := HM.out.2.2 (by omega)
              have cx : wr.cell? ⟨b, o + j, none⟩ = some (.int .i64 x) := (HSJ.out.2.cell (p := ⟨b, o + j, none⟩) (Nat.lt_of_lt_of_le hlt HS1.out.2.size)).trans ((HS1.out.2.cell (p := ⟨b, o + j, none⟩) hlt).trans (hc j x hx))
              have bx := HM.out.2.1 x (List.mem_of_getElem? hx)
              have HVN := Lib.hid (vals_next (a := 1 + a) (m := 100) hx (by omega))
              have hj0 : (0 : Int) ≤ (j : Int) := by omega
              have hj1 : (j : Int) < (n1 : Int) := by omega
              have hj2 : (j : Int) < 100 := by omega
              have hlen : (vals (1 + a) l 100 ++ (vals (1 + a) m 100).take j).length ≤ 300 := by rw [List.length_append, List.length_take]; have := HVL.out; omega
              have HLN := Lib.hid hlen
              clear hlen hx hc
              go_wp2_with (first
                | (go_at_call 21; (with_reducible refine (HVA.out W1 _ x HSJ bx).mono ?_); rintro e w6 ⟨t, wd, nn, HV, rfl, HS6, HB6⟩; have HO6 := Lib.hid (HOV.out.below HB6.out))
                | (at_builtin; refine wpList_app (B := W1.heap.size) (xs := vals (1 + a) l 100 ++ (vals (1 + a) m 100).take j) (ys := [⟨t, wd, nn⟩]) (v := u10) rfl (.tmp 55) (.tmp 62) rfl rfl rfl (HO6.out.below (al0 _ _)) (Rs.lit1 _ _ _ _) (by have := HLN.out; omega) (by have := HS6.out.2.size; simp; omega) ?_; intro v1 w8 ho1 hg1 hl1
                   have HS8 := Lib.hid ((HS6.out.keep (al0 _ _)).grown (HO6.out.below (al0 _ _)) hg1 (Nat.le_trans HPS.out HS1.out.2.size))
                   have HO8 : Hid (OV w8 W1.heap.size v1 (vals (1 + a) l 100 ++ (vals (1 + a) m 100).take (j + 1))) := Lib.hid (by rw [← HVN.out, HV.out]; rw [← List.append_assoc]; exact ho1)
                   clear ho1 hg1 hl1))
              all_goals exact ⟨⟨j + 1, by simp, by omega, HS8, HO8⟩, by simp [intOf]; omega⟩
            · have hjN : j = M := by omega
              have hfull : (vals (1 + a) m 100).take j = vals (1 + a) m 100 := List.take_of_length_le (by rw [HVM.out]; omega)
              have hAB : ((j : Int) < (n1 : Int) ∧ ¬ (j : Int) < 100) ∨ ¬ (j : Int) < (n1 : Int) := by have := HME.out; omega
              have hj0 : (0 : Int) ≤ (j : Int) := by omega
              have HOF : Hid (FM W1 A N c (vals (1 + a) l 100) u10 (vals (1 + a) l 100 ++ vals (1 + a) m 100) wr) := Lib.hid ⟨HSJ.out, HRS.out.below HSJ.out.2, by have := HOV.out; rw [hfull] at this; exact this⟩
              have hokz : (∀ v ∈ vals (1 + a) l 100 ++ vals (1 + a) m 100, okW (1 + a) v) ∧ (∀ v ∈ vals (1 + a) l 100 ++ vals (1 + a) m 100, okV v) := by
                constructor <;> (intro v hv; rcases List.mem_append.1 hv with hv | hv)
                · exact HOKL.out.1 v hv
                · exact HOKM.out.1 v hv
                · exact HOKL.out.2 v hv
                · exact HOKM.out.2 v hv
              obtain ⟨F1, hF1⟩ : ∃ F1, allV (1 + a) 1 ⟨5, 1, 0⟩ (vals (1 + a) l 100) = F1 := ⟨_, rfl⟩
              obtain ⟨F2, hF2⟩ : ∃ F2, allV (1 + a) 1 ⟨5, 1, 0⟩ (vals (1 + a) l 100 ++ vals (1 + a) m 100) = F2 := ⟨_, rfl⟩
              have hle : F1 ≤ F2 := by
                rw [← hF1, ← hF2]
                exact allV_more (by omega) (by omega) (okW_text (by omega)) (by rw [List.length_append, HVL.out, HVM.out]; omega) hokz.1
              have HA1 : Hid (∀ W, Hid (FM W1 A N c (vals (1 + a) l 100) u10 (vals (1 + a) l 100 ++ vals (1 + a) m 100) W) → Calls Tryd.prog 15 #[.int .i64 (1 + a), .int .i64 1, .agg #[.int .i64 5, .int .i64 1, .int .u64 0], .slice A N c] W fun e w' => e = .returned (.int .i64 F1) ∧ FM W1 A N c (vals (1 + a) l 100) u10 (vals (1 + a) l 100 ++ vals (1 + a) m 100) w') := Lib.hid fun W h => by
                rw [← hF1]
                exact (H2 (1 + a) 1 ⟨5, 1, 0⟩ _ _ W (okT 0 (by omega) (by omega)) HOKL.out.2 h.out.rs.rd (by omega) (by omega) (by omega) (by omega) h.out.wl.1).mono fun _ _ ⟨h1, h2⟩ => ⟨h1, h.out.keep h2⟩
              have HA2 : Hid (∀ W, Hid (FM W1 A N c (vals (1 + a) l 100) u10 (vals (1 + a) l 100 ++ vals (1 + a) m 100) W) → Calls Tryd.prog 15 #[.int .i64 (1 + a), .int .i64 1, .agg #[.int .i64 5, .int .i64 1, .int .u64 0], u10] W fun e w' => e = .returned (.int .i64 F2) ∧ FM W1 A N c (vals (1 + a) l 100) u10 (vals (1 + a) l 100 ++ vals (1 + a) m 100) w') := Lib.hid fun W h => by
                rw [← hF2]
                exact (H2 (1 + a) 1 ⟨5, 1, 0⟩ _ _ W (okT 0 (by omega) (by omega)) hokz.2 h.out.ov.rd (by omega) (by omega) (by omega) (by omega) h.out.wl.1).mono fun _ _ ⟨h1, h2⟩ => ⟨h1, h.out.keep h2⟩
              have HTX : Hid (∀ W, Hid (FM W1 A N c (vals (1 + a) l 100) u10 (vals (1 + a) l 100 ++ vals (1 + a) m 100) W) → Calls Tryd.prog 18 #[.int .u64 0] W fun e w' => e = .returned (.agg #[.int .i64 5, .int .i64 1, .int .u64 0]) ∧ FM W1 A N c (vals (1 + a) l 100) u10 (vals (1 + a) l 100 ++ vals (1 + a) m 100) w') := Lib.hid fun W h => (text_any 0 W).mono fun _ _ ⟨h1, h2⟩ => ⟨h1, h.out.keep h2⟩
              have HW : Hid (∀ W, Hid (FM W1 A N c (vals (1 + a) l 100) u10 (vals (1 + a) l 100 ++ vals (1 + a) m 100) W) → Calls Tryd.prog 13 #[] W fun e w' => e = .returned (.bool true) ∧ FM W1 A N c (vals (1 + a) l 100) u10 (vals (1 + a) l 100 ++ vals (1 + a) m 100) w') := Lib.hid fun W h => (works_true H1 H2 W h.out.wl.1).mono fun _ _ ⟨h1, h2⟩ => ⟨h1, h.out.keep h2⟩
              clear hF1 hF2 hokz hfull HOV HSJ hjN hjn
              rcases hAB with ⟨hA2, hB2⟩ | hA2
              all_goals
                go_wp2_with (first
                  | (go_at_call 18; (with_reducible refine (HTX.out _ HOF).mono ?_); rintro e w9 ⟨rfl, hs⟩; have HOF := Lib.hid hs; clear hs)
                  | (go_at_call 15; (with_reducible refine (HA1.out _ HOF).mono ?_); rintro e w9 ⟨rfl, hs⟩; have HOF := Lib.hid hs; clear hs)
                  | (go_at_call 15; (with_reducible refine (HA2.out _ HOF).mono ?_); rintro e w9 ⟨rfl, hs⟩; have HOF := Lib.hid hs; clear hs)
                  | (go_at_call 13; (with_reducible refine (HW.out _ HOF).mono ?_); rintro e w9 ⟨rfl, hs⟩; have HOF := Lib.hid hs; clear hs))
                go_ret
                exact ⟨rfl, HS1.out.2.trans (HOF.out.wl.2.mono HS1.out.2.size)⟩
  · go_enter Tryd.func8, Tryd.ntmps8
    go_wp2_with (first
      | (go_at_call 17; (with_reducible refine (HBA.out _).mono ?_); rintro e w1 ⟨rfl, rfl⟩)
      | (go_at_call 17; (with_reducible refine (HBW.out _).mono ?_); rintro e w2 ⟨rfl, rfl⟩))
    have HS0 : Hid (WL w ((w.alloc (.cells #[.int .i64 p0, .int .i64 p1] 28)).alloc (.cells #[.int .i64 0, .int .i64 1, .int .i64 3] 3))) := Lib.hid ((HS.out.keep (al0 _ _)).keep (al0 _ _))
    go_loopw [9, 11] (fun y z wr => ∃ j : Nat, z = .int .i64 j ∧ j ≤ N ∧ Hid (WL w wr) ∧ Hid (OV wr w.heap.size y ((vals (1 + a) l 100).take j))) (fun _ z _ => (N - intOf z).toNat)
    case atStart => exact ⟨0, rfl, by omega, HS0, Lib.hid (OV.nil _ _)⟩
    case round =>
      obtain ⟨j, rfl, hj, HSJ, HOV⟩ := hrel
      clear HS0 HS
      by_cases hjn : j < N
      · have hjl : j < l.length := by rw [HL.out.1]; omega
        obtain ⟨x, hx⟩ : ∃ x, l[j]? = some x := ⟨_, List.getElem?_eq_getElem hjl⟩
        obtain ⟨b, o, rfl, hlt, hc⟩ := HL.out.2.2 (by omega)
        have cx : wr.cell? ⟨b, o + j, none⟩ = some (.int .i64 x) := (HSJ.out.2.cell (p := ⟨b, o + j, none⟩) hlt).trans (hc j x hx)
        have bx := HL.out.2.1 x (List.mem_of_getElem? hx)
        have HVN := Lib.hid (vals_next (a := 1 + a) (m := 100) hx (by omega))
        have hj0 : (0 : Int) ≤ (j : Int) := by omega
        have hj1 : (j : Int) < (n0 : Int) := by omega
        have hj2 : (j : Int) < 100 := by omega
        have hlen : ((vals (1 + a) l 100).take j).length ≤ 300 := by rw [List.length_take]; omega
        have HLN := Lib.hid hlen
        clear hlen hx hc
        go_wp2_with (first
          | (go_at_call 21; (with_reducible refine (HVA.out w _ x HSJ bx).mono ?_); rintro e w6 ⟨t, wd, nn, HV, rfl, HS6, HB6⟩; have HO6 := Lib.hid (HOV.out.below HB6.out))
          | (at_builtin; refine wpList_app (B := w.heap.size) (xs := (vals (1 + a) l 100).take j) (ys := [⟨t, wd, nn⟩]) (v := u9) rfl (.tmp 33) (.tmp 40) rfl rfl rfl (HO6.out.below (al0 _ _)) (Rs.lit1 _ _ _ _) (by have := HLN.out; omega) (by have := HS6.out.2.size; simp; omega) ?_; intro v1 w8 ho1 hg1 hl1
             have HS8 := Lib.hid ((HS6.out.keep (al0 _ _)).grown (HO6.out.below (al0 _ _)) hg1 HPS.out)
             have HO8 : Hid (OV w8 w.heap.size v1 ((vals (1 + a) l 100).take (j + 1))) := Lib.hid (by rw [← HVN.out, HV.out]; exact ho1)
             clear ho1 hg1 hl1))
        all_goals exact ⟨⟨j + 1, by simp, by omega, HS8, HO8⟩, by simp [intOf]; omega⟩
      · have hjN : j = N := by omega
        have hfull : (vals (1 + a) l 100).take j = vals (1 + a) l 100 := List.take_of_length_le (by rw [HVL.out]; omega)
        have hAB : ((j : Int) < (n0 : Int) ∧ ¬ (j : Int) < 100) ∨ ¬ (j : Int) < (n0 : Int) := by have := HNE.out; omega
        have hj0 : (0 : Int) ≤ (j : Int) := by omega
        obtain ⟨A, c, hu, hrs⟩ := HOV.out.rs
        rw [hfull] at hrs hu
        rw [HVL.out] at hrs hu
        subst hu
        have HRS := Lib.hid hrs
        clear hrs hfull HOV
        obtain ⟨W1, rfl⟩ : ∃ W1, W1 = wr := ⟨wr, rfl⟩
        have HS1 := HSJ
        clear HSJ hjN hjn hj
        rcases hAB with ⟨hA, hB⟩ | hA
        all_goals
          go_wp2_with (at_builtin; refine wpList_app (B := W1.heap.size) (xs := []) (ys := vals (1 + a) l 100) (v := .slice none 0 0) rfl (.tmp 42) (.tmp 43) rfl rfl rfl (OV.nil _ _) HRS.out (by simp; omega) (Nat.le_refl _) ?_; intro v1 w8 ho1 hg1 hl1
                       have HS2 := Lib.hid ((WL.start HS1.out.1).keep ((Below.refl W1.heap.size W1).grown hg1 (Nat.le_refl _) (fun k hk => by simp [Value.ownBlock] at hk)))
                       have HO2 : Hid (OV w8 W1.heap.size v1 (vals (1 + a) l 100 ++ (vals (1 + a) m 100).take 0)) := Lib.hid (by simpa using ho1)
                       clear ho1 hg1 hl1)
          go_loopw [10, 12] (fun y z wr => ∃ j : Nat, z = .int .i64 j ∧ j ≤ M ∧ Hid (WL W1 wr) ∧ Hid (OV wr W1.heap.size y (vals (1 + a) l 100 ++ (vals (1 + a) m 100).take j))) (fun _ z _ => (M - intOf z).toNat)
          case atStart => exact ⟨0, rfl, by omega, HS2, HO2⟩
          case round =>
            obtain ⟨j, rfl, hj, HSJ, HOV⟩ := hrel
            by_cases hjn : j < M
            · have hjl : j < m.length := by rw [HM.out.1]; omega
              obtain ⟨x, hx⟩ : ∃ x, m[j]? = some x := ⟨_, List.getElem?_eq_getElem hjl⟩
              obtain ⟨b, o, rfl, hlt, hc⟩ := HM.out.2.2 (by omega)
              have cx : wr.cell? ⟨b, o + j, none⟩ = some (.int .i64 x) := (HSJ.out.2.cell (p := ⟨b, o + j, none⟩) (Nat.lt_of_lt_of_le hlt HS1.out.2.size)).trans ((HS1.out.2.cell (p := ⟨b, o + j, none⟩) hlt).trans (hc j x hx))
              have bx := HM.out.2.1 x (List.mem_of_getElem? hx)
              have HVN := Lib.hid (vals_next (a := 1 + a) (m := 100) hx (by omega))
              have hj0 : (0 : Int) ≤ (j : Int) := by omega
              have hj1 : (j : Int) < (n1 : Int) := by omega
              have hj2 : (j : Int) < 100 := by omega
              have hlen : (vals (1 + a) l 100 ++ (vals (1 + a) m 100).take j).length ≤ 300 := by rw [List.length_append, List.length_take]; have := HVL.out; omega
              have HLN := Lib.hid hlen
              clear hlen hx hc
              go_wp2_with (first
                | (go_at_call 21; (with_reducible refine (HVA.out W1 _ x HSJ bx).mono ?_); rintro e w6 ⟨t, wd, nn, HV, rfl, HS6, HB6⟩; have HO6 := Lib.hid (HOV.out.below HB6.out))
                | (at_builtin; refine wpList_app (B := W1.heap.size) (xs := vals (1 + a) l 100 ++ (vals (1 + a) m 100).take j) (ys := [⟨t, wd, nn⟩]) (v := u10) rfl (.tmp 55) (.tmp 62) rfl rfl rfl (HO6.out.below (al0 _ _)) (Rs.lit1 _ _ _ _) (by have := HLN.out; omega) (by have := HS6.out.2.size; simp; omega) ?_; intro v1 w8 ho1 hg1 hl1
                   have HS8 := Lib.hid ((HS6.out.keep (al0 _ _)).grown (HO6.out.below (al0 _ _)) hg1 (Nat.le_trans HPS.out HS1.out.2.size))
                   have HO8 : Hid (OV w8 W1.heap.size v1 (vals (1 + a) l 100 ++ (vals (1 + a) m 100).take (j + 1))) := Lib.hid (by rw [← HVN.out, HV.out]; rw [← List.append_assoc]; exact ho1)
                   clear ho1 hg1 hl1))
              all_goals exact ⟨⟨j + 1, by simp, by omega, HS8, HO8⟩, by simp [intOf]; omega⟩
            · have hjN : j = M := by omega
              have hfull : (vals (1 + a) m 100).take j = vals (1 + a) m 100 := List.take_of_length_le (by rw [HVM.out]; omega)
              have hAB : ((j : Int) < (n1 : Int) ∧ ¬ (j : Int) < 100) ∨ ¬ (j : Int) < (n1 : Int) := by have := HME.out; omega
              have hj0 : (0 : Int) ≤ (j : Int) := by omega
              have HOF : Hid (FM W1 A N c (vals (1 + a) l 100) u10 (vals (1 + a) l 100 ++ vals (1 + a) m 100) wr) := Lib.hid ⟨HSJ.out, HRS.out.below HSJ.out.2, by have := HOV.out; rw [hfull] at this; exact this⟩
              have hokz : (∀ v ∈ vals (1 + a) l 100 ++ vals (1 + a) m 100, okW (1 + a) v) ∧ (∀ v ∈ vals (1 + a) l 100 ++ vals (1 + a) m 100, okV v) := by
                constructor <;> (intro v hv; rcases List.mem_append.1 hv with hv | hv)
                · exact HOKL.out.1 v hv
                · exact HOKM.out.1 v hv
                · exact HOKL.out.2 v hv
                · exact HOKM.out.2 v hv
              obtain ⟨F1, hF1⟩ : ∃ F1, allV (1 + a) 3 ⟨5, 1, 0⟩ (vals (1 + a) l 100) = F1 := ⟨_, rfl⟩
              obtain ⟨F2, hF2⟩ : ∃ F2, allV (1 + a) 3 ⟨5, 1, 0⟩ (vals (1 + a) l 100 ++ vals (1 + a) m 100) = F2 := ⟨_, rfl⟩
              have hle : F1 ≤ F2 := by
                rw [← hF1, ← hF2]
                exact allV_more (by omega) (by omega) (okW_text (by omega)) (by rw [List.length_append, HVL.out, HVM.out]; omega) hokz.1
              have HA1 : Hid (∀ W, Hid (FM W1 A N c (vals (1 + a) l 100) u10 (vals (1 + a) l 100 ++ vals (1 + a) m 100) W) → Calls Tryd.prog 15 #[.int .i64 (1 + a), .int .i64 3, .agg #[.int .i64 5, .int .i64 1, .int .u64 0], .slice A N c] W fun e w' => e = .returned (.int .i64 F1) ∧ FM W1 A N c (vals (1 + a) l 100) u10 (vals (1 + a) l 100 ++ vals (1 + a) m 100) w') := Lib.hid fun W h => by
                rw [← hF1]
                exact (H2 (1 + a) 3 ⟨5, 1, 0⟩ _ _ W (okT 0 (by omega) (by omega)) HOKL.out.2 h.out.rs.rd (by omega) (by omega) (by omega) (by omega) h.out.wl.1).mono fun _ _ ⟨h1, h2⟩ => ⟨h1, h.out.keep h2⟩
              have HA2 : Hid (∀ W, Hid (FM W1 A N c (vals (1 + a) l 100) u10 (vals (1 + a) l 100 ++ vals (1 + a) m 100) W) → Calls Tryd.prog 15 #[.int .i64 (1 + a), .int .i64 3, .agg #[.int .i64 5, .int .i64 1, .int .u64 0], u10] W fun e w' => e = .returned (.int .i64 F2) ∧ FM W1 A N c (vals (1 + a) l 100) u10 (vals (1 + a) l 100 ++ vals (1 + a) m 100) w') := Lib.hid fun W h => by
                rw [← hF2]
                exact (H2 (1 + a) 3 ⟨5, 1, 0⟩ _ _ W (okT 0 (by omega) (by omega)) hokz.2 h.out.ov.rd (by omega) (by omega) (by omega) (by omega) h.out.wl.1).mono fun _ _ ⟨h1, h2⟩ => ⟨h1, h.out.keep h2⟩
              have HTX : Hid (∀ W, Hid (FM W1 A N c (vals (1 + a) l 100) u10 (vals (1 + a) l 100 ++ vals (1 + a) m 100) W) → Calls Tryd.prog 18 #[.int .u64 0] W fun e w' => e = .returned (.agg #[.int .i64 5, .int .i64 1, .int .u64 0]) ∧ FM W1 A N c (vals (1 + a) l 100) u10 (vals (1 + a) l 100 ++ vals (1 + a) m 100) w') := Lib.hid fun W h => (text_any 0 W).mono fun _ _ ⟨h1, h2⟩ => ⟨h1, h.out.keep h2⟩
              have HW : Hid (∀ W, Hid (FM W1 A N c (vals (1 + a) l 100) u10 (vals (1 + a) l 100 ++ vals (1 + a) m 100) W) → Calls Tryd.prog 13 #[] W fun e w' => e = .returned (.bool true) ∧ FM W1 A N c (vals (1 + a) l 100) u10 (vals (1 + a) l 100 ++ vals (1 + a) m 100) w') := Lib.hid fun W h => (works_true H1 H2 W h.out.wl.1).mono fun _ _ ⟨h1, h2⟩ => ⟨h1, h.out.keep h2⟩
              clear hF1 hF2 hokz hfull HOV HSJ hjN hjn
              rcases hAB with ⟨hA2, hB2⟩ | hA2
              all_goals
                go_wp2_with (first
                  | (go_at_call 18; (with_reducible refine (HTX.out _ HOF).mono ?_); rintro e w9 ⟨rfl, hs⟩; have HOF := Lib.hid hs; clear hs)
                  | (go_at_call 15; (with_reducible refine (HA1.out _ HOF).mono ?_); rintro e w9 ⟨rfl, hs⟩; have HOF := Lib.hid hs; clear hs)
                  | (go_at_call 15; (with_reducible refine (HA2.out _ HOF).mono ?_); rintro e w9 ⟨rfl, hs⟩; have HOF := Lib.hid hs; clear hs)
                  | (go_at_call 13; (with_reducible refine (HW.out _ HOF).mono ?_); rintro e w9 ⟨rfl, hs⟩; have HOF := Lib.hid hs; clear hs))
                go_ret
                exact ⟨rfl, HS1.out.2.trans (HOF.out.wl.2.mono HS1.out.2.size)⟩
end Go.Proofs.YtaeboneddndfkaaDoor
