/-
  What is proved here: works, the chapter's examples, returns true; condition: the tables hold what is laid.
-/
import Derived.Test.YtjnfilbdokppiaaGreatDoorPwA
import Derived.Test.YtjnfilbdokppiaaGreatDoorPwB
import Derived.Test.YtjnfilbdokppiaaGreatDoorPwD
namespace Go.Proofs.YtjnfilbdokppiaaGreatDoor
open Go.RowKit U U.Ut

set_option maxRecDepth 100000 in
set_option maxHeartbeats 2000000 in
theorem works_any (w : World) (hL : LP w.heap.size w) : Calls Tryz.prog 17 #[] w fun e w' => e = .returned (.bool true) ∧ SP w w' := by
  have HS0 := Lib.hid (SP.start hL)
  clear hL
  go_enter Tryz.func17, Tryz.ntmps17
  go_wp2_with fail
  (with_reducible refine (at_any 3 _).mono ?_)
  rintro e w1 ⟨rfl, hb1⟩
  have HS1 := Lib.hid (SP.step (by with_reducible first | exact HS0.out | exact HS0.out.step (al0 _ _) | exact HS0.out.step (Below.refl _ _).drew | exact (HS0.out.step (al0 _ _)).step (Below.refl _ _).drew | exact (HS0.out.step (Below.refl _ _).drew).step (al0 _ _) | exact (HS0.out.step (al0 _ _)).step (al0 _ _)) hb1)
  have HB1 := Lib.hid hb1
  clear hb1
  go_wp2_with fail
  (with_reducible refine (by_any _ _).mono ?_)
  rintro e w2 ⟨rfl, hb2⟩
  have HS2 := Lib.hid (SP.step (by with_reducible first | exact HS1.out | exact HS1.out.step (al0 _ _) | exact HS1.out.step (Below.refl _ _).drew | exact (HS1.out.step (al0 _ _)).step (Below.refl _ _).drew | exact (HS1.out.step (Below.refl _ _).drew).step (al0 _ _) | exact (HS1.out.step (al0 _ _)).step (al0 _ _)) hb2)
  have HB2 := Lib.hid hb2
  clear hb2
  go_wp2_with fail
  (with_reducible refine (show1 (w := w) ?s2 (Blk.new _ _ _)).mono ?_)
  case s2 => exact (by with_reducible first | exact HS2.out | exact HS2.out.step (al0 _ _) | exact HS2.out.step (Below.refl _ _).drew | exact (HS2.out.step (al0 _ _)).step (Below.refl _ _).drew | exact (HS2.out.step (Below.refl _ _).drew).step (al0 _ _) | exact (HS2.out.step (al0 _ _)).step (al0 _ _))
  rintro e w3 ⟨rfl, hS3, hb3⟩
  have HS3 := Lib.hid hS3
  have HB3 := Lib.hid hb3
  clear hS3 hb3
  go_wp2_with fail
  (with_reducible refine (show2 HS3.out).mono ?_)
  rintro e w4 ⟨rfl, hS4, hb4⟩
  have HS4 := Lib.hid hS4
  have HB4 := Lib.hid hb4
  clear hS4 hb4
  go_wp2_with fail
  (with_reducible refine (at_any 3 _).mono ?_)
  rintro e w5 ⟨rfl, hb5⟩
  have HS5 := Lib.hid (SP.step (by with_reducible first | exact HS4.out | exact HS4.out.step (al0 _ _) | exact HS4.out.step (Below.refl _ _).drew | exact (HS4.out.step (al0 _ _)).step (Below.refl _ _).drew | exact (HS4.out.step (Below.refl _ _).drew).step (al0 _ _) | exact (HS4.out.step (al0 _ _)).step (al0 _ _)) hb5)
  have HB5 := Lib.hid hb5
  clear hb5
  go_wp2_with fail
  (with_reducible refine (by_any _ _).mono ?_)
  rintro e w6 ⟨rfl, hb6⟩
  have HS6 := Lib.hid (SP.step (by with_reducible first | exact HS5.out | exact HS5.out.step (al0 _ _) | exact HS5.out.step (Below.refl _ _).drew | exact (HS5.out.step (al0 _ _)).step (Below.refl _ _).drew | exact (HS5.out.step (Below.refl _ _).drew).step (al0 _ _) | exact (HS5.out.step (al0 _ _)).step (al0 _ _)) hb6)
  have HB6 := Lib.hid hb6
  clear hb6
  go_wp2_with fail
  (with_reducible refine (read_of (w := w) ?s6 ?d6 (rdp_blk (ps := [iS 3, kS ⟨#[97]⟩]) (Blk.new _ _ _) ?c6 ?n6 ?m6 ?o6) ?h6 (by decide)).mono ?_)
  case s6 => exact (by with_reducible first | exact HS6.out | exact HS6.out.step (al0 _ _) | exact HS6.out.step (Below.refl _ _).drew | exact (HS6.out.step (al0 _ _)).step (Below.refl _ _).drew | exact (HS6.out.step (Below.refl _ _).drew).step (al0 _ _) | exact (HS6.out.step (al0 _ _)).step (al0 _ _))
  case d6 => decide
  case c6 => rfl
  case n6 => rfl
  case m6 => decide
  case o6 => simp only [List.mem_cons, List.not_mem_nil, or_false]; rintro x (rfl | rfl); (· exact ok_i (by decide)); (· exact ok_k (by decide))
  case h6 => exact ⟨by kernel_rfl, by kernel_rfl, by kernel_rfl⟩
  rintro e w7 ⟨rfl, hS7, hb7⟩
  have HS7 := Lib.hid hS7
  have HB7 := Lib.hid hb7
  clear hS7 hb7
  go_wp2_with fail
  (with_reducible refine (read_of (w := w) ?s7 ?d7 (rdp_nil _) ?h7 (by decide)).mono ?_)
  case s7 => exact (by with_reducible first | exact HS7.out | exact HS7.out.step (al0 _ _) | exact HS7.out.step (Below.refl _ _).drew | exact (HS7.out.step (al0 _ _)).step (Below.refl _ _).drew | exact (HS7.out.step (Below.refl _ _).drew).step (al0 _ _) | exact (HS7.out.step (al0 _ _)).step (al0 _ _))
  case d7 => decide
  case h7 => exact ⟨by kernel_rfl, by kernel_rfl, by kernel_rfl⟩
  rintro e w8 ⟨rfl, hS8, hb8⟩
  have HS8 := Lib.hid hS8
  have HB8 := Lib.hid hb8
  clear hS8 hb8
  go_wp2_with fail
  (with_reducible refine (read_of (w := w) ?s8 ?d8 (rdp_nil _) ?h8 (by decide)).mono ?_)
  case s8 => exact (by with_reducible first | exact HS8.out | exact HS8.out.step (al0 _ _) | exact HS8.out.step (Below.refl _ _).drew | exact (HS8.out.step (al0 _ _)).step (Below.refl _ _).drew | exact (HS8.out.step (Below.refl _ _).drew).step (al0 _ _) | exact (HS8.out.step (al0 _ _)).step (al0 _ _))
  case d8 => decide
  case h8 => exact ⟨by kernel_rfl, by kernel_rfl, by kernel_rfl⟩
  rintro e w9 ⟨rfl, hS9, hb9⟩
  have HS9 := Lib.hid hS9
  have HB9 := Lib.hid hb9
  clear hS9 hb9
  go_wp2_with fail
  (with_reducible refine (read_of (w := w) ?s9 ?d9 (rdp_nil _) ?h9 (by decide)).mono ?_)
  case s9 => exact (by with_reducible first | exact HS9.out | exact HS9.out.step (al0 _ _) | exact HS9.out.step (Below.refl _ _).drew | exact (HS9.out.step (al0 _ _)).step (Below.refl _ _).drew | exact (HS9.out.step (Below.refl _ _).drew).step (al0 _ _) | exact (HS9.out.step (al0 _ _)).step (al0 _ _))
  case d9 => decide
  case h9 => exact ⟨by kernel_rfl, by kernel_rfl, by kernel_rfl⟩
  rintro e w10 ⟨rfl, hS10, hb10⟩
  have HS10 := Lib.hid hS10
  have HB10 := Lib.hid hb10
  clear hS10 hb10
  go_wp2_with fail
  (with_reducible refine (read_of (w := w) ?s10 ?d10 (rdp_nil _) ?h10 (by decide)).mono ?_)
  case s10 => exact (by with_reducible first | exact HS10.out | exact HS10.out.step (al0 _ _) | exact HS10.out.step (Below.refl _ _).drew | exact (HS10.out.step (al0 _ _)).step (Below.refl _ _).drew | exact (HS10.out.step (Below.refl _ _).drew).step (al0 _ _) | exact (HS10.out.step (al0 _ _)).step (al0 _ _))
  case d10 => decide
  case h10 => exact ⟨by kernel_rfl, by kernel_rfl, by kernel_rfl⟩
  rintro e w11 ⟨rfl, hS11, hb11⟩
  have HS11 := Lib.hid hS11
  have HB11 := Lib.hid hb11
  clear hS11 hb11
  go_wp2_with fail
  (with_reducible refine (read_of (w := w) ?s11 ?d11 (rdp_nil _) ?h11 (by decide)).mono ?_)
  case s11 => exact (by with_reducible first | exact HS11.out | exact HS11.out.step (al0 _ _) | exact HS11.out.step (Below.refl _ _).drew | exact (HS11.out.step (al0 _ _)).step (Below.refl _ _).drew | exact (HS11.out.step (Below.refl _ _).drew).step (al0 _ _) | exact (HS11.out.step (al0 _ _)).step (al0 _ _))
  case d11 => decide
  case h11 => exact ⟨by kernel_rfl, by kernel_rfl, by kernel_rfl⟩
  rintro e w12 ⟨rfl, hS12, hb12⟩
  have HS12 := Lib.hid hS12
  have HB12 := Lib.hid hb12
  clear hS12 hb12
  go_wp2_with fail
  (with_reducible refine (num_any 1 _).mono ?_)
  rintro e w13 ⟨rfl, hb13⟩
  have HS13 := Lib.hid (SP.step (by with_reducible first | exact HS12.out | exact HS12.out.step (al0 _ _) | exact HS12.out.step (Below.refl _ _).drew | exact (HS12.out.step (al0 _ _)).step (Below.refl _ _).drew | exact (HS12.out.step (Below.refl _ _).drew).step (al0 _ _) | exact (HS12.out.step (al0 _ _)).step (al0 _ _)) hb13)
  have HB13 := Lib.hid hb13
  clear hb13
  go_wp2_with fail
  (with_reducible refine (num_any 2 _).mono ?_)
  rintro e w14 ⟨rfl, hb14⟩
  have HS14 := Lib.hid (SP.step (by with_reducible first | exact HS13.out | exact HS13.out.step (al0 _ _) | exact HS13.out.step (Below.refl _ _).drew | exact (HS13.out.step (al0 _ _)).step (Below.refl _ _).drew | exact (HS13.out.step (Below.refl _ _).drew).step (al0 _ _) | exact (HS13.out.step (al0 _ _)).step (al0 _ _)) hb14)
  have HB14 := Lib.hid hb14
  clear hb14
  go_wp2_with fail
  (with_reducible refine (num_any 3 _).mono ?_)
  rintro e w15 ⟨rfl, hb15⟩
  have HS15 := Lib.hid (SP.step (by with_reducible first | exact HS14.out | exact HS14.out.step (al0 _ _) | exact HS14.out.step (Below.refl _ _).drew | exact (HS14.out.step (al0 _ _)).step (Below.refl _ _).drew | exact (HS14.out.step (Below.refl _ _).drew).step (al0 _ _) | exact (HS14.out.step (al0 _ _)).step (al0 _ _)) hb15)
  have HB15 := Lib.hid hb15
  clear hb15
  go_wp2_with fail
  (with_reducible refine (vec_any _ _ _ _).mono ?_)
  rintro e w16 ⟨rfl, hb16⟩
  have HS16 := Lib.hid (SP.step (by with_reducible first | exact HS15.out | exact HS15.out.step (al0 _ _) | exact HS15.out.step (Below.refl _ _).drew | exact (HS15.out.step (al0 _ _)).step (Below.refl _ _).drew | exact (HS15.out.step (Below.refl _ _).drew).step (al0 _ _) | exact (HS15.out.step (al0 _ _)).step (al0 _ _)) hb16)
  have HB16 := Lib.hid hb16
  clear hb16
  go_wp2_with fail
  (with_reducible refine (table_any _ _ _ _ _ _ _).mono ?_)
  rintro e w17 ⟨rfl, hb17⟩
  have HS17 := Lib.hid (SP.step (by with_reducible first | exact HS16.out | exact HS16.out.step (al0 _ _) | exact HS16.out.step (Below.refl _ _).drew | exact (HS16.out.step (al0 _ _)).step (Below.refl _ _).drew | exact (HS16.out.step (Below.refl _ _).drew).step (al0 _ _) | exact (HS16.out.step (al0 _ _)).step (al0 _ _)) hb17)
  have HB17 := Lib.hid hb17
  clear hb17
  go_upto_region 8 with fail
  have b17 := al0 w17 (.cells #[.int .i64 17, .int .i64 0, .int .u64 0, .string ⟨#[]⟩, .slice (some ⟨w12.heap.size, 0, none⟩) 2 2, .slice (some ⟨w16.heap.size, 0, none⟩) 2 2] 38)
  have b16 := tr (al HB17.out) b17
  have b15 := tr (al HB16.out) b16
  have b14 := tr HB15.out b15
  have b13 := tr HB14.out b14
  have KB := (born HB13.out).below b13 (born HB13.out).lt
  have R1 := (born HB16.out).below b16 (born HB16.out).lt
  have R2 := (born HB17.out).below b17 (born HB17.out).lt
  have BM := Blk.new w17 38 #[.int .i64 17, .int .i64 0, .int .u64 0, .string ⟨#[]⟩, .slice (some ⟨w12.heap.size, 0, none⟩) 2 2, .slice (some ⟨w16.heap.size, 0, none⟩) 2 2]
  have HS8 := HS17.out.step b17
  obtain ⟨W8, hW8⟩ : ∃ W8, w17.alloc (.cells #[.int .i64 17, .int .i64 0, .int .u64 0, .string ⟨#[]⟩, .slice (some ⟨w12.heap.size, 0, none⟩) 2 2, .slice (some ⟨w16.heap.size, 0, none⟩) 2 2] 38) = W8 := ⟨_, rfl⟩
  rw [hW8] at KB R1 R2 BM HS8
  rw [hW8]
  have hN23 := nd_vec (l := [nT 2, nT 3]) rfl (Nat.le_refl _) (by decide) R1.lt (two_row R1 (nd_num W8 2 (by decide) (by decide)) (nd_num W8 3 (by decide) (by decide)))
  have hNM : Nd W8 exM [.int .i64 17, .int .i64 0, .int .u64 0, .string ⟨#[]⟩, .slice (some ⟨w12.heap.size, 0, none⟩) 2 2, .slice (some ⟨w16.heap.size, 0, none⟩) 2 2] := nd_tab (rds_two KB (by decide) (by decide)) rfl (Nat.le_refl _) (by decide) R2.lt (two_row R2 (nd_num W8 1 (by decide) (by decide)) hN23)
  have HNM := Lib.hid hNM
  have HBM := Lib.hid BM
  have HS18 := Lib.hid HS8
  obtain ⟨gK, hgK⟩ : ∃ gK, w12.heap.size = gK := ⟨_, rfl⟩
  obtain ⟨gL, hgL⟩ : ∃ gL, w16.heap.size = gL := ⟨_, rfl⟩
  obtain ⟨gM, hgM⟩ : ∃ gM, w17.heap.size = gM := ⟨_, rfl⟩
  rw [hgK, hgL] at HNM HBM
  rw [hgM] at HBM
  simp only [hgK, hgL, hgM]
  clear b17 b16 b15 b14 b13 KB R1 R2 BM HS8 hW8 hN23 hNM hgK hgL hgM
  have HB8 : Hid (Below W8.heap.size W8 W8) := Lib.hid (Below.refl _ _)
  have hall : ∀ W, Below W8.heap.size W8 W → W.cell? ⟨gM, 0, none⟩ = some (.int .i64 17) ∧ W.cell? ⟨gM, 1, none⟩ = some (.int .i64 0) ∧ W.cell? ⟨gM, 2, none⟩ = some (.int .u64 0) ∧ W.cell? ⟨gM, 3, none⟩ = some (.string ⟨#[]⟩) ∧ W.cell? ⟨gM, 4, none⟩ = some (.slice (some ⟨gK, 0, none⟩) 2 2) ∧ W.cell? ⟨gM, 5, none⟩ = some (.slice (some ⟨gL, 0, none⟩) 2 2) := fun W hb => Bx.all (Blk.below HBM.out hb HBM.out.lt)
  obtain ⟨m0, m1, m2, m3, m4, m5⟩ := hall W8 HB8.out
  go_cut [6] (fun v6 wx => Hid (XT W8 #[.int .i64 3, .int .i64 5, .int .u64 0, .string ⟨#[]⟩, .slice none 0 0, .slice none 0 0, .int .i64 17, .int .i64 0, .int .u64 0, .string ⟨#[]⟩, .slice (some ⟨gK, 0, none⟩) 2 2, .slice (some ⟨gL, 0, none⟩) 2 2] v6 wx))
  case first =>
    go_region_held3 (fun W => W.cell? ⟨gM, 0, none⟩ = some (.int .i64 17) ∧ W.cell? ⟨gM, 1, none⟩ = some (.int .i64 0) ∧ W.cell? ⟨gM, 2, none⟩ = some (.int .u64 0) ∧ W.cell? ⟨gM, 3, none⟩ = some (.string ⟨#[]⟩) ∧ W.cell? ⟨gM, 4, none⟩ = some (.slice (some ⟨gK, 0, none⟩) 2 2) ∧ W.cell? ⟨gM, 5, none⟩ = some (.slice (some ⟨gL, 0, none⟩) 2 2)) (exact hall _ (by with_reducible first | exact HB8.out | exact Below.drew HB8.out | exact alB HB8.out | exact Below.drew (alB HB8.out) | exact HB19.out | exact Below.drew HB19.out | exact alB HB19.out | exact Below.drew (alB HB19.out) | exact alB (alB HB19.out) | exact Below.drew (alB (alB HB19.out)) | exact HB20.out | exact Below.drew HB20.out | exact alB HB20.out | exact six_below HB20.out HGE.out _ _ _ _ _ _))
      (first
        | (go_at_call 35; (with_reducible refine (num_any 5 _).mono ?_); rintro e w19 ⟨rfl, hb19⟩; have HB19 := Lib.hid (tr (by with_reducible first | exact HB8.out | exact Below.drew HB8.out | exact alB HB8.out | exact Below.drew (alB HB8.out) | exact alB (Below.drew HB8.out) | exact alB (alB HB8.out) | exact Below.drew (alB (alB HB8.out))) hb19); (first | (with_reducible have HZ19 := Lib.hid (born_drew hb19)) | (with_reducible have HZ19 := Lib.hid (born hb19)) | skip); clear hb19)
        | (go_at_call 36; (with_reducible refine (vec_any _ _ _ _).mono ?_); rintro e w20 ⟨rfl, hb20⟩; have HB20 := Lib.hid (tr (by with_reducible first | exact HB19.out | exact Below.drew HB19.out | exact alB HB19.out | exact Below.drew (alB HB19.out) | exact alB (Below.drew HB19.out) | exact alB (alB HB19.out) | exact Below.drew (alB (alB HB19.out))) hb20); (first | (with_reducible have HR20 := Lib.hid (bornBd hb20)) | (with_reducible have HR20 := Lib.hid (bornB hb20)) | (with_reducible have HR20 := Lib.hid (born_drew hb20)) | (with_reducible have HR20 := Lib.hid (born hb20))); have HB1920 := Lib.hid (tr (by with_reducible first | exact (Below.refl _ w19) | exact Below.drew (Below.refl _ w19) | exact alB (Below.refl _ w19) | exact Below.drew (alB (Below.refl _ w19)) | exact alB (Below.drew (Below.refl _ w19)) | exact alB (alB (Below.refl _ w19)) | exact Below.drew (alB (alB (Below.refl _ w19)))) hb20); (first | (with_reducible have HZ20 : Hid (Blk w20 W8.heap.size 38 zeroA) := Lib.hid (Blk.below HZ19.out HB1920.out HZ19.out.lt); have HGE := Lib.hid (Nat.le_refl W8.heap.size); obtain ⟨⟨p0, p1, p2, p3, p4, p5⟩, f0, f1, f2, f3, f4, f5⟩ := Bx.both HZ20.out) | (with_reducible have HZ20 : Hid (Blk w20 w19.heap.size 38 zeroA) := Lib.hid HR20.out.1; have HGE : Hid (W8.heap.size ≤ w19.heap.size) := Lib.hid HB19.out.size; obtain ⟨⟨p0, p1, p2, p3, p4, p5⟩, f0, f1, f2, f3, f4, f5⟩ := Bx.both HZ20.out) | (with_reducible have HZ20 : Hid (Blk w20 (w19.heap.size + 1) 38 zeroA) := Lib.hid HR20.out.2; have HGE : Hid (W8.heap.size ≤ w19.heap.size + 1) := Lib.hid (Nat.le_succ_of_le HB19.out.size); obtain ⟨⟨p0, p1, p2, p3, p4, p5⟩, f0, f1, f2, f3, f4, f5⟩ := Bx.both HZ20.out) | skip); clear hb20))
    all_goals
      go_wp2_with fail
      go_meet
    all_goals
      have hs19 := HB19.out.size
      (try have hl19 := HZ19.out.lt)
      first
      | with_reducible exact Lib.hid (xt_after HB20.out HR20.out hs19)
      | with_reducible exact Lib.hid (xt_ahead HB20.out HR20.out hs19 HZ20.out HGE.out (by omega))
      | with_reducible exact Lib.hid (xt_ahead HB20.out HR20.out.2 (by omega) HR20.out.1 (by omega) (by omega))
      | with_reducible exact Lib.hid (xt_ahead HB20.out HR20.out.1 (by omega) HR20.out.2 (by omega) (by omega))
  case rest =>
    obtain ⟨W9, hW9⟩ : ∃ W9, W9 = wc := ⟨_, rfl⟩
    subst hW9
    obtain ⟨gT, gR, rfl, hb9, h1, h2, hBT, hBR⟩ := hcut.out
    have HS9 := Lib.hid (HS18.out.step hb9)
    have HBT9 := Lib.hid hBT
    have hBM9 := Blk.below HBM.out hb9 HBM.out.lt
    have hNM9 := HNM.out.bel hb9
    have hNT9 : Nd W9 exT [.int .i64 10, .int .i64 0, .int .u64 0, .string ⟨#[]⟩, .slice none 0 0, .slice (some ⟨gR, 0, none⟩) 2 2] := nd_vec rfl (Nat.le_refl _) (by decide) hBR.lt (two_row hBR (nd_num W9 5 (by decide) (by decide)) hNM9)
    have hmt := HBM.out.lt
    have a10 := al0 W9 (.cells #[.int .i64 0, .int .i64 0, .int .u64 0, .string ⟨#[]⟩, .slice none 0 0, .slice none 0 0] 38)
    have HS10 := Lib.hid (HS9.out.step a10)
    have HBT10 := Lib.hid (Blk.below hBT a10 hBT.lt)
    have HBM10 := Lib.hid (Blk.below hBM9 a10 hBM9.lt)
    have HBN10 := Lib.hid (Blk.new W9 38 #[.int .i64 0, .int .i64 0, .int .u64 0, .string ⟨#[]⟩, .slice none 0 0, .slice none 0 0])
    have HNM10 := Lib.hid (hNM9.bel a10)
    have HNT := Lib.hid (hNT9.bel a10)
    clear hcut hb9 hBT hBR hBM9 hNM9 hNT9 hall m0 m1 m2 m3 m4 m5
    go_upto_region 10 with fail
    obtain ⟨W10, hW10⟩ : ∃ W10, W9.alloc (.cells #[.int .i64 0, .int .i64 0, .int .u64 0, .string ⟨#[]⟩, .slice none 0 0, .slice none 0 0] 38) = W10 := ⟨_, rfl⟩
    obtain ⟨gN, hgN⟩ : ∃ gN, W9.heap.size = gN := ⟨_, rfl⟩
    rw [hW10] at HS10 HBT10 HBM10 HBN10 HNM10 HNT
    rw [hgN] at HBN10
    simp only [hW10, hgN]
    clear a10 hW10
    
    refine reg10 HS10.out HBT10.out HBM10.out HBN10.out HNM10.out HNT.out ?_
    intro z8 z9 z10 z11 z12 z13 z14 z15 z16 z17 z18 z19 z20 z21 z22 z23 z24 z25 z26 z27 z28 z29 z30 z31 z32 z33 z34 z35 z36 z37 z38 z39 z40 z41 z42 z43 z44 z45 z46 z47 z48 z49 z50 z51 z52 z53 z54 z55 z56 z57 z58 z59 z60 z61 z62 z63 z64 z65 z66 z67 z68 z69 z70 z71 z72 z73 z74 z75 z76 z77 z78 z79 z80 z81 z82 z83 z84 z85 z86 z87 z88 z89 z90 z91 z92 z93 z94 z95 z96 z97 z98 z99 z100 z101 z102 z103 z104 z105 z106 z107 z108 z109 z110 z111 z112 z113 z114 z115 z116 z117 z118 z119 z120 z121 z122 z123 z124 z125 z126 z127 z128 z129 z130 z132 z133 z134 z135 z136 z137 z138 z139 z140 z141 z142 z143 z144 z145 z146 z147 z148 z149 z150 z151 z152 z153 z154 z155 z156 z157 z158 z159 z160 z161 z162 z163 z164 z165 z166 z167 z168 z169 z170 W11 HB11
    have HS11 := Lib.hid (HS10.out.step HB11)
    have HBT11 := Lib.hid (Blk.below HBT10.out HB11 HBT10.out.lt)
    have HBN11 := Lib.hid (Blk.below HBN10.out HB11 HBN10.out.lt)
    have HNT11 := Lib.hid (HNT.out.bel HB11)
    clear HB11
    go_upto_region 12 with fail
    refine reg12 (gR := gR) HS11.out HBT11.out HNT11.out ?_
    intro z8 z9 z10 z11 z12 z13 z14 z15 z16 z17 z18 z19 z20 z21 z22 z23 z24 z25 z26 z27 z28 z29 z30 z31 z32 z33 z34 z35 z36 z37 z38 z39 z40 z41 z42 z43 z44 z45 z46 z47 z48 z49 z50 z51 z52 z53 z54 z55 z56 z57 z58 z59 z60 z61 z62 z63 z64 z65 z66 z67 z68 z69 z70 z71 z72 z73 z74 z75 z76 z77 z78 z79 z80 z81 z82 z83 z84 z85 z86 z87 z88 z89 z90 z91 z92 z93 z94 z95 z96 z97 z98 z99 z100 z101 z102 z103 z104 z105 z106 z107 z108 z109 z110 z111 z112 z113 z114 z115 z116 z117 z118 z119 z120 z121 z122 z123 z124 z125 z126 z127 z128 z129 z130 z131 z132 z133 z134 z135 z136 z137 z138 z139 z140 z141 z142 z143 z144 z145 z146 z147 z148 z149 z150 z151 z152 z153 z154 z155 z156 z157 z158 z159 z160 z161 z162 z163 z164 z165 z166 z167 z168 z169 z170 W12 hXX
    obtain ⟨gX, k9, n9, u9, s9, A9, m9, c9, D9, p9, q9, rfl, rfl, hb12, hBX, hNX⟩ := hXX
    have HS12 := Lib.hid (HS11.out.step hb12)
    have HBT12 := Lib.hid (Blk.below HBT11.out hb12 HBT11.out.lt)
    have HBN12 := Lib.hid (Blk.below HBN11.out hb12 HBN11.out.lt)
    have HNT12 := Lib.hid (HNT11.out.bel hb12)
    have HBX12 := Lib.hid hBX
    have HNX12 := Lib.hid hNX
    clear hb12 hBX hNX
    go_upto_region 13 with fail
    refine reg13 (gR := gR) HS12.out HBT12.out HBN12.out HNT12.out ?_
    intro z10 z12 z13 z14 z15 z16 z17 z18 z19 z20 z21 z22 z23 z24 z25 z26 z27 z28 z29 z30 z31 z32 z33 z34 z35 z36 z37 z38 z39 z40 z41 z42 z43 z44 z45 z46 z47 z48 z49 z50 z51 z52 z53 z54 z55 z56 z57 z58 z59 z60 z61 z62 z63 z64 z65 z66 z67 z68 z69 z70 z71 z72 z73 z74 z75 z76 z77 z78 z79 z80 z81 z82 z83 z84 z85 z86 z87 z88 z89 z90 z91 z92 z93 z94 z95 z96 z97 z98 z99 z100 z101 z102 z103 z104 z105 z106 z107 z108 z109 z110 z111 z112 z113 z114 z115 z116 z117 z118 z119 z120 z121 z122 z123 z124 z125 z126 z127 z128 z129 z130 z131 z132 z133 z134 z135 z136 z137 z138 z139 z140 z141 z142 z143 z144 z145 z146 z147 z148 z149 z150 z151 z152 z153 z154 z155 z156 z157 z158 z159 z160 z161 z162 z163 z164 z165 z166 z167 z168 z169 z170 W13 hb13
    have HS13 := Lib.hid (HS12.out.step hb13)
    have HBX13 := Lib.hid (Blk.below HBX12.out hb13 HBX12.out.lt)
    have HNX13 := Lib.hid (HNX12.out.bel hb13)
    clear hb13
    go_upto_region 14 with fail
    refine reg14 HS13.out HBX13.out HNX13.out ?_
    intro z1 z2 z3 z4 z5 z6 z7 z8 z9 z10 z11 z12 z13 z14 z15 z16 z17 z18 z19 z20 z21 z22 z23 z24 z25 z26 z27 z28 z29 z30 z31 z32 z33 z34 z35 z36 z37 z38 z39 z40 z41 z42 z43 z44 z45 z46 z47 z48 z49 z50 z51 z52 z53 z54 z55 z56 z57 z58 z59 z60 z61 z62 z63 z64 z65 z66 z67 z68 z69 z70 z71 z72 z73 z74 z75 z76 z77 z78 z79 z80 z81 z82 z83 z84 z85 z86 z87 z88 z89 z90 z91 z92 z93 z94 z95 z96 z97 z98 z99 z100 z101 z102 z103 z104 z105 z106 z107 z108 z109 z110 z111 z112 z113 z114 z115 z116 z117 z118 z119 z120 z121 z122 z123 z124 z125 z126 z127 z128 z129 z130 z131 z132 z133 z134 z135 z136 z137 z138 z139 z140 z141 z142 z143 z144 z145 z146 z147 z148 z149 z150 z151 z152 z153 z154 z155 z156 z157 z158 z159 z160 z161 z162 z163 z164 z165 z166 z167 z168 z169 z170 W14 hS14
    go_wp2_with fail
    go_ret
    exact ⟨rfl, hS14⟩
end Go.Proofs.YtjnfilbdokppiaaGreatDoor
