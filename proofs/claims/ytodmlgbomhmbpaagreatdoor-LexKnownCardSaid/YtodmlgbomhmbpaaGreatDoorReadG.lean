/-
  What is proved here: contracts of the reader's methods readEscape, readFirst and readSecond: each takes the reader from one state to that of the machine; conditions: those that each fact states.
-/
import Derived.Test.YtodmlgbomhmbpaaGreatDoorReadN
namespace Go.Proofs.YtodmlgbomhmbpaaGreatDoor
open Go.RowKit Ut Go.Lib

theorem wr_val {H L N : Nat} (h1 : 55296 ≤ H) (h2 : H < 56320) (h3 : 56320 ≤ L) (h4 : L ≤ 57343) (hN : 65536 + 1024 * (H - 55296) + L - 56320 = N) :
    wrap32 (wrap32 (wrap32 (65536 + wrap32 (1024 * wrap32 ((H : Int) - 55296))) + (L : Int)) - 56320) = ((N : Nat) : Int) := by
  unfold wrap32; omega

theorem readSecond_no (w : World) (B R c : Nat) (q : Q) (hc : c < 256) (hd : dv c = none) :
    Calls Tryz.prog 77 #[.pointer (some ⟨R, 0, none⟩), .int .u8 (c : Int)] w (Got w B R (secondS q c)) := by
  have hres : secondS q c = (q, 41) := by unfold secondS; rw [hd]
  rw [hres]
  have HA := Lib.hid (add_no R 3 c w hc hd)
  clear hres hd
  go_enter Tryz.func77, Tryz.ntmps77
  go_wp2_with (go_at_call 84; refine HA.out.mono ?_; rintro e w1 ⟨rfl, rfl⟩)
  go_ret
  exact ⟨rfl, (fun h => by simp at h), Below.refl _ _⟩

set_option maxHeartbeats 4000000 in
set_option maxRecDepth 1000000 in
theorem readSecond_bada (w : World) (B R c d : Nat) (q : Q) (h : RS w B R q) (hc : c < 256) (hdv : dv c = some d) (hcode : q.code < 4096) (hdig : q.dig < 4) (hlt : q.code * 16 + d < 16 ^ (q.dig + 1)) (hb : hi (q.code * 16 + d) (q.dig + 1) < 56320) :
    Calls Tryz.prog 77 #[.pointer (some ⟨R, 0, none⟩), .int .u8 (c : Int)] w (Got w B R ({ q with code := q.code * 16 + d, dig := q.dig + 1 }, 41)) := by
  have hd16 := dv_lt hdv
  have A := add_yes_rs w B R c d q h hc hdv hcode hdig
  obtain ⟨C1, hC1⟩ : ∃ C1, q.code * 16 + d = C1 := ⟨_, rfl⟩
  obtain ⟨D1, hD1⟩ : ∃ D1, q.dig + 1 = D1 := ⟨_, rfl⟩
  have hC65 : C1 < 65536 := by omega
  have hD4 : D1 = 1 ∨ D1 = 2 ∨ D1 = 3 ∨ D1 = 4 := by omega
  rw [hC1, hD1] at A hlt
  (try rw [hC1] at hb); (try rw [hD1] at hb)
  (try rw [hC1]); (try rw [hD1])
  obtain ⟨L, hL⟩ : ∃ L, lo C1 D1 = L := ⟨_, rfl⟩
  obtain ⟨U, hU⟩ : ∃ U, hi C1 D1 = U := ⟨_, rfl⟩
  (try rw [hL] at hb); (try rw [hU] at hb)
  (try rw [hL]); (try rw [hU])
  have hi1 : decide ((U : Int) < 56320) = true := decide_eq_true (by omega)
  have H_hb := Lib.hid hb
  clear hb
  have HA := Lib.hid A
  have HC65 := Lib.hid hC65
  clear hC65
  have HL := Lib.hid hL
  have HU := Lib.hid hU
  have HLT := Lib.hid hlt
  have HD4 := Lib.hid hD4
  clear A hL hU hlt h hdv hC1 hD1 hD4
  go_enter Tryz.func77, Tryz.ntmps77
  go_wp2_with (first
    | (go_at_call 84; refine HA.out.mono ?_; rintro e w1 ⟨rfl, hr1, hb1⟩; have k0 := hr1.c0; have k3 := hr1.c3; have k4 := hr1.c4; have k5 := hr1.c5; have HR1 := Lib.hid hr1; have HB1 := Lib.hid hb1; clear hr1 hb1; dsimp only at k0 k3 k4 k5)
    | (go_at_call 85; refine (bounds_any C1 D1 _ HC65.out HD4.out HLT.out).mono ?_; rintro e w2 ⟨rfl, hb2⟩; rw [HL.out, HU.out]; have HR2 := Lib.hid (HR1.out.below hb2 (Nat.le_refl _)); have HB2 := Lib.hid (HB1.out.trans (hb2.mono (Nat.le_trans HR1.out.rb (Nat.le_of_lt HR1.out.lt)))); clear hb2; have m0 := HR2.out.c0; have m3 := HR2.out.c3; have m4 := HR2.out.c4; have m5 := HR2.out.c5; dsimp only at m0 m3 m4 m5)
    | (go_at_call 86; refine (complete_any C1 D1 _).mono ?_; rintro e w3 ⟨rfl, hb3⟩; have HR3 := Lib.hid (HR2.out.below hb3 (Nat.le_refl _)); have HB3 := Lib.hid (HB2.out.trans (hb3.mono (Nat.le_trans HR2.out.rb (Nat.le_of_lt HR2.out.lt)))); clear hb3; have p0 := HR3.out.c0; have p3 := HR3.out.c3; have p4 := HR3.out.c4; have p5 := HR3.out.c5; have fz := HR3.out.fz; have f0 := fz 0; have f3 := fz 3; have f4 := fz 4; have f5 := fz 5; clear fz; dsimp only at p0 p3 p4 p5))
  go_ret
  exact ⟨rfl, (fun h => by simp at h), HB2.out⟩

set_option maxHeartbeats 4000000 in
set_option maxRecDepth 1000000 in
theorem readSecond_badb (w : World) (B R c d : Nat) (q : Q) (h : RS w B R q) (hc : c < 256) (hdv : dv c = some d) (hcode : q.code < 4096) (hdig : q.dig < 4) (hlt : q.code * 16 + d < 16 ^ (q.dig + 1)) (hb : ¬ hi (q.code * 16 + d) (q.dig + 1) < 56320) (hb2 : 57343 < lo (q.code * 16 + d) (q.dig + 1)) :
    Calls Tryz.prog 77 #[.pointer (some ⟨R, 0, none⟩), .int .u8 (c : Int)] w (Got w B R ({ q with code := q.code * 16 + d, dig := q.dig + 1 }, 41)) := by
  have hd16 := dv_lt hdv
  have A := add_yes_rs w B R c d q h hc hdv hcode hdig
  obtain ⟨C1, hC1⟩ : ∃ C1, q.code * 16 + d = C1 := ⟨_, rfl⟩
  obtain ⟨D1, hD1⟩ : ∃ D1, q.dig + 1 = D1 := ⟨_, rfl⟩
  have hC65 : C1 < 65536 := by omega
  have hD4 : D1 = 1 ∨ D1 = 2 ∨ D1 = 3 ∨ D1 = 4 := by omega
  rw [hC1, hD1] at A hlt
  (try rw [hC1] at hb); (try rw [hD1] at hb)
  (try rw [hC1] at hb2); (try rw [hD1] at hb2)
  (try rw [hC1]); (try rw [hD1])
  obtain ⟨L, hL⟩ : ∃ L, lo C1 D1 = L := ⟨_, rfl⟩
  obtain ⟨U, hU⟩ : ∃ U, hi C1 D1 = U := ⟨_, rfl⟩
  (try rw [hL] at hb); (try rw [hU] at hb)
  (try rw [hL] at hb2); (try rw [hU] at hb2)
  (try rw [hL]); (try rw [hU])
  have hi1 : decide ((U : Int) < 56320) = false := decide_eq_false (by omega)
  have hi2 : decide (57343 < (L : Int)) = true := decide_eq_true (by omega)
  have H_hb := Lib.hid hb
  clear hb
  have H_hb2 := Lib.hid hb2
  clear hb2
  have HA := Lib.hid A
  have HC65 := Lib.hid hC65
  clear hC65
  have HL := Lib.hid hL
  have HU := Lib.hid hU
  have HLT := Lib.hid hlt
  have HD4 := Lib.hid hD4
  clear A hL hU hlt h hdv hC1 hD1 hD4
  go_enter Tryz.func77, Tryz.ntmps77
  go_wp2_with (first
    | (go_at_call 84; refine HA.out.mono ?_; rintro e w1 ⟨rfl, hr1, hb1⟩; have k0 := hr1.c0; have k3 := hr1.c3; have k4 := hr1.c4; have k5 := hr1.c5; have HR1 := Lib.hid hr1; have HB1 := Lib.hid hb1; clear hr1 hb1; dsimp only at k0 k3 k4 k5)
    | (go_at_call 85; refine (bounds_any C1 D1 _ HC65.out HD4.out HLT.out).mono ?_; rintro e w2 ⟨rfl, hb2⟩; rw [HL.out, HU.out]; have HR2 := Lib.hid (HR1.out.below hb2 (Nat.le_refl _)); have HB2 := Lib.hid (HB1.out.trans (hb2.mono (Nat.le_trans HR1.out.rb (Nat.le_of_lt HR1.out.lt)))); clear hb2; have m0 := HR2.out.c0; have m3 := HR2.out.c3; have m4 := HR2.out.c4; have m5 := HR2.out.c5; dsimp only at m0 m3 m4 m5)
    | (go_at_call 86; refine (complete_any C1 D1 _).mono ?_; rintro e w3 ⟨rfl, hb3⟩; have HR3 := Lib.hid (HR2.out.below hb3 (Nat.le_refl _)); have HB3 := Lib.hid (HB2.out.trans (hb3.mono (Nat.le_trans HR2.out.rb (Nat.le_of_lt HR2.out.lt)))); clear hb3; have p0 := HR3.out.c0; have p3 := HR3.out.c3; have p4 := HR3.out.c4; have p5 := HR3.out.c5; have fz := HR3.out.fz; have f0 := fz 0; have f3 := fz 3; have f4 := fz 4; have f5 := fz 5; clear fz; dsimp only at p0 p3 p4 p5))
  go_ret
  exact ⟨rfl, (fun h => by simp at h), HB2.out⟩

set_option maxHeartbeats 4000000 in
set_option maxRecDepth 1000000 in
theorem readSecond_more (w : World) (B R c d : Nat) (q : Q) (h : RS w B R q) (hc : c < 256) (hdv : dv c = some d) (hcode : q.code < 4096) (hdig : q.dig < 4) (hlt : q.code * 16 + d < 16 ^ (q.dig + 1)) (hb : ¬ hi (q.code * 16 + d) (q.dig + 1) < 56320) (hb2 : ¬ 57343 < lo (q.code * 16 + d) (q.dig + 1)) (h4 : q.dig + 1 ≠ 4) :
    Calls Tryz.prog 77 #[.pointer (some ⟨R, 0, none⟩), .int .u8 (c : Int)] w (Got w B R ({ q with code := q.code * 16 + d, dig := q.dig + 1 }, 0)) := by
  have hd16 := dv_lt hdv
  have A := add_yes_rs w B R c d q h hc hdv hcode hdig
  obtain ⟨C1, hC1⟩ : ∃ C1, q.code * 16 + d = C1 := ⟨_, rfl⟩
  obtain ⟨D1, hD1⟩ : ∃ D1, q.dig + 1 = D1 := ⟨_, rfl⟩
  have hC65 : C1 < 65536 := by omega
  have hD4 : D1 = 1 ∨ D1 = 2 ∨ D1 = 3 ∨ D1 = 4 := by omega
  rw [hC1, hD1] at A hlt
  (try rw [hC1] at hb); (try rw [hD1] at hb)
  (try rw [hC1] at hb2); (try rw [hD1] at hb2)
  (try rw [hC1] at h4); (try rw [hD1] at h4)
  (try rw [hC1]); (try rw [hD1])
  obtain ⟨L, hL⟩ : ∃ L, lo C1 D1 = L := ⟨_, rfl⟩
  obtain ⟨U, hU⟩ : ∃ U, hi C1 D1 = U := ⟨_, rfl⟩
  (try rw [hL] at hb); (try rw [hU] at hb)
  (try rw [hL] at hb2); (try rw [hU] at hb2)
  (try rw [hL] at h4); (try rw [hU] at h4)
  (try rw [hL]); (try rw [hU])
  have hi1 : decide ((U : Int) < 56320) = false := decide_eq_false (by omega)
  have hi2 : decide (57343 < (L : Int)) = false := decide_eq_false (by omega)
  have hd4 : ((D1 : Int) == 4) = false := by simp; omega
  have H_hb := Lib.hid hb
  clear hb
  have H_hb2 := Lib.hid hb2
  clear hb2
  have H_h4 := Lib.hid h4
  clear h4
  have HA := Lib.hid A
  have HC65 := Lib.hid hC65
  clear hC65
  have HL := Lib.hid hL
  have HU := Lib.hid hU
  have HLT := Lib.hid hlt
  have HD4 := Lib.hid hD4
  clear A hL hU hlt h hdv hC1 hD1 hD4
  go_enter Tryz.func77, Tryz.ntmps77
  go_wp2_with (first
    | (go_at_call 84; refine HA.out.mono ?_; rintro e w1 ⟨rfl, hr1, hb1⟩; have k0 := hr1.c0; have k3 := hr1.c3; have k4 := hr1.c4; have k5 := hr1.c5; have HR1 := Lib.hid hr1; have HB1 := Lib.hid hb1; clear hr1 hb1; dsimp only at k0 k3 k4 k5)
    | (go_at_call 85; refine (bounds_any C1 D1 _ HC65.out HD4.out HLT.out).mono ?_; rintro e w2 ⟨rfl, hb2⟩; rw [HL.out, HU.out]; have HR2 := Lib.hid (HR1.out.below hb2 (Nat.le_refl _)); have HB2 := Lib.hid (HB1.out.trans (hb2.mono (Nat.le_trans HR1.out.rb (Nat.le_of_lt HR1.out.lt)))); clear hb2; have m0 := HR2.out.c0; have m3 := HR2.out.c3; have m4 := HR2.out.c4; have m5 := HR2.out.c5; dsimp only at m0 m3 m4 m5)
    | (go_at_call 86; refine (complete_any C1 D1 _).mono ?_; rintro e w3 ⟨rfl, hb3⟩; have HR3 := Lib.hid (HR2.out.below hb3 (Nat.le_refl _)); have HB3 := Lib.hid (HB2.out.trans (hb3.mono (Nat.le_trans HR2.out.rb (Nat.le_of_lt HR2.out.lt)))); clear hb3; have p0 := HR3.out.c0; have p3 := HR3.out.c3; have p4 := HR3.out.c4; have p5 := HR3.out.c5; have fz := HR3.out.fz; have f0 := fz 0; have f3 := fz 3; have f4 := fz 4; have f5 := fz 5; clear fz; dsimp only at p0 p3 p4 p5))
  go_ret
  exact ⟨rfl, fun _ => HR3.out, HB3.out⟩

set_option maxHeartbeats 4000000 in
set_option maxRecDepth 1000000 in
theorem readSecond_den (w : World) (B R c d : Nat) (q : Q) (h : RS w B R q) (hc : c < 256) (hdv : dv c = some d) (hcode : q.code < 4096) (hdig : q.dig < 4) (hlt : q.code * 16 + d < 16 ^ (q.dig + 1)) (hb : ¬ hi (q.code * 16 + d) (q.dig + 1) < 56320) (hb2 : ¬ 57343 < lo (q.code * 16 + d) (q.dig + 1)) (h4 : q.dig + 1 = 4) (htl : q.text.length ≤ 900000) (hh : 55296 ≤ q.high) (hh2 : q.high < 56320) :
    Calls Tryz.prog 77 #[.pointer (some ⟨R, 0, none⟩), .int .u8 (c : Int)] w (Got w B R (den q (65536 + 1024 * (q.high - 55296) + lo (q.code * 16 + d) (q.dig + 1) - 56320), 0)) := by
  have hd16 := dv_lt hdv
  have A := add_yes_rs w B R c d q h hc hdv hcode hdig
  obtain ⟨C1, hC1⟩ : ∃ C1, q.code * 16 + d = C1 := ⟨_, rfl⟩
  obtain ⟨D1, hD1⟩ : ∃ D1, q.dig + 1 = D1 := ⟨_, rfl⟩
  have hC65 : C1 < 65536 := by omega
  have hD4 : D1 = 1 ∨ D1 = 2 ∨ D1 = 3 ∨ D1 = 4 := by omega
  rw [hC1, hD1] at A hlt
  (try rw [hC1] at hb); (try rw [hD1] at hb)
  (try rw [hC1] at hb2); (try rw [hD1] at hb2)
  (try rw [hC1] at h4); (try rw [hD1] at h4)
  (try rw [hC1]); (try rw [hD1])
  obtain ⟨L, hL⟩ : ∃ L, lo C1 D1 = L := ⟨_, rfl⟩
  obtain ⟨U, hU⟩ : ∃ U, hi C1 D1 = U := ⟨_, rfl⟩
  (try rw [hL] at hb); (try rw [hU] at hb)
  (try rw [hL] at hb2); (try rw [hU] at hb2)
  (try rw [hL] at h4); (try rw [hU] at h4)
  (try rw [hL]); (try rw [hU])
  have hi1 : decide ((U : Int) < 56320) = false := decide_eq_false (by omega)
  have hi2 : decide (57343 < (L : Int)) = false := decide_eq_false (by omega)
  have hd4 : ((D1 : Int) == 4) = true := by simp; omega
  have hLC : L = C1 := by rw [← hL]; unfold lo; rw [h4]; simp
  have hUC : U = C1 := by rw [← hU]; unfold hi; rw [h4]; simp
  obtain ⟨N, hN⟩ : ∃ N, 65536 + 1024 * (q.high - 55296) + L - 56320 = N := ⟨_, rfl⟩
  obtain ⟨G, hG⟩ : ∃ G, q.high = G := ⟨_, rfl⟩
  have hsc : scal N := by unfold scal; omega
  have he : wrap32 (wrap32 (wrap32 (65536 + wrap32 (1024 * wrap32 ((q.high : Int) - 55296))) + (L : Int)) - 56320) = ((N : Nat) : Int) := wr_val hh hh2 (by omega) (by omega) hN
  rw [hN]
  have HE := Lib.hid he
  have HSC := Lib.hid hsc
  have HTL := Lib.hid htl
  clear htl hN he hsc hG
  have H_hb := Lib.hid hb
  clear hb
  have H_hb2 := Lib.hid hb2
  clear hb2
  have H_h4 := Lib.hid h4
  clear h4
  have H_hh := Lib.hid hh
  clear hh
  have H_hh2 := Lib.hid hh2
  clear hh2
  have H_hLC := Lib.hid hLC
  clear hLC
  have H_hUC := Lib.hid hUC
  clear hUC
  have HA := Lib.hid A
  have HC65 := Lib.hid hC65
  clear hC65
  have HL := Lib.hid hL
  have HU := Lib.hid hU
  have HLT := Lib.hid hlt
  have HD4 := Lib.hid hD4
  clear A hL hU hlt h hdv hC1 hD1 hD4
  go_enter Tryz.func77, Tryz.ntmps77
  go_wp2_with (first
    | (go_at_call 84; refine HA.out.mono ?_; rintro e w1 ⟨rfl, hr1, hb1⟩; have k0 := hr1.c0; have k3 := hr1.c3; have k4 := hr1.c4; have k5 := hr1.c5; have HR1 := Lib.hid hr1; have HB1 := Lib.hid hb1; clear hr1 hb1; dsimp only at k0 k3 k4 k5)
    | (go_at_call 85; refine (bounds_any C1 D1 _ HC65.out HD4.out HLT.out).mono ?_; rintro e w2 ⟨rfl, hb2⟩; rw [HL.out, HU.out]; have HR2 := Lib.hid (HR1.out.below hb2 (Nat.le_refl _)); have HB2 := Lib.hid (HB1.out.trans (hb2.mono (Nat.le_trans HR1.out.rb (Nat.le_of_lt HR1.out.lt)))); clear hb2; have m0 := HR2.out.c0; have m3 := HR2.out.c3; have m4 := HR2.out.c4; have m5 := HR2.out.c5; dsimp only at m0 m3 m4 m5)
    | (go_at_call 86; refine (complete_any C1 D1 _).mono ?_; rintro e w3 ⟨rfl, hb3⟩; have HR3 := Lib.hid (HR2.out.below hb3 (Nat.le_refl _)); have HB3 := Lib.hid (HB2.out.trans (hb3.mono (Nat.le_trans HR2.out.rb (Nat.le_of_lt HR2.out.lt)))); clear hb3; have p0 := HR3.out.c0; have p3 := HR3.out.c3; have p4 := HR3.out.c4; have p5 := HR3.out.c5; have fz := HR3.out.fz; have f0 := fz 0; have f3 := fz 3; have f4 := fz 4; have f5 := fz 5; clear fz; dsimp only at p0 p3 p4 p5)
    | (go_at_call 83; refine (den_int (r := N) HR3.out HSC.out HTL.out HE.out).mono ?_; rintro e w4 ⟨rfl, hr4, hb4⟩; have HR4 := Lib.hid hr4; have HB4 := Lib.hid (HB3.out.trans hb4); clear hr4 hb4))
  go_ret
  exact ⟨rfl, fun _ => HR4.out, HB4.out⟩
end Go.Proofs.YtodmlgbomhmbpaaGreatDoor
