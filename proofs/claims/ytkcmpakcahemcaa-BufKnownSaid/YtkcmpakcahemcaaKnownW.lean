/-
  What is proved here: BufKnown returns true and leaves all memory that was there as it was; no condition.
-/
import Derived.Test.YtkcmpakcahemcaaKnownP
import Derived.Deep.DeepCutAuto
import Derived.Deep.CutBlock
namespace Go.Proofs.Ytkcmpakcahemcaa
open Go.RowKit Le

theorem rep_any (c : Nat) (i : Int) (w : World) (hi : i = (c : Int)) (hc : c ≤ 2000000) :
    Calls Try.prog 28 #[.string ⟨#[97]⟩, .int .i64 i] w fun e w' => ∃ S, e = .returned (.string S) ∧ S.size = c ∧ Below w.heap.size w w' := by
  subst hi
  refine (Try.strings_Repeat ⟨#[97]⟩ c w (by omega) (by show 1 * c ≤ _; omega)).mono ?_
  rintro e w' ⟨rfl, hb⟩
  refine ⟨_, rfl, ?_, hb⟩
  rw [size_dt]
  show (Lib.repeatL [97] c).toArray.toList.length = c
  rw [List.toList_toArray, Lib.repeatL_length]
  simp

section
variable {w0 w : World} {p m : Nat} {s s' : St}
theorem textV (h : Bu w0 p m s w) {cs : Array Value} {g n : Nat} (L : List ByteArray) (hcs : cs = (L.map Value.string).toArray) (hg : g = w.heap.size) (hn : n = L.length) (hL : L.length ≤ 1000) (hc : (cat L).length ≤ 4000000) (hs : addS m s (cat L) = s') :
    Calls Try.prog 23 #[.pointer (some ⟨p, 0, none⟩), .slice (some ⟨g, 0, none⟩) n n] (w.alloc (.cells cs 9)) fun e w' => e = .returned (.tuple #[]) ∧ Bu w0 p m s' w' := by
  subst hs; exact text_U h L hcs hg hn hL hc
theorem text0V (h : Bu w0 p m s w) (hs : addS m s [] = s') : Calls Try.prog 23 #[.pointer (some ⟨p, 0, none⟩), .slice none 0 0] w fun e w' => e = .returned (.tuple #[]) ∧ Bu w0 p m s' w' := by
  subst hs
  obtain ⟨⟨v, hv⟩, hb⟩ := h
  exact (text_any (L := []) hv ⟨none, 0, rfl, Nat.le_refl _, fun h => absurd h (by simp)⟩ (by simp) (by simp [cat])).mono fun e w' hh => Bu.of hv hb hh
theorem alignV (h : Bu w0 p m s w) (x : Int) (hs : algS m s x = s') : Calls Try.prog 25 #[.pointer (some ⟨p, 0, none⟩), .int .i64 x] w fun e w' => e = .returned (.tuple #[]) ∧ Bu w0 p m s' w' := by
  subst hs; exact align_U h x
theorem errV (h : Bu w0 p m s w) (k : Int) (hk : s.2 = k) : Calls Try.prog 17 #[.pointer (some ⟨p, 0, none⟩)] w fun e w' => e = .returned (.int .i64 k) ∧ w = w' := by
  subst hk; exact err_U h
theorem lenV' (h : Bu w0 p m s w) (k : Int) (hk : (s.1.length : Int) = k) : Calls Try.prog 16 #[.pointer (some ⟨p, 0, none⟩)] w fun e w' => e = .returned (.int .i64 k) ∧ w = w' := by
  subst hk; exact len_U h
end

/-- The three buffers of the first half, one behind the other. -/
theorem cpA : cp (-5) = 0 := by decide +kernel
theorem cpB : cp 9223372036854775807 = 1048576 := cp_big (by decide)
theorem cpC : cp 5 = 5 := by decide +kernel
/-- The full buffer. -/
theorem full_text {S : ByteArray} (h : S.size = 1048576) : addS 1048576 ([], 0) (cat [S]) = (S.data.toList, 0) := by
  rw [cat_one]
  unfold addS
  rw [if_pos rfl]
  have hl : S.data.toList.length = 1048576 := by rw [← size_dt]; exact h
  have := ad_in (m := 1048576) (xs := []) (ys := S.data.toList) (by rw [hl]; exact Nat.le_refl _)
  rw [this.1, this.2]
  rfl
theorem full_align {L : List UInt8} (h : L.length = 1048576) : algS 1048576 (L, 0) 8 = (L, 0) := by
  unfold algS
  rw [if_pos rfl, if_pos (show isW 8 = true from rfl)]
  have hp : pad L.length 8 = 0 := by rw [h]; decide +kernel
  show (adL 1048576 L (List.replicate (pad L.length 8) 0), adE 1048576 L (List.replicate (pad L.length 8) 0)) = (L, 0)
  rw [hp]
  have := ad_in (m := 1048576) (xs := L) (ys := []) (by rw [h]; exact Nat.le_refl _)
  rw [List.replicate_zero, this.1, this.2, List.append_nil]
theorem full_more {L : List UInt8} (h : L.length = 1048576) : addS 1048576 (L, 0) (cat [⟨#[97]⟩]) = (L, 5) := by
  rw [cat_one]
  unfold addS
  rw [if_pos rfl]
  have := ad_out (m := 1048576) (xs := L) (ys := [97]) (by rw [h]; decide)
  exact Prod.ext this.1 this.2

theorem plays_new (a : Int) (L : List Dv) (w : World) {cs : Array Value} {n g : Nat} (hc : cs = (L.flatMap Dv.row).toArray) (hg : g = w.heap.size) (hn : n = L.length) (hL : L.length ≤ 1000) (hok : ∀ d ∈ L, okD d) (h0 : -9223372036854775808 ≤ a) (h1 : a ≤ 9223372036854775807) :
    Calls Try.prog 3 #[.int .i64 a, .slice (some ⟨g, 0, none⟩) n n] (w.alloc (.cells cs 30)) fun e w' => e = .returned (.bool true) ∧ Below w.heap.size w w' :=
  (bufPlays_walk a L _ _ h0 h1 (RdD.new L hc hg hn hL hok)).mono fun e w' ⟨h2, h3⟩ => ⟨h2, ((Below.refl w.heap.size w).alloc (Nat.le_refl _) _).trans (h3.mono (by simp))⟩
theorem plays1 (k : Nat) (i : Int) (hi : i = (k : Int) - 1) (hk : k ≤ 18) : ∀ W g, g = W.heap.size → Calls Try.prog 3 #[.int .i64 100, .slice (some ⟨g, 0, none⟩) 2 2] (W.alloc (.cells #[.int .i64 2, .int .i64 0, .int .i64 0, .int .u64 0, .string ⟨#[97, 98, 99]⟩, .int .i64 0, .int .i64 i, .int .i64 0, .int .u64 0, .string ⟨#[]⟩] 30)) fun e w' => e = .returned (.bool true) ∧ Below W.heap.size W w' := by
  intro W g hg
  refine plays_new 100 [⟨2, 0, 0, 0, ⟨#[97, 98, 99]⟩⟩, ⟨0, i, 0, 0, ⟨#[]⟩⟩] W rfl hg rfl (by simp) (fun d hd => ?_) (by omega) (by omega)
  simp only [List.mem_cons, List.not_mem_nil, or_false] at hd
  rcases hd with rfl | rfl
  all_goals exact ⟨by dsimp only; omega, by dsimp only; omega, by dsimp only; omega, by dsimp only; omega, by dsimp only; omega, by dsimp only; omega, by dsimp only; omega, by dsimp only; decide⟩

theorem plays2 (k : Nat) (i : Int) (hi : i = (k : Int) - 1) (hk : k ≤ 18) : ∀ W g, g = W.heap.size → Calls Try.prog 3 #[.int .i64 100, .slice (some ⟨g, 0, none⟩) 1 1] (W.alloc (.cells #[.int .i64 1, .int .i64 i, .int .i64 0, .int .u64 255, .string ⟨#[]⟩] 30)) fun e w' => e = .returned (.bool true) ∧ Below W.heap.size W w' := by
  intro W g hg
  refine plays_new 100 [⟨1, i, 0, 255, ⟨#[]⟩⟩] W rfl hg rfl (by simp) (fun d hd => ?_) (by omega) (by omega)
  simp only [List.mem_cons, List.not_mem_nil, or_false] at hd
  rcases hd with rfl
  all_goals exact ⟨by dsimp only; omega, by dsimp only; omega, by dsimp only; omega, by dsimp only; omega, by dsimp only; omega, by dsimp only; omega, by dsimp only; omega, by dsimp only; decide⟩

theorem plays3 (k : Nat) (i : Int) (hi : i = (k : Int) - 1) (hk : k ≤ 18) : ∀ W g, g = W.heap.size → Calls Try.prog 3 #[.int .i64 100, .slice (some ⟨g, 0, none⟩) 3 3] (W.alloc (.cells #[.int .i64 2, .int .i64 0, .int .i64 0, .int .u64 0, .string ⟨#[97, 98, 99]⟩, .int .i64 3, .int .i64 0, .int .i64 i, .int .u64 0, .string ⟨#[]⟩, .int .i64 1, .int .i64 1, .int .i64 0, .int .u64 (k : Int), .string ⟨#[]⟩] 30)) fun e w' => e = .returned (.bool true) ∧ Below W.heap.size W w' := by
  intro W g hg
  refine plays_new 100 [⟨2, 0, 0, 0, ⟨#[97, 98, 99]⟩⟩, ⟨3, 0, i, 0, ⟨#[]⟩⟩, ⟨1, 1, 0, k, ⟨#[]⟩⟩] W rfl hg rfl (by simp) (fun d hd => ?_) (by omega) (by omega)
  simp only [List.mem_cons, List.not_mem_nil, or_false] at hd
  rcases hd with rfl | rfl | rfl
  all_goals exact ⟨by dsimp only; omega, by dsimp only; omega, by dsimp only; omega, by dsimp only; omega, by dsimp only; omega, by dsimp only; omega, by dsimp only; omega, by dsimp only; decide⟩

theorem plays4 (k : Nat) (i : Int) (hi : i = (k : Int) - 1) (hk : k ≤ 18) : ∀ W g, g = W.heap.size → Calls Try.prog 3 #[.int .i64 i, .slice (some ⟨g, 0, none⟩) 3 3] (W.alloc (.cells #[.int .i64 4, .int .i64 0, .int .i64 0, .int .u64 0, .string ⟨#[97, 98, 99]⟩, .int .i64 0, .int .i64 8, .int .i64 0, .int .u64 0, .string ⟨#[]⟩, .int .i64 1, .int .i64 8, .int .i64 0, .int .u64 18446744073709551615, .string ⟨#[]⟩] 30)) fun e w' => e = .returned (.bool true) ∧ Below W.heap.size W w' := by
  intro W g hg
  refine plays_new i [⟨4, 0, 0, 0, ⟨#[97, 98, 99]⟩⟩, ⟨0, 8, 0, 0, ⟨#[]⟩⟩, ⟨1, 8, 0, 18446744073709551615, ⟨#[]⟩⟩] W rfl hg rfl (by simp) (fun d hd => ?_) (by omega) (by omega)
  simp only [List.mem_cons, List.not_mem_nil, or_false] at hd
  rcases hd with rfl | rfl | rfl
  all_goals exact ⟨by dsimp only; omega, by dsimp only; omega, by dsimp only; omega, by dsimp only; omega, by dsimp only; omega, by dsimp only; omega, by dsimp only; omega, by dsimp only; decide⟩

theorem plays5 : ∀ W g, g = W.heap.size → Calls Try.prog 3 #[.int .i64 (-9223372036854775808), .slice (some ⟨g, 0, none⟩) 1 1] (W.alloc (.cells #[.int .i64 3, .int .i64 0, .int .i64 (-9223372036854775808), .int .u64 0, .string ⟨#[]⟩] 30)) fun e w' => e = .returned (.bool true) ∧ Below W.heap.size W w' := by
  intro W g hg
  refine plays_new (-9223372036854775808) [⟨3, 0, (-9223372036854775808), 0, ⟨#[]⟩⟩] W rfl hg rfl (by simp) (fun d hd => ?_) (by decide) (by decide)
  simp only [List.mem_cons, List.not_mem_nil, or_false] at hd
  subst hd
  exact ⟨by decide, by decide, by decide, by decide, by decide, by decide, by decide, by decide⟩
theorem plays6 : ∀ W g, g = W.heap.size → Calls Try.prog 3 #[.int .i64 9, .slice (some ⟨g, 0, none⟩) 1 1] (W.alloc (.cells #[.int .i64 3, .int .i64 0, .int .i64 9223372036854775807, .int .u64 0, .string ⟨#[]⟩] 30)) fun e w' => e = .returned (.bool true) ∧ Below W.heap.size W w' := by
  intro W g hg
  refine plays_new 9 [⟨3, 0, 9223372036854775807, 0, ⟨#[]⟩⟩] W rfl hg rfl (by simp) (fun d hd => ?_) (by decide) (by decide)
  simp only [List.mem_cons, List.not_mem_nil, or_false] at hd
  subst hd
  exact ⟨by decide, by decide, by decide, by decide, by decide, by decide, by decide, by decide⟩
set_option maxRecDepth 20000 in
set_option maxHeartbeats 4000000 in
theorem bufKnown_walk (w : World) : Calls Try.prog 8 #[] w fun e w' => e = .returned (.bool true) ∧ Below w.heap.size w w' := by
  have HN1 := Lib.hid (new_U (Below.refl w.heap.size w) (-5))
  rw [cpA] at HN1
  have HN2 : Hid (∀ W, Calls Try.prog 9 #[.int .i64 9223372036854775807] W fun e w' => ∃ p, e = .returned (.pointer (some ⟨p, 0, none⟩)) ∧ Bu W p 1048576 ([], 0) w') := Lib.hid fun W => by
    have := new_U (Below.refl W.heap.size W) 9223372036854775807
    rwa [cpB] at this
  have HN3 : Hid (∀ W, Calls Try.prog 9 #[.int .i64 5] W fun e w' => ∃ p, e = .returned (.pointer (some ⟨p, 0, none⟩)) ∧ Bu W p 5 ([], 0) w') := Lib.hid fun W => by
    have := new_U (Below.refl W.heap.size W) 5
    rwa [cpC] at this
  have HRP : Hid (∀ W, Calls Try.prog 28 #[.string ⟨#[97]⟩, .int .i64 1048576] W fun e w' => ∃ S, e = .returned (.string S) ∧ S.size = 1048576 ∧ Below W.heap.size W w') := Lib.hid fun W => rep_any 1048576 1048576 W (by decide) (by decide)
  go_enter Try.func8, Try.ntmps8
  go_upto_region 8 with (first
    | (go_at_call 9; (with_reducible refine HN1.out.mono ?_); rintro e w1 ⟨p, rfl, hs⟩; have HS := Lib.hid hs; clear hs HN1)
    | (go_at_call 23; refine (text0V HS.out (s' := ([], 0)) (by decide +kernel)).mono ?_; rintro e w1 ⟨rfl, hs⟩; clear HS; have HS := Lib.hid hs; clear hs)
    | (go_at_call 25; refine (alignV HS.out 1 (s' := ([], 0)) (by decide +kernel)).mono ?_; rintro e w1 ⟨rfl, hs⟩; clear HS; have HS := Lib.hid hs; clear hs)
    | (go_at_call 23; refine (textV HS.out [⟨#[]⟩, ⟨#[]⟩] rfl rfl rfl (by decide) (by decide) (s' := ([], 0)) (by decide +kernel)).mono ?_; rintro e w1 ⟨rfl, hs⟩; clear HS; have HS := Lib.hid hs; clear hs)
    | (go_at_call 27; refine (has_U HS.out [] 0 (by decide +kernel) (by decide +kernel)).mono ?_; rintro e w1 ⟨rfl, hb⟩; have hs := HS.out.below hb; clear HS hb; have HS := Lib.hid hs; clear hs)
    | (go_at_call 23; refine (textV HS.out [⟨#[97]⟩] rfl rfl rfl (by decide) (by decide) (s' := ([], 5)) (by decide +kernel)).mono ?_; rintro e w1 ⟨rfl, hs⟩; clear HS; have HS := Lib.hid hs; clear hs))
  obtain ⟨wb, hwb⟩ : ∃ x, x = w1 := ⟨_, rfl⟩
  rw [← hwb] at HS ⊢
  have HBB := HS
  clear HS hwb
  go_upto_region 13 with (first
    | (go_at_call 9; (with_reducible refine (HN2.out _).mono ?_); rintro e w2 ⟨q, rfl, hs⟩; have HS := Lib.hid hs; clear hs)
    | (go_at_call 28; (with_reducible refine (HRP.out _).mono ?_); rintro e w3 ⟨S, rfl, hS, hb⟩; have hsl : S.data.toList.length = 1048576 := (by rw [← size_dt]; exact hS); have HSL := Lib.hid hsl; have HT := Lib.hid (full_text hS); have HC4 : Hid ((cat [S]).length ≤ 4000000) := Lib.hid (by rw [cat_one, hsl]; decide); have hs := HS.out.below hb; clear HS hb hS hsl; have HS := Lib.hid hs; clear hs)
    | (go_at_call 23; refine (textV HS.out [S] rfl rfl rfl (by simp) HC4.out HT.out).mono ?_; rintro e w4 ⟨rfl, hs⟩; clear HS HT; have HS := Lib.hid hs; clear hs; have HE0 := Lib.hid (errV HS.out 0 rfl); have HL0 := Lib.hid (lenV' HS.out 1048576 (by show (S.data.toList.length : Int) = _; rw [HSL.out]; rfl)))
    | (go_at_call 17; (with_reducible refine HE0.out.mono ?_); rintro e w5 ⟨rfl, rfl⟩)
    | (go_at_call 16; (with_reducible refine HL0.out.mono ?_); rintro e w5 ⟨rfl, rfl⟩)
    | (go_at_call 25; refine (alignV HS.out 8 (full_align HSL.out)).mono ?_; rintro e w6 ⟨rfl, hs⟩; clear HS HE0 HL0; have HS := Lib.hid hs; clear hs)
    | (go_at_call 23; refine (textV HS.out [⟨#[97]⟩] rfl rfl rfl (by decide) (by decide) (full_more HSL.out)).mono ?_; rintro e w7 ⟨rfl, hs⟩; clear HS; have HS := Lib.hid hs; clear hs))
  clear HN2 HRP
  go_upto_region 17 with (first
    | (go_at_call 9; (with_reducible refine (HN3.out _).mono ?_); rintro e w8 ⟨r, rfl, hs⟩; have HD := Lib.hid hs; clear hs)
    | (go_at_call 23; refine (textV HD.out [⟨#[97, 98, 99]⟩, ⟨#[100, 101, 102]⟩] rfl rfl rfl (by decide) (by decide) (s' := ([], 5)) (by decide +kernel)).mono ?_; rintro e w9 ⟨rfl, hs⟩; have hb9 := HBB.out.below (HS.out.2.trans (hs.2.mono HS.out.2.size)); have HB9 := Lib.hid hb9.2; have HEB := Lib.hid (errV hb9 5 rfl); have HLB := Lib.hid (lenV' hb9 0 rfl); have HEC := Lib.hid (errV (HS.out.below hs.2) 5 rfl); have HED := Lib.hid (errV hs 5 rfl); have HLD := Lib.hid (lenV' hs 0 rfl); clear HD hs hb9)
    | (go_at_call 17; (with_reducible refine HEB.out.mono ?_); rintro e w10 ⟨rfl, rfl⟩)
    | (go_at_call 17; (with_reducible refine HEC.out.mono ?_); rintro e w10 ⟨rfl, rfl⟩)
    | (go_at_call 17; (with_reducible refine HED.out.mono ?_); rintro e w10 ⟨rfl, rfl⟩)
    | (go_at_call 16; (with_reducible refine HLB.out.mono ?_); rintro e w10 ⟨rfl, rfl⟩)
    | (go_at_call 16; (with_reducible refine HLD.out.mono ?_); rintro e w10 ⟨rfl, rfl⟩))
  clear HN3 HBB HS HSL HC4 HEB HLB HEC HED HLD
  go_upto_block 0 with fail
  go_cut [5] (fun s5 wx => Below w.heap.size w wx)
  case first =>
    go_wp2_with fail
    go_loopw [5] (fun iv wr => ∃ k : Nat, k ≤ 19 ∧ iv = .int .i64 ((k : Int) - 1) ∧ Hid (Below w.heap.size w wr)) (fun iv _ => 19 - (intOf iv + 1).toNat)
    case atStart => exact ⟨0, by omega, rfl, HB9⟩
    case round =>
      obtain ⟨k, hk, rfl, HB⟩ := hrel
      obtain ⟨i, hi⟩ : ∃ i : Int, i = (k : Int) - 1 := ⟨_, rfl⟩
      rw [← hi]
      have HI := Lib.hid hi
      by_cases hlt : k < 19
      · have P1 := Lib.hid (plays1 k i hi (by omega))
        have P2 := Lib.hid (plays2 k i hi (by omega))
        have P3 := Lib.hid (plays3 k i hi (by omega))
        have P4 := Lib.hid (plays4 k i hi (by omega))
        have hw1 : IntKind.i64.wrap (i + 1) = (k : Int) := by rw [IntWalk.i64_in _ ⟨by omega, by omega⟩]; omega
        have hw2 : i + 1 = (k : Int) := by omega
        have hw3 : IntKind.u64.wrap (k : Int) = (k : Int) := IntWalk.u64_in _ ⟨by omega, by omega⟩
        have i1 : -1 ≤ i := by omega
        have i2 : i < 18 := by omega
        clear hi
        go_wp2_with (first
          | (go_at_call 3; (with_reducible refine (P1.out _ _ rfl).mono ?_); rintro e v1 ⟨rfl, hb⟩; have H1 := Lib.hid hb; clear hb)
          | (go_at_call 3; (with_reducible refine (P2.out _ _ rfl).mono ?_); rintro e v2 ⟨rfl, hb⟩; have H2 := Lib.hid hb; clear hb)
          | (go_at_call 3; (with_reducible refine (P3.out _ _ rfl).mono ?_); rintro e v3 ⟨rfl, hb⟩; have H3 := Lib.hid hb; clear hb)
          | (go_at_call 3; (with_reducible refine (P4.out _ _ rfl).mono ?_); rintro e v4 ⟨rfl, hb⟩; have H4 := Lib.hid hb; clear hb))
        have HZ := Lib.hid (((HB.out.trans (H1.out.mono HB.out.size)).trans (H2.out.mono (Nat.le_trans HB.out.size H1.out.size))).trans ((H3.out.mono (Nat.le_trans HB.out.size (Nat.le_trans H1.out.size H2.out.size))).trans (H4.out.mono (Nat.le_trans HB.out.size (Nat.le_trans H1.out.size (Nat.le_trans H2.out.size H3.out.size))))))
        refine ⟨⟨k + 1, by omega, by rw [show ((k + 1 : Nat) : Int) - 1 = (k : Int) by omega], HZ⟩, ?_⟩
        have hii := HI.out
        simp only [intOf]
        omega
      · have i2 : ¬ i < 18 := by omega
        clear hi
        go_wp2_with fail
        go_meet
        exact HB.out
  case rest =>
    have HC := Lib.hid hcut
    clear hcut HB9
    have HERR : Hid (∀ W pv, Hid (NB W pv) → Calls Try.prog 17 #[pv] W fun e w' => e = .returned (.int .i64 1) ∧ W = w') := Lib.hid fun W pv h => err_N h.out
    have HLEN : Hid (∀ W pv, Hid (NB W pv) → Calls Try.prog 16 #[pv] W fun e w' => e = .returned (.int .i64 0) ∧ W = w') := Lib.hid fun W pv h => len_N0 h.out
    have HBYT : Hid (∀ W pv, Hid (NB W pv) → Calls Try.prog 13 #[pv] W fun e w' => e = .returned (.tuple #[.slice none 0 0, .int .i64 1]) ∧ W = w') := Lib.hid fun W pv h => bytes_N h.out
    have HDOE : Hid (∀ (j : Nat), j < 5 → ∀ W pv, Hid (NB W pv) → Calls Try.prog 11 #[pv, .agg #[.int .i64 (j : Int), .int .i64 1, .int .i64 0, .int .u64 0, .string ⟨#[97]⟩]] W fun e w' => e = .returned (.tuple #[]) ∧ Below W.heap.size W w') := Lib.hid fun j hj W pv h =>
      does_N h.out (j : Int) 1 0 0 ⟨#[97]⟩ (by omega) (by omega) (by decide)
    go_upto_block 2 with fail
    go_cut [6, 7] (fun s6 s7 wx => Below w.heap.size w wx)
    case first =>
      go_wp2_with fail
      go_loopw [6, 7] (fun pv iv wr => ∃ k : Nat, k ≤ 2 ∧ iv = .int .i64 (k : Int) ∧ Hid (NB wr pv) ∧ Hid (Below w.heap.size w wr)) (fun _ iv _ => 2 - (intOf iv).toNat)
      case atStart => exact ⟨0, by omega, rfl, Lib.hid (.inl rfl), HC⟩
      case round =>
        obtain ⟨k, hk, rfl, HNB, HB⟩ := hrel
        by_cases hlt : k < 2
        · have d2 : decide ((k : Int) < 2) = true := by simp; omega
          go_upto_block 4 with fail
          go_cut [8] (fun s8 wx => Below wr.heap.size wr wx)
          case first =>
            go_wp2_with fail
            go_loopw [8] (fun jv wx => ∃ j : Nat, j ≤ 5 ∧ jv = .int .i64 (j : Int) ∧ Hid (Below wr.heap.size wr wx)) (fun jv _ => 5 - (intOf jv).toNat)
            case atStart => exact ⟨0, by omega, rfl, Lib.hid (Below.refl _ _)⟩
            case round =>
              obtain ⟨j, hj, rfl, HX⟩ := hrel
              by_cases hlt2 : j < 5
              · have HD := Lib.hid (HDOE.out j hlt2 _ _ (Lib.hid (HNB.out.below HX.out)))
                go_wp2_with (go_at_call 11; (with_reducible refine HD.out.mono ?_); rintro e x1 ⟨rfl, hb⟩; have H1 := Lib.hid (HX.out.trans (hb.mono HX.out.size)); clear hb)
                go_roundw
                case rel => exact ⟨j + 1, by omega, by go_num, H1⟩
                case measure => simp [intOf]; omega
              · go_wp2_with fail
                go_meet
                exact HX.out
          case rest =>
            have HX := Lib.hid hcut
            have HN := Lib.hid (HNB.out.below hcut)
            clear hcut
            have HE1 := Lib.hid (HERR.out _ _ HN)
            have HL1 := Lib.hid (HLEN.out _ _ HN)
            have HB1 := Lib.hid (HBYT.out _ _ HN)
            go_wp2_with (first
              | (go_at_call 13; (with_reducible refine HB1.out.mono ?_); rintro e x1 ⟨rfl, rfl⟩)
              | (go_at_call 17; (with_reducible refine HE1.out.mono ?_); rintro e x1 ⟨rfl, rfl⟩)
              | (go_at_call 16; (with_reducible refine HL1.out.mono ?_); rintro e x1 ⟨rfl, rfl⟩))
            go_roundw
            case rel => exact ⟨k + 1, by omega, by go_num, Lib.hid (.inr ⟨_, rfl, Bx.new _ _ _⟩), Lib.hid ((HB.out.trans (HX.out.mono HB.out.size)).alloc (Nat.le_trans HB.out.size HX.out.size) _)⟩
            case measure => simp [intOf]; omega
        · go_wp2_with fail
          go_meet
          exact HB.out
    case rest =>
      have HF := Lib.hid hcut
      have HWK := Lib.hid works_true
      have P5 := Lib.hid plays5
      have P6 := Lib.hid plays6
      clear hcut HC HERR HLEN HBYT HDOE
      go_wp2_with (first
        | (go_at_call 19; (with_reducible refine (HWK.out _).mono ?_); rintro e v1 ⟨rfl, hb⟩; have H1 := Lib.hid hb; clear hb)
        | (go_at_call 3; (with_reducible refine (P5.out _ _ rfl).mono ?_); rintro e v2 ⟨rfl, hb⟩; have H2 := Lib.hid hb; clear hb)
        | (go_at_call 3; (with_reducible refine (P6.out _ _ rfl).mono ?_); rintro e v3 ⟨rfl, hb⟩; have H3 := Lib.hid hb; clear hb))
      go_ret
      exact ⟨rfl, (HF.out.trans (H1.out.mono HF.out.size)).trans ((H2.out.mono (Nat.le_trans HF.out.size H1.out.size)).trans (H3.out.mono (Nat.le_trans HF.out.size (Nat.le_trans H1.out.size H2.out.size))))⟩
end Go.Proofs.Ytkcmpakcahemcaa
