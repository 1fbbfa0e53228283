/-
  What is proved here: StackBack returns true and leaves all memory that was there as it was; condition: the argument reads as a list of lists of values.
-/
import Derived.Test.YtefgehjkankigaaLaw
import Derived.Test.YtefgehjkankigaaOnesW
namespace Go.Proofs.Ytefgehjkankigaa
open Go.RowKit

/-- A row beside the stack grows. -/
theorem Fm.app {w0 w w' : World} {p : Nat} {k : Bool} {xs zs ys : List V3} {T : Option (Nat × Bool × List V3)} {R : List (Value × List V3)} {a a' : Value} (h : Fm w0 p k xs T R w) (hr : (a, zs) ∈ R)
    (ho : OV w' w0.heap.size a' ys) (hg : w.grownBy w' a.ownBlock) (hl : a'.ownBlock = a.ownBlock ∨ a'.ownBlock = some w.heap.size) : Fm w0 p k xs T [(a', ys)] w' := by
  obtain ⟨⟨v, u, h1, h2, h3, h4, h5⟩, h0⟩ := h
  obtain ⟨g1, g2, g3⟩ := h5 _ hr
  have hkeep : ∀ i, i < w.heap.size → a.ownBlock ≠ some i → w'.heap[i]? = w.heap[i]? := fun i hi hn => hg.block i hi (fun e => hn e.symm)
  have hub := Fm.second_row h3 h4
  have hap : ∀ b : Value, Ap a b → (∀ i, b.ownBlock = some i → i < w.heap.size) → Ap a' b := fun b hb hlt i hi he => by
    rcases hl with e | e
    · exact hb i (e ▸ hi) he
    · rw [e] at hi; have := Option.some.inj hi; have := hlt i he; omega
  refine ⟨⟨v, u, h1.keep hg.size fun i hi hor => hkeep i hi ?_, h2, fun q l ys e => ?_, h4, fun r hr => ?_⟩, h0.grown hg h0.size (fun i hi => (g1.bd i hi).1)⟩
  · rcases hor with rfl | hv
    · exact h1.box.ne_row g1 (ty_ne k)
    · exact fun he => g2 i he hv
  · obtain ⟨hpq, hq⟩ := h3 q l ys e
    refine ⟨hpq, hq.keep hg.size fun i hi hor => hkeep i hi ?_⟩
    rcases hor with rfl | hv
    · exact hq.box.ne_row g1 (ty_ne l)
    · exact fun he => g3 i he hv
  · obtain rfl := List.mem_singleton.1 hr
    exact ⟨ho, hap v g2 h1.row_lt, hap u g3 hub⟩
theorem Fm.hd {w0 w : World} {p : Nat} {k : Bool} {xs zs : List V3} {T : Option (Nat × Bool × List V3)} {R : List (Value × List V3)} {a : Value} (h : Fm w0 p k xs T ((a, zs) :: R) w) : ∃ A c, a = .slice A zs.length c := by
  obtain ⟨A, c, e, _⟩ := (h.own (a := a) (zs := zs) (by simp)).rs
  exact ⟨A, c, e⟩
/-- A row is cut. -/
theorem OV.cut {w : World} {B : Nat} {A : Option Addr} {n c : Nat} {xs : List V3} (h : OV w B (.slice A n c) xs) {m : Nat} (hm : m ≤ n) : OV w B (.slice A m c) (xs.take m) := by
  have hn := h.rd.len.1
  have hln : (xs.take m).length = m := by rw [List.length_take]; omega
  unfold OV
  rw [hln]
  refine ⟨by rw [pv_length, hln], ?_⟩
  rcases h.2 with ⟨h0, h1⟩ | ⟨g, cap, cur, hv, hgb, hh, h1, h2, h3, h4⟩
  · injection h0 with a1 a2 a3
    subst a1; subst a3
    exact .inl ⟨by rw [show m = 0 by omega], by omega⟩
  · injection hv with a1 a2 a3
    subst a1; subst a3
    refine .inr ⟨g, _, cur, rfl, hgb, hh, by omega, h2, h3, ?_⟩
    rw [pv_take, ← h4, List.take_take, Nat.min_eq_left (by omega)]
theorem Fm.cutR {w0 w : World} {p : Nat} {k : Bool} {xs zs : List V3} {T : Option (Nat × Bool × List V3)} {R : List (Value × List V3)} {A : Option Addr} {n c m : Nat} (h : Fm w0 p k xs T R w) (hr : (.slice A n c, zs) ∈ R) (hm : m ≤ n) : Fm w0 p k xs T [(.slice A m c, zs.take m)] w := by
  obtain ⟨⟨v, u, h1, h2, h3, h4, h5⟩, h0⟩ := h
  obtain ⟨g1, g2, g3⟩ := h5 _ hr
  have hob : (Value.slice A m c).ownBlock = (Value.slice A n c).ownBlock := by cases A <;> rfl
  refine ⟨⟨v, u, h1, h2, h3, h4, fun r hr => ?_⟩, h0⟩
  obtain rfl := List.mem_singleton.1 hr
  exact ⟨g1.cut hm, fun i hi => g2 i (hob ▸ hi), fun i hi => g3 i (hob ▸ hi)⟩

def slen : Value → Nat | .slice _ n _ => n | _ => 0

set_option maxRecDepth 20000 in
set_option maxHeartbeats 1000000 in
theorem stackBack_walk (l : List (Value × List V3)) (v : Value) (many : Int) (w : World) (h : RdL w v l) (h0 : -9223372036854775808 ≤ many) (h1 : many ≤ 9223372036854775807) :
    Calls Try.prog 4 #[v, .int .i64 many] w fun e w' => e = .returned (.bool true) ∧ Below w.heap.size w w' := by
  have HB0 := Lib.hid (works_true w)
  obtain ⟨A, n, c, rfl, hn, hnc, hcm, hok, hA⟩ := h
  unfold maxLen at hcm
  have HA := Lib.hid hA
  have HOK := Lib.hid hok
  have HN := Lib.hid hn
  clear hA hok hn
  go_enter Try.func4, Try.ntmps4
  go_upto_block 0 with (first
    | (go_at_call 22; (with_reducible refine HB0.out.mono ?_); rintro e w1 ⟨rfl, hb⟩; have HB1 := Lib.hid hb; clear hb HB0)
    | (go_at_call 9; (with_reducible refine (newF_any HB1.out).mono ?_); rintro e w2 ⟨p, rfl, hs⟩; have HS := Lib.hid (show Fm w p true [] none [(.slice none 0 0, [])] w2 from (by
        obtain ⟨⟨v, u, k1, k2, k3, k4, k5⟩, k0⟩ := hs
        exact ⟨⟨v, u, k1, k2, k3, k4, fun r hr => by obtain rfl := List.mem_singleton.1 hr; exact ⟨OV.nil _ _, (Ap.nil _).symm, (Ap.nil _).symm⟩⟩, k0⟩)); clear hs HB1))
  go_cut [6] (fun s6 wx => ∃ zs, zs.length ≤ 600 ∧ Fm w p true zs none [(s6, zs)] wx)
  case first =>
    go_wp2_with fail
    go_loopw [6, 7] (fun s6 i wr => ∃ (k : Nat) (zs : List V3), k ≤ n ∧ k ≤ 20 ∧ i = .int .i64 k ∧ Hid (zs.length ≤ 30 * k) ∧ Hid (Fm w p true zs none [(s6, zs)] wr)) (fun _ i _ => 20 - (intOf i).toNat)
    case atStart => exact ⟨0, [], Nat.zero_le _, Nat.zero_le _, rfl, Nat.le_refl _, HS⟩
    case round =>
      obtain ⟨k, zs, hk, hk3, rfl, HZ, H⟩ := hrel
      by_cases hlt : k < n
      · by_cases hlt3 : k < 20
        · obtain ⟨d, hd⟩ : ∃ d, l[k]? = some d := ⟨_, List.getElem?_eq_getElem (by have := HN.out; omega)⟩
          obtain ⟨b, off, rfl, hbl, hcell⟩ := HA.out (by omega)
          have HAT : Hid (∀ W, Below w.heap.size w W → W.cell? ⟨b, off + k, none⟩ = some d.1) := Lib.hid fun W hW => (hW.cell (p := ⟨b, off + k, none⟩) hbl).trans (hcell k d hd)
          have HD := Lib.hid (HOK.out d (List.mem_of_getElem? hd))
          obtain ⟨d1, d2⟩ := d
          obtain ⟨A1, n1, c1, rfl, _⟩ := id HD.out
          have g0 := HAT.out wr H.out.2
          obtain ⟨ys, hys⟩ : ∃ ys, d2.take 30 = ys := ⟨_, rfl⟩
          have hy30 : Hid (ys.length ≤ 30) := Lib.hid (by rw [← hys, List.length_take]; omega)
          have HFEW : Hid (∀ W zs R, Hid (Fm w p true zs none R W) → Calls Try.prog 16 #[.slice A1 n1 c1] W fun e w' => ∃ A m c, e = .returned (.slice A m c) ∧ Fm w p true zs none ((.slice A m c, ys) :: R) w') := Lib.hid fun W zs R H => by
            have := few_F H.out (HD.out.below H.out.2)
            rw [← hys]; exact this
          obtain ⟨A6, c6, rfl⟩ := H.out.hd
          clear hd hcell hys
          go_upto_region 10 with (first
            | (go_at_call 16; (with_reducible refine (HFEW.out _ _ _ H).mono ?_); rintro e w4 ⟨A2, m2, c2, rfl, hs⟩; have HPU := Lib.hid (pushB_F hs (hs.rd (a := .slice A2 m2 c2) (zs := ys) (by simp)) (by have := hy30.out; have := HZ.out; omega)); clear hs)
            | (go_at_call 17; (with_reducible refine HPU.out.mono ?_); rintro e w5 ⟨rfl, hs⟩; have g1 := HAT.out _ hs.2; have HS2 := Lib.hid hs; clear hs HPU))
          have HZS := Lib.hid (show zs.length + 30 ≤ 4000000 by have := HZ.out; omega)
          go_wp2_with (first
            | (go_at_call 16; (with_reducible refine (HFEW.out _ _ _ HS2).mono ?_); rintro e w6 ⟨A3, m3, c3, rfl, hs⟩; have HS3 := Lib.hid hs; clear hs)
            | (at_builtin; refine wpList_app (B := w.heap.size) (xs := zs) (ys := ys) (v := .slice A6 zs.length c6) rfl (.tmp 34) (.tmp 39) rfl rfl rfl (HS3.out.own (by simp)) (HS3.out.rd (a := .slice A3 m3 c3) (zs := ys) (by simp)).rs (by have := (HS3.out.rd (a := .slice A3 m3 c3) (zs := ys) (by simp)).rs.1; have := HZS.out; have := hy30.out; omega) HS3.out.2.size ?_; intro v1 w7 ho1 hg1 hl1; have HS4 := Lib.hid (HS3.out.app (a := .slice A6 zs.length c6) (zs := zs) (by simp) ho1 hg1 hl1); clear ho1 hg1 hl1))
          go_roundw
          case rel => exact ⟨k + 1, zs ++ ys, by omega, by omega, by go_num, Lib.hid (by rw [List.length_append]; have := HZ.out; have := hy30.out; omega), HS4⟩
          case measure => simp [intOf]; omega
        · obtain rfl : k = 20 := by omega
          go_wp2_with fail
          go_meet
          exact ⟨zs, by have := HZ.out; omega, H.out⟩
      · go_wp2_with fail
        go_meet
        exact ⟨zs, by have := HZ.out; omega, H.out⟩
  case rest =>
    obtain ⟨zs, hz6, hs⟩ := hcut
    have HS := Lib.hid hs
    clear hs
    have HBR : Hid (∀ W, Calls Try.prog 11 #[.int .i64 many, .int .i64 40] W fun e w' => e = .returned (.int .i64 (many % 40)) ∧ W = w') := Lib.hid fun W => bring_any many 40 W h0 h1 (by omega) (by omega)
    have hk0 := Int.emod_nonneg many (show (40 : Int) ≠ 0 by omega)
    have hk1 := Int.emod_lt_of_pos many (show (0 : Int) < 40 by omega)
    obtain ⟨r, hk⟩ := Int.eq_ofNat_of_zero_le hk0
    rw [hk] at HBR hk1
    have hr4 : r < 40 := by omega
    clear hk hk0 hk1 h0 h1
    obtain ⟨q, hq⟩ : ∃ q, q = r + 1 := ⟨_, rfl⟩
    have hq1 : (1 : Int) + (r : Int) = (q : Int) := by omega
    have hq2 : IntKind.i64.wrap ((1 : Int) + (r : Int)) = (q : Int) := by rw [hq1]; exact IntWalk.i64_in _ ⟨by omega, by omega⟩
    have hq3 : 1 ≤ q ∧ q ≤ 40 := by omega
    obtain ⟨hq3, hq4⟩ := hq3
    clear hq hr4
    go_wp2_with (go_at_call 11; (with_reducible refine (HBR.out _).mono ?_); rintro e w4 ⟨rfl, rfl⟩)
    go_loopw [6] (fun s6 wr => ∃ (zs : List V3), zs.length ≤ 600 ∧ Hid (Fm w p true zs none [(s6, zs)] wr)) (fun s6 _ => slen s6)
    case atStart => exact ⟨zs, hz6, HS⟩
    case round =>
      obtain ⟨us, hu6, H⟩ := hrel
      obtain ⟨A6, c6, rfl⟩ := H.out.hd
      obtain ⟨z, hz⟩ : ∃ z, z = us.length := ⟨_, rfl⟩
      have HUL := Lib.hid hz
      rw [← hz] at H hu6
      rw [← hz]
      have hcc := (H.out.rd (a := .slice A6 z c6) (zs := us) (by simp)).len
      obtain ⟨-, hc1, hc2⟩ := hcc
      clear hz
      have HLE : Hid (∀ W xs R (m : Nat), xs.length = m → Hid (Fm w p true xs none R W) → Calls Try.prog 21 #[.pointer (some ⟨p, 0, none⟩)] W fun e w' => e = .returned (.int .i64 (m : Int)) ∧ W = w') := Lib.hid fun W xs R m hm H => lenE_F H.out hm
      have HU6 := Lib.hid hu6
      by_cases hz0 : 0 < z
      · by_cases hmin : z < q
        · have hmin1 : (z : Int) < (q : Int) := by omega
          have hmin2 : min (q : Int) (z : Int) = (z : Int) := by omega
          have hi : inR (z : Int) us := ⟨by omega, by have := HUL.out; omega⟩
          have HP : Hid (Calls Try.prog 12 #[.pointer (some ⟨p, 0, none⟩), .int .i64 (z : Int)] wr fun e w' => ∃ A m c, e = .returned (.tuple #[.slice A m c, .int .i64 0]) ∧ Fm w p true [] none [(.slice A m c, us), (.slice A6 z c6, us)] w') :=
            Lib.hid (popE_F H.out _ (rng_in hi).2.2.2 (by rw [(rng_in hi).2.1, ← HUL.out, Int.toNat_natCast, Nat.sub_self, List.take_zero]) (by rw [(rng_in hi).1, ← HUL.out, Int.toNat_natCast, Nat.sub_self, List.drop_zero]))
          clear hi
          go_wp2_with (go_at_call 12; (with_reducible refine HP.out.mono ?_); rintro e w5 ⟨A1, m1, c1, rfl, hs⟩; have HS2 := Lib.hid hs; clear hs)
          go_wp2_with (first
            | (go_at_call 23; (with_reducible refine (are_F HS2.out (HS2.out.rd (by simp)) (HS2.out.rd (a := .slice A6 z c6) (zs := us) (by simp)) (by have := HU6.out; have := HUL.out; omega)).mono ?_); rintro e w6 ⟨rfl, hs⟩; have HS3 := Lib.hid hs; clear hs)
            | (go_at_call 21; (with_reducible refine (HLE.out _ _ _ 0 rfl HS3).mono ?_); rintro e w7 ⟨rfl, rfl⟩))
          have HS4 : Hid (Fm w p true [] none [(.slice A6 0 c6, [])] w6) := Lib.hid (by
            have := HS3.out.cutR (A := A6) (n := z) (c := c6) (zs := us) (m := 0) (by simp) (Nat.zero_le _)
            rw [List.take_zero] at this; exact this)
          exact ⟨⟨[], by simp, HS4⟩, by simp [slen]; omega⟩
        · obtain ⟨t, ht⟩ : ∃ t, t = z - q := ⟨_, rfl⟩
          have hmin1 : ¬ (z : Int) < (q : Int) := by omega
          have hmin2 : min (q : Int) (z : Int) = (q : Int) := by omega
          have ht1 : (z : Int) - (q : Int) = (t : Int) := by omega
          have ht2 : IntKind.i64.wrap ((z : Int) - (q : Int)) = (t : Int) := by rw [ht1]; exact IntWalk.i64_in _ ⟨by omega, by omega⟩
          have htz : t ≤ z := by omega
          have htc : ¬ c6 = t := by omega
          have hi : inR (q : Int) us := ⟨by omega, by have := HUL.out; omega⟩
          have hq5 : us.length - q = t := by rw [← HUL.out, ht]
          have HTZ := Lib.hid (show t < z by omega)
          have HP : Hid (Calls Try.prog 12 #[.pointer (some ⟨p, 0, none⟩), .int .i64 (q : Int)] wr fun e w' => ∃ A m c, e = .returned (.tuple #[.slice A m c, .int .i64 0]) ∧ Fm w p true (us.take t) none [(.slice A m c, us.drop t), (.slice A6 z c6, us)] w') :=
            Lib.hid (popE_F H.out _ (rng_in hi).2.2.2 (by rw [(rng_in hi).2.1, Int.toNat_natCast, hq5]) (by rw [(rng_in hi).1, Int.toNat_natCast, hq5]))
          clear hi hq5 ht
          go_wp2_with (go_at_call 12; (with_reducible refine HP.out.mono ?_); rintro e w5 ⟨A1, m1, c1, rfl, hs⟩; have HS2 := Lib.hid hs; have HR0 := Lib.hid ((hs.own (a := .slice A6 z c6) (zs := us) (by simp)).sl htz); rw [if_neg htc] at HR0; clear hs)
          go_wp2_with (first
            | (go_at_call 23; (with_reducible refine (are_F HS2.out (HS2.out.rd (zs := us.drop t) (by simp)) HR0.out (by rw [List.length_drop]; have := HU6.out; have := HUL.out; omega)).mono ?_); rintro e w6 ⟨rfl, hs⟩; have HS3 := Lib.hid hs; clear hs)
            | (go_at_call 21; (with_reducible refine (HLE.out _ _ _ t (by rw [List.length_take]; have := HTZ.out; have := HUL.out; omega) HS3).mono ?_); rintro e w7 ⟨rfl, rfl⟩))
          have HS4 : Hid (Fm w p true (us.take t) none [(.slice A6 t c6, us.take t)] w6) := Lib.hid (HS3.out.cutR (A := A6) (n := z) (c := c6) (zs := us) (m := t) (by simp) htz)
          exact ⟨⟨us.take t, by rw [List.length_take]; omega, HS4⟩, by have := HTZ.out; simp [slen]; omega⟩
      · obtain rfl : z = 0 := by omega
        have hx : us = [] := List.eq_nil_of_length_eq_zero HUL.out.symm
        subst hx
        go_wp2_with (go_at_call 21; (with_reducible refine (HLE.out _ _ _ 0 rfl H).mono ?_); rintro e w7 ⟨rfl, rfl⟩)
        go_ret
        exact ⟨rfl, H.out.2⟩
end Go.Proofs.Ytefgehjkankigaa
