/-
  What is proved here: the walk of accordionlaw04.UtfRunes; conditions: the library's two tables hold what is laid.
-/
import Derived.Test.YtoifjbhjclglmaaDoorBack
import Derived.Test.YtoifjbhjclglmaaDoorLess
namespace Go.Proofs.YtoifjbhjclglmaaDoor
open Go.RowKit Ut Go.Lib

theorem nx_enc {r : Nat} (hs : scal r) (t : List UInt8) : nx (enc r ++ t) = (r, (enc r).length, true) := by
  have hl := enc_len r
  have hne : enc r ++ t ≠ [] := by intro h0; have := congrArg List.length h0; rw [List.length_append, List.length_nil] at this; omega
  have hd : dec (enc r ++ t) = (r, (enc r).length) := by unfold dec; rw [if_neg hne, decode_enc hs]
  unfold nx
  rw [hd, if_neg ?_]
  intro h1
  dsimp only at h1
  obtain ⟨h2, h3⟩ := h1
  subst h2
  revert h3
  decide
def lastS (ys : List Int) : Nat → ByteArray
  | 0 => ⟨#[]⟩
  | k + 1 => str (enc (rn (ys.getD k 0)))
theorem lastS_one {ys : List Int} {k : Nat} {x : Int} {r : Nat} {E : ByteArray} (hx : ys[k]? = some x) (hr : rn x = r) (hE : str (enc r) = E) : lastS ys (k + 1) = E := by
  show str (enc (rn (ys.getD k 0))) = _
  rw [List.getD_eq_getElem?_getD, hx]
  show str (enc (rn x)) = _
  rw [hr, hE]
def UR (w : World) (ys : List Int) (s last i : Value) (wr : World) : Prop :=
  ∃ k : Nat, k ≤ ys.length ∧ i = .int .i64 k ∧ s = .string (str (txt (ys.drop k))) ∧ last = .string (lastS ys k) ∧ Hid (St w wr)
theorem cut_from (a b : List UInt8) (n m : Nat) (hn : a.length = n) (hm : (a ++ b).length = m) : (str (a ++ b)).extract n m = str b := by
  subst hn; subst hm
  unfold str
  apply ByteArray.ext
  simp

set_option maxHeartbeats 4000000 in
set_option maxRecDepth 1000000 in
theorem utfRunes_walk (v : Value) (xs : List Int) (w : World) (hT : TB w.heap.size w) (hv : RdI w v xs) :
    Calls Tryd.prog 9 #[v] w fun e w' => e = .returned (.bool true) ∧ Below w.heap.size w w' := by
  have hS0 := St.start hT
  have C := textOf_any v xs w hv
  obtain ⟨A, n, c, rfl, h1, h2, h3⟩ := hv
  obtain ⟨ys, hys⟩ : ∃ ys, xs.take 60 = ys := ⟨_, rfl⟩
  rw [hys] at C
  have hyl : ys.length ≤ 60 ∧ ys.length ≤ n ∧ (ys.length < 60 → ys.length = n) := by rw [← hys, List.length_take]; omega
  have HC := Lib.hid C
  have HS0 := Lib.hid hS0
  clear C hT hS0
  go_enter Tryd.func9, Tryd.ntmps9
  go_wp2_with (go_at_call 23; refine HC.out.mono ?_; rintro e w1 ⟨rfl, rfl⟩)
  go_loopw [3, 4, 5] (fun s last i wr => UR w ys s last i wr) (fun _ _ i _ => 61 - (RowKit.intOf i).toNat)
  case atStart => exact ⟨0, Nat.zero_le _, rfl, rfl, rfl, HS0⟩
  case round =>
    obtain ⟨k, hk, rfl, rfl, rfl, HS⟩ := hrel
    by_cases hlt : k < ys.length
    · have hkn : k < n := by omega
      have hk60 : k < 60 := by omega
      obtain ⟨b, off, rfl, hb, hc⟩ := h3 (by omega)
      have hcell : ∀ W, St w W → ∀ j x, ys[j]? = some x → W.cell? ⟨b, off + j, none⟩ = some (.int .i64 x) := by
        intro W hSt j x hj
        rw [← hys, List.getElem?_take] at hj
        split at hj
        · exact (hSt.2.cell (p := ⟨b, off + j, none⟩) hb).trans (hc j x hj)
        · cases hj
      obtain ⟨x, hx⟩ : ∃ x, ys[k]? = some x := ⟨_, List.getElem?_eq_getElem hlt⟩
      have HX := Lib.hid hx
      have HCL := Lib.hid hcell
      have hxd : ys.drop k = x :: ys.drop (k + 1) := by
        rw [List.drop_eq_getElem_cons hlt]
        congr 1
        rw [List.getElem?_eq_getElem hlt] at hx
        injection hx
      have htx : txt (ys.drop k) = enc (rn x) ++ txt (ys.drop (k + 1)) := by rw [hxd, txt_cons]
      obtain ⟨S, hS⟩ : ∃ S, str (txt (ys.drop k)) = S := ⟨_, rfl⟩
      obtain ⟨E, hE⟩ : ∃ E, str (enc (rn x)) = E := ⟨_, rfl⟩
      obtain ⟨L, hL⟩ : ∃ L, (enc (rn x)).length = L := ⟨_, rfl⟩
      obtain ⟨r, hr⟩ : ∃ r, rn x = r := ⟨_, rfl⟩
      have hEs : E.size = L := by rw [← hE, str_size, hL]
      have hLl := enc_len (rn x)
      have hSd : S.data.toList = enc (rn x) ++ txt (ys.drop (k + 1)) := by rw [← hS, str_data, htx]
      have hSs : S.size = L + (txt (ys.drop (k + 1))).length := by rw [Lib.size_eq, hSd, List.length_append, hL]
      have hnx : nx S.data.toList = (r, L, true) := by rw [hSd, nx_enc (rn_scal x), hL, hr]
      have hcut : S.extract 0 L = E := by rw [extract_str, hSd, ← hL, List.take_left, hE]
      have hfrom : S.extract L S.size = str (txt (ys.drop (k + 1))) := by
        rw [← hS, htx, str_size]
        exact cut_from _ _ _ _ hL rfl
      have htl := txt_len (ys.drop (k + 1))
      rw [List.length_drop] at htl
      have hLS : L ≤ S.size := by omega
      have hS300 : S.size ≤ 300 := by omega
      have dS : decide ((S.size : Int) < (L : Int)) = false := decide_eq_false (by omega)
      have hsc := rn_scal x
      rw [hr] at hsc hE
      rw [hS]
      have HNX := Lib.hid hnx
      have HF := Lib.hid hfrom
      have HSC := Lib.hid hsc
      have HE := Lib.hid hE
      have HRX := Lib.hid hr
      cases k with
      | zero =>
        have hz : lastS ys 0 = ⟨#[]⟩ := rfl
        clear hc hcell hxd htx hS hSd hnx hfrom hSs hsc hE htl h3 hys hyl hx hL hLl hr
        go_wp2_with (first
          | (go_at_call 12; refine (next_S (w0 := w) S HS.out).mono ?_; rintro e w2 ⟨rfl, hS2⟩; rw [HNX.out]; unfold nxR; have HS2 := Lib.hid hS2; clear hS2)
          | (go_at_call 14; refine (put_S (w0 := w) r HSC.out HS2.out).mono ?_; rintro e w3 ⟨rfl, hS3⟩; rw [HE.out]; have hk3 := HCL.out w3 hS3 0 x HX.out; rw [Nat.add_zero] at hk3; have HS3 := Lib.hid hS3; clear hS3)
          | (go_at_call 28; refine (runeOf_any _ _).mono ?_; rintro e w4 ⟨rfl, rfl⟩; rw [HRX.out]))
        go_roundw
        case rel => exact ⟨1, by omega, rfl, by rw [HF.out], by rw [lastS_one HX.out HRX.out HE.out], HS3⟩
        case measure => simp [RowKit.intOf]
      | succ j =>
        obtain ⟨y, hy⟩ : ∃ y, ys[j]? = some y := ⟨_, List.getElem?_eq_getElem (by omega)⟩
        have hyd : ys.getD j 0 = y := by rw [List.getD_eq_getElem?_getD, hy]; rfl
        have hz : lastS ys (j + 1) = str (enc (rn y)) := by show str (enc (rn (ys.getD j 0))) = _; rw [hyd]
        obtain ⟨F, hF⟩ : ∃ F, str (enc (rn y)) = F := ⟨_, rfl⟩
        rw [hF] at hz
        have hless : Op.bytesLess F.toList E.toList = decide (rn y < r) := by
          rw [← hF, ← hE, Lib.toList_data, Lib.toList_data, str_data, str_data]
          exact less_enc _ _ (rn_scal y).1 hsc.1
        obtain ⟨u, hu⟩ : ∃ u, rn y = u := ⟨_, rfl⟩
        rw [hu] at hless
        have HY := Lib.hid hy
        have HU := Lib.hid hu
        rw [hz]
        clear hc hcell hxd htx hS hSd hnx hfrom hSs hsc hE htl h3 hys hyl hx hL hLl hr hy hyd hF hz hu
        go_wp2_with (first
          | (go_at_call 12; refine (next_S (w0 := w) S HS.out).mono ?_; rintro e w2 ⟨rfl, hS2⟩; rw [HNX.out]; unfold nxR; have HS2 := Lib.hid hS2; clear hS2)
          | (go_at_call 14; refine (put_S (w0 := w) r HSC.out HS2.out).mono ?_; rintro e w3 ⟨rfl, hS3⟩; rw [HE.out]; have hk3 := HCL.out w3 hS3 (j + 1) x HX.out; have hk4 := HCL.out w3 hS3 j y HY.out; have HS3 := Lib.hid hS3; clear hS3)
          | (go_at_call 28; (with_reducible refine (runeOf_any x _).mono ?_); rintro e w4 ⟨rfl, rfl⟩; rw [HRX.out])
          | (go_at_call 28; (with_reducible refine (runeOf_any y _).mono ?_); rintro e w4 ⟨rfl, rfl⟩; rw [HU.out]))
        go_roundw
        case rel => exact ⟨j + 1 + 1, by omega, by go_num, by rw [HF.out], by rw [lastS_one HX.out HRX.out HE.out], HS3⟩
        case measure => simp [RowKit.intOf]; omega
    · have hke : k = ys.length := by omega
      have htn : txt (ys.drop k) = [] := by rw [hke, List.drop_length]; rfl
      have hs0 : str (txt (ys.drop k)) = ⟨#[]⟩ := by rw [htn]; rfl
      rw [hs0]
      have HWK := Lib.hid (works_S (w0 := w) HS.out)
      by_cases h60 : k < 60
      · have hkn : k = n := by omega
        clear h3 hys hyl htn hs0 hlt hke
        subst hkn
        go_wp2_with (go_at_call 20; refine HWK.out.mono ?_; rintro e w2 ⟨rfl, hS2⟩)
        go_ret
        exact ⟨rfl, (show St w _ by assumption).2⟩
      · have hk60 : k = 60 := by omega
        have hkn : 60 ≤ n := by omega
        clear h3 hys hyl htn hs0 hlt hke h60 hk
        subst hk60
        rcases (show (60 < n) ∨ n = 60 by omega) with h | h
        · go_wp2_with (go_at_call 20; refine HWK.out.mono ?_; rintro e w2 ⟨rfl, hS2⟩)
          go_ret
          exact ⟨rfl, (show St w _ by assumption).2⟩
        · subst h
          go_wp2_with (go_at_call 20; refine HWK.out.mono ?_; rintro e w2 ⟨rfl, hS2⟩)
          go_ret
          exact ⟨rfl, (show St w _ by assumption).2⟩
end Go.Proofs.YtoifjbhjclglmaaDoor
