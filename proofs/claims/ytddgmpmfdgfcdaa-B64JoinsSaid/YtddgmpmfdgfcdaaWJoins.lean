/-
  What is proved here: the walk of accordionlaw05.B64Joins; no condition.
-/
import Derived.Test.YtddgmpmfdgfcdaaWBack
import Derived.Deep.RegionLaw
import Derived.Deep.RegionHeld3
namespace Go.Proofs.Ytddgmpmfdgfcdaa
open Go.RowKit Bs

theorem str_app (a b : List UInt8) : str a ++ str b = str (a ++ b) := by
  unfold str
  apply ByteArray.ext
  simp
/-- Between two calls: what the three slices read as. -/
def JS (w0 : World) (vx vy : Value) (O : Option Addr) (n c : Nat) (p us : List UInt8) (w : World) : Prop :=
  Below w0.heap.size w0 w ∧ Rdm w vx p ∧ Rdm w vy us ∧ Rds w O n c (p ++ us) ∧ c ≤ maxLen
theorem JS.step {w0 w w' : World} {vx vy : Value} {O : Option Addr} {n c : Nat} {p us : List UInt8} (h : JS w0 vx vy O n c p us w) (hb : Below w.heap.size w w') : JS w0 vx vy O n c p us w' :=
  ⟨h.1.trans (hb.mono h.1.size), h.2.1.below hb, h.2.2.1.below hb, h.2.2.2.1.below hb, h.2.2.2.2⟩
theorem put_J {w0 w : World} {vx vy : Value} {O : Option Addr} {n c : Nat} {p us : List UInt8} (h : JS w0 vx vy O n c p us w) (v : Value) (xs : List UInt8) (hr : Rdm w v xs) (hn : xs.length ≤ 10000) :
    Calls Try.prog 12 #[v] w fun e w' => e = .returned (.string (str (enc xs))) ∧ JS w0 vx vy O n c p us w' := by
  refine (put_S (w0 := w0) v xs hr hn h.1).mono ?_
  rintro e w' ⟨rfl, hb, _⟩
  exact ⟨rfl, h.step hb⟩
theorem se_J {w0 w : World} {vx vy : Value} {O : Option Addr} {n c : Nat} {p us : List UInt8} (h : JS w0 vx vy O n c p us w) {f : Nat} {args : Array Value} (H : Calls Try.prog f args w (SE w (.bool true))) :
    Calls Try.prog f args w fun e w' => e = .returned (.bool true) ∧ JS w0 vx vy O n c p us w' :=
  H.mono fun _ _ ⟨h1, h2⟩ => ⟨h1, h.step h2⟩
set_option maxHeartbeats 2000000 in
set_option maxRecDepth 1000000 in
theorem b64Joins_walk (A : Option Addr) (n c : Nat) (xs : List UInt8) (B : Option Addr) (m d : Nat) (zs : List UInt8) (w : World) (hr : Rds w A n c xs) (hc : c ≤ maxLen) (hr2 : Rds w B m d zs) (hd : d ≤ maxLen) :
    Calls Try.prog 7 #[.slice A n c, .slice B m d] w fun e w' => e = .returned (.bool true) ∧ Below w.heap.size w w' := by
  have hS0 := Below.refl w.heap.size w
  have HCUT := Lib.hid (cut_S (w0 := w) A n c xs hr hc hS0)
  have HCUT2 := Lib.hid (fun (W : World) (h : Below w.heap.size w W) => cut_S (w0 := w) (w := W) B m d zs (hr2.below h) hd h)
  obtain ⟨ys, hys⟩ : ∃ ys, xs.take 300 = ys := ⟨_, rfl⟩
  have hyl : ys.length ≤ 300 := by rw [← hys, List.length_take]; omega
  rw [hys] at HCUT
  obtain ⟨us, hus⟩ : ∃ us, zs.take 300 = us := ⟨_, rfl⟩
  have hul : us.length ≤ 300 := by rw [← hus, List.length_take]; omega
  rw [hus] at HCUT2
  have HYL := Lib.hid hyl
  have HUL := Lib.hid hul
  clear hys hyl hr hc hus hul hr2 hd
  go_enter Try.func7, Try.ntmps7
  go_wp2_with (first
    | (go_at_call 19; (with_reducible refine HCUT.out.mono ?_); rintro e w1 ⟨A', n', c', rfl, hr', hc', hn', _, hS1⟩; have hcap := hr'.2.1; have HR := Lib.hid hr'; have HC := Lib.hid hc'; clear hr' hc')
    | (go_at_call 19; (with_reducible refine (HCUT2.out _ (by assumption)).mono ?_); rintro e w2 ⟨B', m', d', rfl, hr', hc', hm', hbb, hS2⟩; have hcap2 := hr'.2.1; have HR2 := Lib.hid hr'; have HC2 := Lib.hid hc'; have HB2 := Lib.hid hbb; clear hr' hc' hbb; have hq : n' / 3 * 3 ≤ c' := by omega))
  have hq2 : n' / 3 * 3 ≤ n' := by omega
  have hrx := (HR.out.below HB2.out).pre hq2
  have hpl : (ys.take (n' / 3 * 3)).length = n' / 3 * 3 := hrx.1
  obtain ⟨p, hp⟩ : ∃ p, ys.take (n' / 3 * 3) = p := ⟨_, rfl⟩
  rw [hp] at hrx hpl
  obtain ⟨q, hqe⟩ : ∃ q, n' / 3 * 3 = q := ⟨_, rfl⟩
  have hq3 : q % 3 = 0 := by omega
  have hq300 : q ≤ 300 := by omega
  rw [hqe] at hrx hpl ⊢
  have hul : us.length = m' := HR2.out.1
  have HX := Lib.hid hrx
  have HPL := Lib.hid hpl
  have HENC := Lib.hid (enc_app p us (by rw [hpl]; exact hq3))
  have hgl : (enc (p ++ us)).length ≤ 65536 := by rw [enc_len, List.length_append]; omega
  have HGOT := Lib.hid (fun (W : World) => got_str (w0 := W) (w := W) (enc (p ++ us)) (p ++ us) (dec_enc _) hgl (Below.refl _ _))
  have HQ := Lib.hid hq3
  have HULL := Lib.hid hul
  clear hq hq2 hqe hp hrx hpl hq3 hgl hul
  go_wp2_with (first
    | (go_at_call 11; refine (copyBytes_any _ p w2 ⟨_, _, _, rfl, HX.out⟩ (by rw [HPL.out]; omega)).mono ?_; rintro e w3 ⟨v3, rfl, ho, hb⟩; have HO := Lib.hid ho; have HB3 := Lib.hid hb; clear ho hb)
    | (at_builtin; refine wpList_appR (base := w2.heap.size) (n := p.length) (m := m') (xs := p) (ys := us) rfl _ _ rfl rfl rfl HO.out (HR2.out.below HB3.out) (by rw [HPL.out]; omega) HB3.out.size ?_; intro v4 w4 ho hg; have HO4 := Lib.hid ho; have HG4 := Lib.hid hg; clear ho hg))
  obtain ⟨O, no, co, hv4, hro, hco⟩ := Rdm.own (w := w4) (B := w2.heap.size) (v := v4) (xs := p ++ us) (by have h := HO4.out; rw [← HULL.out, ← List.length_append] at h; exact h)
  subst hv4
  have hb4 : Below w2.heap.size w2 w4 := HB3.out.grown HG4.out HB3.out.size (fun j hj => own_base HO.out j hj)
  have hJ0 : JS w (.slice A' q c') (.slice B' m' d') O no co p us w4 :=
    ⟨(show Below w.heap.size w w2 by assumption).trans (hb4.mono (show Below w.heap.size w w2 by assumption).size), ⟨_, _, _, rfl, HX.out.below hb4, HC.out⟩, ⟨_, _, _, rfl, HR2.out.below hb4, HC2.out⟩, hro, hco⟩
  have hJ : JS w (.slice A' q c') (.slice B' m' d') O no co p us w4.drew := hJ0.step (Below.refl _ _).drew
  have HCV := Lib.hid (fun (W : World) (h : JS w (.slice A' q c') (.slice B' m' d') O no co p us W) => run_str h.2.2.2.1)
  have hst0 := HCV.out _ hJ
  have HPL9 := Lib.hid (show p.length ≤ 10000 by rw [HPL.out]; omega)
  have HUL9 := Lib.hid (show us.length ≤ 10000 by have := HUL.out; omega)
  have HAL9 := Lib.hid (show (p ++ us).length ≤ 10000 by rw [List.length_append, HPL.out]; have := HUL.out; omega)
  have HE1 := Lib.hid (show str (enc p) ++ str (enc us) = str (enc (p ++ us)) by rw [str_app, HENC.out])
  have hpb := (fun (W : World) (h : JS w (.slice A' q c') (.slice B' m' d') O no co p us W) => put_J h (.slice O no co) (p ++ us) ⟨_, _, _, rfl, h.2.2.2.1, h.2.2.2.2⟩ HAL9.out)
  simp only [← HE1.out] at hpb
  have HPB := Lib.hid hpb
  have HPX := Lib.hid (fun (W : World) (h : JS w (.slice A' q c') (.slice B' m' d') O no co p us W) => put_J h (.slice A' q c') p h.2.1 HPL9.out)
  have HPY := Lib.hid (fun (W : World) (h : JS w (.slice A' q c') (.slice B' m' d') O no co p us W) => put_J h (.slice B' m' d') us h.2.2.1 HUL9.out)
  have HGJ := Lib.hid (fun (W : World) (h : JS w (.slice A' q c') (.slice B' m' d') O no co p us W) => se_J h (HGOT.out W))
  have HWJ := Lib.hid (fun (W : World) (h : JS w (.slice A' q c') (.slice B' m' d') O no co p us W) => se_J h (works_S (w0 := W) (Below.refl _ _)))
  have z1 : ((9223372036854775807 : Nat) < (str (enc p)).size + (str (enc us)).size) = False := eq_false (by rw [str_size, str_size, enc_len, enc_len]; have := HPL9.out; have := HUL9.out; omega)
  clear hpb hro hb4 hJ0 HO4 HG4 HO HB3 HX HR HR2 HC HC2 HB2 HENC HPL HULL hco
  go_region_held3 (fun w' => (convert 22 9 (.slice O no co)).run Try.prog w' = .ok (.string (str (p ++ us))) w') (first | assumption | go_keep)
    (first
      | (go_at_call 12; (with_reducible refine (HPB.out _ (by assumption)).mono ?_); rintro e w5 ⟨rfl, hJ5⟩; have hst5 := HCV.out _ hJ5)
      | (go_at_call 12; (with_reducible refine (HPX.out _ (by assumption)).mono ?_); rintro e w6 ⟨rfl, hJ6⟩; have hst6 := HCV.out _ hJ6)
      | (go_at_call 12; (with_reducible refine (HPY.out _ (by assumption)).mono ?_); rintro e w7 ⟨rfl, hJ7⟩; have hst7 := HCV.out _ hJ7)
      | (go_at_call 20; rw [HE1.out]; (with_reducible refine (HGJ.out _ (by assumption)).mono ?_); rintro e w8 ⟨rfl, hJ8⟩; have hst8 := HCV.out _ hJ8)
      | (go_at_call 15; (with_reducible refine (HWJ.out _ (by assumption)).mono ?_); rintro e w9 ⟨rfl, hJ9⟩; have hst9 := HCV.out _ hJ9))
  all_goals
    go_wp2_with fail
    go_ret
    exact ⟨rfl, (show JS w (.slice A' q c') (.slice B' m' d') O no co p us _ by assumption).1⟩
end Go.Proofs.Ytddgmpmfdgfcdaa
