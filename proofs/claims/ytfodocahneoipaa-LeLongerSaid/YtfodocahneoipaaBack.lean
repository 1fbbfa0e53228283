/-
  What is proved here: accordionlaw01.LeBack returns true for all byte slices before and after, every width and every integer, and leaves its arguments as they were; no condition.
-/
import Derived.Test.YtfodocahneoipaaWide
namespace Go.Proofs.Ytfodocahneoipaa
open Go.ChangeShapes Go.WideShapes Go.ChangeAt Go.RowKit Le

theorem put_ok (v : Value) (ps : List UInt8) (x : Int) (V n : Nat) (w : World) (h : Rd w v ps) (hn : ps.length ≤ 60000) (hw : isW x = true) (hf : fitsU V x = true) (hl : (ps ++ enc x.toNat V).length = n) (h0 : 0 < n) :
    Calls Try.prog 17 #[v, .int .i64 x, .int .u64 (V : Int)] w fun e w' => ∃ g c, e = .returned (.tuple #[.slice (some ⟨g, 0, none⟩) n c, .int .i64 0]) ∧ Rds w' (some ⟨g, 0, none⟩) n c (ps ++ enc x.toNat V) ∧ Below w.heap.size w w' := by
  have e1 : putE x V = 0 := by rw [putE, if_pos hw, if_pos hf]
  have e2 : putL ps x V = ps ++ enc x.toNat V := by rw [putL, if_pos e1]; simp
  have hs := put_any v ps x V w h hn
  rw [e1, e2, hl] at hs
  refine hs.mono ?_
  rintro e w' ⟨v', rfl, ho, hb⟩
  obtain ⟨g, c, rfl, hr⟩ := own_shape ho h0
  exact ⟨g, c, rfl, hr, hb⟩
theorem putInt_ok (v : Value) (ps : List UInt8) (x S : Int) (V : Nat) (w : World) (h : Rd w v ps) (hn : ps.length ≤ 60000) (hw : isW x = true) (hV : (V : Int) < pw x) (hS : sgn x V = S) :
    Calls Try.prog 19 #[v, .int .i64 x, .int .i64 S] w fun e w' => ∃ v', e = .returned (.tuple #[v', .int .i64 0]) ∧ Rd w' v' (ps ++ enc x.toNat V) ∧ Below w.heap.size w w' := by
  subst hS
  have e1 : putIE x (sgn x V) = 0 := by rw [putIE, if_pos hw, if_pos (fitsI_sgn hw (by omega) hV)]
  have e2 : putIL ps x (sgn x V) = ps ++ enc x.toNat V := by
    rw [putIL, if_pos e1, ← enc_mod, u64_sgn hw (by omega) hV, Int.toNat_natCast]
  have hs := putInt_any v ps x (sgn x V) w h hn
  rw [e1, e2] at hs
  refine hs.mono ?_
  rintro e w' ⟨v', rfl, ho, hb⟩
  exact ⟨v', rfl, Rd.of_own ho, hb⟩

theorem box2 {w w' : World} {x y : Value} {t : TypeId} (hb : Below (w.alloc (.cells #[x, y] t)).heap.size (w.alloc (.cells #[x, y] t)) w') :
    w'.cell? ⟨w.heap.size, 0, none⟩ = some x ∧ w'.cell? ⟨w.heap.size, 1, none⟩ = some y := by
  have h : ∀ i, w'.cell? ⟨w.heap.size, i, none⟩ = (w.alloc (.cells #[x, y] t)).cell? ⟨w.heap.size, i, none⟩ := fun i => hb.cell (p := ⟨w.heap.size, i, none⟩) (by simp)
  rw [h, h, World.cell?_alloc_new, World.cell?_alloc_new]
  simp

theorem shift_lt {k u V : Nat} (hw : isW (k : Int) = true) (hu : (u : Int) ≤ 18446744073709551615) (hV : (u : Int) / 2 ^ (64 - 8 * k) = (V : Int)) : (V : Int) < pw k := by
  have hk : (k = 1 ∨ k = 2 ∨ k = 4 ∨ k = 8) := by rcases isW_iff.1 hw with h | h | h | h <;> omega
  rcases hk with rfl | rfl | rfl | rfl
  · rw [show ((1 : Nat) : Int) = 1 from rfl, pw1]; simp at hV; omega
  · rw [show ((2 : Nat) : Int) = 2 from rfl, pw2]; simp at hV; omega
  · rw [show ((4 : Nat) : Int) = 4 from rfl, pw4]; simp at hV; omega
  · rw [show ((8 : Nat) : Int) = 8 from rfl, pw8]; simp at hV; omega
theorem shift_sgn {k u V : Nat} (hw : isW (k : Int) = true) (hV : (u : Int) / 2 ^ (64 - 8 * k) = (V : Int)) (hlt : (V : Int) < pw k) :
    wrap64 (IntKind.u64.wrap ((V : Int) * 2 ^ (64 - 8 * k))) / 2 ^ (64 - 8 * k) = sgn k (V : Int) := by
  have hk : (k = 1 ∨ k = 2 ∨ k = 4 ∨ k = 8) := by rcases isW_iff.1 hw with h | h | h | h <;> omega
  have h0 : (0 : Int) ≤ V := by omega
  rcases hk with rfl | rfl | rfl | rfl
  · rw [show ((1 : Nat) : Int) = 1 from rfl, pw1] at hlt
    rw [show ((1 : Nat) : Int) = 1 from rfl, ← sgn_1 h0 hlt, IntWalk.u64_in _ (by simp; omega), wrap64]; simp
  · rw [show ((2 : Nat) : Int) = 2 from rfl, pw2] at hlt
    rw [show ((2 : Nat) : Int) = 2 from rfl, ← sgn_2 h0 hlt, IntWalk.u64_in _ (by simp; omega), wrap64]; simp
  · rw [show ((4 : Nat) : Int) = 4 from rfl, pw4] at hlt
    rw [show ((4 : Nat) : Int) = 4 from rfl, ← sgn_4 h0 hlt, IntWalk.u64_in _ (by simp; omega), wrap64]; simp
  · rw [show ((8 : Nat) : Int) = 8 from rfl, pw8] at hlt
    rw [show ((8 : Nat) : Int) = 8 from rfl, ← sgn_8 h0 hlt, IntWalk.u64_in _ (by simp; omega), wrap64]; simp

set_option maxHeartbeats 4000000 in
theorem back_core (A : Option Addr) (n c M : Nat) (A' : Option Addr) (n' c' M' : Nat) (ps qs : List UInt8) (x : Int) (k p u : Nat) (w : World) (x0 : -9223372036854775808 ≤ x) (hc : c ≤ 9223372036854775807) (hnc : n ≤ c) (hc' : c' ≤ 9223372036854775807) (hnc' : n' ≤ c')
    (hrd : Rd w (.slice A M c) ps) (hrd' : Rds w A' M' c' qs) (hp : ps.length = p) (hpM : p = M) (hp60 : p ≤ 60) (hq60 : M' ≤ 60) (hcase : (n ≤ 60 ∧ M = n) ∨ (60 < n ∧ M = 60)) (hcase' : (n' ≤ 60 ∧ M' = n') ∨ (60 < n' ∧ M' = 60))
    (hx : wideF x = (k : Int)) (hu : (u : Int) ≤ 18446744073709551615) :
    Calls Try.prog 5 #[.agg #[.slice A n c, .slice A' n' c'], .int .i64 x, .int .u64 (u : Int)] w fun e w' => e = .returned (.bool true) ∧ Below w.heap.size w w' := by
  have hw := wideF_isW x
  rw [hx] at hw
  have hk := isW_nat hw
  have hwd := fun W => wideF_any x W x0
  rw [hx] at hwd
  have HW := Lib.hid hwd
  clear hwd hx
  obtain ⟨V, hV⟩ : ∃ V : Nat, (u : Int) / 2 ^ (64 - 8 * k) = (V : Int) := ⟨u / 2 ^ (64 - 8 * k), by simp⟩
  have hVlt : (V : Int) < pw k := shift_lt hw hu hV
  have hSh := shift_sgn hw hV hVlt
  obtain ⟨S, hS⟩ : ∃ S, sgn k (V : Int) = S := ⟨_, rfl⟩
  rw [hS] at hSh
  have hl1 : (ps ++ enc (k : Int).toNat V).length = p + k := by rw [List.length_append, enc_length, hp]; simp
  have hput := fun v W (h : Rd W v ps) => put_ok v ps k V (p + k) W h (by omega) hw (fitsU_iff.2 hVlt) hl1 (by omega)
  have hputI := fun v W (h : Rd W v ps) => putInt_ok v ps k S V W h (by omega) hw hVlt hS
  obtain ⟨es, hes⟩ : ∃ es, enc (k : Int).toNat V = es := ⟨_, rfl⟩
  have hel : es.length = k := by rw [← hes, enc_length]; simp
  rw [hes] at hput hputI hl1
  have hlook : lookE ((ps ++ es) ++ qs).length p k = 0 := look0_of hw (by omega) (by rw [List.length_append, hl1]; omega)
  have hdec : ((dec es : Nat) : Int) = (V : Int) := by
    rw [← hes, dec_enc_of_lt]
    rw [pw_eq hw] at hVlt
    exact Int.ofNat_lt.1 hVlt
  have hsegE : seg ((ps ++ es) ++ qs) p k = es := by
    rw [seg_nat, List.append_assoc, List.drop_left' hp, List.take_left' hel]
  have hq : qs.length = M' := hrd'.1
  have hload := fun v W (h : Rd W v ((ps ++ es) ++ qs)) => load_any v ((ps ++ es) ++ qs) p k W h (by rw [List.length_append, hl1]; omega)
  have hloadI := fun v W (h : Rd W v ((ps ++ es) ++ qs)) => loadInt_any v ((ps ++ es) ++ qs) p k W h (by rw [List.length_append, hl1]; omega)
  rw [hlook, loadU, if_pos hlook, hsegE, hdec] at hload
  rw [hlook, loadI, if_pos hlook, hsegE, hdec, hS] at hloadI
  obtain ⟨P, hP⟩ : ∃ P : Int, (p : Int) = P := ⟨_, rfl⟩
  rw [hP] at hload hloadI
  have HP := Lib.hid hput
  have HPI := Lib.hid hputI
  have HL := Lib.hid hload
  have HLI := Lib.hid hloadI
  have HL1 := Lib.hid hl1
  have HQ := Lib.hid hq
  have hL60 : (ps ++ es).length ≤ 100 := by omega
  have HLL := Lib.hid hL60
  subst hpM
  have HA := Lib.hid (hrd.alloc (.cells #[.slice A n c, .slice A' n' c'] 41))
  have HA' := Lib.hid (hrd'.alloc (.cells #[.slice A n c, .slice A' n' c'] 41))
  clear hput hputI hload hloadI hl1 hel hlook hdec hsegE hq hVlt hes hS hrd hrd' hw hL60 hp
  rcases hcase with ⟨hn, h60⟩ | ⟨hn, h60⟩ <;> rcases hcase' with ⟨hn', rfl⟩ | ⟨hn', rfl⟩
  all_goals
    subst h60
    subst hP
    go_enter Try.func5, Try.ntmps5
    go_wp2_with fail
    refine (works_true _).mono ?_
    rintro e w1 ⟨rfl, hb⟩
    obtain ⟨f0, f1⟩ := box2 hb
    have HB := Lib.hid hb
    replace HA := Lib.hid (HA.out.below hb)
    replace HA' := Lib.hid (HA'.out.below hb)
    clear hb
    go_wp2_with fail
    refine (HW.out _).mono ?_
    rintro e w' ⟨rfl, rfl⟩
    go_wp2_with fail
    clear f0 f1
    refine (HP.out _ _ HA.out).mono ?_
    rintro e w2 ⟨g, cx, rfl, hr, hb⟩
    have HX := Lib.hid hr
    replace HB := Lib.hid (HB.out.trans (hb.mono HB.out.size))
    replace HA := Lib.hid (HA.out.below hb)
    replace HA' := Lib.hid (HA'.out.below hb)
    clear hb hr
    go_wp2_with fail
    refine (copyBytes_any _ (ps ++ es) _ HX.out.rd (by have := HLL.out; omega)).mono ?_
    rintro e w3 ⟨v3, rfl, ho, hb⟩
    have HO := Lib.hid ho
    have HB3 := Lib.hid hb
    clear hb ho
    go_wp2_with (at_builtin; refine wpList_app (v := v3) (base := w2.heap.size) (xs := ps ++ es) (ys := qs) rfl (.tmp 50) (.tmp 51) rfl rfl rfl HO.out (HA'.out.below HB3.out) (by have := HLL.out; omega) HB3.out.size ?_; intro v4 w4 ho hg; have HO4 := Lib.hid ho; have HG4 := Lib.hid hg; clear ho hg)
    have hb := HB3.out.grown HG4.out HB3.out.size (own_base HO.out)
    have HR4 := Lib.hid (Rd.of_own HO4.out)
    replace HX := Lib.hid (HX.out.below hb)
    replace HB := Lib.hid (HB.out.trans (hb.mono HB.out.size))
    replace HA := Lib.hid (HA.out.below hb)
    replace HA' := Lib.hid (HA'.out.below hb)
    clear hb HO HB3 HG4 HO4
    refine (HL.out _ _ HR4.out).mono ?_
    rintro e w5 ⟨rfl, hb⟩
    replace HX := Lib.hid (HX.out.below hb)
    replace HB := Lib.hid (HB.out.trans (hb.mono HB.out.size))
    replace HA := Lib.hid (HA.out.below hb)
    replace HA' := Lib.hid (HA'.out.below hb)
    clear hb HR4
    go_wp2_with fail
    refine (HPI.out _ _ HA.out).mono ?_
    rintro e w6 ⟨v6, rfl, hr, hb⟩
    have HY := Lib.hid hr
    replace HX := Lib.hid (HX.out.below hb)
    replace HB := Lib.hid (HB.out.trans (hb.mono HB.out.size))
    replace HA' := Lib.hid (HA'.out.below hb)
    clear hb hr HA
    go_wp2_with fail
    refine (copyBytes_any _ (ps ++ es) _ HY.out (by have := HLL.out; omega)).mono ?_
    rintro e w7 ⟨v7, rfl, ho, hb⟩
    have HO := Lib.hid ho
    have HB3 := Lib.hid hb
    clear hb ho
    go_wp2_with (at_builtin; refine wpList_app (v := v7) (base := w6.heap.size) (xs := ps ++ es) (ys := qs) rfl (.tmp 78) (.tmp 79) rfl rfl rfl HO.out (HA'.out.below HB3.out) (by have := HLL.out; omega) HB3.out.size ?_; intro v8 w8 ho hg; have HO4 := Lib.hid ho; have HG4 := Lib.hid hg; clear ho hg)
    have hb := HB3.out.grown HG4.out HB3.out.size (own_base HO.out)
    have HR4 := Lib.hid (Rd.of_own HO4.out)
    replace HX := Lib.hid (HX.out.below hb)
    replace HY := Lib.hid (HY.out.below hb)
    replace HB := Lib.hid (HB.out.trans (hb.mono HB.out.size))
    clear hb HO HB3 HG4 HO4 HA'
    refine (HLI.out _ _ HR4.out).mono ?_
    rintro e w9 ⟨rfl, hb⟩
    replace HX := Lib.hid (HX.out.below hb)
    replace HY := Lib.hid (HY.out.below hb)
    replace HB := Lib.hid (HB.out.trans (hb.mono HB.out.size))
    clear hb HR4
    go_wp2_with fail
    refine (eqBytes_any _ _ (ps ++ es) (ps ++ es) _ HX.out.rd HY.out).mono ?_
    rintro e w' ⟨rfl, rfl⟩
    rw [beq_self_eq_true]
    go_wp2_with fail
    go_ret
    exact ⟨rfl, below_box HB.out⟩

theorem back_walk (A : Option Addr) (n c : Nat) (xs : List UInt8) (A' : Option Addr) (n' c' : Nat) (xs' : List UInt8) (x u : Int) (w : World) (hr : Rds w A n c xs) (hc : c ≤ maxLen) (hr' : Rds w A' n' c' xs') (hc' : c' ≤ maxLen)
    (x0 : -9223372036854775808 ≤ x) (u0 : 0 ≤ u) (u1 : u ≤ 18446744073709551615) :
    Calls Try.prog 5 #[.agg #[.slice A n c, .slice A' n' c'], .int .i64 x, .int .u64 u] w fun e w' => e = .returned (.bool true) ∧ Below w.heap.size w w' := by
  obtain ⟨m, ys, hm, hmK, _, hcase⟩ := firstK hr 60
  obtain ⟨m', ys', hm', hmK', _, hcase'⟩ := firstK hr' 60
  have hcc : c ≤ 9223372036854775807 := by simp only [maxLen] at hc; omega
  have hcc' : c' ≤ 9223372036854775807 := by simp only [maxLen] at hc'; omega
  obtain ⟨U, rfl⟩ := Int.eq_ofNat_of_zero_le u0
  have hw := isW_bd (wideF_isW x)
  obtain ⟨k, hk⟩ := Int.eq_ofNat_of_zero_le (show 0 ≤ wideF x by omega)
  exact back_core A n c m A' n' c' m' ys ys' x k m U w x0 hcc hr.2.1 hcc' hr'.2.1 ⟨_, _, _, rfl, hm⟩ hm' hm.1 rfl hmK hmK' hcase hcase' hk u1

set_option maxRecDepth 100000 in
theorem leBack_lifted (os : Os) (started : os.Started) (H : Type) (enc : TypeId × Value → H) :
    ReturnsInHanded {} Try.checked os 5 .any (Rows.leBackSpec.pre6 enc Try.prog Try.f5 Rows.leBackRow.domain false) (Rows.leBackSpec.post enc Try.prog Try.f5 false true false false) := by
  refine returnsInHanded_of_change (C := Try.checked) ownK started (by kernel_rfl) Try.func5
    (ChangeSpec.witness6 (enc := enc) (C := Try.checked) false ⟨#[], #[.agg #[.slice none 0 0, .slice none 0 0], .int .i64 0, .int .u64 0], []⟩ 8 (by kernel_rfl) (by kernel_rfl) (by kernel_rfl) (by kernel_rfl)) ?_
  intro W base args ds gs before hval0 hW hcnd _
  have hval : ∀ (j : Nat) t v, Try.f5.params[j]? = some t → args[j]? = some v → Value.okWide Try.prog W .any base t v := hval0
  have hW' := hW
  obtain ⟨p, q, hA0, hV, rfl, hfz, hnd⟩ := hW
  have hA : DataW.TrodAll enc Try.prog W 0 (fun _ => true) true Try.f5.params.toList args.toList ds p := hA0
  rw [Try.params5] at hA hval
  obtain ⟨v0, vs0, d0, ds0, p0, q0, hargs, rfl, rfl, h0, r0⟩ := trodAll_cons hA
  obtain ⟨v1, vs1, d1, ds1, p1, q1, rfl, rfl, rfl, h1, r1⟩ := trodAll_cons r0
  obtain ⟨v2, vs2, d2, ds2, p2, q2, rfl, rfl, rfl, h2, r2⟩ := trodAll_cons r1
  obtain ⟨rfl, rfl, rfl⟩ := trodAll_nil r2
  obtain rfl : args = #[v0, v1, v2] := by cases args; simp_all
  obtain ⟨rfl, rfl⟩ := trodVars_none hV
  obtain ⟨A, n, c, xs, A', n', c', xs', rfl, hr, hc, hr', hc'⟩ := open_pair (hval 0 41 v0 rfl rfl) h0
  obtain ⟨a1, rfl, rfl, rfl, w1⟩ := open_int Try.underlying3 (hval 1 3 v1 rfl rfl) h1
  have b1 : -9223372036854775808 ≤ a1 ∧ a1 ≤ 9223372036854775807 := by simpa [Lit.wf, IntKind.min, IntKind.max, IntKind.signed, IntKind.bits] using w1
  obtain ⟨a2, rfl, rfl, rfl, w2⟩ := open_int Try.underlying24 (hval 2 24 v2 rfl rfl) h2
  have b2 : 0 ≤ a2 ∧ a2 ≤ 18446744073709551615 := by simpa [Lit.wf, IntKind.min, IntKind.max, IntKind.signed, IntKind.bits] using w2
  refine (back_walk A n c xs A' n' c' xs' a1 a2 W hr hc hr' hc' b1.1 b2.1 b2.2).mono fun e W' ⟨he, hb⟩ => ?_
  subst he
  exact ⟨_, rfl, law_post (by rw [Try.params5]; decide +kernel) rfl rfl rfl rfl rfl hW' hb⟩

theorem leBack_over : Rows.leBackRow.holds Try.pinned (OpenSpec.ofChange Rows.leBackSpec) :=
  OpenClaim.holds_of_wide 5 Try.f5 rfl rfl rfl rfl rfl rfl rfl ⟨rfl, rfl, rfl, rfl, rfl⟩ rfl rfl rfl rfl rfl (by kernel_rfl) Try.func5 (by kernel_rfl)
    (of_decide_eq_true (by kernel_rfl)) (by unfold Func.isWrapper; first | (rw [if_pos (by decide +kernel)]; kernel_rfl) | (rw [if_neg (by decide +kernel)]; exact ⟨rfl, rfl⟩))
    (fun os started H enc _ => leBack_lifted os started H enc)

theorem leBack_holds : Rows.LeBackSaid := leBack_over
end Go.Proofs.Ytfodocahneoipaa
