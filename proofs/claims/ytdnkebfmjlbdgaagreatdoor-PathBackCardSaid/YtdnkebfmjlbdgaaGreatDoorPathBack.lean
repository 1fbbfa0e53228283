/-
  What is proved here: the contract of the law's cut: the path's first 70 steps with keys of at most 40 bytes, in memory of the call's own; condition: the argument reads as a path; and: the walk of PathBack: true for every path; conditions: the tables hold what is laid, the argument reads as a path; and: accordionlaw08.PathBack returns true for all paths and leaves its arguments as they were; condition: the tables of package tree and of the library hold when the call begins what their initialisers lay (tied to the program's text by the card).
-/
import Derived.Test.YtdnkebfmjlbdgaaGreatDoorPy
import Derived.Test.YtdnkebfmjlbdgaaGreatDoorPwM
import Derived.Test.YtdnkebfmjlbdgaaGreatDoorProw
namespace Go.Proofs.YtdnkebfmjlbdgaaGreatDoor
open Go.RowKit U U.Ut

def sh40 (s : Stp) : Stp := ⟨str (s.k.data.toList.take 40), s.a, s.b⟩
def cut8 (ps : List Stp) : List Stp := (ps.take 70).map sh40
theorem str_size (l : List UInt8) : (str l).size = l.length := by
  rw [Lib.size_eq]
  rfl
theorem sh40_size (s : Stp) : (sh40 s).k.size ≤ 40 := by
  show (str (s.k.data.toList.take 40)).size ≤ 40
  rw [str_size, List.length_take]
  omega
theorem sh40_ok {s : Stp} (h : okR s) : okR (sh40 s) := ⟨by have := sh40_size s; unfold maxLen; omega, h.2⟩
theorem cut8_ok {ps : List Stp} (h : ∀ s ∈ ps, okR s) : ∀ s ∈ cut8 ps, okR s := by
  intro s hs
  obtain ⟨x, hx, rfl⟩ := List.mem_map.1 hs
  exact sh40_ok (h x (List.mem_of_mem_take hx))
theorem cut8_len (ps : List Stp) : (cut8 ps).length ≤ 70 := by
  unfold cut8
  rw [List.length_map, List.length_take]
  omega
theorem cut8_small (ps : List Stp) : ∀ s ∈ cut8 ps, s.k.size ≤ 40 := by
  intro s hs
  obtain ⟨x, _, rfl⟩ := List.mem_map.1 hs
  exact sh40_size x
theorem short40 (s : ByteArray) (w : World) (hs : s.size ≤ maxLen) :
    Calls Tryz.prog 18 #[.string s, .int .i64 40] w fun e w' => e = .returned (.string (str (s.data.toList.take 40))) ∧ w = w' := U.short_any s 40 w hs
theorem take_row {ps : List Stp} {j : Nat} {x : Stp} (h : ps[j]? = some x) : pv ((ps.take (j + 1)).map sh40) = pv ((ps.take j).map sh40) ++ [.string (str (x.k.data.toList.take 40)), .int .i64 x.a, .bool x.b] := by
  rw [List.take_add_one, h, Option.toList_some, List.map_append, pv_app]
  rfl

set_option maxRecDepth 100000 in
set_option maxHeartbeats 2000000 in
theorem cut8_any (ps : List Stp) (v : Value) (w : World) (h : RdP w v ps) :
    Calls Tryz.prog 13 #[v] w fun e w' => (∃ v', e = .returned v' ∧ w'.ownsRow w.heap.size 51 3 v' (cut8 ps).length (pv (cut8 ps))) ∧ Below w.heap.size w w' := by
  obtain ⟨A, n, c, rfl, hn, hnc, hc, hok, hA⟩ := h.at
  have hmx : n ≤ 9223372036854775807 := Nat.le_trans hnc hc
  obtain ⟨i0, hi, hz0, hz1, hz2⟩ := info_parts infoSt
  go_enter Tryz.func13, Tryz.ntmps13
  go_wp2
  go_loopw [3, 4] (fun v i wr => ∃ j : Nat, j ≤ n ∧ j ≤ 70 ∧ i = .int .i64 (j : Int) ∧ Hid (wr.ownsRow w.heap.size 51 3 v j (pv ((ps.take j).map sh40))) ∧ Hid (Below w.heap.size w wr)) (fun v i _ => 70 - (intOf i).toNat)
  case atStart => exact ⟨0, Nat.zero_le _, Nat.zero_le _, rfl, World.ownsRow_nil _ _ _ _, Below.refl _ _⟩
  case round =>
    obtain ⟨j, hj, hj70, rfl, HO, HB⟩ := hrel
    by_cases hjn : j < n
    · by_cases hj7 : j < 70
      · obtain ⟨x, hx⟩ : ∃ x, ps[j]? = some x := ⟨_, List.getElem?_eq_getElem (by omega)⟩
        obtain ⟨b1, off1, rfl, _, hc1⟩ := hA (by omega)
        obtain ⟨c0, c1, c2⟩ := hc1 wr HB.out j x hx
        have hxs := (hok x (List.mem_of_getElem? hx)).1
        have HT := Lib.hid (take_row hx)
        have HSZ : Hid (w.heap.size ≤ wr.heap.size) := Lib.hid HB.out.size
        clear hc1 hx
        go_wp2_with (first
          | (go_at_call 18; refine (short40 x.k _ hxs).mono ?_; rintro e w2 ⟨rfl, rfl⟩)
          | (at_builtin; refine wpList_append_own_at _ rfl _ _ 22 rfl w.heap.size 51 i0 _ 3 32 Tryz.underlying22 hi hz0 hz1 hz2 rfl (by decide) _ j (pv ((ps.take j).map sh40)) rfl ((HO.out.alloc _).alloc _) ⟨wr.heap.size + 1, 0, none⟩ 1 1 [.string (str (x.k.data.toList.take 40)), .int .i64 x.a, .bool x.b] rfl rfl ?q1 ?q2 ?q3 ?q4 ?q5 ?_; rotate_left 5; intro v' w3 hown3 hgrow3 _ _))
        · have HB3 : Below w.heap.size w w3 := ((HB.out.alloc HSZ.out _).alloc (by rw [World.size_alloc]; have := HSZ.out; omega) _).grown hgrow3 (by rw [World.size_alloc, World.size_alloc]; have := HSZ.out; omega) (fun k hk => (HO.out.lt k hk).1)
          have HO3 : Hid (w3.ownsRow w.heap.size 51 3 v' (j + 1) (pv ((ps.take (j + 1)).map sh40))) := Lib.hid (by rw [HT.out]; exact hown3)
          go_roundw
          case rel => exact ⟨j + 1, by omega, by omega, by simp, HO3, Lib.hid HB3⟩
          case measure => simp [intOf]; omega
        case q1 => rw [← World.size_alloc wr]; exact cells_new _ _ _
        case q2 =>
          intro u hu
          simp only [List.mem_cons, List.not_mem_nil, or_false] at hu
          rcases hu with rfl | rfl | rfl <;> rfl
        case q3 => unfold maxLen; omega
        case q4 => omega
        case q5 => rw [World.size_alloc, World.size_alloc]; have := HSZ.out; omega
      · have HE : Hid ((ps.take j).map sh40 = cut8 ps) := Lib.hid (by unfold cut8; rw [show j = 70 by omega])
        have HLN : Hid ((cut8 ps).length = j) := Lib.hid (by rw [← HE.out, List.length_map, List.length_take]; omega)
        go_wp2
        go_ret
        exact ⟨⟨_, rfl, by rw [HLN.out, ← HE.out]; exact HO.out⟩, HB.out⟩
    · have HE : Hid ((ps.take j).map sh40 = cut8 ps) := Lib.hid (by unfold cut8; rw [List.take_of_length_le (by omega), List.take_of_length_le (by omega)])
      have HLN : Hid ((cut8 ps).length = j) := Lib.hid (by rw [← HE.out, List.length_map, List.length_take]; omega)
      go_wp2
      go_ret
      exact ⟨⟨_, rfl, by rw [HLN.out, ← HE.out]; exact HO.out⟩, HB.out⟩
end Go.Proofs.YtdnkebfmjlbdgaaGreatDoor
namespace Go.Proofs.YtdnkebfmjlbdgaaGreatDoor
open Go.RowKit U U.Ut

theorem txtS_l3 {s : Stp} (ho : okS s = true) (hk : s.k.size ≤ 40) : (txtS s).length ≤ 300 := by
  unfold txtS okS at *
  rw [List.length_cons, List.length_append]
  split at ho
  · rename_i h
    rw [if_pos h]
    have := quo_len s.k.data.toList
    rw [Lib.size_eq] at hk
    simp only [List.length_cons, List.length_nil]
    omega
  · rename_i h
    rw [if_neg h]
    simp only [Bool.and_eq_true, decide_eq_true_eq] at ho
    have := dD_len (u := s.a.toNat) (by omega)
    simp only [List.length_cons, List.length_nil]
    omega
theorem txts_len : ∀ (ps : List Stp), ps.all okS = true → (∀ s ∈ ps, s.k.size ≤ 40) → (ps.flatMap txtS).length ≤ 300 * ps.length
  | [], _, _ => Nat.zero_le _
  | s :: ps, h, hk => by
    rw [List.all_cons, Bool.and_eq_true] at h
    have h1 := txtS_l3 h.1 (hk s (by simp))
    have h2 := txts_len ps h.2 (fun x hx => hk x (by simp [hx]))
    rw [List.flatMap_cons, List.length_append, List.length_cons]
    omega

set_option maxRecDepth 100000 in
set_option maxHeartbeats 2000000 in
theorem pathBack_walk (ps : List Stp) (v : Value) (w : World) (hL : LP w.heap.size w) (h : RdP w v ps) :
    Calls Tryz.prog 7 #[v] w fun e w' => e = .returned (.bool true) ∧ Below w.heap.size w w' := by
  have hok : ∀ s ∈ ps, okR s := by obtain ⟨A, n, c, -, -, -, -, h4, -⟩ := h; exact h4
  have HOK := Lib.hid (cut8_ok hok)
  have HLE := Lib.hid (cut8_len ps)
  have HSM := Lib.hid (cut8_small ps)
  have HW := Lib.hid (works_any w hL)
  have HC := Lib.hid (fun W (hS : SP w W) => cut8_any ps v W (h.below hS.bl))
  obtain ⟨A, n, c, rfl, -, -, -, -, -⟩ := id h
  obtain ⟨qs, hqs⟩ : ∃ qs, cut8 ps = qs := ⟨_, rfl⟩
  rw [hqs] at HOK HLE HSM HC
  clear hqs h hok hL
  by_cases hg : qs.length ≤ 64 ∧ qs.all okS = true
  · have HP := Lib.hid (parse_show hg.1 hg.2)
    have hR : showR qs = (qs.flatMap txtS, 0) := by unfold showR; rw [if_neg (by omega), if_pos hg.2]
    have HR := Lib.hid hR
    have HTL := Lib.hid (txts_len qs hg.2 HSM.out)
    obtain ⟨L, hLL⟩ : ∃ L, qs.flatMap txtS = L := ⟨_, rfl⟩
    have HTS := Lib.hid HTL.out
    rw [hLL] at HP HR HTS
    have HSH : Hid (∀ v' W, SP w W → RdP W v' qs → Calls Tryz.prog 14 #[v'] W fun e w' => e = .returned (.tuple #[.string (str L), .int .i64 0]) ∧ Below W.heap.size W w') := Lib.hid fun v' W hS hp => by
      have := show_any qs v' W hS.lp hp (fun s hs => by have := HSM.out s hs; omega) (by have := HLE.out; omega)
      rw [HR.out] at this
      exact this
    have HPA : Hid (∀ W, SP w W → Calls Tryz.prog 19 #[.string (str L)] W fun e w' => (∃ q, e = .returned (.tuple #[q, .int .i64 0, .int .i64 0]) ∧ RdP w' q qs) ∧ Below W.heap.size W w') := Lib.hid fun W hS => by
      have := parse_any (str L) L rfl W hS.lp (by rw [str_size]; have := HTS.out; have := HLE.out; omega)
      rw [HP.out] at this
      exact this
    have HEQ : Hid (∀ a b W, RdP W a qs → RdP W b qs → Calls Tryz.prog 16 #[a, b] W fun e w' => e = .returned (.bool true) ∧ Below W.heap.size W w') := Lib.hid fun a b W ha hb => by
      refine (eqSteps_any qs qs a b W ha hb (by have := HLE.out; omega)).mono ?_
      rintro e w' ⟨⟨β, rfl, hβ⟩, hb⟩
      rw [hβ.2 rfl]
      exact ⟨rfl, hb⟩
    clear hLL HTL HTS HP HR hR hg HSM HLE
    go_enter Tryz.func7, Tryz.ntmps7
    go_wp2_with (first
      | (go_at_call 17; (with_reducible refine HW.out.mono ?_); rintro e w1 ⟨rfl, hS1⟩; have HS1 := Lib.hid hS1; clear hS1)
      | (go_at_call 13; (with_reducible refine (HC.out _ HS1.out).mono ?_); rintro e w2 ⟨⟨v', rfl, ho⟩, hb2⟩; have HO := Lib.hid (own_rdp ho HOK.out); have HS2 := Lib.hid (HS1.out.step hb2); clear ho hb2)
      | (go_at_call 14; (with_reducible refine (HSH.out _ _ HS2.out HO.out).mono ?_); rintro e w3 ⟨rfl, hb3⟩; have HO3 := Lib.hid (HO.out.below hb3); have HS3 := Lib.hid (HS2.out.step hb3); clear hb3)
      | (go_at_call 19; (with_reducible refine (HPA.out _ HS3.out).mono ?_); rintro e w4 ⟨⟨q, rfl, hq⟩, hb4⟩; have HQ := Lib.hid hq; have HO4 := Lib.hid (HO3.out.below hb4); have HS4 := Lib.hid (HS3.out.step hb4); clear hq hb4)
      | (go_at_call 16; (with_reducible refine (HEQ.out _ _ _ HO4.out HQ.out).mono ?_); rintro e w5 ⟨rfl, hb5⟩; have HS5 := Lib.hid (HS4.out.step hb5); clear hb5))
    go_ret
    exact ⟨rfl, HS5.out.bl⟩
  · have hno : ∃ E : Nat, (E = 5 ∨ E = 2) ∧ showR qs = ([], E) := by
      unfold showR
      by_cases h6 : 64 < qs.length
      · rw [if_pos h6]; exact ⟨5, Or.inl rfl, rfl⟩
      · rw [if_neg h6, if_neg (fun ha => hg ⟨by omega, ha⟩)]; exact ⟨2, Or.inr rfl, rfl⟩
    obtain ⟨E, hE, hR⟩ := hno
    have HSH : Hid (∀ v' W, SP w W → RdP W v' qs → Calls Tryz.prog 14 #[v'] W fun e w' => e = .returned (.tuple #[.string ⟨#[]⟩, .int .i64 (E : Nat)]) ∧ Below W.heap.size W w') := Lib.hid fun v' W hS hp => by
      have := show_any qs v' W hS.lp hp (fun s hs => by have := HSM.out s hs; omega) (by have := HLE.out; omega)
      rw [hR] at this
      exact this
    clear hR hg HSM HLE
    rcases hE with rfl | rfl
    all_goals
      go_enter Tryz.func7, Tryz.ntmps7
      go_wp2_with (first
        | (go_at_call 17; (with_reducible refine HW.out.mono ?_); rintro e w1 ⟨rfl, hS1⟩; have HS1 := Lib.hid hS1; clear hS1)
        | (go_at_call 13; (with_reducible refine (HC.out _ HS1.out).mono ?_); rintro e w2 ⟨⟨v', rfl, ho⟩, hb2⟩; have HO := Lib.hid (own_rdp ho HOK.out); have HS2 := Lib.hid (HS1.out.step hb2); clear ho hb2)
        | (go_at_call 14; (with_reducible refine (HSH.out _ _ HS2.out HO.out).mono ?_); rintro e w3 ⟨rfl, hb3⟩; have HS3 := Lib.hid (HS2.out.step hb3); clear hb3))
      go_ret
      exact ⟨rfl, HS3.out.bl⟩
end Go.Proofs.YtdnkebfmjlbdgaaGreatDoor
namespace Go.Proofs.YtdnkebfmjlbdgaaGreatDoor
open Go.ChangeShapes Go.WideShapes Go.ChangeAt Go.WideMaps Go.WideElems Go.RowKit Go.ChangeMaps

set_option maxRecDepth 100000 in
theorem pathBack_lifted (os : Os) (started : os.Started) (H : Type) (enc : TypeId × Value → H) :
    ReturnsInHanded {} Tryz.checked os 7 .any (fun w args => (Rows.pathBackSpec.pre enc Tryz.prog Tryz.f7 [] false w args ∧ laidMetH Tryz.prog laidL w) ∧ sizedMet enc Tryz.prog Tryz.f7 (OpenSpec.ofChange Rows.pathBackSpec) false w args)
      (Rows.pathBackSpec.post enc Tryz.prog Tryz.f7 false true false false) := by
  refine returnsInHanded_of_change_and (C := Tryz.checked) (X := fun w _ => laidMetH Tryz.prog laidL w) (fun _ _ _ hh h => h.of_heap hh) ownK started (by kernel_rfl) Tryz.func7
    (ChangeSpec.witness_shaped (enc := enc) (C := Tryz.checked) (os := os) (X := fun w _ => laidMetH Tryz.prog laidL w) false (World.laidAll Tryz.prog os laidL) #[.slice none 0 0] 8 (World.laidAll_os _ _ _) (World.shaped_of_ZipB (by kernel_rfl) (by kernel_rfl)) (by kernel_rfl) (by kernel_rfl) (by kernel_rfl) (lay_met os _)) ?_
  intro W base args ds gs before hval0 hW _ _ hL _
  have hval : ∀ (j : Nat) t v, Tryz.f7.params[j]? = some t → args[j]? = some v → Value.okWide Tryz.prog W .any base t v := hval0
  have hW' := hW
  obtain ⟨p, q, hA0, hV, rfl, hfz, hnd⟩ := hW
  have hA : DataW.TrodAll enc Tryz.prog W 0 (fun _ => true) true Tryz.f7.params.toList args.toList ds p := hA0
  rw [Tryz.params7] at hA hval
  obtain ⟨v0, vs0, d0, ds0, p0, q0, hargs, rfl, rfl, h0, r0⟩ := trodAll_cons hA
  obtain ⟨rfl, rfl, rfl⟩ := trodAll_nil r0
  obtain rfl : args = #[v0] := by cases args; simp_all
  obtain ⟨rfl, rfl⟩ := trodVars_none hV
  obtain ⟨l0, n0⟩ := open_path (hval 0 22 v0 rfl rfl) h0
  refine (pathBack_walk l0 v0 W (tab_of_laid hL) n0).mono fun e W' ⟨he, hb⟩ => ?_
  subst he
  exact ⟨_, rfl, law_post (by rw [Tryz.params7]; decide +kernel) rfl rfl rfl rfl rfl hW' hb⟩

theorem pathBack_row : Rows.PathBackSaid :=
  OpenClaim.holds_of_wide 7 Tryz.f7 rfl rfl rfl rfl rfl rfl rfl ⟨rfl, rfl, rfl, rfl, rfl⟩ rfl rfl rfl rfl rfl (by kernel_rfl) Tryz.func7 (by kernel_rfl)
    (of_decide_eq_true (by kernel_rfl)) (by unfold Func.isWrapper; first | (rw [if_pos (by decide +kernel)]; kernel_rfl) | (rw [if_neg (by decide +kernel)]; exact ⟨rfl, rfl⟩))
    (fun os started H enc _ => pathBack_lifted os started H enc)

theorem pathBack_holds : Rows.PathBackCardSaid :=
  Claim7.holds_tied_plain_at .later [] [.data, .data, .data, .data, .sentinel, .sentinel, .data, .pinned] true Rows.pathBackCard.stood.harness true
    pathBack_row (fun _ h => by cases h) (by kernel_rfl) (fun _ h => by cases h) pathBack_row_tie rfl ⟨rfl, rfl⟩ (by kernel_rfl) rfl
    (fun f fn hf hfn => by
      obtain rfl : f = 7 := Option.some.inj ((show Tryz.prog.funcNamed "accordion/accordionlaw08.PathBack" = some 7 by kernel_rfl).symm.trans hf) |>.symm
      obtain rfl : fn = Tryz.f7 := (Option.some.inj (Tryz.func7.symm.trans hfn)).symm
      exact ⟨by kernel_rfl, fun j t ht => by
        rw [Tryz.params7] at ht
        have hm : t ∈ [22] := by simpa using Array.mem_of_getElem? ht
        have hall : ([22].all fun u => !Tryz.prog.wantsStandIn u) = true := by kernel_rfl
        exact (show Tryz.prog.wantsStandIn t = false by simpa using List.all_eq_true.1 hall t hm)⟩)
    (by kernel_rfl)
end Go.Proofs.YtdnkebfmjlbdgaaGreatDoor
