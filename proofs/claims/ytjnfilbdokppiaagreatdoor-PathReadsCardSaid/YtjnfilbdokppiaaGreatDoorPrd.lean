/-
  What is proved here: contracts of the reference's place, step and Parse; conditions: the lengths that each states.
-/
import Derived.Test.YtjnfilbdokppiaaGreatDoorPy
import Derived.Test.YtjnfilbdokppiaaGreatDoorURdG
import Derived.Test.YtjnfilbdokppiaaGreatDoorRefC
namespace Go.Proofs.YtjnfilbdokppiaaGreatDoor
open Go.RowKit U U.Ut

theorem ret_three3 {f : Func} {R : Ending → World → Prop} {a : Act} {w : World} {p q r : Tmp} {g : Nat} {v u v0 v1 v2 : Value} (hres : f.results = #[.cell p 51, .tmp q, .tmp r]) (hp : a.tmps.getD p undef = .pointer (some ⟨g, 0, none⟩)) (hq : a.tmps.getD q undef = v) (hr : a.tmps.getD r undef = u)
    (hB : Blk w g 51 #[v0, v1, v2]) (hd : a.defers = []) (hR : R (.returned (.tuple #[.agg #[v0, v1, v2], v, u])) w) : bodyPost Tryz.prog f R .ret a w := by
  refine bodyPost_ret ?_ hd hR
  have hp' : a.tmps[p]?.getD undef = .pointer (some ⟨g, 0, none⟩) := by simpa using hp
  have hq' : a.tmps[q]?.getD undef = v := by simpa using hq
  have hr' : a.tmps[r]?.getD undef = u := by simpa using hr
  simp only [results, hres]
  simp [hp', hq', hr', asAddr, loadVar_three hB]
theorem ret_three4 {f : Func} {R : Ending → World → Prop} {a : Act} {w : World} {p q r t : Tmp} {g : Nat} {v u x v0 v1 v2 : Value} (hres : f.results = #[.cell p 51, .tmp q, .tmp r, .tmp t]) (hp : a.tmps.getD p undef = .pointer (some ⟨g, 0, none⟩)) (hq : a.tmps.getD q undef = v) (hr : a.tmps.getD r undef = u) (ht : a.tmps.getD t undef = x)
    (hB : Blk w g 51 #[v0, v1, v2]) (hd : a.defers = []) (hR : R (.returned (.tuple #[.agg #[v0, v1, v2], v, u, x])) w) : bodyPost Tryz.prog f R .ret a w := by
  refine bodyPost_ret ?_ hd hR
  have hp' : a.tmps[p]?.getD undef = .pointer (some ⟨g, 0, none⟩) := by simpa using hp
  have hq' : a.tmps[q]?.getD undef = v := by simpa using hq
  have hr' : a.tmps[r]?.getD undef = u := by simpa using hr
  have ht' : a.tmps[t]?.getD undef = x := by simpa using ht
  simp only [results, hres]
  simp [hp', hq', hr', ht', asAddr, loadVar_three hB]

theorem dg_byte {c : UInt8} (h : isDg c = true) : 48 ≤ c.toNat ∧ c.toNat ≤ 57 := by
  unfold isDg at h
  simpa using h
theorem dg_no {c : UInt8} (h : isDg c = false) : c.toNat < 48 ∨ 57 < c.toNat := by
  unfold isDg at h
  simp only [Bool.and_eq_false_iff, decide_eq_false_iff_not] at h
  omega
/-- A byte of the digits at an offset. -/
theorem dg_in {l : List UInt8} {a k : Nat} (h : k < (dgs (l.drop a)).length) : ∃ c, l[a + k]? = some c ∧ isDg c = true := by
  have h1 := dgs_drop (l.drop a) k (Nat.le_of_lt h)
  rw [decide_eq_true h, List.drop_drop] at h1
  cases hd : l.drop (a + k) with
  | nil => rw [hd] at h1; cases h1
  | cons c r =>
    rw [hd] at h1
    refine ⟨c, ?_, h1⟩
    have := congrArg List.head? hd
    rw [List.head?_drop] at this
    exact this
/-- The end of the digits at an offset. -/
theorem dg_out {l : List UInt8} {a : Nat} : l.length ≤ a + (dgs (l.drop a)).length ∨ ∃ c, l[a + (dgs (l.drop a)).length]? = some c ∧ isDg c = false := by
  have h1 := dgs_drop (l.drop a) _ (Nat.le_refl _)
  rw [decide_eq_false (Nat.lt_irrefl _), List.drop_drop] at h1
  rcases Nat.lt_or_ge (a + (dgs (l.drop a)).length) l.length with h | h
  · right
    refine ⟨l[a + (dgs (l.drop a)).length], List.getElem?_eq_getElem h, ?_⟩
    rw [List.drop_eq_getElem_cons h] at h1
    exact h1
  · exact .inl h
theorem dg_nth {l : List UInt8} {a k : Nat} {c : UInt8} (h : k < (dgs (l.drop a)).length) (hc : l[a + k]? = some c) : (dgs (l.drop a))[k]? = some c := by
  have h1 := dgs_take (l.drop a)
  rw [← h1, List.getElem?_take, if_pos h, List.getElem?_drop]
  exact hc
/-- The value of the first digits. -/
def VD (d : List UInt8) (k n : Nat) : Prop := Lib.decFrom 0 (d.take k) = some n ∧ n < 10 ^ k
theorem VD.start (d : List UInt8) : VD d 0 0 := ⟨rfl, by decide⟩
theorem VD.next {d : List UInt8} {k n : Nat} {c : UInt8} (h : VD d k n) (hc : d[k]? = some c) (h1 : 48 ≤ c.toNat) (h2 : c.toNat ≤ 57) : VD d (k + 1) (10 * n + (c.toNat - 48)) := by
  obtain ⟨ha, hb⟩ := h
  have e : Lib.digitVal c = some (c.toNat - 48) := by unfold Lib.digitVal; rw [if_pos ⟨h1, h2⟩]
  refine ⟨?_, by rw [Nat.pow_succ]; omega⟩
  rw [List.take_add_one, hc, Option.toList_some, decFrom_app, ha]
  simp only [Option.bind_some, Lib.decFrom, e]
  congr 1
  omega
theorem VD.fin {d : List UInt8} {k n : Nat} (h : VD d k n) (hk : d.length = k) : dgV d = n := by
  have := h.1
  rw [List.take_of_length_le (by omega)] at this
  unfold dgV
  rw [this]
  rfl
theorem VD.lt {d : List UInt8} {k n : Nat} (h : VD d k n) (hk : k ≤ 9) : n < 1000000000 := by
  have h1 : (10 : Nat) ^ k ≤ 10 ^ 9 := Nat.pow_le_pow_right (by omega) hk
  have := h.2
  omega
theorem wr_sub {c : UInt8} (h : 48 ≤ c.toNat) : IntKind.u8.wrap ((c.toNat : Int) - 48) = ((c.toNat - 48 : Nat) : Int) := by
  have := UInt8.toNat_lt c
  rw [show (c.toNat : Int) - 48 = ((c.toNat - 48 : Nat) : Int) by omega]
  exact IntWalk.u8_in _ (by omega)

def placeR (l : List UInt8) (at_ : Nat) : Value :=
  if 9 < (dgs (l.drop at_)).length ∨ (1 < (dgs (l.drop at_)).length ∧ (l.drop at_).head? = some 48) then .tuple #[.agg #[.string ⟨#[]⟩, .int .i64 0, .bool false], .int .i64 0, .bool false]
  else .tuple #[.agg #[.string ⟨#[]⟩, .int .i64 ((dgV (dgs (l.drop at_)) : Nat) : Int), .bool false], .int .i64 ((at_ + (dgs (l.drop at_)).length : Nat) : Int), .bool true]

theorem put3_bel {B g : Nat} {w W : World} (h : Below B w W) (hg : B ≤ g) (a0 a1 a2 : Value) : Below B w (put3 W g a0 a1 a2) := ((h.setCell (p := ⟨g, 0, none⟩) hg a0).setCell (p := ⟨g, 1, none⟩) hg a1).setCell (p := ⟨g, 2, none⟩) hg a2
set_option maxRecDepth 100000 in
set_option maxHeartbeats 4000000 in
theorem place_any (s : ByteArray) (l : List UInt8) (hl : s.data.toList = l) (at_ : Nat) (w : World) (hs : s.size ≤ 60000) (hd : (dgs (l.drop at_)).length ≠ 0) :
    Calls Tryz.prog 83 #[.string s, .int .i64 (at_ : Nat)] w fun e w' => e = .returned (placeR l at_) ∧ Below w.heap.size w w' := by
  have HSZ := Lib.hid (show s.size = l.length by rw [Lib.size_eq, hl])
  have hle := dgs_le (l.drop at_)
  rw [List.length_drop] at hle
  have HIN := Lib.hid (fun k => @dg_in l at_ k)
  have HNTH := Lib.hid (fun k c => @dg_nth l at_ k c)
  have HOUT := Lib.hid (@dg_out l at_)
  obtain ⟨D, hD⟩ : ∃ D, dgs (l.drop at_) = D := ⟨_, rfl⟩
  obtain ⟨N, hN⟩ : ∃ N, D.length = N := ⟨_, rfl⟩
  rw [hD] at HIN HNTH HOUT hle hd
  rw [hN] at HIN HNTH HOUT hle hd
  obtain ⟨c0, hc0, _⟩ := HIN.out 0 (by omega)
  rw [Nat.add_zero] at hc0
  have hat : at_ < s.size := by have := HSZ.out; omega
  have hx0 : s[at_] = c0 := U.byte_at hl hc0 hat
  have hR : placeR l at_ = if 9 < N ∨ (1 < N ∧ c0 = 48) then .tuple #[.agg #[.string ⟨#[]⟩, .int .i64 0, .bool false], .int .i64 0, .bool false] else .tuple #[.agg #[.string ⟨#[]⟩, .int .i64 ((dgV D : Nat) : Int), .bool false], .int .i64 ((at_ + N : Nat) : Int), .bool true] := by
    unfold placeR
    rw [hD, hN, List.head?_drop, hc0]
    simp only [Option.some.injEq]
  obtain ⟨R, hRR⟩ : ∃ R, placeR l at_ = R := ⟨_, rfl⟩
  rw [hRR] at hR ⊢
  have HR := Lib.hid hR
  have HL := Lib.hid hl
  have HN := Lib.hid hN
  obtain ⟨E, hE⟩ : ∃ E, at_ + N = E := ⟨_, rfl⟩
  have HE := Lib.hid hE
  have hEs : E ≤ s.size := by have := HSZ.out; omega
  have HB0 : Hid (Below w.heap.size w (w.alloc (.cells #[.string ⟨#[]⟩, .int .i64 0, .bool false] 51)) ∧ Blk (w.alloc (.cells #[.string ⟨#[]⟩, .int .i64 0, .bool false] 51)) w.heap.size 51 #[.string ⟨#[]⟩, .int .i64 0, .bool false]) := Lib.hid ⟨(Below.refl _ _).alloc (Nat.le_refl _) _, Blk.new _ _ _⟩
  clear hl hD hN hR hRR hc0 hle
  go_enter Tryz.func83, Tryz.ntmps83
  go_wp2
  go_loop [7] (fun v => ∃ m : Nat, at_ ≤ m ∧ m ≤ E ∧ v = .int .i64 (m : Int)) (fun v => s.size + 1 - (RowKit.intOf v).toNat)
  case atStart => exact ⟨at_, Nat.le_refl _, by omega, rfl⟩
  case round =>
    obtain ⟨m, hm1, hm2, rfl⟩ := hrel
    by_cases hlt : m < E
    · obtain ⟨c, hc, hdg⟩ := HIN.out (m - at_) (by omega)
      rw [show at_ + (m - at_) = m by omega] at hc
      have hms : m < s.size := by omega
      have hx : s[m] = c := U.byte_at HL.out hc hms
      obtain ⟨g1, g2⟩ := dg_byte hdg
      have b1 : decide ((48 : Int) ≤ (c.toNat : Int)) = true := decide_eq_true (by omega)
      have b2 : decide ((c.toNat : Int) ≤ 57) = true := decide_eq_true (by omega)
      clear hdg hc
      go_wp2
      go_round
      case rel => exact ⟨m + 1, by omega, by omega, by go_num⟩
      case measure => simp [RowKit.intOf]; omega
    · obtain rfl : m = E := by omega
      rcases HOUT.out with ho | ⟨c, hc, hdg⟩
      · have hns : ¬ m < s.size := by have := HSZ.out; omega
        by_cases h9 : 9 < N
        · have d9 : decide ((9 : Int) < (m : Int) - (at_ : Int)) = true := decide_eq_true (by have := HE.out; omega)
          have hr : R = .tuple #[.agg #[.string ⟨#[]⟩, .int .i64 0, .bool false], .int .i64 0, .bool false] := by rw [HR.out, if_pos (Or.inl h9)]
          have HRR := Lib.hid hr
          clear hr HIN HNTH HOUT
          rcases hz : ((c0.toNat : Int) == 48) with _ | _
          · go_wp2
            rw [HRR.out]
            exact ret_three3 (p := 4) (q := 5) (r := 6) (g := w.heap.size) (v := .int .i64 0) (u := .bool false) (by rfl) (by rfl) (by rfl) (by rfl) HB0.out.2 (by rfl) ⟨rfl, HB0.out.1⟩
          · have d1 : decide ((at_ : Int) + 1 < (m : Int)) = true := decide_eq_true (by have := HE.out; omega)
            go_wp2
            rw [HRR.out]
            exact ret_three3 (p := 4) (q := 5) (r := 6) (g := w.heap.size) (v := .int .i64 0) (u := .bool false) (by rfl) (by rfl) (by rfl) (by rfl) HB0.out.2 (by rfl) ⟨rfl, HB0.out.1⟩
        · have d9 : decide ((9 : Int) < (m : Int) - (at_ : Int)) = false := decide_eq_false (by have := HE.out; omega)
          by_cases h1 : 1 < N ∧ c0 = 48
          · have hz : ((c0.toNat : Int) == 48) = true := by rw [h1.2]; rfl
            have d1 : decide ((at_ : Int) + 1 < (m : Int)) = true := decide_eq_true (by have := HE.out; have := h1.1; omega)
            have hr : R = .tuple #[.agg #[.string ⟨#[]⟩, .int .i64 0, .bool false], .int .i64 0, .bool false] := by rw [HR.out, if_pos (Or.inr h1)]
            have HRR := Lib.hid hr
            clear hr HIN HNTH HOUT h1
            go_wp2
            rw [HRR.out]
            exact ret_three3 (p := 4) (q := 5) (r := 6) (g := w.heap.size) (v := .int .i64 0) (u := .bool false) (by rfl) (by rfl) (by rfl) (by rfl) HB0.out.2 (by rfl) ⟨rfl, HB0.out.1⟩
          · obtain ⟨V, hV⟩ : ∃ V, dgV D = V := ⟨_, rfl⟩
            have hr : R = .tuple #[.agg #[.string ⟨#[]⟩, .int .i64 (V : Int), .bool false], .int .i64 (m : Int), .bool true] := by
              rw [HR.out, if_neg (by rintro (h | h); (· exact h9 h); (· exact h1 h)), hV, HE.out]
            have HRR := Lib.hid hr
            have HVV := Lib.hid hV
            have hN9 : N ≤ 9 := by omega
            clear hr hV HOUT
            have two : ∀ z : Bool, ((c0.toNat : Int) == 48) = z → (z = true → decide ((at_ : Int) + 1 < (m : Int)) = false) → True := fun _ _ _ => trivial
            clear two
            rcases hz : ((c0.toNat : Int) == 48) with _ | _
            · go_wp2
              go_loop [8, 9] (fun n i => ∃ (p nn : Nat), i = .int .i64 (p : Int) ∧ n = .int .i64 (nn : Int) ∧ at_ ≤ p ∧ p ≤ m ∧ Hid (VD D (p - at_) nn)) (fun _ i => s.size + 1 - (RowKit.intOf i).toNat)
              case atStart => exact ⟨at_, 0, rfl, rfl, Nat.le_refl _, hm1, by rw [Nat.sub_self]; exact VD.start D⟩
              case round =>
                obtain ⟨p, nn, rfl, rfl, hp1, hp2, HVD⟩ := hrel
                by_cases hpm : p < m
                · obtain ⟨c, hc, hdg⟩ := HIN.out (p - at_) (by have := HE.out; omega)
                  have hcn := HNTH.out (p - at_) c (by have := HE.out; omega) hc
                  rw [show at_ + (p - at_) = p by omega] at hc
                  have hps : p < s.size := by omega
                  have hx : s[p] = c := U.byte_at HL.out hc hps
                  obtain ⟨g1, g2⟩ := dg_byte hdg
                  have hw := wr_sub g1
                  have HV2 : Hid (VD D (p + 1 - at_) (10 * nn + (c.toNat - 48))) := Lib.hid (by have := HVD.out.next hcn g1 g2; rwa [show p - at_ + 1 = p + 1 - at_ by omega] at this)
                  have hnn : nn < 1000000000 := HVD.out.lt (by have := HE.out; omega)
                  obtain ⟨dd, hdd⟩ : ∃ dd, c.toNat - 48 = dd := ⟨_, rfl⟩
                  rw [hdd] at hw HV2
                  have hdl : dd < 10 := by omega
                  clear hdg hc hcn g1 g2 hdd
                  go_wp2
                  go_round
                  case rel => exact ⟨p + 1, 10 * nn + dd, by go_num, by go_num, by omega, by omega, HV2⟩
                  case measure => simp [RowKit.intOf]; omega
                · obtain rfl : p = m := by omega
                  have hv : V = nn := by rw [← HVV.out]; exact HVD.out.fin (by rw [HN.out]; have := HE.out; omega)
                  subst hv
                  go_wp2
                  rw [HRR.out]
                  exact ret_three3 (p := 4) (q := 5) (r := 6) (g := w.heap.size) (v := .int .i64 (p : Int)) (u := .bool true) (by rfl) (by rfl) (by rfl) (by rfl) (Blk.new _ _ _) (by rfl) ⟨rfl, (Below.refl _ _).alloc (Nat.le_refl _) _⟩
            · have h48 : c0 = 48 := UInt8.toNat_inj.1 (by have := eq_of_beq hz; show c0.toNat = 48; omega)
              have d1 : decide ((at_ : Int) + 1 < (m : Int)) = false := decide_eq_false (by have := HE.out; have : ¬ 1 < N := fun h => h1 ⟨h, h48⟩; omega)
              clear h48
              go_wp2
              go_loop [8, 9] (fun n i => ∃ (p nn : Nat), i = .int .i64 (p : Int) ∧ n = .int .i64 (nn : Int) ∧ at_ ≤ p ∧ p ≤ m ∧ Hid (VD D (p - at_) nn)) (fun _ i => s.size + 1 - (RowKit.intOf i).toNat)
              case atStart => exact ⟨at_, 0, rfl, rfl, Nat.le_refl _, hm1, by rw [Nat.sub_self]; exact VD.start D⟩
              case round =>
                obtain ⟨p, nn, rfl, rfl, hp1, hp2, HVD⟩ := hrel
                by_cases hpm : p < m
                · obtain ⟨c, hc, hdg⟩ := HIN.out (p - at_) (by have := HE.out; omega)
                  have hcn := HNTH.out (p - at_) c (by have := HE.out; omega) hc
                  rw [show at_ + (p - at_) = p by omega] at hc
                  have hps : p < s.size := by omega
                  have hx : s[p] = c := U.byte_at HL.out hc hps
                  obtain ⟨g1, g2⟩ := dg_byte hdg
                  have hw := wr_sub g1
                  have HV2 : Hid (VD D (p + 1 - at_) (10 * nn + (c.toNat - 48))) := Lib.hid (by have := HVD.out.next hcn g1 g2; rwa [show p - at_ + 1 = p + 1 - at_ by omega] at this)
                  have hnn : nn < 1000000000 := HVD.out.lt (by have := HE.out; omega)
                  obtain ⟨dd, hdd⟩ : ∃ dd, c.toNat - 48 = dd := ⟨_, rfl⟩
                  rw [hdd] at hw HV2
                  have hdl : dd < 10 := by omega
                  clear hdg hc hcn g1 g2 hdd
                  go_wp2
                  go_round
                  case rel => exact ⟨p + 1, 10 * nn + dd, by go_num, by go_num, by omega, by omega, HV2⟩
                  case measure => simp [RowKit.intOf]; omega
                · obtain rfl : p = m := by omega
                  have hv : V = nn := by rw [← HVV.out]; exact HVD.out.fin (by rw [HN.out]; have := HE.out; omega)
                  subst hv
                  go_wp2
                  rw [HRR.out]
                  exact ret_three3 (p := 4) (q := 5) (r := 6) (g := w.heap.size) (v := .int .i64 (p : Int)) (u := .bool true) (by rfl) (by rfl) (by rfl) (by rfl) (Blk.new _ _ _) (by rfl) ⟨rfl, (Below.refl _ _).alloc (Nat.le_refl _) _⟩
      · rw [HE.out] at hc
        have hms : m < s.size := by have := HSZ.out; have := (List.getElem?_eq_some_iff.1 hc).1; omega
        have hx : s[m] = c := U.byte_at HL.out hc hms
        rcases dg_no hdg with g1 | g1
        · have b1 : decide ((48 : Int) ≤ (c.toNat : Int)) = false := decide_eq_false (by omega)
          clear hdg hc g1
          by_cases h9 : 9 < N
          · have d9 : decide ((9 : Int) < (m : Int) - (at_ : Int)) = true := decide_eq_true (by have := HE.out; omega)
            have hr : R = .tuple #[.agg #[.string ⟨#[]⟩, .int .i64 0, .bool false], .int .i64 0, .bool false] := by rw [HR.out, if_pos (Or.inl h9)]
            have HRR := Lib.hid hr
            clear hr HIN HNTH HOUT
            rcases hz : ((c0.toNat : Int) == 48) with _ | _
            · go_wp2
              rw [HRR.out]
              exact ret_three3 (p := 4) (q := 5) (r := 6) (g := w.heap.size) (v := .int .i64 0) (u := .bool false) (by rfl) (by rfl) (by rfl) (by rfl) HB0.out.2 (by rfl) ⟨rfl, HB0.out.1⟩
            · have d1 : decide ((at_ : Int) + 1 < (m : Int)) = true := decide_eq_true (by have := HE.out; omega)
              go_wp2
              rw [HRR.out]
              exact ret_three3 (p := 4) (q := 5) (r := 6) (g := w.heap.size) (v := .int .i64 0) (u := .bool false) (by rfl) (by rfl) (by rfl) (by rfl) HB0.out.2 (by rfl) ⟨rfl, HB0.out.1⟩
          · have d9 : decide ((9 : Int) < (m : Int) - (at_ : Int)) = false := decide_eq_false (by have := HE.out; omega)
            by_cases h1 : 1 < N ∧ c0 = 48
            · have hz : ((c0.toNat : Int) == 48) = true := by rw [h1.2]; rfl
              have d1 : decide ((at_ : Int) + 1 < (m : Int)) = true := decide_eq_true (by have := HE.out; have := h1.1; omega)
              have hr : R = .tuple #[.agg #[.string ⟨#[]⟩, .int .i64 0, .bool false], .int .i64 0, .bool false] := by rw [HR.out, if_pos (Or.inr h1)]
              have HRR := Lib.hid hr
              clear hr HIN HNTH HOUT h1
              go_wp2
              rw [HRR.out]
              exact ret_three3 (p := 4) (q := 5) (r := 6) (g := w.heap.size) (v := .int .i64 0) (u := .bool false) (by rfl) (by rfl) (by rfl) (by rfl) HB0.out.2 (by rfl) ⟨rfl, HB0.out.1⟩
            · obtain ⟨V, hV⟩ : ∃ V, dgV D = V := ⟨_, rfl⟩
              have hr : R = .tuple #[.agg #[.string ⟨#[]⟩, .int .i64 (V : Int), .bool false], .int .i64 (m : Int), .bool true] := by
                rw [HR.out, if_neg (by rintro (h | h); (· exact h9 h); (· exact h1 h)), hV, HE.out]
              have HRR := Lib.hid hr
              have HVV := Lib.hid hV
              have hN9 : N ≤ 9 := by omega
              clear hr hV HOUT
              have two : ∀ z : Bool, ((c0.toNat : Int) == 48) = z → (z = true → decide ((at_ : Int) + 1 < (m : Int)) = false) → True := fun _ _ _ => trivial
              clear two
              rcases hz : ((c0.toNat : Int) == 48) with _ | _
              · go_wp2
                go_loop [8, 9] (fun n i => ∃ (p nn : Nat), i = .int .i64 (p : Int) ∧ n = .int .i64 (nn : Int) ∧ at_ ≤ p ∧ p ≤ m ∧ Hid (VD D (p - at_) nn)) (fun _ i => s.size + 1 - (RowKit.intOf i).toNat)
                case atStart => exact ⟨at_, 0, rfl, rfl, Nat.le_refl _, hm1, by rw [Nat.sub_self]; exact VD.start D⟩
                case round =>
                  obtain ⟨p, nn, rfl, rfl, hp1, hp2, HVD⟩ := hrel
                  by_cases hpm : p < m
                  · obtain ⟨c, hc, hdg⟩ := HIN.out (p - at_) (by have := HE.out; omega)
                    have hcn := HNTH.out (p - at_) c (by have := HE.out; omega) hc
                    rw [show at_ + (p - at_) = p by omega] at hc
                    have hps : p < s.size := by omega
                    have hx : s[p] = c := U.byte_at HL.out hc hps
                    obtain ⟨g1, g2⟩ := dg_byte hdg
                    have hw := wr_sub g1
                    have HV2 : Hid (VD D (p + 1 - at_) (10 * nn + (c.toNat - 48))) := Lib.hid (by have := HVD.out.next hcn g1 g2; rwa [show p - at_ + 1 = p + 1 - at_ by omega] at this)
                    have hnn : nn < 1000000000 := HVD.out.lt (by have := HE.out; omega)
                    obtain ⟨dd, hdd⟩ : ∃ dd, c.toNat - 48 = dd := ⟨_, rfl⟩
                    rw [hdd] at hw HV2
                    have hdl : dd < 10 := by omega
                    clear hdg hc hcn g1 g2 hdd
                    go_wp2
                    go_round
                    case rel => exact ⟨p + 1, 10 * nn + dd, by go_num, by go_num, by omega, by omega, HV2⟩
                    case measure => simp [RowKit.intOf]; omega
                  · obtain rfl : p = m := by omega
                    have hv : V = nn := by rw [← HVV.out]; exact HVD.out.fin (by rw [HN.out]; have := HE.out; omega)
                    subst hv
                    go_wp2
                    rw [HRR.out]
                    exact ret_three3 (p := 4) (q := 5) (r := 6) (g := w.heap.size) (v := .int .i64 (p : Int)) (u := .bool true) (by rfl) (by rfl) (by rfl) (by rfl) (Blk.new _ _ _) (by rfl) ⟨rfl, (Below.refl _ _).alloc (Nat.le_refl _) _⟩
              · have h48 : c0 = 48 := UInt8.toNat_inj.1 (by have := eq_of_beq hz; show c0.toNat = 48; omega)
                have d1 : decide ((at_ : Int) + 1 < (m : Int)) = false := decide_eq_false (by have := HE.out; have : ¬ 1 < N := fun h => h1 ⟨h, h48⟩; omega)
                clear h48
                go_wp2
                go_loop [8, 9] (fun n i => ∃ (p nn : Nat), i = .int .i64 (p : Int) ∧ n = .int .i64 (nn : Int) ∧ at_ ≤ p ∧ p ≤ m ∧ Hid (VD D (p - at_) nn)) (fun _ i => s.size + 1 - (RowKit.intOf i).toNat)
                case atStart => exact ⟨at_, 0, rfl, rfl, Nat.le_refl _, hm1, by rw [Nat.sub_self]; exact VD.start D⟩
                case round =>
                  obtain ⟨p, nn, rfl, rfl, hp1, hp2, HVD⟩ := hrel
                  by_cases hpm : p < m
                  · obtain ⟨c, hc, hdg⟩ := HIN.out (p - at_) (by have := HE.out; omega)
                    have hcn := HNTH.out (p - at_) c (by have := HE.out; omega) hc
                    rw [show at_ + (p - at_) = p by omega] at hc
                    have hps : p < s.size := by omega
                    have hx : s[p] = c := U.byte_at HL.out hc hps
                    obtain ⟨g1, g2⟩ := dg_byte hdg
                    have hw := wr_sub g1
                    have HV2 : Hid (VD D (p + 1 - at_) (10 * nn + (c.toNat - 48))) := Lib.hid (by have := HVD.out.next hcn g1 g2; rwa [show p - at_ + 1 = p + 1 - at_ by omega] at this)
                    have hnn : nn < 1000000000 := HVD.out.lt (by have := HE.out; omega)
                    obtain ⟨dd, hdd⟩ : ∃ dd, c.toNat - 48 = dd := ⟨_, rfl⟩
                    rw [hdd] at hw HV2
                    have hdl : dd < 10 := by omega
                    clear hdg hc hcn g1 g2 hdd
                    go_wp2
                    go_round
                    case rel => exact ⟨p + 1, 10 * nn + dd, by go_num, by go_num, by omega, by omega, HV2⟩
                    case measure => simp [RowKit.intOf]; omega
                  · obtain rfl : p = m := by omega
                    have hv : V = nn := by rw [← HVV.out]; exact HVD.out.fin (by rw [HN.out]; have := HE.out; omega)
                    subst hv
                    go_wp2
                    rw [HRR.out]
                    exact ret_three3 (p := 4) (q := 5) (r := 6) (g := w.heap.size) (v := .int .i64 (p : Int)) (u := .bool true) (by rfl) (by rfl) (by rfl) (by rfl) (Blk.new _ _ _) (by rfl) ⟨rfl, (Below.refl _ _).alloc (Nat.le_refl _) _⟩
        · have b1 : decide ((48 : Int) ≤ (c.toNat : Int)) = true := decide_eq_true (by omega)
          have b2 : decide ((c.toNat : Int) ≤ 57) = false := decide_eq_false (by omega)
          clear hdg hc g1
          by_cases h9 : 9 < N
          · have d9 : decide ((9 : Int) < (m : Int) - (at_ : Int)) = true := decide_eq_true (by have := HE.out; omega)
            have hr : R = .tuple #[.agg #[.string ⟨#[]⟩, .int .i64 0, .bool false], .int .i64 0, .bool false] := by rw [HR.out, if_pos (Or.inl h9)]
            have HRR := Lib.hid hr
            clear hr HIN HNTH HOUT
            rcases hz : ((c0.toNat : Int) == 48) with _ | _
            · go_wp2
              rw [HRR.out]
              exact ret_three3 (p := 4) (q := 5) (r := 6) (g := w.heap.size) (v := .int .i64 0) (u := .bool false) (by rfl) (by rfl) (by rfl) (by rfl) HB0.out.2 (by rfl) ⟨rfl, HB0.out.1⟩
            · have d1 : decide ((at_ : Int) + 1 < (m : Int)) = true := decide_eq_true (by have := HE.out; omega)
              go_wp2
              rw [HRR.out]
              exact ret_three3 (p := 4) (q := 5) (r := 6) (g := w.heap.size) (v := .int .i64 0) (u := .bool false) (by rfl) (by rfl) (by rfl) (by rfl) HB0.out.2 (by rfl) ⟨rfl, HB0.out.1⟩
          · have d9 : decide ((9 : Int) < (m : Int) - (at_ : Int)) = false := decide_eq_false (by have := HE.out; omega)
            by_cases h1 : 1 < N ∧ c0 = 48
            · have hz : ((c0.toNat : Int) == 48) = true := by rw [h1.2]; rfl
              have d1 : decide ((at_ : Int) + 1 < (m : Int)) = true := decide_eq_true (by have := HE.out; have := h1.1; omega)
              have hr : R = .tuple #[.agg #[.string ⟨#[]⟩, .int .i64 0, .bool false], .int .i64 0, .bool false] := by rw [HR.out, if_pos (Or.inr h1)]
              have HRR := Lib.hid hr
              clear hr HIN HNTH HOUT h1
              go_wp2
              rw [HRR.out]
              exact ret_three3 (p := 4) (q := 5) (r := 6) (g := w.heap.size) (v := .int .i64 0) (u := .bool false) (by rfl) (by rfl) (by rfl) (by rfl) HB0.out.2 (by rfl) ⟨rfl, HB0.out.1⟩
            · obtain ⟨V, hV⟩ : ∃ V, dgV D = V := ⟨_, rfl⟩
              have hr : R = .tuple #[.agg #[.string ⟨#[]⟩, .int .i64 (V : Int), .bool false], .int .i64 (m : Int), .bool true] := by
                rw [HR.out, if_neg (by rintro (h | h); (· exact h9 h); (· exact h1 h)), hV, HE.out]
              have HRR := Lib.hid hr
              have HVV := Lib.hid hV
              have hN9 : N ≤ 9 := by omega
              clear hr hV HOUT
              have two : ∀ z : Bool, ((c0.toNat : Int) == 48) = z → (z = true → decide ((at_ : Int) + 1 < (m : Int)) = false) → True := fun _ _ _ => trivial
              clear two
              rcases hz : ((c0.toNat : Int) == 48) with _ | _
              · go_wp2
                go_loop [8, 9] (fun n i => ∃ (p nn : Nat), i = .int .i64 (p : Int) ∧ n = .int .i64 (nn : Int) ∧ at_ ≤ p ∧ p ≤ m ∧ Hid (VD D (p - at_) nn)) (fun _ i => s.size + 1 - (RowKit.intOf i).toNat)
                case atStart => exact ⟨at_, 0, rfl, rfl, Nat.le_refl _, hm1, by rw [Nat.sub_self]; exact VD.start D⟩
                case round =>
                  obtain ⟨p, nn, rfl, rfl, hp1, hp2, HVD⟩ := hrel
                  by_cases hpm : p < m
                  · obtain ⟨c, hc, hdg⟩ := HIN.out (p - at_) (by have := HE.out; omega)
                    have hcn := HNTH.out (p - at_) c (by have := HE.out; omega) hc
                    rw [show at_ + (p - at_) = p by omega] at hc
                    have hps : p < s.size := by omega
                    have hx : s[p] = c := U.byte_at HL.out hc hps
                    obtain ⟨g1, g2⟩ := dg_byte hdg
                    have hw := wr_sub g1
                    have HV2 : Hid (VD D (p + 1 - at_) (10 * nn + (c.toNat - 48))) := Lib.hid (by have := HVD.out.next hcn g1 g2; rwa [show p - at_ + 1 = p + 1 - at_ by omega] at this)
                    have hnn : nn < 1000000000 := HVD.out.lt (by have := HE.out; omega)
                    obtain ⟨dd, hdd⟩ : ∃ dd, c.toNat - 48 = dd := ⟨_, rfl⟩
                    rw [hdd] at hw HV2
                    have hdl : dd < 10 := by omega
                    clear hdg hc hcn g1 g2 hdd
                    go_wp2
                    go_round
                    case rel => exact ⟨p + 1, 10 * nn + dd, by go_num, by go_num, by omega, by omega, HV2⟩
                    case measure => simp [RowKit.intOf]; omega
                  · obtain rfl : p = m := by omega
                    have hv : V = nn := by rw [← HVV.out]; exact HVD.out.fin (by rw [HN.out]; have := HE.out; omega)
                    subst hv
                    go_wp2
                    rw [HRR.out]
                    exact ret_three3 (p := 4) (q := 5) (r := 6) (g := w.heap.size) (v := .int .i64 (p : Int)) (u := .bool true) (by rfl) (by rfl) (by rfl) (by rfl) (Blk.new _ _ _) (by rfl) ⟨rfl, (Below.refl _ _).alloc (Nat.le_refl _) _⟩
              · have h48 : c0 = 48 := UInt8.toNat_inj.1 (by have := eq_of_beq hz; show c0.toNat = 48; omega)
                have d1 : decide ((at_ : Int) + 1 < (m : Int)) = false := decide_eq_false (by have := HE.out; have : ¬ 1 < N := fun h => h1 ⟨h, h48⟩; omega)
                clear h48
                go_wp2
                go_loop [8, 9] (fun n i => ∃ (p nn : Nat), i = .int .i64 (p : Int) ∧ n = .int .i64 (nn : Int) ∧ at_ ≤ p ∧ p ≤ m ∧ Hid (VD D (p - at_) nn)) (fun _ i => s.size + 1 - (RowKit.intOf i).toNat)
                case atStart => exact ⟨at_, 0, rfl, rfl, Nat.le_refl _, hm1, by rw [Nat.sub_self]; exact VD.start D⟩
                case round =>
                  obtain ⟨p, nn, rfl, rfl, hp1, hp2, HVD⟩ := hrel
                  by_cases hpm : p < m
                  · obtain ⟨c, hc, hdg⟩ := HIN.out (p - at_) (by have := HE.out; omega)
                    have hcn := HNTH.out (p - at_) c (by have := HE.out; omega) hc
                    rw [show at_ + (p - at_) = p by omega] at hc
                    have hps : p < s.size := by omega
                    have hx : s[p] = c := U.byte_at HL.out hc hps
                    obtain ⟨g1, g2⟩ := dg_byte hdg
                    have hw := wr_sub g1
                    have HV2 : Hid (VD D (p + 1 - at_) (10 * nn + (c.toNat - 48))) := Lib.hid (by have := HVD.out.next hcn g1 g2; rwa [show p - at_ + 1 = p + 1 - at_ by omega] at this)
                    have hnn : nn < 1000000000 := HVD.out.lt (by have := HE.out; omega)
                    obtain ⟨dd, hdd⟩ : ∃ dd, c.toNat - 48 = dd := ⟨_, rfl⟩
                    rw [hdd] at hw HV2
                    have hdl : dd < 10 := by omega
                    clear hdg hc hcn g1 g2 hdd
                    go_wp2
                    go_round
                    case rel => exact ⟨p + 1, 10 * nn + dd, by go_num, by go_num, by omega, by omega, HV2⟩
                    case measure => simp [RowKit.intOf]; omega
                  · obtain rfl : p = m := by omega
                    have hv : V = nn := by rw [← HVV.out]; exact HVD.out.fin (by rw [HN.out]; have := HE.out; omega)
                    subst hv
                    go_wp2
                    rw [HRR.out]
                    exact ret_three3 (p := 4) (q := 5) (r := 6) (g := w.heap.size) (v := .int .i64 (p : Int)) (u := .bool true) (by rfl) (by rfl) (by rfl) (by rfl) (Blk.new _ _ _) (by rfl) ⟨rfl, (Below.refl _ _).alloc (Nat.le_refl _) _⟩
end Go.Proofs.YtjnfilbdokppiaaGreatDoor
