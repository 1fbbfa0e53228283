/-
  What is proved here: contracts of the functions of the reference of layer 14, and of the law's few, wreck and are; conditions: as each says.
-/
import Derived.Test.YtefgehjkankigaaOps
namespace Go.Proofs.Ytefgehjkankigaa
open Go.RowKit

theorem rNew_any (w : World) : Calls Try.prog 10 #[] w fun e w' => e = .returned (.pointer (some ⟨w.heap.size, 0, none⟩)) ∧ w' = w.alloc (.cells (bc false (.slice none 0 0)) (ty false)) := by
  go_enter Try.func10, Try.ntmps10
  go_wp2
  go_ret
  exact ⟨rfl, rfl⟩
theorem copied_any {v : Value} {xs : List V3} {w : World} (h : Rd w v xs) (hf : xs.length ≤ 65536) :
    Calls Try.prog 28 #[v] w fun e w' => ∃ u, e = .returned u ∧ OV w' w.heap.size u xs ∧ Below w.heap.size w w' := by
  obtain ⟨A, n, c, rfl, hr⟩ := h
  have hn := hr.1
  subst hn
  have HR := Lib.hid hr
  clear hr
  go_enter Try.func28, Try.ntmps28
  go_wp2_with (at_builtin; refine wpList_app (B := w.heap.size) (xs := []) (ys := xs) (v := .slice none 0 0) rfl (.tmp 4) (.tmp 5) rfl rfl rfl (OV.nil _ _) HR.out (by simp; omega) (Nat.le_refl _) ?_; intro v1 w1 ho1 hg1 hl1; have HO1 := Lib.hid ho1; have HG1 := Lib.hid hg1; clear ho1 hg1 hl1)
  go_ret
  exact ⟨_, rfl, HO1.out, (Below.refl _ _).grown HG1.out (Nat.le_refl _) (fun k hk => by simp [Value.ownBlock] at hk)⟩
/-- x[n:] of an own row's slice, in the three shapes that a walk gives it. -/
theorem OV.from {w : World} {B : Nat} {v : Value} {xs : List V3} (h : OV w B v xs) (n : Nat) (hn : n ≤ xs.length) :
    ∃ A c, v = .slice A xs.length c ∧ xs.length ≤ c ∧ c ≤ 9223372036854775807 ∧ ((A = none ∧ xs = [] ∧ c = 0 ∧ n = 0) ∨ (∃ g, A = some ⟨g, 0, none⟩ ∧ ((c = n ∧ xs.length = n) ∨ (c ≠ n ∧ Rd w (.slice (some ⟨g, n * 3, none⟩) (xs.length - n) (c - n)) (xs.drop n))))) := by
  obtain ⟨A, c, rfl, hr⟩ := h.rs
  have hc := hr.2.1
  have hcm := hr.2.2.1
  unfold maxLen at hcm
  refine ⟨A, c, rfl, hc, hcm, ?_⟩
  rcases h.2 with ⟨he, h0⟩ | ⟨g, cap, cur, he, _⟩
  · injection he with e1 e2 e3
    subst e1; subst e3
    have hx : xs = [] := List.eq_nil_of_length_eq_zero h0
    subst hx
    exact .inl ⟨rfl, rfl, rfl, by simpa using hn⟩
  · injection he with e1 e2 e3
    subst e1; subst e3
    refine .inr ⟨g, rfl, ?_⟩
    by_cases hcn : c = n
    · exact .inl ⟨hcn, by omega⟩
    · have := hr.cut (lo := n) (m := xs.length - n) (c' := c - n) (by omega) (by omega) (by unfold maxLen; omega)
      rw [Nat.zero_add] at this
      have e : (xs.drop n).take (xs.length - n) = xs.drop n := List.take_of_length_le (by rw [List.length_drop]; omega)
      rw [e] at this
      exact .inr ⟨hcn, this.rd⟩
section
variable {B p : Nat} {v : Value} {xs : List V3} {w : World}
theorem rPush_any {ys : List V3} {u : Value} (h : Sk B w p false v xs) (hu : Rd w u ys) (hy : ys.length ≤ 100000) :
    Calls Try.prog 18 #[.pointer (some ⟨p, 0, none⟩), u] w (SP B w p false v (psh xs ys) (.int .i64 (pshE xs ys))) := by
  have HS := Lib.hid h
  have hfit := h.fit
  obtain ⟨A, m, c, rfl, hr⟩ := id hu
  obtain rfl := hr.1
  have hcx := Nat.le_trans hr.2.1 hr.2.2.1
  unfold maxLen at hcx
  obtain ⟨A0, c0, rfl, _⟩ := h.own.rs
  have q0 : w.cell? ⟨p, 0, none⟩ = some (.slice A0 xs.length c0) := h.cell
  have f0 : w.frozen? ⟨p, 0, none⟩ = false := h.box.frozen 0
  by_cases hf : xs.length + ys.length ≤ 65536
  · rw [(psh_in hf).1, (psh_in hf).2]
    have HR := Lib.hid hr
    have HBX := Lib.hid h.box
    have HNE := Lib.hid (h.box.ne_row h.own (ty_ne false))
    clear h hu hr
    obtain ⟨n, hn⟩ : ∃ n, n = xs.length := ⟨_, rfl⟩
    obtain ⟨l, hl⟩ : ∃ l, l = ys.length := ⟨_, rfl⟩
    have HF := Lib.hid hf
    have HNL := Lib.hid (show n + l ≤ 4000000 by omega)
    have HN := Lib.hid hn
    rw [← hl] at HR ⊢
    rw [← hn] at q0 HS HBX HNE
    rw [← hn, ← hl] at hf
    rw [← hn]
    have hd : decide ((65536 : Int) < (n : Int) + (l : Int)) = false := by simp; omega
    clear hn hl hcx hfit
    go_enter Try.func18, Try.ntmps18
    go_wp2_with (at_builtin; refine wpList_app (B := B) (xs := xs) (ys := ys) (v := .slice A0 n c0) rfl (.tmp 18) (.tmp 19) rfl rfl rfl HS.out.own HR.out (by rw [← HN.out]; exact HNL.out) HS.out.base ?_; intro v1 w1 ho1 hg1 hl1; have HO1 := Lib.hid ho1; have HG1 := Lib.hid hg1; have HL1 := Lib.hid hl1; have hbx1 := HBX.out.same (hg1.block p HBX.out.lt (fun e => HNE.out e.symm)); have c2 : w1.cell? ⟨p, 0, none⟩ = some (.slice A0 n c0) := hbx1.cell 0; have f2 : w1.frozen? ⟨p, 0, none⟩ = false := hbx1.frozen 0; clear hbx1; obtain ⟨A1, n1, e1, rfl, hr1⟩ := ho1.rd; clear ho1 hg1 hl1 hr1)
    go_ret
    obtain ⟨g1, g2⟩ := HS.out.add HO1.out HG1.out HL1.out (by rw [List.length_append]; exact HF.out)
    exact ⟨_, rfl, g1, g2⟩
  · rw [(psh_out hf).1, (psh_out hf).2]
    clear h hu hr
    obtain ⟨n, hn⟩ : ∃ n, n = xs.length := ⟨_, rfl⟩
    obtain ⟨l, hl⟩ : ∃ l, l = ys.length := ⟨_, rfl⟩
    have HN := Lib.hid hn
    rw [← hl] at hcx ⊢
    rw [← hn] at q0 HS hfit
    rw [← hn, ← hl] at hf
    rw [← hn]
    have hd : decide ((65536 : Int) < (n : Int) + (l : Int)) = true := by simp; omega
    rw [← hl] at hy
    clear hn hl hcx
    go_enter Try.func18, Try.ntmps18
    go_wp2
    go_ret
    exact ⟨_, rfl, HS.out, Ch.refl _ _ _⟩
theorem rFrom_any (h : Sk B w p false v xs) (n : Int) :
    Calls Try.prog 15 #[.pointer (some ⟨p, 0, none⟩), .int .i64 n] w (fun e w' => ∃ u, e = .returned (.tuple #[u, .int .i64 (rngE n xs)]) ∧ OV w' w.heap.size u (frmL n xs) ∧ Below w.heap.size w w') := by
  by_cases hi : inR n xs
  · obtain ⟨_, _, e3, e4⟩ := rng_in hi
    rw [e3, e4]
    obtain ⟨k, rfl⟩ := Int.eq_ofNat_of_zero_le hi.1
    rw [Int.toNat_natCast]
    have hk : k ≤ xs.length := by have := hi.2; omega
    have hfit := h.fit
    obtain ⟨A, c, rfl, hc, hcm, hcase⟩ := h.own.from k hk
    have q0 : w.cell? ⟨p, 0, none⟩ = some (.slice A xs.length c) := h.cell
    have HC : Hid (∀ u, Rd w u (xs.drop k) → Calls Try.prog 28 #[u] w fun e w' => ∃ u', e = .returned u' ∧ OV w' w.heap.size u' (xs.drop k) ∧ Below w.heap.size w w') :=
      Lib.hid fun u hu => copied_any hu (by rw [List.length_drop]; omega)
    have HX : Hid (xs.length = k → ∀ A' c', c' ≤ 9223372036854775807 → Rd w (.slice A' 0 c') (xs.drop k)) := Lib.hid fun e A' c' hc' => by
      rw [List.drop_of_length_le (by omega)]; exact (Rs.nil w A' c' hc').rd
    obtain ⟨l, hl⟩ : ∃ l, l = xs.length := ⟨_, rfl⟩
    have HL := Lib.hid hl
    rw [← hl] at q0 hc hk hfit hcase HX
    clear h e3 e4 hi hl
    rcases hcase with ⟨rfl, -, rfl, rfl⟩ | ⟨g, rfl, ⟨rfl, rfl⟩ | ⟨hcn, hrd⟩⟩
    · obtain rfl : l = 0 := by omega
      go_enter Try.func15, Try.ntmps15
      go_wp2_with (go_at_call 28; (with_reducible refine (HC.out _ (HX.out rfl _ _ (by omega))).mono ?_); rintro e w2 ⟨u, rfl, ho, hb⟩; have HO := Lib.hid ho; have HB := Lib.hid hb; clear ho hb)
      go_ret2
      exact ⟨_, rfl, HO.out, HB.out⟩
    · have HX0 := Lib.hid fun A' => HX.out rfl A' 0 (Nat.zero_le _)
      go_enter Try.func15, Try.ntmps15
      go_wp2_with (go_at_call 28; refine (HC.out _ (by simpa using HX0.out _)).mono ?_; rintro e w2 ⟨u, rfl, ho, hb⟩; have HO := Lib.hid ho; have HB := Lib.hid hb; clear ho hb)
      go_ret2
      exact ⟨_, rfl, HO.out, HB.out⟩
    · have HX0 := Lib.hid hrd
      clear hrd
      go_enter Try.func15, Try.ntmps15
      go_wp2_with (go_at_call 28; refine (HC.out _ (by first | exact HX0.out | simpa using HX0.out)).mono ?_; rintro e w2 ⟨u, rfl, ho, hb⟩; have HO := Lib.hid ho; have HB := Lib.hid hb; clear ho hb)
      go_ret2
      exact ⟨_, rfl, HO.out, HB.out⟩
  · obtain ⟨_, _, e3, e4⟩ := rng_out hi
    rw [e3, e4]
    obtain ⟨A, c, rfl, hr⟩ := h.own.rs
    have q0 : w.cell? ⟨p, 0, none⟩ = some (.slice A xs.length c) := h.cell
    have hn : n < 0 ∨ (xs.length : Int) < n := by unfold inR at hi; omega
    obtain ⟨l, hl⟩ : ∃ l, l = xs.length := ⟨_, rfl⟩
    rw [← hl] at q0 hn
    clear h e3 e4 hi hl hr
    by_cases h0 : n < 0
    · clear hn
      go_enter Try.func15, Try.ntmps15
      go_wp2
      go_ret2
      exact ⟨_, rfl, OV.nil _ _, Below.refl _ _⟩
    · have h1 : (l : Int) < n := by omega
      clear hn
      go_enter Try.func15, Try.ntmps15
      go_wp2
      go_ret2
      exact ⟨_, rfl, OV.nil _ _, Below.refl _ _⟩
theorem pop_end {k : Bool} {A : Option Addr} {l c m : Nat} {w2 : World} {u : Value} {ys : List V3} (h : Sk B w p k (.slice A l c) xs) (hl : l = xs.length) (hb : Below w.heap.size w w2) (ho : OV w2 w.heap.size u ys) (hm : m ≤ xs.length) :
    Sk B (w2.setCell ⟨p, fi k, none⟩ (.slice A m c)) p k (.slice A m c) (xs.take m) ∧ Ch w (w2.setCell ⟨p, fi k, none⟩ (.slice A m c)) p (.slice A xs.length c) (.slice A m c) ∧
      OV (w2.setCell ⟨p, fi k, none⟩ (.slice A m c)) w.heap.size u ys ∧ (Value.slice A m c).ownBlock = (Value.slice A xs.length c).ownBlock := by
  subst hl
  obtain ⟨g1, g2⟩ := (h.below hb).cut m hm
  have hu : u.ownBlock ≠ some p := by intro e; have := (ho.bd p e).1; have := h.box.lt; omega
  exact ⟨g1, (Ch.below p _ hb).trans g2, ho.keep fun k hk hv => Below.heap_setCell _ _ _ _ (by rintro rfl; exact hu hv), by cases A <;> rfl⟩
theorem rPop_any (h : Sk B w p false v xs) (n : Int) :
    Calls Try.prog 13 #[.pointer (some ⟨p, 0, none⟩), .int .i64 n] w (SO B w p false v (popS n xs) (popL n xs) (rngE n xs)) := by
  by_cases hi : inR n xs
  · obtain ⟨e1, e2, _, e4⟩ := rng_in hi
    unfold SO
    rw [e1, e2, e4]
    obtain ⟨k, rfl⟩ := Int.eq_ofNat_of_zero_le hi.1
    rw [Int.toNat_natCast]
    have hfit := h.fit
    have hk : k ≤ xs.length := by have := hi.2; omega
    obtain ⟨m, hm⟩ : ∃ m, m = xs.length - k := ⟨_, rfl⟩
    have hs : (xs.length : Int) - (k : Int) = (m : Int) := by omega
    have hml : m ≤ xs.length := by omega
    rw [← hm]
    obtain ⟨A, c, rfl, hc, hcm, hcase⟩ := h.own.from m hml
    have q0 : w.cell? ⟨p, 0, none⟩ = some (.slice A xs.length c) := h.cell
    have HS := Lib.hid h
    have HC : Hid (∀ u, Rd w u (xs.drop m) → Calls Try.prog 28 #[u] w fun e w' => ∃ u', e = .returned u' ∧ OV w' w.heap.size u' (xs.drop m) ∧ Below w.heap.size w w') :=
      Lib.hid fun u hu => copied_any hu (by rw [List.length_drop]; omega)
    have HX : Hid (xs.length = m → ∀ A' c', c' ≤ 9223372036854775807 → Rd w (.slice A' 0 c') (xs.drop m)) := Lib.hid fun e A' c' hc' => by
      rw [List.drop_of_length_le (by omega)]; exact (Rs.nil w A' c' hc').rd
    have HML := Lib.hid hml
    obtain ⟨l, hl⟩ : ∃ l, l = xs.length := ⟨_, rfl⟩
    have HL := Lib.hid hl
    rw [← hl] at q0 hc hk hfit hcase HX hs hml HS
    have hws : IntKind.i64.wrap ((l : Int) - (k : Int)) = (m : Int) := by rw [hs]; exact IntWalk.i64_in _ ⟨by omega, by omega⟩
    have hmc : m ≤ c := by omega
    clear h e1 e2 e4 hi hl hm
    rcases hcase with ⟨rfl, -, rfl, rfl⟩ | ⟨g, rfl, ⟨rfl, hlm⟩ | ⟨hcn, hrd⟩⟩
    · obtain rfl : l = 0 := by omega
      obtain rfl : k = 0 := by omega
      go_enter Try.func13, Try.ntmps13
      go_wp2_with (go_at_call 28; (with_reducible refine (HC.out _ (HX.out rfl _ _ (by omega))).mono ?_); rintro e w2 ⟨u, rfl, ho, hb⟩; have HO := Lib.hid ho; have HB := Lib.hid hb; have HS1 := Lib.hid (HS.out.below hb); have c1 : w2.cell? ⟨p, 0, none⟩ = some (.slice none 0 0) := HS1.out.cell; have f1 : w2.frozen? ⟨p, 0, none⟩ = false := HS1.out.box.frozen 0; clear ho hb)
      go_ret2
      exact ⟨_, _, rfl, pop_end (k := false) HS.out HL.out HB.out HO.out HML.out |>.1, (pop_end (k := false) HS.out HL.out HB.out HO.out HML.out).2.1, (pop_end (k := false) HS.out HL.out HB.out HO.out HML.out).2.2.1, (pop_end (k := false) HS.out HL.out HB.out HO.out HML.out).2.2.2⟩
    · obtain rfl : k = 0 := by omega
      have HX0 := Lib.hid fun A' => HX.out hlm A' 0 (Nat.zero_le _)
      subst hlm
      go_enter Try.func13, Try.ntmps13
      go_wp2_with (go_at_call 28; (refine (HC.out _ (by simpa using HX0.out _)).mono ?_); rintro e w2 ⟨u, rfl, ho, hb⟩; have HO := Lib.hid ho; have HB := Lib.hid hb; have HS1 := Lib.hid (HS.out.below hb); have c1 : w2.cell? ⟨p, 0, none⟩ = some (.slice (some ⟨g, 0, none⟩) l l) := HS1.out.cell; have f1 : w2.frozen? ⟨p, 0, none⟩ = false := HS1.out.box.frozen 0; clear ho hb)
      go_ret2
      exact ⟨_, _, rfl, pop_end (k := false) HS.out HL.out HB.out HO.out HML.out |>.1, (pop_end (k := false) HS.out HL.out HB.out HO.out HML.out).2.1, (pop_end (k := false) HS.out HL.out HB.out HO.out HML.out).2.2.1, (pop_end (k := false) HS.out HL.out HB.out HO.out HML.out).2.2.2⟩
    · have HX0 := Lib.hid hrd
      clear hrd
      go_enter Try.func13, Try.ntmps13
      go_wp2_with (go_at_call 28; (refine (HC.out _ (by first | exact HX0.out | simpa using HX0.out)).mono ?_); rintro e w2 ⟨u, rfl, ho, hb⟩; have HO := Lib.hid ho; have HB := Lib.hid hb; have HS1 := Lib.hid (HS.out.below hb); have c1 : w2.cell? ⟨p, 0, none⟩ = some (.slice (some ⟨g, 0, none⟩) l c) := HS1.out.cell; have f1 : w2.frozen? ⟨p, 0, none⟩ = false := HS1.out.box.frozen 0; clear ho hb)
      go_ret2
      exact ⟨_, _, rfl, pop_end (k := false) HS.out HL.out HB.out HO.out HML.out |>.1, (pop_end (k := false) HS.out HL.out HB.out HO.out HML.out).2.1, (pop_end (k := false) HS.out HL.out HB.out HO.out HML.out).2.2.1, (pop_end (k := false) HS.out HL.out HB.out HO.out HML.out).2.2.2⟩
  · obtain ⟨e1, e2, _, e4⟩ := rng_out hi
    unfold SO
    rw [e1, e2, e4]
    obtain ⟨A, c, rfl, hr⟩ := h.own.rs
    have q0 : w.cell? ⟨p, 0, none⟩ = some (.slice A xs.length c) := h.cell
    have hn : n < 0 ∨ (xs.length : Int) < n := by unfold inR at hi; omega
    have HS := Lib.hid h
    obtain ⟨l, hl⟩ : ∃ l, l = xs.length := ⟨_, rfl⟩
    have HL := Lib.hid hl
    rw [← hl] at q0 hn HS
    clear h e1 e2 e4 hi hl hr
    by_cases h0 : n < 0
    · clear hn
      go_enter Try.func13, Try.ntmps13
      go_wp2
      go_ret2
      exact ⟨_, _, rfl, HS.out, by rw [HL.out]; exact Ch.refl _ _ _, OV.nil _ _, by rw [HL.out]⟩
    · have h1 : (l : Int) < n := by omega
      clear hn
      go_enter Try.func13, Try.ntmps13
      go_wp2
      go_ret2
      exact ⟨_, _, rfl, HS.out, by rw [HL.out]; exact Ch.refl _ _ _, OV.nil _ _, by rw [HL.out]⟩
end

/-- few. -/
theorem few_any {v : Value} {xs : List V3} {w : World} (h : Rd w v xs) :
    Calls Try.prog 16 #[v] w fun e w' => ∃ u, e = .returned u ∧ OV w' w.heap.size u (xs.take 30) ∧ Below w.heap.size w w' := by
  obtain ⟨A, n, c, rfl, hr⟩ := h
  have hn := hr.1
  subst hn
  have hc := hr.2.1
  have hcm := hr.2.2.1
  unfold maxLen at hcm
  by_cases hl : xs.length ≤ 30
  · have HR := Lib.hid (show Rs w A xs.length c (xs.take 30) by rw [List.take_of_length_le hl]; exact hr)
    have hmin : ¬ (30 : Int) < (xs.length : Int) := by omega
    have HL := Lib.hid hl
    obtain ⟨l, hl⟩ : ∃ l, l = xs.length := ⟨_, rfl⟩
    rw [← hl] at HR hmin HL hc ⊢
    have hmin2 : min (l : Int) 30 = (l : Int) := by omega
    clear hr hl
    go_enter Try.func16, Try.ntmps16
    go_wp2_with (at_builtin; refine wpList_app (B := w.heap.size) (xs := []) (ys := xs.take 30) (v := .slice none 0 0) rfl (.tmp 4) (.tmp 9) rfl rfl rfl (OV.nil _ _) HR.out (by have := HL.out; simp; omega) (Nat.le_refl _) ?_; intro v1 w1 ho1 hg1 hl1; have HO1 := Lib.hid ho1; have HG1 := Lib.hid hg1; clear ho1 hg1 hl1)
    go_ret
    exact ⟨_, rfl, HO1.out, (Below.refl _ _).grown HG1.out (Nat.le_refl _) (fun k hk => by simp [Value.ownBlock] at hk)⟩
  · have HR := Lib.hid (hr.pre (m := 30) (by omega))
    have hmin : (30 : Int) < (xs.length : Int) := by omega
    obtain ⟨l, hl⟩ : ∃ l, l = xs.length := ⟨_, rfl⟩
    rw [← hl] at hmin hc ⊢
    have hc30 : 30 ≤ c := by omega
    have hmin2 : min (l : Int) 30 = 30 := by omega
    clear hr hl
    go_enter Try.func16, Try.ntmps16
    go_wp2_with (at_builtin; refine wpList_app (B := w.heap.size) (xs := []) (ys := xs.take 30) (v := .slice none 0 0) rfl (.tmp 4) (.tmp 9) rfl rfl rfl (OV.nil _ _) HR.out (by simp) (Nat.le_refl _) ?_; intro v1 w1 ho1 hg1 hl1; have HO1 := Lib.hid ho1; have HG1 := Lib.hid hg1; clear ho1 hg1 hl1)
    go_ret
    exact ⟨_, rfl, HO1.out, (Below.refl _ _).grown HG1.out (Nat.le_refl _) (fun k hk => by simp [Value.ownBlock] at hk)⟩
end Go.Proofs.Ytefgehjkankigaa
