/-
  What is proved here: contracts of the functions of package stack and of its reference; conditions: as each says.
-/
import Derived.Test.YtefgehjkankigaaStk
import Derived.Lib.LazyBuf
namespace Go.Proofs.Ytefgehjkankigaa
open Go.RowKit

theorem al0 (w : World) (o : Obj) : Below w.heap.size w (w.alloc o) := (Below.refl _ w).alloc (Nat.le_refl _) o
theorem OV.lit (w : World) (B : Nat) (hB : B ≤ w.heap.size) : OV (w.alloc (.cells #[] 49)) B (.slice (some ⟨w.heap.size, 0, none⟩) 0 0) [] :=
  World.ownsRow_lit (e := 49) (size := 3) w #[] 0 hB (Nat.zero_le _) rfl
theorem run_eqnil (w : World) (a : Option Addr) (l c : Nat) : (binOp .eql 27 (.slice a l c) (.slice none 0 0)).run Try.prog w = .ok (.bool a.isNone) w := Go.run_eql_slice_nil (P := Try.prog) w _ 49 a l c Try.underlying27
theorem clone_any {v : Value} {xs : List V3} {w : World} (h : Rd w v xs) (hf : xs.length ≤ 65536) :
    Calls Try.prog 31 #[v] w fun e w' => ∃ u, e = .returned u ∧ OV w' w.heap.size u xs ∧ Below w.heap.size w w' := by
  obtain ⟨A, n, c, rfl, hr⟩ := h
  have hn := hr.1
  subst hn
  rcases A with _ | a
  · have hx : xs = [] := by
      cases xs with
      | nil => rfl
      | cons x xs => obtain ⟨b, off, he, _⟩ := hr.2.2.2 (by simp); cases he
    subst hx
    have he : ∀ W, (binOp .eql 27 (.slice none 0 c) (.slice none 0 0)).run Try.prog W = .ok (.bool true) W := fun W => run_eqnil W none 0 c
    clear hr
    go_enter Try.func31, Try.ntmps31
    go_wp2
    go_ret
    exact ⟨_, rfl, OV.nil _ _, Below.refl _ _⟩
  · have HR := Lib.hid (hr.below (al0 w (.cells #[] 49)))
    have HO := Lib.hid (OV.lit w w.heap.size (Nat.le_refl _))
    have HA := Lib.hid (al0 w (.cells #[] 49))
    have he : ∀ W, (binOp .eql 27 (.slice (some a) xs.length c) (.slice none 0 0)).run Try.prog W = .ok (.bool false) W := fun W => run_eqnil W (some a) xs.length c
    clear hr
    go_enter Try.func31, Try.ntmps31
    go_wp2_with (at_builtin; refine wpList_app (B := w.heap.size) (xs := []) (ys := xs) (v := .slice (some ⟨w.heap.size, 0, none⟩) 0 0) rfl (.tmp 5) (.tmp 6) rfl rfl rfl HO.out HR.out (by simp; omega) HA.out.size ?_; intro v1 w1 ho1 hg1 hl1; have HO1 := Lib.hid ho1; have HG1 := Lib.hid hg1; clear ho1 hg1 hl1)
    go_ret
    exact ⟨_, rfl, HO1.out, HA.out.grown HG1.out HA.out.size (fun k hk => (HO.out.bd k hk).1)⟩
section
variable {B p : Nat} {v : Value} {xs : List V3} {w : World}
theorem copyFrom_any (h : Sk B w p true v xs) (n : Nat) (hn : n ≤ xs.length) :
    Calls Try.prog 29 #[.pointer (some ⟨p, 1, none⟩), .int .i64 (n : Int)] w fun e w' => ∃ u, e = .returned u ∧ OV w' w.heap.size u (xs.drop n) ∧ Below w.heap.size w w' := by
  obtain ⟨A, c, rfl, hr⟩ := h.own.rs
  have c1 : w.cell? ⟨p, 1, none⟩ = some (.slice A xs.length c) := h.cell
  have hc := hr.2.1
  have hcm := hr.2.2.1
  unfold maxLen at hcm
  have HC : Hid (∀ u, Rd w u (xs.drop n) → Calls Try.prog 31 #[u] w fun e w' => ∃ u', e = .returned u' ∧ OV w' w.heap.size u' (xs.drop n) ∧ Below w.heap.size w w') :=
    Lib.hid fun u hu => clone_any hu (by rw [List.length_drop]; have := h.fit; omega)
  have HX : Hid (xs.length = n → ∀ A' c', c' ≤ maxLen → Rd w (.slice A' 0 c') (xs.drop n)) := Lib.hid fun e A' c' hc' => by
    rw [List.drop_of_length_le (by omega)]; exact (Rs.nil w A' c' hc').rd
  rcases A with _ | a
  · have hx : xs = [] := by
      cases xs with
      | nil => rfl
      | cons x xs => obtain ⟨b, off, he, _⟩ := hr.2.2.2 (by simp); cases he
    subst hx
    obtain rfl : n = 0 := by simpa using hn
    have hg := h.own.2
    obtain rfl : c = 0 := by
      rcases hg with ⟨he, _⟩ | ⟨g, cap, cur, he, _⟩
      · injection he
      · cases he
    clear hr h hg
    have HX0 := Lib.hid (HX.out rfl none 0 (by unfold maxLen; omega))
    simp only [List.length_nil] at c1
    go_enter Try.func29, Try.ntmps29
    go_wp2_with (go_at_call 31; refine (HC.out _ HX0.out).mono ?_; rintro e w1 ⟨u, rfl, ho, hb⟩; have HO := Lib.hid ho; have HB := Lib.hid hb; clear ho hb)
    go_ret
    exact ⟨_, rfl, HO.out, HB.out⟩
  · obtain ⟨g, rfl⟩ : ∃ g, a = ⟨g, 0, none⟩ := by
      rcases h.own.2 with ⟨he, _⟩ | ⟨g, cap, cur, he, _⟩
      · cases he
      · injection he with e1; injection e1 with e1; exact ⟨g, e1⟩
    have HR := Lib.hid hr
    clear h hr
    obtain ⟨l, hl⟩ : ∃ l, l = xs.length := ⟨_, rfl⟩
    have HL := Lib.hid hl
    rw [← hl] at c1 hc hn HR HX
    clear hl
    by_cases hcn : c = n
    · obtain rfl : l = n := by omega
      subst hcn
      have HX0 := Lib.hid fun A' => HX.out rfl A' 0 (Nat.zero_le _)
      go_enter Try.func29, Try.ntmps29
      go_wp2_with (go_at_call 31; refine (HC.out _ (by simpa using HX0.out _)).mono ?_; rintro e w1 ⟨u, rfl, ho, hb⟩; have HO := Lib.hid ho; have HB := Lib.hid hb; clear ho hb)
      go_ret
      exact ⟨_, rfl, HO.out, HB.out⟩
    · have hz1 : (l : Int) - (n : Int) = ((l - n : Nat) : Int) := by omega
      have HX0 : Hid (Rd w (.slice (some ⟨g, n * 3, none⟩) (l - n) (c - n)) (xs.drop n)) := Lib.hid (by
        have := HR.out.cut (lo := n) (m := l - n) (c' := c - n) (by omega) (by omega) (by unfold maxLen; omega)
        rw [Nat.zero_add] at this
        have e : (xs.drop n).take (l - n) = xs.drop n := List.take_of_length_le (by rw [List.length_drop]; have := HL.out; omega)
        rw [e] at this
        exact this.rd)
      go_enter Try.func29, Try.ntmps29
      go_wp2_with (go_at_call 31; refine (HC.out _ (by first | exact HX0.out | simpa using HX0.out)).mono ?_; rintro e w1 ⟨u, rfl, ho, hb⟩; have HO := Lib.hid ho; have HB := Lib.hid hb; clear ho hb)
      go_ret
      exact ⟨_, rfl, HO.out, HB.out⟩
theorem cutFrom_any (h : Sk B w p true v xs) (n : Nat) (hn : n ≤ xs.length) :
    Calls Try.prog 26 #[.pointer (some ⟨p, 1, none⟩), .int .i64 (n : Int)] w fun e w' =>
      ∃ v' u, e = .returned u ∧ Sk B w' p true v' (xs.take n) ∧ Ch w w' p v v' ∧ OV w' w.heap.size u (xs.drop n) ∧ v'.ownBlock = v.ownBlock := by
  obtain ⟨A, c, rfl, hr⟩ := h.own.rs
  have hc := hr.2.1
  have HS := Lib.hid h
  have HC := Lib.hid (copyFrom_any h n hn)
  have HN := Lib.hid hn
  obtain ⟨l, hl⟩ : ∃ l, l = xs.length := ⟨_, rfl⟩
  have HL := Lib.hid hl
  rw [← hl] at hc hn HS
  have hnc : n ≤ c := by omega
  clear hl h hr
  go_enter Try.func26, Try.ntmps26
  go_wp2_with (go_at_call 29; refine HC.out.mono ?_; rintro e w1 ⟨u, rfl, ho, hb⟩; have HO := Lib.hid ho; have HB := Lib.hid hb; have HS1 := Lib.hid (HS.out.below hb); have c1 : w1.cell? ⟨p, 1, none⟩ = some (.slice A l c) := HS1.out.cell; have f1 : w1.frozen? ⟨p, 1, none⟩ = false := HS1.out.box.frozen 1; clear ho hb)
  go_ret
  obtain ⟨g1, g2⟩ := Sk.cut (A := A) (c := c) (k := true) (by rw [← HL.out]; exact HS1.out) n HN.out
  rw [HL.out]
  have hu : u.ownBlock ≠ some p := by intro e; have := (HO.out.bd p e).1; have := HS.out.box.lt; omega
  refine ⟨_, u, rfl, g1, (Ch.below p _ HB.out).trans g2, HO.out.keep fun k hk hv => Below.heap_setCell _ _ _ _ (by rintro rfl; exact hu hv), by cases A <;> rfl⟩
theorem len_any (h : Sk B w p true v xs) : Calls Try.prog 21 #[.pointer (some ⟨p, 0, none⟩)] w fun e w' => e = .returned (.int .i64 (xs.length : Int)) ∧ w = w' := by
  have HE := Lib.hid (exists_any h)
  have HZ := Lib.hid (size_any h)
  clear h
  obtain ⟨n, hn⟩ : ∃ n, n = xs.length := ⟨_, rfl⟩
  rw [← hn] at HZ ⊢
  clear hn
  go_enter Try.func21, Try.ntmps21
  go_wp2_with (first
    | (go_at_call 24; (with_reducible refine HE.out.mono ?_); rintro e w1 ⟨rfl, rfl⟩)
    | (go_at_call 27; (with_reducible refine HZ.out.mono ?_); rintro e w1 ⟨rfl, rfl⟩))
  go_ret
  exact ⟨rfl, rfl⟩
theorem psh_in {xs ys : List V3} (h : xs.length + ys.length ≤ 65536) : psh xs ys = xs ++ ys ∧ pshE xs ys = 0 := by unfold psh pshE; rw [if_pos h, if_pos h]; exact ⟨rfl, rfl⟩
theorem psh_out {xs ys : List V3} (h : ¬ xs.length + ys.length ≤ 65536) : psh xs ys = xs ∧ pshE xs ys = 5 := by unfold psh pshE; rw [if_neg h, if_neg h]; exact ⟨rfl, rfl⟩
theorem push_any {ys : List V3} {u : Value} (h : Sk B w p true v xs) (hu : Rd w u ys) :
    Calls Try.prog 17 #[.pointer (some ⟨p, 0, none⟩), u] w (SP B w p true v (psh xs ys) (.int .i64 (pshE xs ys))) := by
  have HE := Lib.hid (exists_any h)
  have HZ := Lib.hid (size_any h)
  have HS := Lib.hid h
  have hfit := h.fit
  obtain ⟨A, m, c, rfl, hr⟩ := id hu
  obtain rfl := hr.1
  have hcm := hr.2.1
  have hcx := hr.2.2.1
  unfold maxLen at hcx
  by_cases hf : xs.length + ys.length ≤ 65536
  · rw [(psh_in hf).1, (psh_in hf).2]
    have HA := Lib.hid (add_any h hu hf)
    clear h hu hr
    obtain ⟨n, hn⟩ : ∃ n, n = xs.length := ⟨_, rfl⟩
    obtain ⟨l, hl⟩ : ∃ l, l = ys.length := ⟨_, rfl⟩
    rw [← hn] at HZ hf hfit
    rw [← hl] at hf HA
    rw [← hl]
    have hd : decide ((65536 : Int) - (n : Int) < (l : Int)) = false := by simp; omega
    clear hn hl hcm hcx
    go_enter Try.func17, Try.ntmps17
    go_wp2_with (first
      | (go_at_call 24; (with_reducible refine HE.out.mono ?_); rintro e w1 ⟨rfl, rfl⟩)
      | (go_at_call 27; (with_reducible refine HZ.out.mono ?_); rintro e w1 ⟨rfl, rfl⟩)
      | (go_at_call 30; (with_reducible refine HA.out.mono ?_); rintro e w2 ⟨v', rfl, hs, hch⟩; have HS2 := Lib.hid hs; have HC2 := Lib.hid hch; clear hs hch))
    go_ret
    exact ⟨_, rfl, HS2.out, HC2.out⟩
  · rw [(psh_out hf).1, (psh_out hf).2]
    clear h hu hr
    obtain ⟨n, hn⟩ : ∃ n, n = xs.length := ⟨_, rfl⟩
    obtain ⟨l, hl⟩ : ∃ l, l = ys.length := ⟨_, rfl⟩
    rw [← hn] at HZ hf hfit
    rw [← hl] at hf
    rw [← hl]
    have hd : decide ((65536 : Int) - (n : Int) < (l : Int)) = true := by simp; omega
    clear hn hl hcm hcx
    go_enter Try.func17, Try.ntmps17
    go_wp2_with (first
      | (go_at_call 24; (with_reducible refine HE.out.mono ?_); rintro e w1 ⟨rfl, rfl⟩)
      | (go_at_call 27; (with_reducible refine HZ.out.mono ?_); rintro e w1 ⟨rfl, rfl⟩))
    go_ret
    exact ⟨_, rfl, HS.out, Ch.refl _ _ _⟩
theorem rng_in {n : Int} {xs : List V3} (h : inR n xs) : popL n xs = xs.drop (xs.length - n.toNat) ∧ popS n xs = xs.take (xs.length - n.toNat) ∧ frmL n xs = xs.drop n.toNat ∧ rngE n xs = 0 := by
  unfold popL popS frmL rngE; exact ⟨if_pos h, if_pos h, if_pos h, if_pos h⟩
theorem rng_out {n : Int} {xs : List V3} (h : ¬ inR n xs) : popL n xs = [] ∧ popS n xs = xs ∧ frmL n xs = [] ∧ rngE n xs = 140 := by
  unfold popL popS frmL rngE; exact ⟨if_neg h, if_neg h, if_neg h, if_neg h⟩
theorem from_any (h : Sk B w p true v xs) (n : Int) :
    Calls Try.prog 14 #[.pointer (some ⟨p, 0, none⟩), .int .i64 n] w (fun e w' => ∃ u, e = .returned (.tuple #[u, .int .i64 (rngE n xs)]) ∧ OV w' w.heap.size u (frmL n xs) ∧ Below w.heap.size w w') := by
  have HE := Lib.hid (exists_any h)
  have HR := Lib.hid (reaches_any h n)
  by_cases hi : inR n xs
  · obtain ⟨_, _, e3, e4⟩ := rng_in hi
    rw [e3, e4]
    obtain ⟨k, rfl⟩ := Int.eq_ofNat_of_zero_le hi.1
    rw [decide_eq_true hi] at HR
    have HC := Lib.hid (copyFrom_any h k (by have := hi.2; omega))
    rw [Int.toNat_natCast]
    clear h e3 e4 hi
    go_enter Try.func14, Try.ntmps14
    go_wp2_with (first
      | (go_at_call 24; (with_reducible refine HE.out.mono ?_); rintro e w1 ⟨rfl, rfl⟩)
      | (go_at_call 25; (with_reducible refine HR.out.mono ?_); rintro e w1 ⟨rfl, rfl⟩)
      | (go_at_call 29; (with_reducible refine HC.out.mono ?_); rintro e w2 ⟨u, rfl, ho, hb⟩; have HO := Lib.hid ho; have HB := Lib.hid hb; clear ho hb))
    go_ret2
    exact ⟨_, rfl, HO.out, HB.out⟩
  · obtain ⟨_, _, e3, e4⟩ := rng_out hi
    rw [e3, e4]
    rw [decide_eq_false hi] at HR
    clear h e3 e4 hi
    go_enter Try.func14, Try.ntmps14
    go_wp2_with (first
      | (go_at_call 24; (with_reducible refine HE.out.mono ?_); rintro e w1 ⟨rfl, rfl⟩)
      | (go_at_call 25; (with_reducible refine HR.out.mono ?_); rintro e w1 ⟨rfl, rfl⟩))
    go_ret2
    exact ⟨_, rfl, OV.nil _ _, Below.refl _ _⟩
theorem pop_any (h : Sk B w p true v xs) (n : Int) :
    Calls Try.prog 12 #[.pointer (some ⟨p, 0, none⟩), .int .i64 n] w (SO B w p true v (popS n xs) (popL n xs) (rngE n xs)) := by
  have HE := Lib.hid (exists_any h)
  have HR := Lib.hid (reaches_any h n)
  by_cases hi : inR n xs
  · obtain ⟨e1, e2, _, e4⟩ := rng_in hi
    unfold SO
    rw [e1, e2, e4]
    obtain ⟨k, rfl⟩ := Int.eq_ofNat_of_zero_le hi.1
    rw [decide_eq_true hi] at HR
    have hk : k ≤ xs.length := by have := hi.2; omega
    rw [Int.toNat_natCast]
    have hfit := h.fit
    have hs : IntKind.i64.wrap ((xs.length : Int) - (k : Int)) = ((xs.length - k : Nat) : Int) := by
      rw [IntWalk.i64_in _ ⟨by omega, by omega⟩]; omega
    have HZ := Lib.hid ((size_any (h.below (w' := w.drew) ⟨rfl, rfl, rfl, Nat.le_refl _, fun _ _ => rfl⟩)).mono fun e w' (hh : e = .returned (.int .i64 (xs.length : Int)) ∧ w.drew = w') => (⟨hh.1, hh.2.symm⟩ : _ ∧ w' = w.drew))
    have HC := Lib.hid fun W (hW : W = w.drew) => (cutFrom_any (h.below (w' := W) (by subst hW; exact ⟨rfl, rfl, rfl, Nat.le_refl _, fun _ _ => rfl⟩)) (xs.length - k) (by omega))
    clear h e1 e2 e4 hi
    obtain ⟨l, hl⟩ : ∃ l, l = xs.length := ⟨_, rfl⟩
    obtain ⟨m, hm⟩ : ∃ m, m = xs.length - k := ⟨_, rfl⟩
    rw [← hm, ← hl] at hs
    rw [← hl] at HZ
    rw [← hm] at HC
    rw [← hm]
    clear hl hm hk hfit
    go_enter Try.func12, Try.ntmps12
    go_wp2_with (first
      | (go_at_call 24; (with_reducible refine HE.out.mono ?_); rintro e w1 ⟨rfl, rfl⟩)
      | (go_at_call 25; (with_reducible refine HR.out.mono ?_); rintro e w1 ⟨rfl, rfl⟩))
    go_still_tail 9, (by kernel_rfl)
    still_call HZ.out
    still_step
    still_step
    try rw [hs]
    refine wpStill_nil ?_
    change wpList _ _ _ _ _ w.drew
    go_wp2_with (go_at_call 26; (with_reducible refine (HC.out _ rfl).mono ?_); rintro e w2 ⟨v', u, rfl, hs2, hch, ho, hob⟩; have HS2 := Lib.hid hs2; have HCH := Lib.hid hch; have HO := Lib.hid ho; have HOB := Lib.hid hob; clear hs2 hch ho hob)
    go_ret2
    exact ⟨_, _, rfl, HS2.out, (show Ch w w.drew p v v from ⟨rfl, rfl, rfl, Nat.le_refl _, fun _ _ _ _ => rfl, fun _ h => .inl h⟩).trans HCH.out, HO.out, HOB.out⟩
  · obtain ⟨e1, e2, _, e4⟩ := rng_out hi
    unfold SO
    rw [e1, e2, e4]
    rw [decide_eq_false hi] at HR
    have HS := Lib.hid h
    clear h e1 e2 e4 hi
    go_enter Try.func12, Try.ntmps12
    go_wp2_with (first
      | (go_at_call 24; (with_reducible refine HE.out.mono ?_); rintro e w1 ⟨rfl, rfl⟩)
      | (go_at_call 25; (with_reducible refine HR.out.mono ?_); rintro e w1 ⟨rfl, rfl⟩))
    go_ret2
    exact ⟨_, _, rfl, HS.out, Ch.refl _ _ _, OV.nil _ _, rfl⟩
end
end Go.Proofs.Ytefgehjkankigaa
