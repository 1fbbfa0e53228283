/-
  What is proved here: contracts of the reference's put, Align, Num, Text, Cut and Bytes; conditions: as each says.
-/
import Derived.Test.YtkcmpakcahemcaaRef
namespace Go.Proofs.Ytkcmpakcahemcaa
open Go.RowKit Le

section
variable {B p m : Nat} {v : Value} {xs : List UInt8} {er : Int} {w : World}
theorem failS_0 (xs : List UInt8) (e' : Int) : failS (xs, 0) e' = (xs, e') := if_pos rfl
theorem failS_err {xs : List UInt8} {er e' : Int} (h : er ≠ 0) : failS (xs, er) e' = (xs, er) := if_neg h

set_option maxRecDepth 20000 in
theorem rPut_any (h : Rf B w p m v xs er) {A : Option Addr} {n c : Nat} {ys : List UInt8} (hy : Rds w A n c ys) :
    Calls Try.prog 50 #[.pointer (some ⟨p, 0, none⟩), .slice A n c] w (RP B w p m v (addS m (xs, er) ys)) := by
  obtain ⟨A1, c1, rfl, hr⟩ := h.slice
  have k0 : w.cell? ⟨p, 0, none⟩ = some (.slice A1 xs.length c1) := h.box.cell 0
  have k1 : w.cell? ⟨p, 1, none⟩ = some (.int .i64 (m : Int)) := h.box.cell 1
  have k2 : w.cell? ⟨p, 2, none⟩ = some (.int .i64 er) := h.box.cell 2
  have f0 : w.frozen? ⟨p, 0, none⟩ = false := h.box.frozen 0
  have hfit := h.fit
  have hcap := h.cap
  have hyn := hy.1
  obtain ⟨l, hl⟩ : ∃ l, l = xs.length := ⟨_, rfl⟩
  have HL := Lib.hid hl
  have HYN := Lib.hid hyn
  have HBF := Lib.hid h
  have HY := Lib.hid hy
  rw [← hl] at k0 hfit
  have hw : IntKind.i64.wrap ((m : Int) - (l : Int)) = (m : Int) - (l : Int) := IntWalk.i64_in _ ⟨by omega, by omega⟩
  by_cases hin : l + n ≤ m
  · have d1 : decide ((m : Int) - (l : Int) < (n : Int)) = false := by simp; omega
    by_cases he : er = 0
    · subst he
      have hx : xs.length + ys.length ≤ m := by omega
      have e1 : addS m (xs, 0) ys = (xs ++ ys, 0) := by unfold addS; rw [if_pos rfl, (ad_in hx).1, (ad_in hx).2]
      rw [e1]
      have HX : Hid ((xs ++ ys).length ≤ m) := Lib.hid (by rw [List.length_append]; exact hx)
      have HN : Hid (l + n ≤ 4000000) := Lib.hid (by omega)
      have HLS : Hid ((xs ++ ys).length = l + n) := Lib.hid (by rw [List.length_append, ← hl, hyn])
      have HOW : Hid (∀ q, (w.drewN q).ownsRow B 5 1 (.slice A1 l c1) l (bv xs)) := Lib.hid fun q => by have := (h.drewN q).own; rw [← hl] at this; exact this
      have HYQ : Hid (∀ q, Rds (w.drewN q) A n c ys) := Lib.hid fun q => hy
      have HBS : Hid (∀ q, B ≤ (w.drewN q).heap.size) := Lib.hid fun q => h.base
      have HRF : Hid (Rf B w p m (.slice A1 l c1) xs 0) := Lib.hid (by rw [hl]; exact h)
      rw [← hl]
      clear h hr hy e1 hin hx hl hyn hfit hcap HBF HY
      go_enter Try.func50, Try.ntmps50
      go_wp2
      go_quiet (fail)
      go_wp2_with (at_builtin; refine wpList_apB (v := .slice A1 l c1) (n := l) rfl (.tmp 28) (.tmp 29) rfl rfl rfl (HOW.out _) (HYQ.out _) HN.out (HBS.out _) ?_; intro v1 w1 ho1 hg1 hp1; obtain ⟨A2, n2, d2, rfl, _⟩ := Rd.of_own ho1; have hne := (HRF.out.drewN nq).box.ne_row (HRF.out.drewN nq).own (by decide); have c3 : w1.cell? ⟨p, 0, none⟩ = some (.slice A1 l c1) := (World.cell?_of_block (hg1.block p HRF.out.box.lt (fun he => hne he.symm))).trans k0; have f3 : w1.frozen? ⟨p, 0, none⟩ = false := (World.frozen?_of_block (hg1.block p HRF.out.box.lt (fun he => hne he.symm))).trans f0; have HO1 := Lib.hid ho1; have HG1 := Lib.hid hg1; have HP1 := Lib.hid hp1; clear ho1 hg1 hp1 hne)
      go_end0
      have hap := (HRF.out.drewN nq).app HG1.out (by rw [HLS.out]; exact HO1.out) HP1.out HX.out
      exact ⟨_, rfl, hap.1, (Ch.drewN _ _ _ _).trans hap.2⟩
    · have e1 : addS m (xs, er) ys = (xs, er) := addS_err he
      rw [e1]
      have d0 : (er == 0) = false := by simpa using he
      clear h hr hy e1 hin hl hyn hfit hcap HY he
      go_enter Try.func50, Try.ntmps50
      go_wp2
      go_quiet (fail)
      go_wp2
      go_end0
      exact ⟨_, rfl, HBF.out.drewN _, Ch.drewN _ _ _ _⟩
  · have d1 : decide ((m : Int) - (l : Int) < (n : Int)) = true := by simp; omega
    have HF : Hid (∀ q, Calls Try.prog 49 #[.pointer (some ⟨p, 0, none⟩), .int .i64 5] (w.drewN q) (RP B w p m (.slice A1 xs.length c1) (failS (xs, er) 5))) :=
      Lib.hid fun q => (fail_any (h.drewN q) 5).mono fun e w' hh => RP.of (Ch.drewN _ _ _ _) hh
    have hd : ∃ er', er' ≠ 0 ∧ failS (xs, er) 5 = (xs, er') ∧ addS m (xs, er) ys = (xs, er') := by
      by_cases he : er = 0
      · subst he
        have hx : ¬ xs.length + ys.length ≤ m := by omega
        exact ⟨5, by decide, rfl, by unfold addS; rw [if_pos rfl, (ad_out hx).1, (ad_out hx).2]⟩
      · exact ⟨er, he, failS_err he, addS_err he⟩
    obtain ⟨er', he', e1, e2⟩ := hd
    rw [e1] at HF
    rw [e2]
    have d0 : (er' == 0) = false := by simpa using he'
    clear h hr hy e1 e2 hin hl hyn hfit hcap HY he' f0
    go_enter Try.func50, Try.ntmps50
    go_wp2
    go_quiet (fail)
    go_wp2_with (go_at_call 49; refine (HF.out _).mono ?_; rintro e w3 ⟨v', rfl, hbf, hch⟩; have k3 : w3.cell? ⟨p, 2, none⟩ = some (.int .i64 er') := hbf.box.cell 2; have HB3 := Lib.hid hbf; have HC3 := Lib.hid hch; clear hbf hch)
    go_end0
    exact ⟨_, rfl, HB3.out, HC3.out⟩

theorem rBytes_any (h : Rf B w p m v xs er) (hx : xs.length ≤ 60000) : Calls Try.prog 14 #[.pointer (some ⟨p, 0, none⟩)] w fun e w' =>
    ∃ v', e = .returned (.tuple #[v', .int .i64 er]) ∧ w'.ownsRow w.heap.size 5 1 v' (out (xs, er)).length (bv (out (xs, er))) ∧ Below w.heap.size w w' := by
  obtain ⟨A, c, rfl, hr⟩ := h.slice
  have k0 : w.cell? ⟨p, 0, none⟩ = some (.slice A xs.length c) := h.box.cell 0
  have k2 : w.cell? ⟨p, 2, none⟩ = some (.int .i64 er) := h.box.cell 2
  by_cases he : er = 0
  · subst he
    have e1 : out (xs, 0) = xs := if_pos rfl
    rw [e1]
    have HCP := Lib.hid (copyBytes_any (.slice A xs.length c) xs w ⟨_, _, _, rfl, hr⟩ hx)
    obtain ⟨l, hl⟩ : ∃ l, l = xs.length := ⟨_, rfl⟩
    rw [← hl] at HCP k0 ⊢
    clear h hr e1 hl hx
    go_enter Try.func14, Try.ntmps14
    go_wp2_with (go_at_call 34; refine HCP.out.mono ?_; rintro e w3 ⟨v', rfl, ho, hb⟩; have HO3 := Lib.hid ho; have HB3 := Lib.hid hb; clear ho hb)
    go_ret2
    exact ⟨_, rfl, HO3.out, HB3.out⟩
  · have e1 : out (xs, er) = [] := if_neg he
    rw [e1]
    have d0 : (er == 0) = false := by simpa using he
    clear h hr e1 hx he
    go_enter Try.func14, Try.ntmps14
    go_wp2
    go_quiet (fail)
    go_wp2
    go_ret2
    exact ⟨_, rfl, own_nil _ _, ⟨rfl, rfl, rfl, Nat.le_refl _, fun _ _ => rfl⟩⟩

def lenV : Value → Nat
  | .slice _ n _ => n
  | _ => 0
theorem rem_pad {l k : Nat} {x : Int} (h : isW x = true) (hk : k ≤ pad l x) : (((l : Int) + (k : Int)) % x == 0) = decide (k = pad l x) := by
  rw [Bool.eq_iff_iff, beq_iff_eq, decide_eq_true_iff]
  unfold pad at hk ⊢
  rcases isW_iff.1 h with rfl | rfl | rfl | rfl
  · have hk : k ≤ (1 - l % 1) % 1 := hk
    show _ ↔ k = (1 - l % 1) % 1; omega
  · have hk : k ≤ (2 - l % 2) % 2 := hk
    show _ ↔ k = (2 - l % 2) % 2; omega
  · have hk : k ≤ (4 - l % 4) % 4 := hk
    show _ ↔ k = (4 - l % 4) % 4; omega
  · have hk : k ≤ (8 - l % 8) % 8 := hk
    show _ ↔ k = (8 - l % 8) % 8; omega
set_option maxRecDepth 20000 in
theorem rAlign_any (h : Rf B w p m v xs er) (x : Int) : Calls Try.prog 29 #[.pointer (some ⟨p, 0, none⟩), .int .i64 x] w (RP B w p m v (algS m (xs, er) x)) := by
  have HW := Lib.hid (rWidth_any x w)
  cases hx : isW x with
  | false =>
    rw [hx] at HW
    have HF := Lib.hid (fail_any h 2)
    have e1 : algS m (xs, er) x = failS (xs, er) 2 := by unfold algS failS; rw [hx]; rfl
    rw [e1]
    obtain ⟨s, hs⟩ : ∃ s, failS (xs, er) 2 = s := ⟨_, rfl⟩
    rw [hs] at HF ⊢
    clear h hs hx e1
    go_enter Try.func29, Try.ntmps29
    go_wp2_with (first
      | (go_at_call 48; refine HW.out.mono ?_; rintro e w1 ⟨rfl, rfl⟩)
      | (go_at_call 49; refine HF.out.mono ?_; rintro e w3 ⟨v', rfl, hbf, hch⟩; have HB3 := Lib.hid hbf; have HC3 := Lib.hid hch; clear hbf hch))
    go_end0
    exact ⟨_, rfl, HB3.out, HC3.out⟩
  | true =>
    rw [hx] at HW
    obtain ⟨A, c, rfl, hr⟩ := h.slice
    have e1 : algS m (xs, er) x = addS m (xs, er) (List.replicate (pad xs.length x) 0) := by unfold algS addS; rw [hx]; rfl
    rw [e1]
    obtain ⟨l, hl⟩ : ∃ l, l = xs.length := ⟨_, rfl⟩
    obtain ⟨g, hg⟩ : ∃ g, g = pad l x := ⟨_, rfl⟩
    have hg8 : g < 8 := by rw [hg]; exact pad_lt hx
    have hxb := isW_bd hx
    have HREM : Hid (∀ k, k ≤ g → (((l : Int) + (k : Int)) % x == 0) = decide (k = g)) := Lib.hid fun k hk => by rw [hg] at hk ⊢; exact rem_pad hx hk
    have HPUT : Hid (∀ w1, Below w.heap.size w w1 → ∀ A' n' c', Rds w1 A' n' c' (List.replicate g 0) → Calls Try.prog 50 #[.pointer (some ⟨p, 0, none⟩), .slice A' n' c'] w1 (RP B w p m (.slice A xs.length c) (addS m (xs, er) (List.replicate g 0)))) :=
      Lib.hid fun w1 hb A' n' c' hrd => (rPut_any (h.below hb) hrd).mono fun e w' hh => RP.of (Ch.below _ _ hb) hh
    have HCELL : Hid (∀ w1, Below w.heap.size w w1 → w1.cell? ⟨p, 0, none⟩ = some (.slice A l c)) := Lib.hid fun w1 hb => by rw [hl]; exact (hb.cell h.box.lt).trans (h.box.cell 0)
    rw [← hl, ← hg]
    have hl6 : l ≤ 1048576 := by have := h.fit; have := h.cap; omega
    have e3 : addS m (xs, er) (List.replicate g 0) = addS m (xs, er) (List.replicate g 0) := rfl
    obtain ⟨s, hs⟩ : ∃ s, addS m (xs, er) (List.replicate g 0) = s := ⟨_, rfl⟩
    rw [hs] at HPUT ⊢
    rw [← hl] at HPUT
    have hx0 : (x == 0) = false := by simp; omega
    clear e3 hs e1 hr h hl hg hx
    go_enter Try.func29, Try.ntmps29
    go_wp2_with (go_at_call 48; refine HW.out.mono ?_; rintro e w1 ⟨rfl, rfl⟩)
    go_loopw [4] (fun xv wr => ∃ k : Nat, k ≤ g ∧ lenV xv = k ∧ Hid (wr.ownsRow w.heap.size 5 1 xv k (bv (List.replicate k 0))) ∧ Hid (Below w.heap.size w wr)) (fun xv _ => g - lenV xv)
    case atStart => exact ⟨0, Nat.zero_le _, rfl, World.ownsRow_nil _ _ _ _, Below.refl _ _⟩
    case round =>
      obtain ⟨k, hk, hlv, HO, HB⟩ := hrel
      obtain ⟨A2, n2, c2, rfl, hr2⟩ := Rd.of_own HO.out
      obtain rfl : n2 = k := hlv
      have hc0 := HCELL.out wr HB.out
      have HR2 := Lib.hid hr2
      clear hr2
      by_cases hlt : n2 < g
      · have hrem : (((l : Int) + (n2 : Int)) % x == 0) = false := by rw [HREM.out n2 hk]; simp; omega
        go_wp2_with (at_builtin; refine wpList_app (v := .slice A2 n2 c2) (base := w.heap.size) (xs := List.replicate n2 0) (ys := [0]) rfl (.tmp 21) (.tmp 22) rfl rfl rfl (HO.out.alloc _) (rds_lit wr _ _ 1 _ rfl rfl rfl) (by omega) (by have := HB.out.size; simp; omega) ?_; intro v1 w1 ho hg; obtain ⟨A3, n3, c3, rfl, _⟩ := Rd.of_own ho; have HO1 := Lib.hid ho; have HG1 := Lib.hid hg; clear ho hg)
        have hn3 : n3 = n2 + 1 := by
          rcases HO1.out.2 with ⟨h1, h2⟩ | ⟨g', cap, cur, h1, _⟩
          · omega
          · injection h1
        subst hn3
        go_roundw
        case rel =>
          have hb : Below w.heap.size w w1 := (HB.out.alloc HB.out.size _).grown HG1.out (by have := HB.out.size; simp; omega) (own_base HO.out)
          have ho := HO1.out
          have e4 : List.replicate n2 (0 : UInt8) ++ [0] = List.replicate (n2 + 1) 0 := by rw [List.replicate_succ']
          rw [e4] at ho
          exact ⟨n2 + 1, by omega, rfl, ho, hb⟩
        case measure => simp [lenV]; omega
      · obtain rfl : n2 = g := by omega
        have hrem : (((l : Int) + (n2 : Int)) % x == 0) = true := by rw [HREM.out n2 hk]; simp
        go_wp2_with (go_at_call 50; refine (HPUT.out _ HB.out _ _ _ HR2.out).mono ?_; rintro e w3 ⟨v', rfl, hbf, hch⟩; have HB3 := Lib.hid hbf; have HC3 := Lib.hid hch; clear hbf hch)
        go_end0
        exact ⟨_, rfl, HB3.out, HC3.out⟩

theorem put_fits {x : Int} {u : Nat} (h : isW x = true) : putE x (u : Int) = if u / 256 ^ x.toNat = 0 then 0 else 10 := by
  have hp := pw_eq h
  unfold putE
  rw [if_pos h]
  have e : fitsU (u : Int) x = decide (u / 256 ^ x.toNat = 0) := by
    rw [Bool.eq_iff_iff, fitsU_iff, decide_eq_true_iff, hp, Nat.div_eq_zero_iff]
    have : 0 < 256 ^ x.toNat := Nat.pos_of_ne_zero (by simp)
    omega
  rw [e]
  by_cases h0 : u / 256 ^ x.toNat = 0 <;> simp [h0]
set_option maxRecDepth 20000 in
theorem rNum_any (h : Rf B w p m v xs er) (x : Int) (u : Nat) (hu : (u : Int) ≤ 18446744073709551615) : Calls Try.prog 30 #[.pointer (some ⟨p, 0, none⟩), .int .i64 x, .int .u64 (u : Int)] w (RP B w p m v (numS m (xs, er) x (u : Int))) := by
  have HW := Lib.hid (rWidth_any x w)
  cases hx : isW x with
  | false =>
    rw [hx] at HW
    have HF := Lib.hid (fail_any h 2)
    have e1 : numS m (xs, er) x (u : Int) = failS (xs, er) 2 := by unfold numS failS putE; rw [hx]; rfl
    rw [e1]
    obtain ⟨s, hs⟩ : ∃ s, failS (xs, er) 2 = s := ⟨_, rfl⟩
    rw [hs] at HF ⊢
    clear h hs hx e1
    go_enter Try.func30, Try.ntmps30
    go_wp2_with (first
      | (go_at_call 48; refine HW.out.mono ?_; rintro e w1 ⟨rfl, rfl⟩)
      | (go_at_call 49; refine HF.out.mono ?_; rintro e w3 ⟨v', rfl, hbf, hch⟩; have HB3 := Lib.hid hbf; have HC3 := Lib.hid hch; clear hbf hch))
    go_end0
    exact ⟨_, rfl, HB3.out, HC3.out⟩
  | true =>
    rw [hx] at HW
    have hpf := put_fits (u := u) hx
    have hxb := isW_bd hx
    obtain ⟨k, rfl⟩ := Int.eq_ofNat_of_zero_le (show 0 ≤ x by omega)
    have e0 : (k : Int).toNat = k := rfl
    rw [e0] at hpf
    obtain ⟨s, hs⟩ : ∃ s, numS m (xs, er) (k : Int) (u : Int) = s := ⟨_, rfl⟩
    have HFAIL : Hid (u / 256 ^ k ≠ 0 → ∀ w1, Below w.heap.size w w1 → Calls Try.prog 49 #[.pointer (some ⟨p, 0, none⟩), .int .i64 10] w1 (RP B w p m v s)) := Lib.hid fun hne w1 hb => by
      have e1 : s = failS (xs, er) 10 := by rw [← hs]; unfold numS failS; rw [hpf, if_neg hne]; rfl
      rw [e1]
      exact (fail_any (h.below hb) 10).mono fun e w' hh => RP.of (Ch.below _ _ hb) hh
    have HPUT : Hid (u / 256 ^ k = 0 → ∀ w1, Below w.heap.size w w1 → ∀ A' n' c', Rds w1 A' n' c' (enc k u) → Calls Try.prog 50 #[.pointer (some ⟨p, 0, none⟩), .slice A' n' c'] w1 (RP B w p m v s)) := Lib.hid fun hz w1 hb A' n' c' hrd => by
      have e1 : s = addS m (xs, er) (enc k u) := by rw [← hs]; unfold numS addS; rw [hpf, if_pos hz]; rfl
      rw [e1]
      exact (rPut_any (h.below hb) hrd).mono fun e w' hh => RP.of (Ch.below _ _ hb) hh
    rw [hs]
    clear h hs hx hpf e0
    go_enter Try.func30, Try.ntmps30
    go_wp2_with (go_at_call 48; refine HW.out.mono ?_; rintro e w1 ⟨rfl, rfl⟩)
    go_loopw [2, 6, 7] (fun uv xv i wr => ∃ j X : Nat, j ≤ k ∧ i = .int .i64 j ∧ uv = .int .u64 X ∧ (X : Int) ≤ 18446744073709551615 ∧ Hid (X = u / 256 ^ j) ∧ Hid (wr.ownsRow w.heap.size 5 1 xv j (bv (enc j u))) ∧ Hid (Below w.heap.size w wr)) (fun _ _ i _ => k - (intOf i).toNat)
    case atStart => exact ⟨0, u, Nat.zero_le _, rfl, rfl, hu, by show u = _; simp, World.ownsRow_nil _ _ _ _, Below.refl _ _⟩
    case round =>
      obtain ⟨j, X, hj, rfl, rfl, hX, HX, HO, HB⟩ := hrel
      by_cases hlt : j < k
      · go_wp2_with (at_builtin; refine wpList_app (v := u6) (base := w.heap.size) (xs := enc j u) (ys := [UInt8.ofNat X]) rfl (.tmp 18) (.tmp 22) rfl rfl rfl (HO.out.alloc _) (rds_lit wr _ _ 1 _ rfl (byte_mod X) rfl) (by omega) (by have := HB.out.size; simp; omega) ?_; intro v1 w1 ho hg; have HO1 := Lib.hid ho; have HG1 := Lib.hid hg; clear ho hg)
        go_roundw
        case rel =>
          have hb : Below w.heap.size w w1 := (HB.out.alloc HB.out.size _).grown HG1.out (by have := HB.out.size; simp; omega) (own_base HO.out)
          have ho := HO1.out
          have hx := HX.out
          rw [hx, ← enc_snoc] at ho
          refine ⟨j + 1, u / 256 ^ (j + 1), by omega, by go_num, ?_, ?_, rfl, ho, hb⟩
          · rw [Nat.pow_succ, ← Nat.div_div_eq_div_mul, ← hx]; simp
          · rw [Nat.pow_succ, ← Nat.div_div_eq_div_mul, ← hx]; omega
        case measure => simp [intOf]; omega
      · obtain rfl : j = k := by omega
        obtain ⟨g, c, hv, hr⟩ := own_shape HO.out (by omega)
        have HR := Lib.hid hr
        subst hv
        clear hr
        by_cases hz : X = 0
        · subst hz
          have HZ : Hid (u / 256 ^ j = 0) := Lib.hid HX.out.symm
          go_wp2_with (go_at_call 50; refine (HPUT.out HZ.out _ HB.out _ _ _ HR.out).mono ?_; rintro e w3 ⟨v', rfl, hbf, hch⟩; have HB3 := Lib.hid hbf; have HC3 := Lib.hid hch; clear hbf hch)
          go_end0
          exact ⟨_, rfl, HB3.out, HC3.out⟩
        · have HZ : Hid (u / 256 ^ j ≠ 0) := Lib.hid (by rw [← HX.out]; exact hz)
          have hpos : (0 : Int) < (X : Int) := by omega
          clear hz
          go_wp2_with (go_at_call 49; refine (HFAIL.out HZ.out _ HB.out).mono ?_; rintro e w3 ⟨v', rfl, hbf, hch⟩; have HB3 := Lib.hid hbf; have HC3 := Lib.hid hch; clear hbf hch)
          go_end0
          exact ⟨_, rfl, HB3.out, HC3.out⟩

theorem rCut_any (h : Rf B w p m v xs er) (hx : xs.length ≤ 60000) (n : Int) : Calls Try.prog 32 #[.pointer (some ⟨p, 0, none⟩), .int .i64 n] w (RP B w p m v (cutS (xs, er) n)) := by
  obtain ⟨A, c, rfl, hr⟩ := h.slice
  have k0 : w.cell? ⟨p, 0, none⟩ = some (.slice A xs.length c) := h.box.cell 0
  have k2 : w.cell? ⟨p, 2, none⟩ = some (.int .i64 er) := h.box.cell 2
  have f0 : w.frozen? ⟨p, 0, none⟩ = false := h.box.frozen 0
  have hfit := h.fit
  have hcap := h.cap
  obtain ⟨l, hl⟩ : ∃ l, l = xs.length := ⟨_, rfl⟩
  rw [← hl] at k0 hfit
  by_cases hbad : n < 0 ∨ (l : Int) < n
  · have HF := Lib.hid (fail_any h 6)
    have hd : ∃ er', er' ≠ 0 ∧ failS (xs, er) 6 = (xs, er') ∧ cutS (xs, er) n = (xs, er') := by
      by_cases he : er = 0
      · subst he
        exact ⟨6, by decide, rfl, by unfold cutS; rw [if_pos rfl, if_pos (by rw [← hl]; exact hbad)]⟩
      · exact ⟨er, he, failS_err he, cutS_err he⟩
    obtain ⟨er', he', e1, e2⟩ := hd
    rw [e1] at HF
    rw [e2]
    have d0 : (er' == 0) = false := by simpa using he'
    clear h hr e1 e2 hl he' f0 hx
    by_cases hn0 : n < 0
    · clear hbad
      go_enter Try.func32, Try.ntmps32
      go_wp2_with (go_at_call 49; refine HF.out.mono ?_; rintro e w3 ⟨v', rfl, hbf, hch⟩; have k3 : w3.cell? ⟨p, 2, none⟩ = some (.int .i64 er') := hbf.box.cell 2; have HB3 := Lib.hid hbf; have HC3 := Lib.hid hch; clear hbf hch)
      go_end0
      exact ⟨_, rfl, HB3.out, HC3.out⟩
    · have hb1 : (l : Int) < n := by omega
      clear hbad
      go_enter Try.func32, Try.ntmps32
      go_wp2_with (go_at_call 49; refine HF.out.mono ?_; rintro e w3 ⟨v', rfl, hbf, hch⟩; have k3 : w3.cell? ⟨p, 2, none⟩ = some (.int .i64 er') := hbf.box.cell 2; have HB3 := Lib.hid hbf; have HC3 := Lib.hid hch; clear hbf hch)
      go_end0
      exact ⟨_, rfl, HB3.out, HC3.out⟩
  · obtain ⟨k, rfl⟩ := Int.eq_ofNat_of_zero_le (show 0 ≤ n by omega)
    have hk : k ≤ l := by omega
    have hb1 : ¬ (l : Int) < (k : Int) := by omega
    have hcl : l ≤ c := by rw [hl]; exact hr.2.1
    have hkc : k ≤ c := by omega
    by_cases he : er = 0
    · subst he
      have e2 : cutS (xs, 0) (k : Int) = (xs.take k, 0) := by unfold cutS; rw [if_pos rfl, if_neg (by rw [← hl]; exact hbad)]; simp
      rw [e2]
      have hlt : (xs.take k).length = k := by rw [List.length_take]; omega
      have hrk : Rd w (.slice A k c) (xs.take k) := by
        refine ⟨A, k, c, rfl, hlt, hkc, fun h0 => ?_⟩
        obtain ⟨b, off, h1, h2, h3⟩ := hr.2.2 (by omega)
        exact ⟨b, off, h1, h2, fun j x hj => h3 j x (by rw [List.getElem?_take] at hj; split at hj; (· exact hj); (· cases hj))⟩
      have HCP := Lib.hid (copyBytes_any (.slice A k c) (xs.take k) w hrk (by omega))
      have HRF := Lib.hid h
      have HLT := Lib.hid (show (xs.take k).length ≤ m by omega)
      clear h hr e2 hl hx hlt hrk hbad
      go_enter Try.func32, Try.ntmps32
      go_wp2_with (go_at_call 34; refine HCP.out.mono ?_; rintro e w3 ⟨v', rfl, ho, hb⟩; obtain ⟨A2, n2, d2, rfl, _⟩ := Rd.of_own ho; have c3 : w3.cell? ⟨p, 0, none⟩ = some (.slice A l c) := (hb.cell HRF.out.box.lt).trans k0; have f3 : w3.frozen? ⟨p, 0, none⟩ = false := (hb.frozen HRF.out.box.lt).trans f0; have HO3 := Lib.hid ho; have HB3 := Lib.hid hb; clear ho hb)
      go_end0
      have hb := HB3.out
      have ho : Hid _ := Lib.hid HO3.out
      have hap := HRF.out.app (w1 := _) ⟨hb.os, hb.tape, hb.output, hb.size, fun k hk _ => hb.block k hk⟩ (own_mono HO3.out HRF.out.base) (fun k hk => .inr ((HO3.out.lt k hk).1)) HLT.out
      exact ⟨_, rfl, hap.1, hap.2⟩
    · rw [cutS_err he]
      have d0 : (er == 0) = false := by simpa using he
      have HRF := Lib.hid h
      clear h hr hl he hbad hx
      go_enter Try.func32, Try.ntmps32
      go_wp2
      go_end0
      exact ⟨_, rfl, HRF.out, Ch.refl _ _ _⟩
end
end Go.Proofs.Ytkcmpakcahemcaa
