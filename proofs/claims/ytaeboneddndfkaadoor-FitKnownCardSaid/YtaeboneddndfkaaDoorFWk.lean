/-
  What is proved here: what the contracts of fit.One and fit.All say, and that with them works returns true; conditions: those contracts, and that the table of package tag holds what is laid.
-/
import Derived.Test.YtaeboneddndfkaaDoorFLw
namespace Go.Proofs.YtaeboneddndfkaaDoor
open Go.RowKit Tg

/-- A literal list of values. -/
theorem Rd.lit (w : World) (ys : List V3) {cs : Array Value} {g n : Nat} (hg : g = w.heap.size) (hc : cs = (pv ys).toArray) (hn : n = ys.length) (hm : n ≤ 100000) : Rd (w.alloc (.cells cs 24)) (.slice (some ⟨g, 0, none⟩) n n) ys := by
  subst hg; subst hc; subst hn
  have h := World.ownsRow_lit (base := 0) (e := 24) (size := 3) w (pv ys).toArray ys.length (Nat.zero_le _) (by unfold maxLen; omega) (by simp [pv_length])
  exact OV.rd (B := 0) (by unfold OV; simpa using h)
/-! Made lists. -/
def z0 : V3 := ⟨0, 0, 0⟩
def mkC (n : Nat) : Array Value := (pv (List.replicate n z0)).toArray
theorem made_pv (n : Nat) : madeCells (Value.agg #[.int .i64 0, .int .i64 0, .int .u64 0]).cells (n * 3) = mkC n := by
  apply Array.ext'
  apply List.ext_getElem?
  intro j
  unfold mkC
  by_cases hj : j < n * 3
  · obtain ⟨h0, h1, h2⟩ := pv_at (List.replicate n z0) (j / 3) z0 (by rw [List.getElem?_replicate, if_pos (by omega)])
    have hr : j % 3 = 0 ∨ j % 3 = 1 ∨ j % 3 = 2 := by omega
    have hl : (madeCells (Value.agg #[.int .i64 0, .int .i64 0, .int .u64 0]).cells (n * 3)).toList[j]? = some ((#[.int .i64 0, .int .i64 0, .int .u64 0] : Array Value)[j % 3]!) := by
      simp [madeCells, Value.cells, hj]
    rw [hl]
    rcases hr with e | e | e
    · rw [e, show j = j / 3 * 3 by omega, h0]; rfl
    · rw [e, show j = j / 3 * 3 + 1 by omega, h1]; rfl
    · rw [e, show j = j / 3 * 3 + 2 by omega, h2]; rfl
  · rw [List.getElem?_eq_none (by rw [Array.length_toList, size_madeCells]; omega), List.getElem?_eq_none (by simp [pv_length]; omega)]
theorem run_mk (n : Nat) (hn : n ≤ 100000) (w : World) : (Instr.makeSlice 29 (.int .i64 (n : Int)) (.int .i64 (n : Int))).run Tryd.prog w = .ok (.slice (some ⟨w.heap.size, 0, none⟩) n n) (w.alloc (.cells (mkC n) 24)) := by
  obtain ⟨i, hi, hz0, hz1, hz2⟩ := info_parts infoV
  have := run_make (P := Tryd.prog) w 29 24 i _ Tryd.underlying29 hi hz0 .i64 .i64 (n : Int) (n : Int) (by omega) (Int.le_refl _) (by rw [hz2]; omega) (by omega)
  rw [Int.toNat_natCast, hz1, made_pv] at this
  exact this
theorem mk_rd (n : Nat) (hn : n ≤ 100000) (w : World) : Rd (w.alloc (.cells (mkC n) 24)) (.slice (some ⟨w.heap.size, 0, none⟩) n n) (List.replicate n z0) := Rd.lit w _ rfl rfl (by simp) hn

/-- What One answers, in every world behind the table. -/
def OneOK : Prop := ∀ (v : V3) (at' idx : Int) (W : World), okV v → -9223372036854775808 ≤ at' → at' ≤ 9223372036854775807 → -9223372036854775808 ≤ idx → idx ≤ 9223372036854775807 → Tab W →
  Calls Tryd.prog 11 #[v.agg, .int .i64 at', .int .i64 idx] W fun e w' => e = .returned (.int .i64 (oneV v at' idx)) ∧ Below W.heap.size W w'
/-- What All answers. -/
def AllOK : Prop := ∀ (at' ahead : Int) (keys : V3) (l : List V3) (u : Value) (W : World), okV keys → (∀ v ∈ l, okV v) → Rd W u l → -9223372036854775808 ≤ at' → at' ≤ 9223372036854775807 → -9223372036854775808 ≤ ahead → ahead ≤ 9223372036854775807 → Tab W →
  Calls Tryd.prog 15 #[.int .i64 at', .int .i64 ahead, keys.agg, u] W fun e w' => e = .returned (.int .i64 (allV at' ahead keys l)) ∧ Below W.heap.size W w'
/-- Between two calls of works: the table, old memory, and the box of none. -/
def WS (w0 : World) (g : Nat) (W : World) : Prop := (Tab W ∧ Below w0.heap.size w0 W) ∧ Bx W g 24 #[.int .i64 0, .int .i64 0, .int .u64 0]
section
variable {w0 W W' : World} {g : Nat}
theorem WS.keep (h : WS w0 g W) (hb : Below W.heap.size W W') : WS w0 g W' := ⟨⟨h.1.1.keep hb, h.1.2.trans (hb.mono h.1.2.size)⟩, h.2.below hb h.2.lt⟩
theorem WS.cells (h : WS w0 g W) : W.cell? ⟨g, 0, none⟩ = some (.int .i64 0) ∧ W.cell? ⟨g, 1, none⟩ = some (.int .i64 0) ∧ W.cell? ⟨g, 2, none⟩ = some (.int .u64 0) := ⟨h.2.cell 0, h.2.cell 1, h.2.cell 2⟩
theorem text_W (h : WS w0 g W) (n : Int) : Calls Tryd.prog 18 #[.int .u64 n] W fun e w' => e = .returned (.agg #[.int .i64 5, .int .i64 1, .int .u64 n]) ∧ WS w0 g w' := (text_any n W).mono fun _ _ ⟨h1, h2⟩ => ⟨h1, h.keep h2⟩
theorem text_W1 (h : WS w0 g W) (n : Int) {u : Value} {xs : List V3} (hu : Rd W u xs) : Calls Tryd.prog 18 #[.int .u64 n] W fun e w' => e = .returned (.agg #[.int .i64 5, .int .i64 1, .int .u64 n]) ∧ WS w0 g w' ∧ Rd w' u xs := (text_any n W).mono fun _ _ ⟨h1, h2⟩ => ⟨h1, h.keep h2, hu.below h2⟩
theorem num_W (h : WS w0 g W) (n : Int) : Calls Tryd.prog 22 #[.int .i64 n] W fun e w' => e = .returned (.agg #[.int .i64 1, .int .i64 n, .int .u64 0]) ∧ WS w0 g w' := (num_any n W).mono fun _ _ ⟨h1, h2⟩ => ⟨h1, h.keep h2⟩
theorem one_W (H1 : OneOK) (h : WS w0 g W) (t vw n at' idx : Int) {r : Int} (hv : okV ⟨t, vw, n⟩) (ha : 0 ≤ at' ∧ at' ≤ 100000 ∧ 0 ≤ idx ∧ idx ≤ 100000) (hr : oneV ⟨t, vw, n⟩ at' idx = r) :
    Calls Tryd.prog 11 #[.agg #[.int .i64 t, .int .i64 vw, .int .u64 n], .int .i64 at', .int .i64 idx] W fun e w' => e = .returned (.int .i64 r) ∧ WS w0 g w' := by
  have := H1 ⟨t, vw, n⟩ at' idx W hv (by omega) (by omega) (by omega) (by omega) h.1.1
  rw [hr] at this
  exact this.mono fun _ _ ⟨h1, h2⟩ => ⟨h1, h.keep h2⟩
theorem all_W (H2 : AllOK) (h : WS w0 g W) (at' ahead t vw n : Int) {l : List V3} {u : Value} {r : Int} (hv : okV ⟨t, vw, n⟩) (hl : ∀ v ∈ l, okV v) (hu : Rd W u l) (ha : -1 ≤ at' ∧ at' ≤ 100000 ∧ 0 ≤ ahead ∧ ahead ≤ 100000) (hr : allV at' ahead ⟨t, vw, n⟩ l = r) :
    Calls Tryd.prog 15 #[.int .i64 at', .int .i64 ahead, .agg #[.int .i64 t, .int .i64 vw, .int .u64 n], u] W fun e w' => e = .returned (.int .i64 r) ∧ WS w0 g w' := by
  have := H2 at' ahead ⟨t, vw, n⟩ l u W hv hl hu (by omega) (by omega) (by omega) (by omega) h.1.1
  rw [hr] at this
  exact this.mono fun _ _ ⟨h1, h2⟩ => ⟨h1, h.keep h2⟩
theorem okT (n : Int) (h0 : 0 ≤ n) (h1 : n ≤ 18446744073709551615) : okV ⟨5, 1, n⟩ := ⟨by show (-9223372036854775808 : Int) ≤ 5; decide, by show (5 : Int) ≤ 9223372036854775807; decide, by show (-9223372036854775808 : Int) ≤ 1; decide, by show (1 : Int) ≤ 9223372036854775807; decide, h0, h1⟩
theorem okZ : okV z0 := ⟨by decide, by decide, by decide, by decide, by decide, by decide⟩
theorem okN (k : Int) (h0 : 0 ≤ k) (h1 : k ≤ 100) : okV ⟨1, k, 0⟩ := ⟨by show (-9223372036854775808 : Int) ≤ 1; decide, by show (1 : Int) ≤ 9223372036854775807; decide, by show (-9223372036854775808 : Int) ≤ k; omega, by show k ≤ 9223372036854775807; omega, by show (0 : Int) ≤ 0; decide, by show (0 : Int) ≤ 18446744073709551615; decide⟩
theorem okR (n : Nat) : ∀ v ∈ List.replicate n z0, okV v := fun v hv => by rw [List.eq_of_mem_replicate hv]; exact okZ
theorem wa1 (H2 : AllOK) (h : WS w0 g W) : Calls Tryd.prog 15 #[.int .i64 0, .int .i64 1, .agg #[.int .i64 0, .int .i64 0, .int .u64 0], .slice none 0 0] W fun e w' => e = .returned (.int .i64 1) ∧ WS w0 g w' :=
  all_W H2 h 0 1 0 0 0 okZ (by simp) (Rd.nil W) (by omega) (by decide +kernel)
theorem wa2 (H2 : AllOK) (h : WS w0 g W) (n : Nat) (_hn : n ≤ 300) {r : Int} (hr : allV 0 1 z0 (List.replicate n z0) = r) {u : Value} (hu : Rd W u (List.replicate n z0)) : Calls Tryd.prog 15 #[.int .i64 0, .int .i64 1, .agg #[.int .i64 0, .int .i64 0, .int .u64 0], u] W fun e w' => e = .returned (.int .i64 r) ∧ WS w0 g w' :=
  all_W H2 h 0 1 0 0 0 okZ (okR n) hu (by omega) hr
theorem wa255 : allV 0 1 z0 (List.replicate 255 z0) = 1 := by decide +kernel
theorem wa256 : allV 0 1 z0 (List.replicate 256 z0) = 2 := by decide +kernel
theorem wa3 (H2 : AllOK) (h : WS w0 g W) {u : Value} (hu : Rd W u [z0]) : Calls Tryd.prog 15 #[.int .i64 250, .int .i64 3, .agg #[.int .i64 5, .int .i64 1, .int .u64 0], u] W fun e w' => e = .returned (.int .i64 1) ∧ WS w0 g w' :=
  all_W H2 h 250 3 5 1 0 (okT 0 (by omega) (by omega)) (fun v hv => by obtain rfl := List.mem_singleton.1 hv; exact okZ) hu (by omega) (by decide +kernel)
def t0 : V3 := ⟨5, 1, 0⟩
theorem wa4 (H2 : AllOK) (h : WS w0 g W) {u : Value} (hu : Rd W u [t0, t0, t0, t0]) : Calls Tryd.prog 15 #[.int .i64 250, .int .i64 3, .agg #[.int .i64 5, .int .i64 1, .int .u64 0], u] W fun e w' => e = .returned (.int .i64 2) ∧ WS w0 g w' :=
  all_W H2 h 250 3 5 1 0 (okT 0 (by omega) (by omega)) (fun v hv => by simp only [List.mem_cons, List.not_mem_nil, or_false, or_self] at hv; subst hv; exact okT 0 (by omega) (by omega)) hu (by omega) (by decide +kernel)
theorem wa5 (H2 : AllOK) (h : WS w0 g W) : Calls Tryd.prog 15 #[.int .i64 10, .int .i64 2, .agg #[.int .i64 0, .int .i64 0, .int .u64 0], .slice none 0 0] W fun e w' => e = .returned (.int .i64 0) ∧ WS w0 g w' :=
  all_W H2 h 10 2 0 0 0 okZ (by simp) (Rd.nil W) (by omega) (by decide +kernel)
theorem wa6 (H2 : AllOK) (h : WS w0 g W) : Calls Tryd.prog 15 #[.int .i64 (-1), .int .i64 0, .agg #[.int .i64 0, .int .i64 0, .int .u64 0], .slice none 0 0] W fun e w' => e = .returned (.int .i64 0) ∧ WS w0 g w' :=
  all_W H2 h (-1) 0 0 0 0 okZ (by simp) (Rd.nil W) (by omega) (by decide +kernel)
theorem wo0 (H1 : OneOK) (h : WS w0 g W) : Calls Tryd.prog 11 #[.agg #[.int .i64 1, .int .i64 2, .int .u64 0], .int .i64 9, .int .i64 3] W fun e w' => e = .returned (.int .i64 2) ∧ WS w0 g w' :=
  one_W H1 h 1 2 0 9 3 (okN 2 (by omega) (by omega)) (by omega) (by decide +kernel)
theorem wo1 (H1 : OneOK) (h : WS w0 g W) : Calls Tryd.prog 11 #[.agg #[.int .i64 5, .int .i64 1, .int .u64 5], .int .i64 10, .int .i64 0] W fun e w' => e = .returned (.int .i64 1) ∧ WS w0 g w' :=
  one_W H1 h 5 1 5 10 0 (okT 5 (by omega) (by omega)) (by omega) (by decide +kernel)
theorem wo2 (H1 : OneOK) (h : WS w0 g W) : Calls Tryd.prog 11 #[.agg #[.int .i64 5, .int .i64 1, .int .u64 10], .int .i64 10, .int .i64 0] W fun e w' => e = .returned (.int .i64 1) ∧ WS w0 g w' :=
  one_W H1 h 5 1 10 10 0 (okT 10 (by omega) (by omega)) (by omega) (by decide +kernel)
theorem wo3 (H1 : OneOK) (h : WS w0 g W) : Calls Tryd.prog 11 #[.agg #[.int .i64 5, .int .i64 1, .int .u64 11], .int .i64 10, .int .i64 0] W fun e w' => e = .returned (.int .i64 0) ∧ WS w0 g w' :=
  one_W H1 h 5 1 11 10 0 (okT 11 (by omega) (by omega)) (by omega) (by decide +kernel)
theorem wo4 (H1 : OneOK) (h : WS w0 g W) : Calls Tryd.prog 11 #[.agg #[.int .i64 5, .int .i64 1, .int .u64 0], .int .i64 250, .int .i64 5] W fun e w' => e = .returned (.int .i64 1) ∧ WS w0 g w' :=
  one_W H1 h 5 1 0 250 5 (okT 0 (by omega) (by omega)) (by omega) (by decide +kernel)
theorem wo5 (H1 : OneOK) (h : WS w0 g W) : Calls Tryd.prog 11 #[.agg #[.int .i64 5, .int .i64 1, .int .u64 0], .int .i64 250, .int .i64 6] W fun e w' => e = .returned (.int .i64 2) ∧ WS w0 g w' :=
  one_W H1 h 5 1 0 250 6 (okT 0 (by omega) (by omega)) (by omega) (by decide +kernel)
theorem wo6 (H1 : OneOK) (h : WS w0 g W) : Calls Tryd.prog 11 #[.agg #[.int .i64 5, .int .i64 1, .int .u64 0], .int .i64 65534, .int .i64 1] W fun e w' => e = .returned (.int .i64 4) ∧ WS w0 g w' :=
  one_W H1 h 5 1 0 65534 1 (okT 0 (by omega) (by omega)) (by omega) (by decide +kernel)
theorem wo7 (H1 : OneOK) (h : WS w0 g W) : Calls Tryd.prog 11 #[.agg #[.int .i64 5, .int .i64 1, .int .u64 0], .int .i64 65534, .int .i64 0] W fun e w' => e = .returned (.int .i64 2) ∧ WS w0 g w' :=
  one_W H1 h 5 1 0 65534 0 (okT 0 (by omega) (by omega)) (by omega) (by decide +kernel)
end
set_option maxRecDepth 20000 in
set_option maxHeartbeats 2000000 in
theorem works_true (H1 : OneOK) (H2 : AllOK) (w : World) (hT : Tab w) : Calls Tryd.prog 13 #[] w fun e w' => e = .returned (.bool true) ∧ Below w.heap.size w w' := by
  have HH1 := Lib.hid H1
  have HH2 := Lib.hid H2
  have hb0 := al0 w (.cells #[.int .i64 0, .int .i64 0, .int .u64 0] 24)
  have hws : WS w w.heap.size (w.alloc (.cells #[.int .i64 0, .int .i64 0, .int .u64 0] 24)) := ⟨⟨hT.keep hb0, hb0⟩, Bx.new _ _ _⟩
  have HWS := Lib.hid hws
  clear hb0 hws H1 H2 hT
  go_enter Tryd.func13, Tryd.ntmps13
  go_upto_region 2 with fail
  have hws := HWS.out
  obtain ⟨g, hg⟩ : ∃ g, w.heap.size = g := ⟨_, rfl⟩
  obtain ⟨w1, hw1⟩ : ∃ w1, w.alloc (.cells #[.int .i64 0, .int .i64 0, .int .u64 0] 24) = w1 := ⟨_, rfl⟩
  rw [hg, hw1] at hws
  simp only [hw1, hg]
  have HS := Lib.hid hws
  clear hws HWS
  clear hw1 hg
  go_upto_region 4 with (first
    | (go_at_call 22; (with_reducible refine (num_W HS.out 2).mono ?_); rintro e w3 ⟨rfl, hs⟩; clear HS; have HS := Lib.hid hs; clear hs)
    | (go_at_call 18; (with_reducible refine (text_W HS.out _).mono ?_); rintro e w3 ⟨rfl, hs⟩; clear HS; have HS := Lib.hid hs; clear hs)
    | (go_at_call 11; (with_reducible refine (wo0 HH1.out HS.out).mono ?_); rintro e w3 ⟨rfl, hs⟩; clear HS; have HS := Lib.hid hs; clear hs)
    | (go_at_call 11; (with_reducible refine (wo1 HH1.out HS.out).mono ?_); rintro e w3 ⟨rfl, hs⟩; clear HS; have HS := Lib.hid hs; clear hs)
    | (go_at_call 11; (with_reducible refine (wo2 HH1.out HS.out).mono ?_); rintro e w3 ⟨rfl, hs⟩; clear HS; have HS := Lib.hid hs; clear hs)
    | (go_at_call 11; (with_reducible refine (wo3 HH1.out HS.out).mono ?_); rintro e w3 ⟨rfl, hs⟩; clear HS; have HS := Lib.hid hs; clear hs)
    | (go_at_call 11; (with_reducible refine (wo4 HH1.out HS.out).mono ?_); rintro e w3 ⟨rfl, hs⟩; clear HS; have HS := Lib.hid hs; clear hs)
    | (go_at_call 11; (with_reducible refine (wo5 HH1.out HS.out).mono ?_); rintro e w3 ⟨rfl, hs⟩; clear HS; have HS := Lib.hid hs; clear hs)
    | (go_at_call 11; (with_reducible refine (wo6 HH1.out HS.out).mono ?_); rintro e w3 ⟨rfl, hs⟩; clear HS; have HS := Lib.hid hs; clear hs)
    | (go_at_call 11; (with_reducible refine (wo7 HH1.out HS.out).mono ?_); rintro e w3 ⟨rfl, hs⟩; clear HS; have HS := Lib.hid hs; clear hs))
  have hm255 : ∀ W, (Instr.makeSlice 29 (.int .i64 255) (.int .i64 255)).run Tryd.prog W = .ok (.slice (some ⟨W.heap.size, 0, none⟩) 255 255) (W.alloc (.cells (mkC 255) 24)) := fun W => run_mk 255 (by omega) W
  have hm256 : ∀ W, (Instr.makeSlice 29 (.int .i64 256) (.int .i64 256)).run Tryd.prog W = .ok (.slice (some ⟨W.heap.size, 0, none⟩) 256 256) (W.alloc (.cells (mkC 256) 24)) := fun W => run_mk 256 (by omega) W
  have hall : ∀ W, Hid (WS w g W) → (W.cell? ⟨g, 0, none⟩ = some (.int .i64 0) ∧ W.cell? ⟨g, 1, none⟩ = some (.int .i64 0) ∧ W.cell? ⟨g, 2, none⟩ = some (.int .u64 0) ∧ Hid (WS w g W)) := fun W H => ⟨H.out.cells.1, H.out.cells.2.1, H.out.cells.2.2, H⟩
  have hal : ∀ W o, Hid (WS w g W) → ((W.alloc o).cell? ⟨g, 0, none⟩ = some (.int .i64 0) ∧ (W.alloc o).cell? ⟨g, 1, none⟩ = some (.int .i64 0) ∧ (W.alloc o).cell? ⟨g, 2, none⟩ = some (.int .u64 0) ∧ Hid (WS w g (W.alloc o))) := fun W o H => hall _ (Lib.hid (H.out.keep (al0 _ _)))
  have HSd : Hid (WS w g w3.drew) := Lib.hid (HS.out.keep (Below.refl _ _).drew)
  go_region_held3 (fun W => W.cell? ⟨g, 0, none⟩ = some (.int .i64 0) ∧ W.cell? ⟨g, 1, none⟩ = some (.int .i64 0) ∧ W.cell? ⟨g, 2, none⟩ = some (.int .u64 0) ∧ Hid (WS w g W))
    (first | (with_reducible exact hall _ HSd) | (with_reducible exact hall _ (by assumption)) | (with_reducible exact hal _ _ (by assumption)))
    (first
      | (go_at_call 15; (with_reducible refine (wa1 HH2.out HSd.out).mono ?_); rintro e w4 ⟨rfl, hs⟩; have HS4 := Lib.hid hs; clear hs)
      | (go_at_call 15; (with_reducible refine (wa2 HH2.out (HS4.out.keep (al0 _ _)) 255 (by omega) wa255 (mk_rd 255 (by omega) _)).mono ?_); rintro e w5 ⟨rfl, hs⟩; have HS5 := Lib.hid hs; clear hs)
      | (go_at_call 15; (with_reducible refine (wa2 HH2.out (HS5.out.keep (al0 _ _)) 256 (by omega) wa256 (mk_rd 256 (by omega) _)).mono ?_); rintro e w6 ⟨rfl, hs⟩; have HS6 := Lib.hid hs; clear hs))
  go_upto_region 6 with fail
  have HS4 : Hid (WS w g w6.drew) := Lib.hid (HS6.out.keep (Below.refl _ _).drew)
  clear hal
  have hal : ∀ W o, Hid (WS w g W) → ((W.alloc o).cell? ⟨g, 0, none⟩ = some (.int .i64 0) ∧ (W.alloc o).cell? ⟨g, 1, none⟩ = some (.int .i64 0) ∧ (W.alloc o).cell? ⟨g, 2, none⟩ = some (.int .u64 0) ∧ Hid (WS w g (W.alloc o))) := fun W o H => hall _ (Lib.hid (H.out.keep (al0 _ _)))
  have hald : ∀ W o, Hid (WS w g W) → ((W.alloc o).drew.cell? ⟨g, 0, none⟩ = some (.int .i64 0) ∧ (W.alloc o).drew.cell? ⟨g, 1, none⟩ = some (.int .i64 0) ∧ (W.alloc o).drew.cell? ⟨g, 2, none⟩ = some (.int .u64 0) ∧ Hid (WS w g (W.alloc o).drew)) := fun W o H => hall _ (Lib.hid (H.out.keep (al0 _ _).drew))
  have l1 : ∀ W : World, Rd (W.alloc (.cells #[.int .i64 0, .int .i64 0, .int .u64 0] 24)) (.slice (some ⟨W.heap.size, 0, none⟩) 1 1) [z0] := fun W => Rd.lit W _ rfl rfl rfl (by decide)
  have l4 : ∀ W : World, Rd (W.alloc (.cells #[.int .i64 5, .int .i64 1, .int .u64 0, .int .i64 5, .int .i64 1, .int .u64 0, .int .i64 5, .int .i64 1, .int .u64 0, .int .i64 5, .int .i64 1, .int .u64 0] 24)) (.slice (some ⟨W.heap.size, 0, none⟩) 4 4) [t0, t0, t0, t0] := fun W => Rd.lit W _ rfl rfl rfl (by decide)
  go_region_held3 (fun W => W.cell? ⟨g, 0, none⟩ = some (.int .i64 0) ∧ W.cell? ⟨g, 1, none⟩ = some (.int .i64 0) ∧ W.cell? ⟨g, 2, none⟩ = some (.int .u64 0) ∧ Hid (WS w g W))
    (first | (with_reducible exact hall _ (by assumption)) | (with_reducible exact hal _ _ (by assumption)) | (with_reducible exact hald _ _ (by assumption)))
    (first
      | (go_at_call 18; (with_reducible refine (text_W1 (HS6.out.keep (al0 _ _).drew) _ ((l1 _).below (Below.refl _ _).drew)).mono ?_); rintro e w4 ⟨rfl, hs, hr⟩; have HS4 := Lib.hid hs; have HR := Lib.hid hr; clear hs hr)
      | (go_at_call 15; (with_reducible refine (wa3 HH2.out HS4.out HR.out).mono ?_); rintro e w4 ⟨rfl, hs⟩; have HS4 := Lib.hid hs; clear hs)
      | (go_at_call 18; (with_reducible refine (text_W HS4.out _).mono ?_); rintro e w4 ⟨rfl, hs⟩; have HS4 := Lib.hid hs; clear hs)
      | (go_at_call 15; (with_reducible refine (wa3 HH2.out (HS4.out.keep (al0 _ _)) (l1 _)).mono ?_); rintro e w4 ⟨rfl, hs⟩; have HS4 := Lib.hid hs; clear hs)
      | (go_at_call 15; (with_reducible refine (wa4 HH2.out (HS4.out.keep (al0 _ _)) (l4 _)).mono ?_); rintro e w4 ⟨rfl, hs⟩; have HS4 := Lib.hid hs; clear hs)
      | (go_at_call 15; (with_reducible refine (wa5 HH2.out HS4.out).mono ?_); rintro e w4 ⟨rfl, hs⟩; have HS4 := Lib.hid hs; clear hs)
      | (go_at_call 15; (with_reducible refine (wa6 HH2.out HS4.out).mono ?_); rintro e w4 ⟨rfl, hs⟩; have HS4 := Lib.hid hs; clear hs))
  all_goals (go_wp2_with fail)
  all_goals (go_ret; exact ⟨rfl, HS4.out.1.2⟩)
end Go.Proofs.YtaeboneddndfkaaDoor
