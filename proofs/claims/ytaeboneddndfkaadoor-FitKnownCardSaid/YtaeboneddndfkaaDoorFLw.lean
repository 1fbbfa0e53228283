/-
  What is proved here: contracts of the helpers of the laws of layer 16; condition: numbers in the ranges of their types.
-/
import Derived.Test.YtaeboneddndfkaaDoorFRefC
namespace Go.Proofs.YtaeboneddndfkaaDoor
open Go.RowKit Tg

theorem few_any {v : Value} {xs : List V3} {w : World} (h : Rd w v xs) :
    Calls Tryd.prog 14 #[v] w fun e w' => ∃ u, e = .returned u ∧ OV w' w.heap.size u (xs.take 300) ∧ Below w.heap.size w w' := by
  obtain ⟨A, n, c, rfl, hr⟩ := h
  have hn := hr.1
  subst hn
  have hc := hr.2.1
  have hcm := hr.2.2.1
  unfold maxLen at hcm
  by_cases hl : xs.length ≤ 300
  · have HR := Lib.hid (show Rs w A xs.length c (xs.take 300) by rw [List.take_of_length_le hl]; exact hr)
    have hmin : ¬ (300 : Int) < (xs.length : Int) := by omega
    have HL := Lib.hid hl
    obtain ⟨l, hl⟩ : ∃ l, l = xs.length := ⟨_, rfl⟩
    rw [← hl] at HR hmin HL hc ⊢
    have hmin2 : min (l : Int) 300 = (l : Int) := by omega
    clear hr hl
    go_enter Tryd.func14, Tryd.ntmps14
    go_wp2_with (at_builtin; refine wpList_app (B := w.heap.size) (xs := []) (ys := xs.take 300) (v := .slice none 0 0) rfl (.tmp 4) (.tmp 9) rfl rfl rfl (OV.nil _ _) HR.out (by have := HL.out; simp; omega) (Nat.le_refl _) ?_; intro v1 w1 ho1 hg1 hl1; have HO1 := Lib.hid ho1; have HG1 := Lib.hid hg1; clear ho1 hg1 hl1)
    go_ret
    exact ⟨_, rfl, HO1.out, (Below.refl _ _).grown HG1.out (Nat.le_refl _) (fun k hk => by simp [Value.ownBlock] at hk)⟩
  · have HR := Lib.hid (hr.pre (m := 300) (by omega))
    have hmin : (300 : Int) < (xs.length : Int) := by omega
    obtain ⟨l, hl⟩ : ∃ l, l = xs.length := ⟨_, rfl⟩
    rw [← hl] at hmin hc ⊢
    have hc30 : 300 ≤ c := by omega
    have hmin2 : min (l : Int) 300 = 300 := by omega
    clear hr hl
    go_enter Tryd.func14, Tryd.ntmps14
    go_wp2_with (at_builtin; refine wpList_app (B := w.heap.size) (xs := []) (ys := xs.take 300) (v := .slice none 0 0) rfl (.tmp 4) (.tmp 9) rfl rfl rfl (OV.nil _ _) HR.out (by simp) (Nat.le_refl _) ?_; intro v1 w1 ho1 hg1 hl1; have HO1 := Lib.hid ho1; have HG1 := Lib.hid hg1; clear ho1 hg1 hl1)
    go_ret
    exact ⟨_, rfl, HO1.out, (Below.refl _ _).grown HG1.out (Nat.le_refl _) (fun k hk => by simp [Value.ownBlock] at hk)⟩
theorem bring_any (t n : Int) (w : World) (h0 : -9223372036854775808 ≤ t) (h1 : t ≤ 9223372036854775807) (hn : 1 ≤ n) (hn2 : n ≤ 4000000) :
    Calls Tryd.prog 17 #[.int .i64 t, .int .i64 n] w fun e w' => e = .returned (.int .i64 (t % n)) ∧ w = w' := by
  have d0 : (n == 0) = false := by simp; omega
  by_cases h : t < 0
  · obtain ⟨r, hr⟩ : ∃ r, t.tmod n = r := ⟨_, rfl⟩
    obtain ⟨k, rfl⟩ : ∃ k : Int, t = -k := ⟨-t, by omega⟩
    have e1 : r = -(k % n) := by rw [← hr, Int.neg_tmod, Int.tmod_eq_emod_of_nonneg (by omega)]
    have b0 := Int.emod_nonneg k (show n ≠ 0 by omega)
    have b1 := Int.emod_lt_of_pos k (show 0 < n by omega)
    by_cases hz : r = 0
    · have hz' : k % n = 0 := by omega
      have e2 : -k % n = 0 := Int.emod_eq_zero_of_dvd (Int.dvd_neg.2 (Int.dvd_of_emod_eq_zero hz'))
      rw [e2]
      rw [hz] at hr
      clear e1 b0 b1 hz hz' e2
      go_enter Tryd.func17, Tryd.ntmps17
      go_wp2
      go_ret
      exact ⟨rfl, rfl⟩
    · have hneg : r < 0 := by omega
      have e2 : -k % n = r + n := by
        have e3 : -k = (r + n) + n * (-(k / n) - 1) := by
          have := Int.mul_ediv_add_emod k n
          rw [e1, Int.mul_sub, Int.mul_neg]
          omega
        rw [e3, Int.add_mul_emod_self_left, Int.emod_eq_of_lt (by omega) (by omega)]
      rw [e2]
      have g0 : -4000000 ≤ r := by omega
      clear e1 b0 b1 hz e2 h0 h1 h
      go_enter Tryd.func17, Tryd.ntmps17
      go_wp2
      go_ret
      exact ⟨rfl, rfl⟩
  · have h' : 0 ≤ t := by omega
    have b0 := Int.emod_nonneg t (show n ≠ 0 by omega)
    have d1 : decide (t % n < 0) = false := by simp; omega
    have e1 : t.tmod n = t % n := Int.tmod_eq_emod_of_nonneg h'
    clear h h0 h1
    go_enter Tryd.func17, Tryd.ntmps17
    go_wp2
    go_ret
    exact ⟨rfl, rfl⟩

theorem infoV3 : (Tryd.prog.info? 24).map (·.size) = some 3 := by kernel_rfl
theorem text_any (n : Int) (w : World) : Calls Tryd.prog 18 #[.int .u64 n] w fun e w' => e = .returned (.agg #[.int .i64 5, .int .i64 1, .int .u64 n]) ∧ Below w.heap.size w w' := by
  go_enter Tryd.func18, Tryd.ntmps18
  go_wp2
  refine bodyPost_ret (results_cell_row rfl _ _ w.heap.size 24 #[.int .i64 5, .int .i64 1, .int .u64 n] (0, 0) _ rfl (heap_alloc_new w _) Tryd.underlying24 rfl infoV3) rfl ?_
  exact ⟨rfl, al0 _ _⟩
theorem num_any (k : Int) (w : World) : Calls Tryd.prog 22 #[.int .i64 k] w fun e w' => e = .returned (.agg #[.int .i64 1, .int .i64 k, .int .u64 0]) ∧ Below w.heap.size w w' := by
  go_enter Tryd.func22, Tryd.ntmps22
  go_wp2
  refine bodyPost_ret (results_cell_row rfl _ _ w.heap.size 24 #[.int .i64 1, .int .i64 k, .int .u64 0] (0, 0) _ rfl (heap_alloc_new w _) Tryd.underlying24 rfl infoV3) rfl ?_
  exact ⟨rfl, al0 _ _⟩
/-- The least width of an unsigned number. -/
def byt (n : Int) : Int := if n < 256 then 1 else if n < 65536 then 2 else if n < 4294967296 then 4 else 8
theorem byt_cases (n : Int) : (n < 256 ∧ byt n = 1) ∨ (256 ≤ n ∧ n < 65536 ∧ byt n = 2) ∨ (65536 ≤ n ∧ n < 4294967296 ∧ byt n = 4) ∨ (4294967296 ≤ n ∧ byt n = 8) := by
  unfold byt
  split
  · exact .inl ⟨by assumption, rfl⟩
  · split
    · exact .inr (.inl ⟨by omega, by assumption, rfl⟩)
    · split
      · exact .inr (.inr (.inl ⟨by omega, by assumption, rfl⟩))
      · exact .inr (.inr (.inr ⟨by omega, rfl⟩))
theorem bytes_any (n : Int) (w : World) (h0 : 0 ≤ n) (h1 : n ≤ 18446744073709551615) : Calls Tryd.prog 20 #[.int .u64 n] w fun e w' => e = .returned (.int .i64 (byt n)) ∧ w = w' := by
  have HB := Lib.hid (byt_cases n)
  obtain ⟨β, hβ⟩ : ∃ β, byt n = β := ⟨_, rfl⟩
  rw [hβ] at HB ⊢
  clear hβ
  go_enter Tryd.func20, Tryd.ntmps20
  go_wp2
  go_loopw [3] (fun x wr => wr = w ∧ ((x = .int .i64 1) ∨ (x = .int .i64 2 ∧ Hid (256 ≤ n)) ∨ (x = .int .i64 4 ∧ Hid (65536 ≤ n)) ∨ (x = .int .i64 8 ∧ Hid (4294967296 ≤ n)))) (fun x _ => (8 - intOf x).toNat)
  case atStart => exact ⟨rfl, .inl rfl⟩
  case round =>
    obtain ⟨rfl, rfl | ⟨rfl, H⟩ | ⟨rfl, H⟩ | ⟨rfl, H⟩⟩ := hrel
    · by_cases hn : n < 256
      · have hd : decide (0 < n / 256) = false := by simp; omega
        have HE : Hid (β = 1) := Lib.hid (by have := HB.out; omega)
        clear hn
        go_wp2
        go_ret
        exact ⟨by rw [HE.out]; rfl, rfl⟩
      · have hd : decide (0 < n / 256) = true := by simp; omega
        have HE : Hid (256 ≤ n) := Lib.hid (by omega)
        clear hn
        go_wp2
        go_roundw
        case rel => exact ⟨trivial, .inr (.inl ⟨rfl, HE⟩)⟩
        case measure => simp [intOf]
    · by_cases hn : n < 65536
      · have hd : decide (0 < n / 65536) = false := by simp; omega
        have HE : Hid (β = 2) := Lib.hid (by have := HB.out; have := H.out; omega)
        clear hn
        go_wp2
        go_ret
        exact ⟨by rw [HE.out]; rfl, rfl⟩
      · have hd : decide (0 < n / 65536) = true := by simp; omega
        have HE : Hid (65536 ≤ n) := Lib.hid (by omega)
        clear hn
        go_wp2
        go_roundw
        case rel => exact ⟨trivial, .inr (.inr (.inl ⟨rfl, HE⟩))⟩
        case measure => simp [intOf]
    · by_cases hn : n < 4294967296
      · have hd : decide (0 < n / 4294967296) = false := by simp; omega
        have HE : Hid (β = 4) := Lib.hid (by have := HB.out; have := H.out; omega)
        clear hn
        go_wp2
        go_ret
        exact ⟨by rw [HE.out]; rfl, rfl⟩
      · have hd : decide (0 < n / 4294967296) = true := by simp; omega
        have HE : Hid (4294967296 ≤ n) := Lib.hid (by omega)
        clear hn
        go_wp2
        go_roundw
        case rel => exact ⟨trivial, .inr (.inr (.inr ⟨rfl, HE⟩))⟩
        case measure => simp [intOf]
    · have HE : Hid (β = 8) := Lib.hid (by have := HB.out; have := H.out; omega)
      go_wp2
      go_ret
      exact ⟨by rw [HE.out]; rfl, rfl⟩
/-- A block known whole, none of it frozen. -/
def Bx (w : World) (p : Nat) (t : TypeId) (cs : Array Value) : Prop := w.heap[p]? = some (.cells cs t (0, 0))
section
variable {w w' : World} {p : Nat} {t : TypeId} {cs : Array Value}
theorem Bx.lt (h : Bx w p t cs) : p < w.heap.size := by
  rcases Nat.lt_or_ge p w.heap.size with hl | hg
  · exact hl
  · unfold Bx at h; rw [Array.getElem?_eq_none hg] at h; cases h
theorem Bx.cell (h : Bx w p t cs) (i : Nat) : w.cell? ⟨p, i, none⟩ = cs[i]? := cell_of_row w p i cs t (0, 0) h
theorem Bx.frozen (h : Bx w p t cs) (i : Nat) : w.frozen? ⟨p, i, none⟩ = false := by
  unfold Bx at h
  simp [World.frozen?, h]
theorem Bx.new (w : World) (t : TypeId) (cs : Array Value) : Bx (w.alloc (.cells cs t)) w.heap.size t cs := heap_alloc_new w _
theorem Bx.put (h : Bx w p t cs) (i : Nat) (u : Value) : Bx (w.setCell ⟨p, i, none⟩ u) p t (cs.setIfInBounds i u) := by
  unfold Bx at h ⊢
  simp [World.setCell, Array.getElem?_modify, h]
theorem Bx.same (h : Bx w p t cs) (he : w'.heap[p]? = w.heap[p]?) : Bx w' p t cs := he.trans h
theorem Bx.below {B : Nat} (h : Bx w p t cs) (hb : Below B w w') (hp : p < B) : Bx w' p t cs := h.same (hb.block p hp)
end
theorem lfits_any (n at' idx w : Int) (W : World) (n0 : 0 ≤ n) (n1 : n ≤ 4000000) (a0 : 0 ≤ at') (a1 : at' ≤ 4000000) (i0 : 0 ≤ idx) (i1 : idx ≤ 4000000) (hw : isW w) :
    Calls Tryd.prog 19 #[.int .i64 n, .int .i64 at', .int .i64 idx, .int .i64 w] W fun e w' => e = .returned (.bool (fitN n at' idx w)) ∧ W = w' := by
  by_cases hna : n ≤ at'
  · obtain ⟨P, hP⟩ : ∃ P, ofs n at' idx w = P := ⟨_, rfl⟩
    have hPb : 0 ≤ P ∧ P ≤ 100000000 := by
      obtain ⟨e1, e2, e4, e8⟩ := upT_eq at'
      unfold ofs at hP
      rcases hw with rfl | rfl | rfl | rfl
      · rw [e1] at hP; omega
      · rw [e2] at hP; omega
      · rw [e4] at hP; omega
      · rw [e8] at hP; omega
    have hfit : fitN n at' idx w = decide (byt P ≤ w) := by
      unfold fitN
      rw [decide_eq_true hna, Bool.true_and, hP, Bool.eq_iff_iff]
      have := byt_cases P
      rcases hw with rfl | rfl | rfl | rfl <;> simp [lim] <;> omega
    have HBY := Lib.hid (fun V => bytes_any P V (by omega) (by omega))
    rw [hfit]
    obtain ⟨b, hb⟩ : ∃ b, byt P = b := ⟨_, rfl⟩
    have hbb : 1 ≤ b ∧ b ≤ 8 := by have := byt_cases P; omega
    obtain ⟨b0, b1⟩ := hbb
    rw [hb] at HBY ⊢
    unfold ofs at hP
    clear hb hfit
    rcases hw with rfl | rfl | rfl | rfl
    · have e : P = at' + idx - n := by obtain ⟨e1, e2, e4, e8⟩ := upT_eq at'; rw [e1] at hP; omega
      rw [e] at HBY hPb
      obtain ⟨p0, p1⟩ := hPb
      clear e hP
      go_enter Tryd.func19, Tryd.ntmps19
      go_wp2_with (go_at_call 20; (with_reducible refine (HBY.out _).mono ?_); rintro e w1 ⟨rfl, rfl⟩)
      go_ret
      exact ⟨rfl, rfl⟩
    · have e : P = at' + at' % 2 + idx * 2 - n := by obtain ⟨e1, e2, e4, e8⟩ := upT_eq at'; rw [e2] at hP; omega
      rw [e] at HBY hPb
      obtain ⟨p0, p1⟩ := hPb
      clear e hP
      go_enter Tryd.func19, Tryd.ntmps19
      go_wp2_with (go_at_call 20; (with_reducible refine (HBY.out _).mono ?_); rintro e w1 ⟨rfl, rfl⟩)
      go_ret
      exact ⟨rfl, rfl⟩
    · have e : P = at' + -(at' % 4) % 4 + idx * 4 - n := by obtain ⟨e1, e2, e4, e8⟩ := upT_eq at'; rw [e4] at hP; omega
      rw [e] at HBY hPb
      obtain ⟨p0, p1⟩ := hPb
      clear e hP
      go_enter Tryd.func19, Tryd.ntmps19
      go_wp2_with (go_at_call 20; (with_reducible refine (HBY.out _).mono ?_); rintro e w1 ⟨rfl, rfl⟩)
      go_ret
      exact ⟨rfl, rfl⟩
    · have e : P = at' + -(at' % 8) % 8 + idx * 8 - n := by obtain ⟨e1, e2, e4, e8⟩ := upT_eq at'; rw [e8] at hP; omega
      rw [e] at HBY hPb
      obtain ⟨p0, p1⟩ := hPb
      clear e hP
      go_enter Tryd.func19, Tryd.ntmps19
      go_wp2_with (go_at_call 20; (with_reducible refine (HBY.out _).mono ?_); rintro e w1 ⟨rfl, rfl⟩)
      go_ret
      exact ⟨by rw [decide_eq_true b1]; rfl, rfl⟩
  · have hfit : fitN n at' idx w = false := by unfold fitN; rw [decide_eq_false hna, Bool.false_and]
    rw [hfit]
    clear hfit
    rcases hw with rfl | rfl | rfl | rfl
    all_goals
      go_enter Tryd.func19, Tryd.ntmps19
      go_wp2
      go_ret
      exact ⟨rfl, rfl⟩
/-- What value makes of two numbers. -/
def valV (a at' : Int) : V3 := if a % 7 < 4 then ⟨1, if a % 7 = 0 then 1 else if a % 7 = 1 then 2 else if a % 7 = 2 then 4 else 8, 0⟩ else ⟨5, 1, a % at'⟩
theorem valV_cases (a at' : Int) : (a % 7 = 0 ∧ valV a at' = ⟨1, 1, 0⟩) ∨ (a % 7 = 1 ∧ valV a at' = ⟨1, 2, 0⟩) ∨ (a % 7 = 2 ∧ valV a at' = ⟨1, 4, 0⟩) ∨ (a % 7 = 3 ∧ valV a at' = ⟨1, 8, 0⟩) ∨ (4 ≤ a % 7 ∧ a % 7 < 7 ∧ valV a at' = ⟨5, 1, a % at'⟩) := by
  have h0 := Int.emod_nonneg a (show (7 : Int) ≠ 0 by omega)
  have h1 := Int.emod_lt_of_pos a (show (0 : Int) < 7 by omega)
  unfold valV
  by_cases e0 : a % 7 = 0
  · simp [e0]
  · by_cases e1 : a % 7 = 1
    · simp [e1]
    · by_cases e2 : a % 7 = 2
      · simp [e2]
      · by_cases e3 : a % 7 = 3
        · simp [e3]
        · refine .inr (.inr (.inr (.inr ⟨by omega, h1, ?_⟩)))
          rw [if_neg (by omega)]
set_option maxHeartbeats 1000000 in
theorem value_any (a at' : Int) (W : World) (a0 : -9223372036854775808 ≤ a) (a1 : a ≤ 9223372036854775807) (h0 : 1 ≤ at') (h1 : at' ≤ 4000000) :
    Calls Tryd.prog 21 #[.int .i64 a, .int .i64 at'] W fun e w' => e = .returned (valV a at').agg ∧ Below W.heap.size W w' := by
  have HBR := Lib.hid (fun V => bring_any a 7 V a0 a1 (by omega) (by omega))
  have HBA := Lib.hid (fun V => bring_any a at' V a0 a1 h0 (by omega))
  have hx : Bx (W.alloc (.cells #[.int .i64 0, .int .i64 0, .int .u64 0] 24)) W.heap.size 24 #[.int .i64 0, .int .i64 0, .int .u64 0] := Bx.new _ _ _
  have hb0 := al0 W (.cells #[.int .i64 0, .int .i64 0, .int .u64 0] 24)
  obtain ⟨W1, hW1⟩ : ∃ W1, W1 = W.alloc (.cells #[.int .i64 0, .int .i64 0, .int .u64 0] 24) := ⟨_, rfl⟩
  rw [← hW1] at hx hb0
  have HX := Lib.hid hx
  have HB := Lib.hid hb0
  have HEND : Hid (∀ (w2 : World) (v : V3), Below W1.heap.size W1 w2 → Bx (((w2.setCell ⟨W.heap.size, 0, none⟩ (.int .i64 v.t)).setCell ⟨W.heap.size, 1, none⟩ (.int .i64 v.w)).setCell ⟨W.heap.size, 2, none⟩ (.int .u64 v.n)) W.heap.size 24 #[.int .i64 v.t, .int .i64 v.w, .int .u64 v.n] ∧
      Below W.heap.size W (((w2.setCell ⟨W.heap.size, 0, none⟩ (.int .i64 v.t)).setCell ⟨W.heap.size, 1, none⟩ (.int .i64 v.w)).setCell ⟨W.heap.size, 2, none⟩ (.int .u64 v.n))) := Lib.hid fun w2 v hb => by
    have h1 := (((hx.below hb hx.lt).put 0 (.int .i64 v.t)).put 1 (.int .i64 v.w)).put 2 (.int .u64 v.n)
    exact ⟨h1, ((((hb0.trans (hb.mono hb0.size))).setCell (Nat.le_refl _) _).setCell (Nat.le_refl _) _).setCell (Nat.le_refl _) _⟩
  have HCELL : Hid (∀ w2, Below W1.heap.size W1 w2 → (w2.cell? ⟨W.heap.size, 0, none⟩ = some (.int .i64 0) ∧ w2.cell? ⟨W.heap.size, 1, none⟩ = some (.int .i64 0) ∧ w2.cell? ⟨W.heap.size, 2, none⟩ = some (.int .u64 0)) ∧ w2.frozen? ⟨W.heap.size, 0, none⟩ = false ∧ w2.frozen? ⟨W.heap.size, 1, none⟩ = false ∧ w2.frozen? ⟨W.heap.size, 2, none⟩ = false) := Lib.hid fun w2 hb => by
    have h := hx.below hb hx.lt
    exact ⟨⟨h.cell 0, h.cell 1, h.cell 2⟩, h.frozen 0, h.frozen 1, h.frozen 2⟩
  have hk0 := Int.emod_nonneg a (show (7 : Int) ≠ 0 by omega)
  have hk1 := Int.emod_lt_of_pos a (show (0 : Int) < 7 by omega)
  have hm0 := Int.emod_nonneg a (show at' ≠ 0 by omega)
  have hm1 := Int.emod_lt_of_pos a (show 0 < at' by omega)
  obtain ⟨m, hm⟩ : ∃ m, a % at' = m := ⟨_, rfl⟩
  rw [hm] at HBA hm0 hm1
  have hmax : max at' 1 = at' := by omega
  have hmax2 : ¬ at' < 1 := by omega
  have hcs := valV_cases a at'
  rw [hm] at hcs
  clear hx hb0 a0 a1 hm
  rcases hcs with ⟨e, hv⟩ | ⟨e, hv⟩ | ⟨e, hv⟩ | ⟨e, hv⟩ | ⟨e, e7, hv⟩
  · rw [hv]
    rw [e] at HBR
    clear e hv hk0 hk1
    go_enter Tryd.func21, Tryd.ntmps21
    go_upto_region 1 with fail
    simp only [← hW1]
    clear hW1
    go_wp2_with (first
      | (go_at_call 17; (with_reducible refine (HBR.out _).mono ?_); rintro e w1 ⟨rfl, rfl⟩)
      | (go_at_call 22; (with_reducible refine (num_any 1 _).mono ?_); rintro e w2 ⟨rfl, hb⟩; have HB2 := Lib.hid hb; obtain ⟨⟨y0, y1, y2⟩, f0, f1, f2⟩ := HCELL.out _ hb; clear hb))
    refine bodyPost_ret (results_cell_row rfl _ _ W.heap.size 24 #[.int .i64 1, .int .i64 1, .int .u64 0] (0, 0) _ rfl (HEND.out w2 ⟨1, 1, 0⟩ HB2.out).1 Tryd.underlying24 rfl infoV3) rfl ?_
    exact ⟨rfl, (HEND.out w2 ⟨1, 1, 0⟩ HB2.out).2⟩
  · rw [hv]
    rw [e] at HBR
    clear e hv hk0 hk1
    go_enter Tryd.func21, Tryd.ntmps21
    go_upto_region 1 with fail
    simp only [← hW1]
    clear hW1
    go_wp2_with (first
      | (go_at_call 17; (with_reducible refine (HBR.out _).mono ?_); rintro e w1 ⟨rfl, rfl⟩)
      | (go_at_call 22; (with_reducible refine (num_any 2 _).mono ?_); rintro e w2 ⟨rfl, hb⟩; have HB2 := Lib.hid hb; obtain ⟨⟨y0, y1, y2⟩, f0, f1, f2⟩ := HCELL.out _ hb; clear hb))
    refine bodyPost_ret (results_cell_row rfl _ _ W.heap.size 24 #[.int .i64 1, .int .i64 2, .int .u64 0] (0, 0) _ rfl (HEND.out w2 ⟨1, 2, 0⟩ HB2.out).1 Tryd.underlying24 rfl infoV3) rfl ?_
    exact ⟨rfl, (HEND.out w2 ⟨1, 2, 0⟩ HB2.out).2⟩
  · rw [hv]
    rw [e] at HBR
    clear e hv hk0 hk1
    go_enter Tryd.func21, Tryd.ntmps21
    go_upto_region 1 with fail
    simp only [← hW1]
    clear hW1
    go_wp2_with (first
      | (go_at_call 17; (with_reducible refine (HBR.out _).mono ?_); rintro e w1 ⟨rfl, rfl⟩)
      | (go_at_call 22; (with_reducible refine (num_any 4 _).mono ?_); rintro e w2 ⟨rfl, hb⟩; have HB2 := Lib.hid hb; obtain ⟨⟨y0, y1, y2⟩, f0, f1, f2⟩ := HCELL.out _ hb; clear hb))
    refine bodyPost_ret (results_cell_row rfl _ _ W.heap.size 24 #[.int .i64 1, .int .i64 4, .int .u64 0] (0, 0) _ rfl (HEND.out w2 ⟨1, 4, 0⟩ HB2.out).1 Tryd.underlying24 rfl infoV3) rfl ?_
    exact ⟨rfl, (HEND.out w2 ⟨1, 4, 0⟩ HB2.out).2⟩
  · rw [hv]
    rw [e] at HBR
    clear e hv hk0 hk1
    go_enter Tryd.func21, Tryd.ntmps21
    go_upto_region 1 with fail
    simp only [← hW1]
    clear hW1
    go_wp2_with (first
      | (go_at_call 17; (with_reducible refine (HBR.out _).mono ?_); rintro e w1 ⟨rfl, rfl⟩)
      | (go_at_call 22; (with_reducible refine (num_any 8 _).mono ?_); rintro e w2 ⟨rfl, hb⟩; have HB2 := Lib.hid hb; obtain ⟨⟨y0, y1, y2⟩, f0, f1, f2⟩ := HCELL.out _ hb; clear hb))
    refine bodyPost_ret (results_cell_row rfl _ _ W.heap.size 24 #[.int .i64 1, .int .i64 8, .int .u64 0] (0, 0) _ rfl (HEND.out w2 ⟨1, 8, 0⟩ HB2.out).1 Tryd.underlying24 rfl infoV3) rfl ?_
    exact ⟨rfl, (HEND.out w2 ⟨1, 8, 0⟩ HB2.out).2⟩
  · rw [hv]
    obtain ⟨k, hk⟩ : ∃ k, a % 7 = k := ⟨_, rfl⟩
    rw [hk] at HBR e e7
    have hk4 : ¬ k < 4 := by omega
    clear hk hk0 hk1 hv e e7
    go_enter Tryd.func21, Tryd.ntmps21
    go_upto_region 1 with fail
    simp only [← hW1]
    clear hW1
    go_wp2_with (first
      | (go_at_call 17; (with_reducible refine (HBR.out _).mono ?_); rintro e w1 ⟨rfl, rfl⟩)
      | (go_at_call 17; (with_reducible refine (HBA.out _).mono ?_); rintro e w1 ⟨rfl, rfl⟩)
      | (go_at_call 18; (with_reducible refine (text_any _ _).mono ?_); rintro e w2 ⟨rfl, hb⟩; have HB2 := Lib.hid hb; obtain ⟨⟨y0, y1, y2⟩, f0, f1, f2⟩ := HCELL.out _ hb; clear hb))
    refine bodyPost_ret (results_cell_row rfl _ _ W.heap.size 24 #[.int .i64 5, .int .i64 1, .int .u64 m] (0, 0) _ rfl (HEND.out w2 ⟨5, 1, m⟩ HB2.out).1 Tryd.underlying24 rfl infoV3) rfl ?_
    exact ⟨rfl, (HEND.out w2 ⟨5, 1, m⟩ HB2.out).2⟩
end Go.Proofs.YtaeboneddndfkaaDoor
