/-
  What is proved here: calls on a nil buffer and on a zero one do nothing, and a list of calls that a law has laid down reads as that list; no condition but those that each fact states.
-/
import Derived.Test.YtkcmpakcahemcaaPlaysW
namespace Go.Proofs.Ytkcmpakcahemcaa
open Go.RowKit Le

/-- A nil buffer, or a zero one. -/
def NB (w : World) (pv : Value) : Prop := pv = .pointer none ∨ ∃ g, pv = .pointer (some ⟨g, 0, none⟩) ∧ Bx w g 55 #[.bool false, .int .i64 0, .slice none 0 0, .int .i64 0]
theorem NB.below {w w' : World} {pv : Value} (h : NB w pv) (hb : Below w.heap.size w w') : NB w' pv := by
  rcases h with h | ⟨g, h1, h2⟩
  · exact .inl h
  · exact .inr ⟨g, h1, h2.below hb h2.lt⟩
section
variable {w : World} {pv : Value}
theorem err_N (h : NB w pv) : Calls Try.prog 17 #[pv] w fun e w' => e = .returned (.int .i64 1) ∧ w = w' := by
  rcases h with rfl | ⟨g, rfl, hb⟩
  · go_enter Try.func17, Try.ntmps17
    go_wp2
    go_ret
    exact ⟨rfl, rfl⟩
  · have c0 : w.cell? ⟨g, 0, none⟩ = some (.bool false) := hb.cell 0
    clear hb
    go_enter Try.func17, Try.ntmps17
    go_wp2
    go_ret
    exact ⟨rfl, rfl⟩
theorem len_N0 (h : NB w pv) : Calls Try.prog 16 #[pv] w fun e w' => e = .returned (.int .i64 0) ∧ w = w' := by
  rcases h with rfl | ⟨g, rfl, hb⟩
  · go_enter Try.func16, Try.ntmps16
    go_wp2
    go_ret
    exact ⟨rfl, rfl⟩
  · have c0 : w.cell? ⟨g, 2, none⟩ = some (.slice none 0 0) := hb.cell 2
    clear hb
    go_enter Try.func16, Try.ntmps16
    go_wp2
    go_ret
    exact ⟨rfl, rfl⟩
theorem bytes_N (h : NB w pv) : Calls Try.prog 13 #[pv] w fun e w' => e = .returned (.tuple #[.slice none 0 0, .int .i64 1]) ∧ w = w' := by
  have HE := Lib.hid (err_N h)
  clear h
  go_enter Try.func13, Try.ntmps13
  go_wp2_with (go_at_call 17; refine HE.out.mono ?_; rintro e w1 ⟨rfl, rfl⟩)
  go_ret2
  exact ⟨rfl, rfl⟩
theorem attI_N (h : NB w pv) (e0 : Int) (fv sv : Value) : Calls Try.prog 35 #[pv, .int .i64 e0, fv, sv] w fun e w' => e = .returned (.tuple #[]) ∧ w = w' := by
  have HE := Lib.hid (err_N h)
  clear h
  go_enter Try.func35, Try.ntmps35
  go_wp2_with (go_at_call 17; refine HE.out.mono ?_; rintro e w1 ⟨rfl, rfl⟩)
  first | go_end0 | refine bodyPost_ret (results_none rfl _ _ _) rfl ?_
  exact ⟨rfl, rfl⟩
theorem attS_N (h : NB w pv) (e0 : Int) (fv sv : Value) : Calls Try.prog 37 #[pv, .int .i64 e0, fv, sv] w fun e w' => e = .returned (.tuple #[]) ∧ w = w' := by
  have HE := Lib.hid (err_N h)
  clear h
  go_enter Try.func37, Try.ntmps37
  go_wp2_with (go_at_call 17; refine HE.out.mono ?_; rintro e w1 ⟨rfl, rfl⟩)
  first | go_end0 | refine bodyPost_ret (results_none rfl _ _ _) rfl ?_
  exact ⟨rfl, rfl⟩
theorem NB.shape (h : NB w pv) : pv = .pointer none ∨ ∃ g, pv = .pointer (some ⟨g, 0, none⟩) := by
  rcases h with h | ⟨g, h, _⟩
  · exact .inl h
  · exact .inr ⟨g, h⟩
theorem cut_N (h : NB w pv) (n : Int) : Calls Try.prog 22 #[pv, .int .i64 n] w fun e w' => e = .returned (.tuple #[]) ∧ Below w.heap.size w w' := by
  have HE := Lib.hid (attI_N h)
  rcases h.shape with rfl | ⟨g, rfl⟩
  all_goals
    clear h
    go_enter Try.func22, Try.ntmps22
    go_wp2_with (go_at_call 35; refine (HE.out _ _ _).mono ?_; rintro e w1 ⟨rfl, rfl⟩)
    go_end0
    exact ⟨rfl, Below.refl _ _⟩
theorem text_N (h : NB w pv) (sv : Value) : Calls Try.prog 23 #[pv, sv] w fun e w' => e = .returned (.tuple #[]) ∧ Below w.heap.size w w' := by
  have HE := Lib.hid (attS_N h)
  rcases h.shape with rfl | ⟨g, rfl⟩
  all_goals
    clear h
    go_enter Try.func23, Try.ntmps23
    go_wp2_with (go_at_call 37; refine (HE.out _ _ _).mono ?_; rintro e w1 ⟨rfl, rfl⟩)
    go_end0
    exact ⟨rfl, Below.refl _ _⟩
theorem align_N (h : NB w pv) (x : Int) : Calls Try.prog 25 #[pv, .int .i64 x] w fun e w' => e = .returned (.tuple #[]) ∧ w = w' := by
  have HE := Lib.hid (attI_N h)
  have HL := Lib.hid (len_N0 h)
  have HU := Lib.hid (Wd.up_any 0 x w)
  obtain ⟨u1, hu1⟩ : ∃ u1, u1 = Wd.upV 0 x := ⟨_, rfl⟩
  obtain ⟨u2, hu2⟩ : ∃ u2, u2 = Wd.upE 0 x := ⟨_, rfl⟩
  rw [← hu1, ← hu2] at HU
  clear h hu1 hu2
  go_enter Try.func25, Try.ntmps25
  go_wp2_with (first
    | (go_at_call 16; refine HL.out.mono ?_; rintro e w1 ⟨rfl, rfl⟩)
    | (go_at_call 39; refine HU.out.mono ?_; rintro e w1 ⟨rfl, rfl⟩)
    | (go_at_call 35; refine (HE.out _ _ _).mono ?_; rintro e w1 ⟨rfl, rfl⟩))
  go_end0
  exact ⟨rfl, rfl⟩
theorem num_N (h : NB w pv) (x : Int) (u : Nat) : Calls Try.prog 26 #[pv, .int .i64 x, .int .u64 (u : Int)] w fun e w' => e = .returned (.tuple #[]) ∧ Below w.heap.size w w' := by
  have HP := Lib.hid (put_any (.slice none 0 0) [] x u w (Rd.nil _ _ _) (by simp))
  have HE : Hid (∀ W, Below w.heap.size w W → ∀ e0 fv sv, Calls Try.prog 37 #[pv, .int .i64 e0, fv, sv] W fun e w' => e = .returned (.tuple #[]) ∧ W = w') := Lib.hid fun W hW => attS_N (h.below hW)
  obtain ⟨e0, he0⟩ : ∃ e0, putE x u = e0 := ⟨_, rfl⟩
  obtain ⟨ys, hys⟩ : ∃ ys, putL [] x (u : Int) = ys := ⟨_, rfl⟩
  rw [he0, hys] at HP
  clear h he0 hys
  go_enter Try.func26, Try.ntmps26
  go_wp2_with (first
    | (go_at_call 41; refine HP.out.mono ?_; rintro e w1 ⟨vp, rfl, hop, hbp⟩; obtain ⟨AP, np, cq, rfl, hrp⟩ := Rd.of_own hop; have hcv := run_str hrp; have HBP := Lib.hid hbp; clear hop hbp hrp)
    | (go_at_call 37; refine (HE.out _ (HBP.out.alloc HBP.out.size _) _ _ _).mono ?_; rintro e w3 ⟨rfl, rfl⟩))
  go_end0
  exact ⟨rfl, HBP.out.alloc HBP.out.size _⟩
set_option maxRecDepth 20000 in
theorem does_N (h : NB w pv) (K W N : Int) (U : Nat) (S : ByteArray) (hK : -9223372036854775808 ≤ K) (hK2 : K ≤ 9223372036854775807) (hS : S.size ≤ 9223372036854775807) :
    Calls Try.prog 11 #[pv, .agg #[.int .i64 K, .int .i64 W, .int .i64 N, .int .u64 (U : Int), .string S]] w fun e w' => e = .returned (.tuple #[]) ∧ Below w.heap.size w w' := by
  have H1 := Lib.hid fun W1 => bring_any K 5 W1 hK hK2 (by omega) (by omega)
  have H2 : Hid (∀ W1, Calls Try.prog 24 #[.string S, .int .i64 40] W1 fun e w' => e = .returned (.string (str (shL S))) ∧ W1 = w') := Lib.hid fun W1 => short_any S 40 W1 hS
  have HA : Hid (∀ o, Calls Try.prog 25 #[pv, .int .i64 W] (w.alloc o) fun e w' => e = .returned (.tuple #[]) ∧ Below w.heap.size w w') := Lib.hid fun o => (align_N (h.below ((Below.refl _ _).alloc (Nat.le_refl _) o)) W).mono fun e w' ⟨h1, h2⟩ => ⟨h1, by rw [← h2]; exact (Below.refl _ _).alloc (Nat.le_refl _) o⟩
  have HC : Hid (∀ o, Calls Try.prog 22 #[pv, .int .i64 N] (w.alloc o) fun e w' => e = .returned (.tuple #[]) ∧ Below w.heap.size w w') := Lib.hid fun o => (cut_N (h.below ((Below.refl _ _).alloc (Nat.le_refl _) o)) N).mono fun e w' ⟨h1, h2⟩ => ⟨h1, ((Below.refl _ w).alloc (Nat.le_refl _) o).trans (h2.mono (by simp))⟩
  have HNU : Hid (∀ o, Calls Try.prog 26 #[pv, .int .i64 W, .int .u64 (U : Int)] (w.alloc o) fun e w' => e = .returned (.tuple #[]) ∧ Below w.heap.size w w') := Lib.hid fun o => (num_N (h.below ((Below.refl _ _).alloc (Nat.le_refl _) o)) W U).mono fun e w' ⟨h1, h2⟩ => ⟨h1, ((Below.refl _ w).alloc (Nat.le_refl _) o).trans (h2.mono (by simp))⟩
  have HT : Hid (∀ o o' sv, Calls Try.prog 23 #[pv, sv] ((w.alloc o).alloc o') fun e w' => e = .returned (.tuple #[]) ∧ Below w.heap.size w w') := Lib.hid fun o o' sv =>
    have hb : Below w.heap.size w ((w.alloc o).alloc o') := ((Below.refl _ w).alloc (Nat.le_refl _) o).alloc (by simp) o'
    (text_N (h.below hb) sv).mono fun e w' ⟨h1, h2⟩ => ⟨h1, hb.trans (h2.mono hb.size)⟩
  rcases five K with h5 | h5 | h5 | h5 | h5
  · rw [h5] at H1
    clear h h5
    go_enter Try.func11, Try.ntmps11
    go_wp2_with (first
      | (go_at_call 24; (with_reducible refine (H2.out _).mono ?_); rintro e w1 ⟨rfl, rfl⟩)
      | (go_at_call 21; (with_reducible refine (H1.out _).mono ?_); rintro e w1 ⟨rfl, rfl⟩)
      | (go_at_call 25; (with_reducible refine (HA.out _).mono ?_); rintro e w3 ⟨rfl, hb⟩; have HB3 := Lib.hid hb; clear hb))
    go_end0
    exact ⟨rfl, HB3.out⟩
  · rw [h5] at H1
    clear h h5
    go_enter Try.func11, Try.ntmps11
    go_wp2_with (first
      | (go_at_call 24; (with_reducible refine (H2.out _).mono ?_); rintro e w1 ⟨rfl, rfl⟩)
      | (go_at_call 21; (with_reducible refine (H1.out _).mono ?_); rintro e w1 ⟨rfl, rfl⟩)
      | (go_at_call 26; (with_reducible refine (HNU.out _).mono ?_); rintro e w3 ⟨rfl, hb⟩; have HB3 := Lib.hid hb; clear hb))
    go_end0
    exact ⟨rfl, HB3.out⟩
  · rw [h5] at H1
    clear h h5
    go_enter Try.func11, Try.ntmps11
    go_wp2_with (first
      | (go_at_call 24; (with_reducible refine (H2.out _).mono ?_); rintro e w1 ⟨rfl, rfl⟩)
      | (go_at_call 21; (with_reducible refine (H1.out _).mono ?_); rintro e w1 ⟨rfl, rfl⟩)
      | (go_at_call 23; (with_reducible refine (HT.out _ _ _).mono ?_); rintro e w3 ⟨rfl, hb⟩; have HB3 := Lib.hid hb; clear hb))
    go_end0
    exact ⟨rfl, HB3.out⟩
  · rw [h5] at H1
    clear h h5
    go_enter Try.func11, Try.ntmps11
    go_wp2_with (first
      | (go_at_call 24; (with_reducible refine (H2.out _).mono ?_); rintro e w1 ⟨rfl, rfl⟩)
      | (go_at_call 21; (with_reducible refine (H1.out _).mono ?_); rintro e w1 ⟨rfl, rfl⟩)
      | (go_at_call 22; (with_reducible refine (HC.out _).mono ?_); rintro e w3 ⟨rfl, hb⟩; have HB3 := Lib.hid hb; clear hb))
    go_end0
    exact ⟨rfl, HB3.out⟩
  · rw [h5] at H1
    clear h h5
    go_enter Try.func11, Try.ntmps11
    go_wp2_with (first
      | (go_at_call 24; (with_reducible refine (H2.out _).mono ?_); rintro e w1 ⟨rfl, rfl⟩)
      | (go_at_call 21; (with_reducible refine (H1.out _).mono ?_); rintro e w1 ⟨rfl, rfl⟩)
      | (go_at_call 23; (with_reducible refine (HT.out _ _ _).mono ?_); rintro e w3 ⟨rfl, hb⟩; have HB3 := Lib.hid hb; clear hb))
    go_end0
    exact ⟨rfl, HB3.out⟩
end

/-- A list of calls that a law has laid down. -/
theorem RdD.new {w : World} {cs : Array Value} {n g : Nat} (L : List Dv) (hc : cs = (L.flatMap Dv.row).toArray) (hg : g = w.heap.size) (hn : n = L.length) (hL : L.length ≤ 1000) (hok : ∀ d ∈ L, okD d) :
    RdD (w.alloc (.cells cs 30)) (.slice (some ⟨g, 0, none⟩) n n) L := by
  subst hg; subst hn; subst hc
  refine ⟨_, _, _, rfl, rfl, Nat.le_refl _, by unfold maxLen; omega, hok, fun _ => ⟨_, 0, rfl, by simp, fun j d hj => ?_⟩⟩
  have hat : ∀ (L : List Dv) (j : Nat) (d : Dv) (i : Nat), L[j]? = some d → i < 5 → (L.flatMap Dv.row)[j * 5 + i]? = d.row[i]? := by
    intro L
    induction L with
    | nil => intro j d i h; simp at h
    | cons x xs ih =>
      intro j d i h hi
      have hx : x.row.length = 5 := rfl
      rcases j with _ | j
      · simp only [List.getElem?_cons_zero, Option.some.injEq] at h
        subst h
        rw [List.flatMap_cons, List.getElem?_append_left (by rw [hx]; omega)]
        simp
      · rw [List.getElem?_cons_succ] at h
        rw [List.flatMap_cons, List.getElem?_append_right (by rw [hx]; omega), hx, show (j + 1) * 5 + i - 5 = j * 5 + i by omega]
        exact ih j d i h hi
  have hcell : ∀ i, i < 5 → (w.alloc (.cells (L.flatMap Dv.row).toArray 30)).cell? ⟨w.heap.size, 0 + j * 5 + i, none⟩ = d.row[i]? := by
    intro i hi
    rw [World.cell?_alloc_new, Nat.zero_add, List.getElem?_toArray]
    exact hat L j d i hj hi
  exact ⟨(hcell 0 (by omega)).trans rfl, (hcell 1 (by omega)).trans rfl, (hcell 2 (by omega)).trans rfl, (hcell 3 (by omega)).trans rfl, (hcell 4 (by omega)).trans rfl⟩
end Go.Proofs.Ytkcmpakcahemcaa
