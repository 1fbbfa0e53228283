/-
  What is proved here: the contract of b64.Get; condition: a string of at most 65536 bytes.
-/
import Derived.Test.YtddgmpmfdgfcdaaGet
import Derived.Scope
import Derived.WalkMore
import Derived.ScopeJumps
import Derived.OwnWalk
namespace Go.Proofs.Ytddgmpmfdgfcdaa
open Go.RowKit Bs

/-- What is left to decode, with what has been decoded. -/
def fin (acc : List UInt8) (k : Nat) (r : List UInt8) : Option (List UInt8) × Nat :=
  if acc.length % 3 = 0 then (match dec r with
    | (none, j) => (none, k + j)
    | (some q, _) => (some (acc ++ q), 0)) else (if r = [] then (some acc, 0) else (none, k))
theorem fin_nil (acc : List UInt8) (k : Nat) : fin acc k [] = (some acc, 0) := by
  unfold fin
  split
  · simp [dec]
  · rfl
theorem fin_pad {acc r : List UInt8} {k : Nat} (h : acc.length % 3 ≠ 0) (hr : r ≠ []) : fin acc k r = (none, k) := by
  unfold fin
  rw [if_neg h, if_neg hr]
theorem grp_four (c0 c1 c2 c3 : UInt8) (t : List UInt8) : grp (c0 :: c1 :: c2 :: c3 :: t) = grp [c0, c1, c2, c3] := rfl
theorem dec_err {r : List UInt8} {n : Nat} (hr : r ≠ []) (h : grp r = (none, n)) : dec r = (none, n) := by
  rcases r with _ | ⟨c0, _ | ⟨c1, _ | ⟨c2, _ | ⟨c3, t⟩⟩⟩⟩
  · exact absurd rfl hr
  · unfold dec; rw [h]
  · unfold dec; rw [h]
  · unfold dec; rw [h]
  · rw [grp_four] at h
    unfold dec
    rw [h]
theorem fin_err {acc r : List UInt8} {k n : Nat} (h : acc.length % 3 = 0) (hr : r ≠ []) (hg : grp r = (none, n)) : fin acc k r = (none, k + n) := by
  unfold fin
  rw [if_pos h, dec_err hr hg]
theorem grp_len {l p : List UInt8} {n : Nat} (h : grp l = (some p, n)) : 4 ≤ l.length ∧ (p.length = 1 ∨ p.length = 2 ∨ p.length = 3) := by
  rcases l with _ | ⟨c0, _ | ⟨c1, _ | ⟨c2, _ | ⟨c3, t⟩⟩⟩⟩
  · simp [grp] at h
  · rcases h0 : nu c0 with _ | v0 <;> simp [grp, h0] at h
  · rcases h0 : nu c0 with _ | v0
    · simp [grp, h0] at h
    · rcases h1 : nu c1 with _ | v1 <;> simp [grp, h0, h1] at h
  · rcases h0 : nu c0 with _ | v0
    · simp [grp, h0] at h
    · rcases h1 : nu c1 with _ | v1
      · simp [grp, h0, h1] at h
      · rcases h2 : nu c2 with _ | v2
        · simp only [grp, h0, h1, h2] at h
          split at h <;> simp at h
        · simp [grp, h0, h1, h2] at h
  · refine ⟨by simp, ?_⟩
    obtain ⟨_, hp⟩ := grp_some h
    cases hp with
    | three => exact .inr (.inr rfl)
    | two => exact .inr (.inl rfl)
    | one => exact .inl rfl
theorem fin_ok {acc r p : List UInt8} {k n : Nat} (h : acc.length % 3 = 0) (hg : grp r = (some p, n)) : fin acc k r = fin (acc ++ p) (k + 4) (r.drop 4) := by
  have hl := grp_len hg
  rcases r with _ | ⟨c0, _ | ⟨c1, _ | ⟨c2, _ | ⟨c3, t⟩⟩⟩⟩
  · simp at hl
  · simp at hl
  · simp at hl
  · simp at hl
  rw [grp_four] at hg
  unfold fin
  rw [if_pos h]
  simp only [List.drop_succ_cons, List.drop_zero, List.length_append]
  by_cases h3 : p.length < 3
  · rw [if_neg (by omega)]
    by_cases ht : t = []
    · subst ht
      simp [dec, hg, h3]
    · simp [dec, hg, h3, ht]
  · rw [if_pos (by omega)]
    rcases hd : dec t with ⟨_ | q, j⟩
    · simp [dec, hg, h3, hd]
      omega
    · simp [dec, hg, h3, hd]
theorem dec_fin (l : List UInt8) : fin [] 0 l = dec l := by
  unfold fin
  rw [if_pos (show ([] : List UInt8).length % 3 = 0 from rfl)]
  rcases hd : dec l with ⟨_ | q, j⟩
  · simp
  · have : j = 0 := (enc_dec l q j hd).1
    simp [this]

/-- Between two groups. -/
def GI (w0 : World) (s : ByteArray) (v : Value) (k R : Nat) (acc : List UInt8) (w' : World) : Prop :=
  acc.length ≤ k ∧ Own w' w0.heap.size v acc ∧ (∃ a b c, Blk w' R 46 #[a, b, c]) ∧ w0.heap.size ≤ R ∧ Below w0.heap.size w0 w' ∧ fin acc k (s.data.toList.drop k) = dec s.data.toList
def JG (w0 : World) (s : ByteArray) (a' : Act) (w' : World) : Prop :=
  ∃ (v : Value) (k R : Nat) (acc : List UInt8) (u1 u6 u7 u8 u9 u10 u11 u12 u13 u14 u15 u16 u17 u18 u19 u20 u21 u22 u23 u24 u25 u26 u27 u28 u29 u30 u31 u32 u33 u34 u35 u36 u37 u38 : Value), a' = { tmps := #[.string s, u1, v, .int .i64 k, .int .i64 0, .pointer (some ⟨R, 0, none⟩), u6, u7, u8, u9, u10, u11, u12, u13, u14, u15, u16, u17, u18, u19, u20, u21, u22, u23, u24, u25, u26, u27, u28, u29, u30, u31, u32, u33, u34, u35, u36, u37, u38], defers := [] } ∧ k ≤ s.size ∧ GI w0 s v k R acc w'
/-- What Get answers. -/
def DR (w0 : World) (l : List UInt8) (e : Ending) (w' : World) : Prop :=
  ∃ v, e = .returned (.tuple #[v, .int .i64 ((dec l).2 : Nat), .int .i64 (if (dec l).1.isSome then 0 else 50)]) ∧ Own w' w0.heap.size v ((dec l).1.getD []) ∧ Below w0.heap.size w0 w'
theorem wp_scope_passes {P : Program} {a : Act} {w : World} {Q : Exit → Act → World → Prop} {c rest : Code} (l : Nat) (J : Act → World → Prop) (μ : Act → World → Nat) (hf : findLabel c l = some (Code.skip.seq rest))
    (pass : ∀ a w, J a w → rest.wp P (Exit.jump l (fun a' w' => J a' w' ∧ μ a' w' < μ a w) Q) a w)
    (first : (∀ a w, J a w → rest.wp P (Exit.jump l J Q) a w) → c.wp P (Exit.jump l J Q) a w) : (Code.scope c).wp P Q a w := by
  refine wp_scope_jumps l J μ hf (first fun a w h => wp_mono (pass a w h) ?_) (fun a w h => wp_seq (wp_skip (pass a w h)))
  intro e a w h
  cases e with
  | goto l' => exact ⟨h.1, h.2.1⟩
  | _ => exact h
theorem dr_ok {w0 w' : World} {s : ByteArray} {v : Value} {k R : Nat} {acc : List UInt8} (h : GI w0 s v k R acc w') (hk : k = s.size) :
    DR w0 s.data.toList (.returned (.tuple #[v, .int .i64 0, .int .i64 0])) w' := by
  obtain ⟨_, ho, _, _, hb, hf⟩ := h
  rw [List.drop_of_length_le (by rw [hk, Lib.size_eq]; exact Nat.le_refl _), fin_nil] at hf
  refine ⟨v, ?_, ?_, hb⟩
  · rw [← hf]; rfl
  · rw [← hf]; exact ho
theorem dr_err {w0 w' : World} {l : List UInt8} {n : Nat} (h : dec l = (none, n)) (hb : Below w0.heap.size w0 w') :
    DR w0 l (.returned (.tuple #[.slice none 0 0, .int .i64 (n : Nat), .int .i64 50])) w' := by
  refine ⟨.slice none 0 0, ?_, ?_, hb⟩
  · rw [h]; rfl
  · rw [h]; exact World.ownsRow_nil _ _ _ _
theorem ext_drop (s : ByteArray) (k : Nat) : (s.extract k s.size).data.toList = s.data.toList.drop k := by
  rw [ByteArray.data_extract, Array.toList_extract, List.extract_eq_take_drop, List.take_of_length_le]
  rw [List.length_drop, Lib.size_eq]
  exact Nat.le_refl _
theorem grp_none_lt {l : List UInt8} {n : Nat} (h : grp l = (none, n)) : n < 4 := by
  rcases l with _ | ⟨c0, l1⟩
  · simp [grp] at h; omega
  rcases h0 : nu c0 with _ | v0
  · simp [grp, h0] at h; omega
  rcases l1 with _ | ⟨c1, l2⟩
  · simp [grp, h0] at h; omega
  rcases h1 : nu c1 with _ | v1
  · simp [grp, h0, h1] at h; omega
  rcases l2 with _ | ⟨c2, l3⟩
  · simp [grp, h0, h1] at h; omega
  rcases h2 : nu c2 with _ | v2
  · simp only [grp, h0, h1, h2] at h
    split at h
    · split at h
      · simp at h; omega
      · split at h <;> simp at h <;> omega
    · simp at h; omega
  rcases l3 with _ | ⟨c3, l4⟩
  · simp [grp, h0, h1, h2] at h; omega
  rcases h3 : nu c3 with _ | v3
  · simp only [grp, h0, h1, h2, h3] at h
    split at h <;> simp at h <;> omega
  · simp [grp, h0, h1, h2, h3] at h
theorem gp_none_inv {w w' : World} {R n : Nat} {l : List UInt8} {e : Ending} (hg : grp l = (none, n)) (h : GP w R l e w') : e = .returned (.tuple #[.slice none 0 0, .int .i64 (n : Nat)]) ∧ w.grownBy w' (some R) := by
  obtain ⟨v, rfl, _, h2, _, h4 | ⟨p, hp, _⟩⟩ := h
  · obtain ⟨_, _, rfl⟩ := h4
    exact ⟨by rw [hg], h2⟩
  · rw [hg] at hp; cases hp
theorem gp_some_inv {w w' : World} {R n : Nat} {l p : List UInt8} {e : Ending} (hg : grp l = (some p, n)) (h : GP w R l e w') :
    e = .returned (.tuple #[.slice (some ⟨R, 0, none⟩) p.length p.length, .int .i64 4]) ∧ w.grownBy w' (some R) ∧ (∃ a b c, Blk w' R 46 #[a, b, c]) ∧ Rds w' (some ⟨R, 0, none⟩) p.length p.length p := by
  obtain ⟨v, rfl, h1, h2, _, ⟨hp, _⟩ | ⟨p', hp, h4, rfl, hr⟩⟩ := h
  · rw [hg] at hp; cases hp
  · rw [hg] at hp h4
    injection hp with hp
    subst hp
    dsimp only at h4
    subst h4
    exact ⟨by rw [hg]; rfl, h2, h1, hr⟩
theorem own_shape {w : World} {B : Nat} {v : Value} {xs : List UInt8} (h : Own w B v xs) : ∃ A c, v = .slice A xs.length c := by
  rcases h.2 with ⟨rfl, h0⟩ | ⟨g, cap, cur, rfl, _⟩
  · exact ⟨none, 0, by rw [h0]⟩
  · exact ⟨_, cap, rfl⟩
set_option maxHeartbeats 4000000 in
set_option maxRecDepth 100000 in
theorem get_any (s : ByteArray) (w : World) (hs : s.size ≤ 65536) :
    Calls Try.prog 17 #[.string s] w (DR w s.data.toList) := by
  obtain ⟨iu, hiu, hz0, hz1, hz2⟩ := info_parts Try.infoU8
  have HI := Lib.hid hiu
  have HM := Lib.hid (show (s.size : Int) / 4 * 3 = ((s.size / 4 * 3 : Nat) : Int) by omega)
  have hmb := Lib.hid (show s.size / 4 * 3 ≤ 65536 by omega)
  clear hiu
  go_enter Try.func17, Try.ntmps17
  go_wp2
  refine wp_scope_passes 0 (JG w s) (fun a' _ => s.size + 1 - (intOf (a'.tmps.getD 3 undef)).toNat) rfl ?_ ?_
  · rintro a' w' ⟨v, k, R, acc, u1, u6, u7, u8, u9, u10, u11, u12, u13, u14, u15, u16, u17, u18, u19, u20, u21, u22, u23, u24, u25, u26, u27, u28, u29, u30, u31, u32, u33, u34, u35, u36, u37, u38, rfl, hk, hGI⟩
    have HG := Lib.hid hGI
    obtain ⟨A, c, rfl⟩ := own_shape hGI.2.1
    clear hGI
    by_cases he : k = s.size
    · have d1 : ((k : Int) == (s.size : Int)) = true := by simp; omega
      have d2 : (k == s.size) = true := by simp; omega
      have HE := Lib.hid he
      clear he
      go_wp2
      simp only [Exit.jump]
      go_ret3
      exact dr_ok HG.out HE.out
    · have hlt : k < s.size := by omega
      have d1 : ((k : Int) == (s.size : Int)) = false := by simp; omega
      have d2 : (k == s.size) = false := by simp; omega
      have hne : s.data.toList.drop k ≠ [] := by
        intro h
        have := congrArg List.length h
        rw [List.length_drop, ← Lib.size_eq] at this
        simp at this
        omega
      have HNE := Lib.hid hne
      clear hne he
      by_cases hm : acc.length % 3 = 0
      · have d3 : (((acc.length : Int) % 3) == 0) = true := by rw [beq_iff_eq]; omega
        obtain ⟨a, b, c', hblk⟩ := HG.out.2.2.1
        have hgg := getGroup_any (s.extract k s.size) R a b c' w' hblk
        rw [ext_drop] at hgg
        have hne' := own_ne (t := 46) HG.out.2.1 hblk (by decide)
        have HNR := Lib.hid hne'
        have HM3 := Lib.hid hm
        clear hm hblk hne'
        rcases hgr : grp (s.data.toList.drop k) with ⟨_ | p, n⟩
        · have HGG := Lib.hid (fun e w2 h => gp_none_inv (w := w') (e := e) (w' := w2) (R := R) hgr h)
          have HC := Lib.hid hgg
          have HGR := Lib.hid hgr
          have hn4 : n < 4 := grp_none_lt hgr
          have d4 : decide ((n : Int) < 4) = true := decide_eq_true (by omega)
          clear hgg hgr
          go_wp2_with (go_at_call 27; refine HC.out.mono ?_; intro e w2 hgp; obtain ⟨rfl, hg2⟩ := HGG.out e w2 hgp; have HG2 := Lib.hid hg2; clear hgp hg2)
          simp only [Exit.jump]
          go_ret3
          have h := HG.out
          have hf := h.2.2.2.2.2
          rw [fin_err HM3.out HNE.out HGR.out] at hf
          exact dr_err hf.symm (h.2.2.2.2.1.grown HG2.out (h.2.2.2.2.1.size) (fun j hj => by injection hj with hj; rw [← hj]; exact h.2.2.2.1))
        · have HGG := Lib.hid (fun e w2 h => gp_some_inv (w := w') (e := e) (w' := w2) (R := R) hgr h)
          have HC := Lib.hid hgg
          have HGR := Lib.hid hgr
          have hpl := grp_len hgr
          rw [List.length_drop, ← Lib.size_eq] at hpl
          have hal := HG.out.1
          clear hgg hgr
          go_wp2_with (first
            | (go_at_call 27; refine HC.out.mono ?_; intro e w2 hgp; obtain ⟨rfl, hg2, hb2, hrd⟩ := HGG.out e w2 hgp; have HG2 := Lib.hid hg2; have HB2 := Lib.hid hb2; have HRD := Lib.hid hrd; have HOW := Lib.hid (own_keep HG.out.2.1 (fun j hj => hg2.block j ((HG.out.2.1.lt j hj).2) (fun e => HNR.out (hj.trans e)))); clear hgp hg2 hb2 hrd)
            | (at_builtin; refine wpList_app (xs := acc) (ys := p) rfl (.tmp 36) (.tmp 37) rfl rfl rfl rfl HOW.out HRD.out.cells (by omega) (Nat.le_trans HG.out.2.2.2.2.1.size HG2.out.size) ?_; intro v3 w3 hown3 hgr3; have HO3 := Lib.hid hown3; have HG3 := Lib.hid hgr3; clear hown3 hgr3))
          go_step3
          rw [show (k : Int) + 4 = ((k + 4 : Nat) : Int) by omega]
          have h := HG.out
          have hf := h.2.2.2.2.2
          rw [fin_ok HM3.out HGR.out, List.drop_drop] at hf
          have hb2 := h.2.2.2.2.1.grown HG2.out (h.2.2.2.2.1.size) (fun j hj => by injection hj with hj; rw [← hj]; exact h.2.2.2.1)
          obtain ⟨a, b, c', hblk⟩ := HB2.out
          refine ⟨rfl, ⟨_, k + 4, R, acc ++ p, _, _, _, _, _, _, _, _, _, _, _, _, _, _, _, _, _, _, _, _, _, _, _, _, _, _, _, _, _, _, _, _, _, _, rfl, by omega, ?_⟩, ?_⟩
          · exact ⟨by rw [List.length_append]; omega, HO3.out, ⟨a, b, c', hblk.grown HG3.out.1 (fun e => HNR.out e.symm)⟩, h.2.2.2.1, hb2.grown HG3.out.1 hb2.size (own_base HOW.out), hf⟩
          · simp [intOf]
            omega
      · have d3 : (((acc.length : Int) % 3) == 0) = false := by rw [Bool.eq_false_iff]; rw [ne_eq, beq_iff_eq]; omega
        have HM3 := Lib.hid hm
        clear hm
        go_wp2
        simp only [Exit.jump]
        go_ret3
        have h := HG.out
        exact dr_err (h.2.2.2.2.2 ▸ fin_pad HM3.out HNE.out) h.2.2.2.2.1
  · intro hpass
    go_wp2_with (at_make; go_loud (refine wpList_make_own w rfl _ _ 22 rfl w.heap.size 5 iu (.int .u8 0) 1 Try.underlying22 HI.out hz0 hz1 .i64 .i64 _ (s.size / 4 * 3) rfl rfl HM.out (by rw [hz2]; have := hmb.out; omega) (by have := hmb.out; unfold maxLen; omega) (Nat.le_refl _) ?_); intro w1 ho hg; have HO := Lib.hid ho; have HGr := Lib.hid hg; clear ho hg)
    go_step3
    rename_i K hK
    have hlt : w.heap.size < w1.heap.size := by have := HO.out.lt w.heap.size rfl; omega
    have hbl : Below w.heap.size w w1 := (Below.refl _ w).grown HGr.out (Nat.le_refl _) (fun j hj => by cases hj)
    refine hK _ _ ?_
    refine hpass _ _ ?_
    refine ⟨_, 0, _, [], _, _, _, _, _, _, _, _, _, _, _, _, _, _, _, _, _, _, _, _, _, _, _, _, _, _, _, _, _, _, _, _, _, _, rfl, Nat.zero_le _, Nat.le_refl _, own_keep HO.out (fun j hj => Below.heap_alloc _ _ _ ((HO.out.lt j hj).2)), ⟨_, _, _, Blk.new w1 46 _⟩, by omega, hbl.alloc hbl.size _, by rw [List.drop_zero]; exact dec_fin _⟩
end Go.Proofs.Ytddgmpmfdgfcdaa
