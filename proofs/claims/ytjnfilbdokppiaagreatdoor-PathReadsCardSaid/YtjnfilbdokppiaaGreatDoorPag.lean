/-
  What is proved here: plain facts: a literal that is read whole is not shorter than the shortest literal of its text, and equal to it if it has no backslash; the same of the text of a path; where an error of a path's text stands; no program in this text; no condition but those that each fact states.
-/
import Derived.Test.YtjnfilbdokppiaaGreatDoorPsh
import Derived.Test.YtjnfilbdokppiaaGreatDoorURdG
namespace Go.Proofs.YtjnfilbdokppiaaGreatDoor
open U U.Ut Go.Lib

theorem rn_of {R : Nat} (hs : scal R) : ∃ i : Int, rn i = R := by
  unfold scal at hs
  by_cases hr : R < 55296
  · refine ⟨(R : Int), ?_⟩
    have : brg (R : Int) = R := by unfold brg; omega
    unfold rn
    rw [this, if_pos hr]
  · refine ⟨((R - 2048 : Nat) : Int), ?_⟩
    have : brg ((R - 2048 : Nat) : Int) = R - 2048 := by unfold brg; omega
    unfold rn
    rw [this, if_neg (by omega)]
    omega
theorem txt_snoc (L : List Int) (i : Int) : txt (L ++ [i]) = txt L ++ enc (rn i) := by simp [txt]
theorem items_snoc (L : List Int) (i : Int) : itemsL (L ++ [i]) = itemsL L ++ itemR (rn i) := by simp [itemsL]
theorem itemR_six (r : Nat) : (itemR r).length ≤ 6 := by
  unfold itemR
  split
  · exact itemN_len r
  · have := (enc_len r).2; omega
theorem itemR_own {r : Nat} (h32 : 32 ≤ r) (h34 : r ≠ 34) (h92 : r ≠ 92) : itemR r = enc r := by
  unfold itemR
  split
  · have e : itemN r = [UInt8.ofNat r] := by
      unfold itemN
      rw [if_neg h34, if_neg h92, if_neg (by omega), if_neg (by omega), if_neg (by omega), if_neg (by omega), if_neg (by omega), if_neg (by omega)]
    rename_i h
    rw [e]
    unfold enc encN
    rw [if_pos h]
    rfl
  · rfl

def NoB (cs : List UInt8) : Prop := ∀ c ∈ cs, c.toNat ≠ 92
theorem NoB.left {a b : List UInt8} (h : NoB (a ++ b)) : NoB a := fun c hc => h c (List.mem_append_left _ hc)
theorem NoB.right {a b : List UInt8} (h : NoB (a ++ b)) : NoB b := fun c hc => h c (List.mem_append_right _ hc)
/-- A literal that has been read. -/
def Fin8 (cs x : List UInt8) : Prop := ∃ L : List Int, txt L = x ∧ (itemsL L).length + 2 ≤ cs.length ∧ (NoB cs → cs = 34 :: (itemsL L ++ [34]))
/-- The reader behind the bytes cs. -/
inductive J : Q → List UInt8 → Prop
  | item (L : List Int) (h : Nat) (cs : List UInt8) : (itemsL L).length + 1 ≤ cs.length → (NoB cs → cs = 34 :: itemsL L) → J (Q1 (txt L) h) cs
  | esc (L : List Int) (h : Nat) (cs : List UInt8) : (itemsL L).length + 2 ≤ cs.length → ¬ NoB cs → J ⟨3, txt L, [], 0, 0, h⟩ cs
  | one (L : List Int) (h code dig : Nat) (cs : List UInt8) : dig < 4 → code < 16 ^ dig → (itemsL L).length + 3 + dig ≤ cs.length → ¬ NoB cs → J ⟨4, txt L, [], code, dig, h⟩ cs
  | sl (L : List Int) (h : Nat) (cs : List UInt8) : 55296 ≤ h → h < 56320 → (itemsL L).length + 7 ≤ cs.length → ¬ NoB cs → J ⟨5, txt L, [], 0, 0, h⟩ cs
  | su (L : List Int) (h : Nat) (cs : List UInt8) : 55296 ≤ h → h < 56320 → (itemsL L).length + 8 ≤ cs.length → ¬ NoB cs → J ⟨6, txt L, [], 0, 0, h⟩ cs
  | two (L : List Int) (h code dig : Nat) (cs : List UInt8) : dig < 4 → code < 16 ^ dig → 55296 ≤ h → h < 56320 → (itemsL L).length + 9 + dig ≤ cs.length → ¬ NoB cs → J ⟨7, txt L, [], code, dig, h⟩ cs
theorem J.denoted (L : List Int) (h r : Nat) (cs : List UInt8) (hs : scal r) (hl : (itemsL L).length + (itemR r).length + 1 ≤ cs.length) (hn : ¬ NoB cs) : J ⟨1, txt L ++ enc r, [], 0, 0, h⟩ cs := by
  obtain ⟨i, rfl⟩ := rn_of hs
  rw [← txt_snoc]
  refine J.item (L ++ [i]) h cs ?_ (fun h => absurd h hn)
  rw [items_snoc, List.length_append]
  exact hl
theorem esc_in {c d : Nat} (h : Ut.esc c = some d) : scal d ∧ (itemR d).length ≤ 2 := by
  unfold Ut.esc at h
  repeat' split at h
  all_goals first | (injection h with h; subst h; exact ⟨by unfold scal; omega, by decide +kernel⟩) | cases h
theorem lo4 (x : Nat) : lo x 4 = x := by simp [lo]
theorem hi4 (x : Nat) : hi x 4 = x := by simp [hi]
theorem code_next {code d dig : Nat} (h : code < 16 ^ dig) (hd : d < 16) : code * 16 + d < 16 ^ (dig + 1) := by
  rw [Nat.pow_succ]
  omega
theorem J.next {q : Q} {cs : List UInt8} (hJ : J q cs) (c : UInt8) (h1 : q.st ≠ 1) (hs : (Ut.step q c).2 = 0) : J (Ut.step q c).1 (cs ++ [c]) := by
  have hnb : ∀ {cs : List UInt8}, ¬ NoB cs → ¬ NoB (cs ++ [c]) := fun hn h => hn h.left
  cases hJ with
  | item L h cs _ _ => exact absurd rfl h1
  | esc L h cs hl hn =>
    have e : Ut.step ⟨3, txt L, [], 0, 0, h⟩ c = escS ⟨3, txt L, [], 0, 0, h⟩ c.toNat := rfl
    rw [e] at hs ⊢
    unfold escS at hs ⊢
    by_cases h7 : c.toNat = 117
    · rw [if_pos h7]
      exact J.one L h 0 0 _ (by omega) (by omega) (by simp; omega) (hnb hn)
    · rw [if_neg h7] at hs ⊢
      cases hd : Ut.esc c.toNat with
      | none => rw [hd] at hs; cases hs
      | some d =>
        obtain ⟨h2, h3⟩ := esc_in hd
        exact J.denoted L h d _ h2 (by simp; omega) (hnb hn)
  | one L h code dig cs hdig hcode hl hn =>
    have e : Ut.step ⟨4, txt L, [], code, dig, h⟩ c = firstS ⟨4, txt L, [], code, dig, h⟩ c.toNat := rfl
    rw [e] at hs ⊢
    unfold firstS at hs ⊢
    cases hd : dv c.toNat with
    | none => rw [hd] at hs; cases hs
    | some d =>
      rw [hd] at hs
      have hdl := dv_lt hd
      have hcn := code_next hcode hdl
      simp only at hs ⊢
      split at hs
      · cases hs
      · rename_i g1
        rw [if_neg g1]
        split at hs
        · rename_i g2
          rw [if_pos g2]
          exact J.one L h _ _ _ (by omega) hcn (by simp; omega) (hnb hn)
        · rename_i g2
          rw [if_neg g2]
          obtain rfl : dig = 3 := by omega
          rw [lo4, hi4] at g1
          rw [lo4]
          split
          · rename_i g3
            exact J.sl L _ _ g3.1 g3.2 (by simp; omega) (hnb hn)
          · rename_i g3
            have h6 := itemR_six (code * 16 + d)
            exact J.denoted L h _ _ (by unfold scal; omega) (by simp; omega) (hnb hn)
  | sl L h cs hh1 hh2 hl hn =>
    have e : Ut.step ⟨5, txt L, [], 0, 0, h⟩ c = expS ⟨5, txt L, [], 0, 0, h⟩ c.toNat 92 6 := rfl
    rw [e] at hs ⊢
    unfold expS at hs ⊢
    split at hs
    · rename_i g; rw [if_pos g]
      exact J.su L h _ hh1 hh2 (by simp; omega) (hnb hn)
    · cases hs
  | su L h cs hh1 hh2 hl hn =>
    have e : Ut.step ⟨6, txt L, [], 0, 0, h⟩ c = expS ⟨6, txt L, [], 0, 0, h⟩ c.toNat 117 7 := rfl
    rw [e] at hs ⊢
    unfold expS at hs ⊢
    split at hs
    · rename_i g; rw [if_pos g]
      exact J.two L h 0 0 _ (by omega) (by omega) hh1 hh2 (by simp; omega) (hnb hn)
    · cases hs
  | two L h code dig cs hdig hcode hh1 hh2 hl hn =>
    have e : Ut.step ⟨7, txt L, [], code, dig, h⟩ c = secondS ⟨7, txt L, [], code, dig, h⟩ c.toNat := rfl
    rw [e] at hs ⊢
    unfold secondS at hs ⊢
    cases hd : dv c.toNat with
    | none => rw [hd] at hs; cases hs
    | some d =>
      rw [hd] at hs
      have hdl := dv_lt hd
      have hcn := code_next hcode hdl
      simp only at hs ⊢
      split at hs
      · cases hs
      · rename_i g1
        rw [if_neg g1]
        split at hs
        · rename_i g2
          rw [if_pos g2]
          exact J.two L h _ _ _ (by omega) hcn hh1 hh2 (by simp; omega) (hnb hn)
        · rename_i g2
          rw [if_neg g2]
          obtain rfl : dig = 3 := by omega
          rw [lo4, hi4] at g1
          rw [lo4]
          have h6 := itemR_six (65536 + 1024 * (h - 55296) + (code * 16 + d) - 56320)
          exact J.denoted L h _ _ (by unfold scal; omega) (by simp; omega) (hnb hn)
theorem J.st8 {q : Q} {cs : List UInt8} (hJ : J q cs) : q.st ≠ 8 := by cases hJ <;> (intro h; simp [Q1] at h)
theorem er_ne {l : List UInt8} {k e : Nat} (h : e ≠ 0) : (er l k e).2.2.2 ≠ 0 := by
  unfold er
  simp only
  split <;> omega
theorem bs_err {l T : List UInt8} {h k : Nat} (hp : ∀ c, l[k]? = some c → c.toNat ≠ 34 ∧ c.toNat ≠ 92 ∧ 32 ≤ c.toNat) (hd : (decodeL (l.drop k)).1 = 65533 ∧ (decodeL (l.drop k)).2 = 1) :
    ∀ m j : Nat, j + m = 4 → U.BS l T h k j → ∃ k', go (Q1 T h) (l.drop k) k = er l k' 40
  | 0, j, hj, hb => by
    have hf := full_len (hb.1 (by omega))
    rw [List.length_take, List.length_drop] at hf
    exact ⟨_, hb.stop (by omega)⟩
  | m + 1, j, hj, hb => by
    by_cases hl : l.length ≤ k + j
    · exact ⟨_, hb.stop hl⟩
    · obtain ⟨c, hc⟩ : ∃ c, l[k + j]? = some c := ⟨_, List.getElem?_eq_getElem (by omega)⟩
      have hp' : j = 0 → c.toNat ≠ 34 ∧ c.toNat ≠ 92 ∧ 32 ≤ c.toNat := fun e => by subst e; exact hp c hc
      cases hf : full ((l.drop k).take (j + 1)) with
      | true => exact ⟨_, hb.bad hc hp' hf hd⟩
      | false => exact bs_err hp hd m (j + 1) (by omega) (hb.next hc hp' hf)
theorem fin_go (W : List UInt8) : ∀ (f k : Nat) (q : Q), W.length - k < f → J q (W.take k) → (go q (W.drop k) k).2.2.2 = 0 → Fin8 (W.take (go q (W.drop k) k).2.1) (go q (W.drop k) k).1
  | 0, k, q, hf, _, _ => by omega
  | f + 1, k, q, hf, hJ, h0 => by
    have h8 := hJ.st8
    by_cases hk : W.length ≤ k
    · rw [er_end (e := 3) h8 hk] at h0
      exact absurd h0 (er_ne (by omega))
    · obtain ⟨c, hc⟩ : ∃ c, W[k]? = some c := ⟨_, List.getElem?_eq_getElem (by omega)⟩
      have ht : W.take (k + 1) = W.take k ++ [c] := by rw [List.take_add_one, hc]; rfl
      by_cases h1 : q.st = 1
      · generalize hcs : W.take k = cs at hJ
        cases hJ with
        | item L h cs hl hn =>
          by_cases h34 : c.toNat = 34
          · rw [q_close hc h34] at h0 ⊢
            have e34 : c = 34 := UInt8.toNat_inj.1 h34
            refine ⟨L, rfl, ?_, fun hb => ?_⟩
            · simp only; rw [ht, hcs]; simp; omega
            · simp only at hb ⊢
              rw [ht, hcs] at hb ⊢
              rw [hn hb.left, e34]
              rfl
          · by_cases h92 : c.toNat = 92
            · have hst : Ut.step (Q1 (txt L) h) c = (⟨3, txt L, [], 0, 0, h⟩, 0) := by
                rw [step_item]
                unfold itemS
                rw [if_neg h34, if_pos h92]
                rfl
              rw [go_one h8 hc hst] at h0 ⊢
              refine fin_go W f (k + 1) _ (by omega) ?_ h0
              rw [ht, hcs]
              exact J.esc L h _ (by simp; omega) (fun hb => hb c (by simp) h92)
            · by_cases h32 : c.toNat < 32
              · rw [ctl_bad hc h34 h92 h32] at h0
                exact absurd h0 (er_ne (by omega))
              · have hne : W.drop k ≠ [] := by
                  intro e
                  have := congrArg List.length e
                  rw [List.length_drop] at this
                  simp at this
                  omega
                rcases nx_split hne with ⟨_, hd⟩ | ⟨r, n, _, hs, he, hnl, hn1, hln⟩
                · obtain ⟨k', hb⟩ := bs_err (T := txt L) (h := h) (fun c' hc' => by
                    obtain rfl : c = c' := Option.some.inj (hc.symm.trans hc')
                    exact ⟨h34, h92, by omega⟩) hd 4 0 rfl (U.BS.start W (txt L) h k)
                  rw [hb] at h0
                  exact absurd h0 (er_ne (by omega))
                · have hg := go_self hc h34 h92 (by omega) hs he hln (txt L) h
                  rw [hg] at h0 ⊢
                  have hhead : r < 128 → c.toNat = r := by
                    intro hr
                    have e1 : enc r = [UInt8.ofNat r] := by unfold enc encN; rw [if_pos hr]; rfl
                    have e2 := Ut.drop_at hc
                    rw [show W.drop k = enc r ++ W.drop (k + n) by rw [he, ← List.drop_drop, List.take_append_drop], e1] at e2
                    simp only [List.cons_append, List.nil_append, List.cons.injEq] at e2
                    rw [← e2.1]
                    exact ofNat_toNat (by omega)
                  have hown : itemR r = enc r := itemR_own (by omega) (by omega) (by omega)
                  refine fin_go W f (k + n) _ (by omega) ?_ h0
                  obtain ⟨i, hi⟩ := rn_of hs
                  rw [← he, ← hi, ← txt_snoc]
                  have e3 : W.take (k + n) = cs ++ enc r := by rw [List.take_add, hcs, he]
                  rw [e3]
                  refine J.item (L ++ [i]) h _ ?_ fun hb => ?_
                  · rw [items_snoc, hi, hown, List.length_append, List.length_append]; omega
                  · rw [items_snoc, hi, hown, hn hb.left]
                    rfl
        | _ => exact absurd h1 (by simp)
      · by_cases hs : (Ut.step q c).2 = 0
        · have hst : Ut.step q c = ((Ut.step q c).1, 0) := Prod.ext rfl hs
          have hJ' := hJ.next c h1 hs
          rw [go_one h8 hc hst] at h0 ⊢
          refine fin_go W f (k + 1) _ (by omega) ?_ h0
          rw [ht]
          exact hJ'
        · rw [er_bad h8 hc rfl hs] at h0
          exact absurd h0 (er_ne hs)
/-- A literal that is read whole. -/
theorem unq_fin {l : List UInt8} (h34 : l.head? = some 34) (h0 : (unq l).2.2.2 = 0) : Fin8 (l.take (unq l).2.1) (unq l).1 := by
  match l, h34 with
  | c :: r, h34 =>
    obtain rfl : c = 34 := by simpa using h34
    have e := q0_open (l := 34 :: r) (c := 34) rfl rfl
    rw [e] at h0 ⊢
    refine fin_go _ _ 1 _ (Nat.lt_succ_self _) ?_ h0
    exact J.item [] 0 _ (by simp [itemsL]) (fun _ => by simp [itemsL])

/-! Digits. -/
theorem dg_of {c : UInt8} (h : isDg c = true) : ∃ d : Nat, d < 10 ∧ c = UInt8.ofNat (48 + d) := by
  unfold isDg at h
  simp only [Bool.and_eq_true, decide_eq_true_eq] at h
  refine ⟨c.toNat - 48, by omega, ?_⟩
  rw [show 48 + (c.toNat - 48) = c.toNat by omega]
  exact (UInt8.toNat_inj.1 (by rw [UInt8.toNat_ofNat']; have := c.toNat_lt; omega))
theorem dgs_val : ∀ (n : Nat) (ds : List UInt8), ds.length = n → (∀ c ∈ ds, isDg c = true) → ds ≠ [] → (1 < ds.length → ds.head? ≠ some 48) →
    ∃ v, decFrom 0 ds = some v ∧ decDigits v = ds ∧ v < 10 ^ ds.length ∧ (ds.head? ≠ some 48 → 1 ≤ v)
  | 0, ds, hl, _, hne, _ => absurd (List.eq_nil_of_length_eq_zero hl) hne
  | n + 1, ds, hl, hd, hne, hz => by
    have e := List.dropLast_concat_getLast hne
    generalize ds.dropLast = a at e
    generalize ds.getLast hne = c at e
    subst e
    obtain ⟨d, hd10, rfl⟩ := dg_of (hd c (by simp))
    by_cases ha : a = []
    · subst ha
      refine ⟨d, ?_, ?_, by simp; omega, fun h => ?_⟩
      · show (match digitVal (UInt8.ofNat (48 + d)) with | some d => decFrom (0 * 10 + d) [] | none => none) = some d
        rw [dig_one hd10]
        simp [decFrom]
      · rw [decDigits_one hd10]; rfl
      · rcases Nat.eq_zero_or_pos d with h0 | h0
        · subst h0; simp at h
        · exact h0
    · have hh : (a ++ [UInt8.ofNat (48 + d)]).head? = a.head? := by
        cases a with
        | nil => exact absurd rfl ha
        | cons x xs => rfl
      have hla : 0 < a.length := List.length_pos_iff.2 ha
      have h48 : a.head? ≠ some 48 := by rw [← hh]; exact hz (by simp; omega)
      obtain ⟨v, h1, h2, h3, h4⟩ := dgs_val n a (by simp at hl; omega) (fun x hx => hd x (by simp [hx])) ha (fun _ => h48)
      have h5 := h4 h48
      refine ⟨v * 10 + d, ?_, ?_, ?_, fun _ => by omega⟩
      · rw [decFrom_app, h1]
        show (match digitVal (UInt8.ofNat (48 + d)) with | some d => decFrom (v * 10 + d) [] | none => none) = some (v * 10 + d)
        rw [dig_one hd10]
        simp [decFrom]
      · rw [dD_big (by omega), show (v * 10 + d) / 10 = v by omega, show (v * 10 + d) % 10 = d by omega, h2]
      · rw [List.length_append, List.length_singleton, Nat.pow_succ]
        omega
theorem dgs_allA (l : List UInt8) : ∀ c ∈ dgs l, isDg c = true := by
  unfold dgs
  intro c hc
  induction l with
  | nil => simp at hc
  | cons x xs ih =>
    rw [List.takeWhile_cons] at hc
    split at hc
    · rename_i hx
      rcases List.mem_cons.1 hc with rfl | hc
      · exact hx
      · exact ih hc
    · simp at hc
theorem dgs_pre (l : List UInt8) : l.take (dgs l).length = dgs l := by
  unfold dgs
  induction l with
  | nil => rfl
  | cons x xs ih =>
    rw [List.takeWhile_cons]
    split
    · rw [List.length_cons, List.take_succ_cons, ih]
    · rfl
theorem dgs_head {l : List UInt8} (h : (dgs l).length ≠ 0) : (dgs l).head? = l.head? := by
  unfold dgs at h ⊢
  cases l with
  | nil => rfl
  | cons x xs =>
    rw [List.takeWhile_cons] at h ⊢
    split
    · rfl
    · rename_i hx; rw [if_neg hx] at h; simp at h

/-! Steps. -/
def bodyS (s : Stp) : List UInt8 := if s.b = true then quo s.k.data.toList else decDigits s.a.toNat
theorem txtS_body (s : Stp) : txtS s = 91 :: (bodyS s ++ [93]) := rfl
theorem quo_txt (L : List Int) : quo (txt L) = 34 :: (itemsL L ++ [34]) := by
  unfold quo
  rw [items_txt]
  rfl
theorem stIn_back {l : List UInt8} {s : Stp} {n : Nat} (h : stIn l = .inl (s, n)) : okS s = true ∧ (bodyS s).length ≤ n ∧ n ≤ l.length ∧ (NoB (l.take n) → bodyS s = l.take n) := by
  unfold stIn at h
  split at h
  · rename_i h0
    split at h
    · cases h
    · rename_i h9
      injection h with h; injection h with h1 h2
      subst h1 h2
      obtain ⟨v, e1, e2, e3, _⟩ := dgs_val _ (dgs l) rfl (dgs_allA l) (fun e => h0 (by rw [e]; rfl)) (fun h1 h2 => h9 (.inr ⟨h1, by rw [← dgs_head h0]; exact h2⟩))
      have hv : dgV (dgs l) = v := by unfold dgV; rw [e1]; rfl
      have h10 : (10 : Nat) ^ (dgs l).length ≤ 10 ^ 9 := Nat.pow_le_pow_right (by omega) (by omega)
      have hb : bodyS ⟨⟨#[]⟩, (dgV (dgs l) : Int), false⟩ = dgs l := by
        unfold bodyS
        rw [if_neg (by simp), hv]
        exact e2
      refine ⟨?_, by rw [hb]; exact Nat.le_refl _, dgs_le l, fun _ => by rw [hb, dgs_pre]⟩
      have h11 : dgV (dgs l) < 1000000000 := by rw [hv]; exact Nat.lt_of_lt_of_le e3 h10
      unfold okS
      rw [if_neg (by simp)]
      show (decide ((⟨#[]⟩ : ByteArray).size = 0) && (decide ((0 : Int) ≤ (dgV (dgs l) : Int)) && decide ((dgV (dgs l) : Int) ≤ 999999999))) = true
      rw [decide_eq_true (show (⟨#[]⟩ : ByteArray).size = 0 from rfl), decide_eq_true (show (0 : Int) ≤ (dgV (dgs l) : Int) by omega), decide_eq_true (show (dgV (dgs l) : Int) ≤ 999999999 by omega)]
      rfl
  · split at h
    · rename_i h34
      split at h
      · cases h
      · rename_i h0
        split at h
        · cases h
        · rename_i hz
          injection h with h; injection h with h1 h2
          subst h1 h2
          have h0' : (unq l).2.2.2 = 0 := Decidable.not_not.1 h0
          obtain ⟨L, hL, h3, h4⟩ := unq_fin h34 h0'
          have h2 := unq_two h0'
          have hb : bodyS ⟨str (unq l).1, 0, true⟩ = 34 :: (itemsL L ++ [34]) := by
            unfold bodyS
            rw [if_pos rfl, ← quo_txt, hL]
            rfl
          rw [List.length_take] at h3
          refine ⟨?_, by rw [hb]; simp; omega, h2.2, fun hn => by rw [hb, h4 hn]⟩
          unfold okS
          rw [if_pos rfl]
          have hv : validD (unq l).1 = true := by rw [← hL]; exact txt_valid L
          show (decide ((0 : Int) = 0) && (validD (unq l).1 && !hasZ (str (unq l).1))) = true
          rw [hv, Bool.eq_false_iff.2 hz]
          rfl
    · cases h
theorem stIn_err {l : List UInt8} {o e : Nat} (h : stIn l = .inr (o, e)) : o ≤ l.length ∧ e ≠ 0 := by
  unfold stIn at h
  split at h
  · split at h
    · injection h with h; injection h with h1 h2; subst h1 h2; exact ⟨Nat.zero_le _, by decide⟩
    · cases h
  · split at h
    · split at h
      · rename_i h0
        injection h with h; injection h with h1 h2; subst h1 h2
        rcases go_facts l q0 0 with ⟨h1, _⟩ | ⟨_, _, _, h4, _⟩
        · exact absurd h1 h0
        · exact ⟨by have := h4; unfold unq; simpa using this, h0⟩
      · split at h
        · injection h with h; injection h with h1 h2; subst h1 h2; exact ⟨Nat.zero_le _, by decide⟩
        · cases h
    · injection h with h; injection h with h1 h2; subst h1 h2; exact ⟨Nat.zero_le _, by decide⟩
theorem stp_err {r : List UInt8} {o e : Nat} (h : stp r = .inr (o, e)) : o ≤ r.length ∧ e ≠ 0 := by
  unfold stp at h
  split at h
  · rename_i h91
    have hr : 1 ≤ r.length := by cases r with | nil => simp at h91 | cons x xs => simp
    split at h
    · rename_i o' e' hs
      injection h with h; injection h with h1 h2; subst h1 h2
      have := stIn_err hs
      rw [List.length_drop] at this
      exact ⟨by omega, this.2⟩
    · rename_i s n hs
      split at h
      · cases h
      · injection h with h; injection h with h1 h2; subst h1 h2
        have := stIn_back hs
        rw [List.length_drop] at this
        exact ⟨by omega, by decide⟩
  · injection h with h; injection h with h1 h2; subst h1 h2; exact ⟨Nat.zero_le _, by decide⟩
theorem stp_back {r : List UInt8} {s : Stp} {n : Nat} (h : stp r = .inl (s, n)) : okS s = true ∧ (txtS s).length ≤ n ∧ n ≤ r.length ∧ (NoB (r.take n) → txtS s = r.take n) := by
  unfold stp at h
  split at h
  · rename_i h91
    match r, h91 with
    | c :: r, h91 =>
      obtain rfl : c = 91 := by simpa using h91
      split at h
      · cases h
      · rename_i s' n' hs
        split at h
        · rename_i h93
          injection h with h; injection h with h1 h2; subst h1 h2
          rw [List.drop_succ_cons, List.drop_zero] at hs
          obtain ⟨g1, g2, g3, g4⟩ := stIn_back hs
          rw [Nat.add_comm 1, List.drop_succ_cons] at h93
          have hn : n' < r.length := by
            rcases Nat.lt_or_ge n' r.length with h | h
            · exact h
            · rw [List.drop_of_length_le h] at h93; simp at h93
          have h93' : r[n']? = some 93 := by rw [List.head?_drop] at h93; exact h93
          have e : (91 :: r).take (n' + 2) = 91 :: (r.take n' ++ [93]) := by
            rw [show n' + 2 = (n' + 1) + 1 by omega, List.take_succ_cons, List.take_add_one, h93']
            rfl
          refine ⟨g1, by rw [txtS_body]; simp; omega, by simp; omega, fun hb => ?_⟩
          rw [e] at hb ⊢
          rw [txtS_body, g4 (fun c hc => hb c (by simp [hc]))]
        · cases h
  · cases h

/-- What a text that parses, or does not, says of the rest. -/
theorem prs_back : ∀ (f : Nat) (r : List UInt8) (k : Nat) (qs ps : List Stp) (n e : Nat), prs f r k qs = (ps, n, e) →
    (e = 0 → n = 0 ∧ ∃ ts, ps = qs ++ ts ∧ (qs.length ≤ 64 → ps.length ≤ 64) ∧ (∀ s ∈ ts, okS s = true) ∧ (ts.flatMap txtS).length ≤ r.length ∧ (NoB r → ts.flatMap txtS = r)) ∧ (e ≠ 0 → ps = [] ∧ n ≤ k + r.length)
  | 0, r, k, qs, ps, n, e, h => by
    injection h with h1 h; injection h with h2 h3
    subst h1 h2 h3
    exact ⟨fun h => (by cases h), fun _ => ⟨rfl, by omega⟩⟩
  | f + 1, r, k, qs, ps, n, e, h => by
    unfold prs at h
    split at h
    · rename_i h0
      injection h with h1 h; injection h with h2 h3
      subst h1 h2 h3 h0
      exact ⟨fun _ => ⟨rfl, [], by simp, id, by simp, by simp, fun _ => rfl⟩, fun h => absurd rfl h⟩
    · split at h
      · injection h with h1 h; injection h with h2 h3
        subst h1 h2 h3
        exact ⟨fun h => (by cases h), fun _ => ⟨rfl, by omega⟩⟩
      · rename_i h64
        split at h
        · rename_i o e' hs
          injection h with h1 h; injection h with h2 h3
          subst h1 h2 h3
          have := stp_err hs
          exact ⟨fun h => absurd h this.2, fun _ => ⟨rfl, by omega⟩⟩
        · rename_i s m hs
          obtain ⟨g1, g2, g3, g4⟩ := stp_back hs
          obtain ⟨h1, h2⟩ := prs_back f _ _ _ _ _ _ h
          rw [List.length_drop] at h1 h2
          refine ⟨fun he => ?_, fun he => ?_⟩
          · obtain ⟨hn, ts, e1, e2, e3, e4, e5⟩ := h1 he
            refine ⟨hn, s :: ts, by rw [e1]; simp, fun hq => e2 (by rw [List.length_append]; exact Nat.lt_of_le_of_ne hq h64), ?_, ?_, fun hb => ?_⟩
            · intro x hx
              rcases List.mem_cons.1 hx with rfl | hx
              · exact g1
              · exact e3 x hx
            · rw [List.flatMap_cons, List.length_append]; omega
            · have hb' : NoB (r.take m ++ r.drop m) := by rw [List.take_append_drop]; exact hb
              rw [List.flatMap_cons, g4 hb'.left, e5 hb'.right, List.take_append_drop]
          · have := h2 he
            exact ⟨this.1, by omega⟩
/-- The text of a path that was parsed. -/
theorem parse_again (l : List UInt8) : ((parseP l).2.2 = 0 → (parseP l).2.1 = 0 ∧ ∃ t, showR (parseP l).1 = (t, 0) ∧ parseP t = parseP l ∧ t.length ≤ l.length ∧ (NoB l → t = l) ∧ (parseP l).1.length ≤ 64 ∧ ((parseP l).1.all okS = true)) ∧ ((parseP l).2.2 ≠ 0 → (parseP l).1 = [] ∧ (parseP l).2.1 ≤ l.length) := by
  obtain ⟨R, hx⟩ : ∃ R, R = parseP l := ⟨_, rfl⟩
  obtain ⟨ps, n, e⟩ := R
  have h := prs_back _ _ _ _ ps n e (hx.symm : prs (l.length + 1) l 0 [] = (ps, n, e))
  rw [← hx]
  simp only
  refine ⟨fun he => ?_, fun he => ?_⟩
  · obtain ⟨hn, ts, e1, e2, e3, e4, e5⟩ := h.1 he
    rw [List.nil_append] at e1
    subst e1
    have hall : ps.all okS = true := List.all_eq_true.2 e3
    have h64 := e2 (by simp)
    refine ⟨hn, ps.flatMap txtS, ?_, ?_, e4, e5, h64, hall⟩
    · unfold showR; rw [if_neg (by omega), if_pos hall]
    · rw [parse_show h64 hall, hn, he]
  · have := h.2 he
    exact ⟨this.1, by omega⟩
theorem itemN_ge (n : Nat) : 1 ≤ (itemN n).length := by
  unfold itemN
  repeat' split
  all_goals simp
theorem quo_ge (l : List UInt8) : l.length ≤ (quo l).length := by
  have h : ∀ l : List UInt8, l.length ≤ (l.flatMap fun b => itemN b.toNat).length := by
    intro l
    induction l with
    | nil => simp
    | cons c l ih =>
      rw [List.flatMap_cons, List.length_append, List.length_cons]
      have := itemN_ge c.toNat
      omega
  have := h l
  unfold quo
  simp only [List.cons_append, List.length_cons, List.length_append]
  omega
theorem flat_ge : ∀ {ps : List Stp} {x : Stp}, x ∈ ps → (txtS x).length ≤ (ps.flatMap txtS).length
  | [], _, h => by simp at h
  | s :: ps, x, h => by
    rw [List.flatMap_cons, List.length_append]
    rcases List.mem_cons.1 h with rfl | h
    · omega
    · have := flat_ge h
      omega
end Go.Proofs.YtjnfilbdokppiaaGreatDoor
