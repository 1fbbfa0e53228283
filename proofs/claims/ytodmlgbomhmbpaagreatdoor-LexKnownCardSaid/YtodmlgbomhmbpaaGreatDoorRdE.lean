/-
  What is proved here: the contract of the reference's escape; condition: a string of at most 60000 bytes.
-/
import Derived.Test.YtodmlgbomhmbpaaGreatDoorRdB
import Derived.Test.YtodmlgbomhmbpaaGreatDoorRefQ
namespace Go.Proofs.YtodmlgbomhmbpaaGreatDoor
open Go.RowKit Ut Go.Lib

theorem esB_all : ∀ n : Fin 256, (match (List.range 8).find? (fun k => mkL.getD k 0 == UInt8.ofNat n.val) with
    | some k => esc n.val == some (mtL.getD k 0).toNat && decide ((mtL.getD k 0).toNat < 128)
    | none => esc n.val == none) = true := by decide +kernel
theorem esc_yes {c : UInt8} {k : Nat} (hk : k < 8) (h : mkL.getD k 0 = c) : esc c.toNat = some (mtL.getD k 0).toNat ∧ (mtL.getD k 0).toNat < 128 ∧ c.toNat ≠ 117 := by
  subst h
  have : ∀ k : Fin 8, esc (mkL.getD k.val 0).toNat = some (mtL.getD k.val 0).toNat ∧ (mtL.getD k.val 0).toNat < 128 ∧ (mkL.getD k.val 0).toNat ≠ 117 := by decide
  exact this ⟨k, hk⟩
theorem esc_no {c : UInt8} (h : ∀ k, k < 8 → mkL.getD k 0 ≠ c) : esc c.toNat = none := by
  have h2 := esB_all ⟨c.toNat, c.toNat_lt⟩
  have hf : (List.range 8).find? (fun k => mkL.getD k 0 == UInt8.ofNat c.toNat) = none := by
    rw [List.find?_eq_none]
    intro k hk
    rw [List.mem_range] at hk
    rw [UInt8.ofNat_toNat, beq_iff_eq]
    exact h k hk
  dsimp only at h2
  rw [hf] at h2
  simpa using h2
theorem mt_cut : ∀ m : Fin 8, mtS.extract m.val (m.val + 1) = str [mtL.getD m.val 0] := by decide +kernel
theorem enc_small {d : UInt8} (h : d.toNat < 128) : enc d.toNat = [d] := by
  unfold enc encN
  rw [if_pos h]
  simp
/-- Behind a backslash. -/
def Q3 (t : List UInt8) (h : Nat) : Q := ⟨3, t, [], 0, 0, h⟩
theorem step_back {t : List UInt8} {h : Nat} {c : UInt8} (hc : c.toNat = 92) : Ut.step (Q1 t h) c = (Q3 t h, 0) := by
  rw [step_item]
  unfold itemS
  rw [if_neg (by omega), if_pos hc]
  rfl
theorem step_Q3 (t : List UInt8) (h : Nat) (c : UInt8) : Ut.step (Q3 t h) c = escS (Q3 t h) c.toNat := rfl
theorem step_esc {t : List UInt8} {h d : Nat} {c : UInt8} (he : esc c.toNat = some d) (h117 : c.toNat ≠ 117) : Ut.step (Q3 t h) c = (Q1 (t ++ enc d) h, 0) := by
  rw [step_Q3]
  unfold escS
  rw [if_neg h117, he]
  rfl
theorem step_u {t : List UInt8} {h : Nat} {c : UInt8} (h117 : c.toNat = 117) : Ut.step (Q3 t h) c = (F1 t 0 0 h, 0) := by
  rw [step_Q3]
  unfold escS
  rw [if_pos h117]
  rfl
theorem step_unk {t : List UInt8} {h : Nat} {c : UInt8} (he : esc c.toNat = none) (h117 : c.toNat ≠ 117) : (Ut.step (Q3 t h) c).2 = 41 := by
  rw [step_Q3]
  unfold escS
  rw [if_neg h117, he]
/-- What escape answers. -/
def EscE (l : List UInt8) (at_ : Nat) (w : World) (e : Ending) (w' : World) : Prop :=
  Below w.heap.size w w' ∧ ((∃ k : Nat, e = .returned (.tuple #[.string ⟨#[]⟩, .int .i64 (k : Nat), .bool false]) ∧ k ≤ l.length ∧ ∀ t h, go (Q1 t h) (l.drop at_) at_ = er l k 41) ∨
    (∃ (B : List UInt8) (k : Nat), e = .returned (.tuple #[.string (str B), .int .i64 (k : Nat), .bool true]) ∧ at_ < k ∧ k ≤ l.length ∧ B.length ≤ 4 ∧ ∀ t h, ∃ h', go (Q1 t h) (l.drop at_) at_ = go (Q1 (t ++ B) h') (l.drop k) k))
theorem esc_e_no {l : List UInt8} {at_ k : Nat} {w w' : World} (hb : Below w.heap.size w w') (h2 : k ≤ l.length) (h : ∀ t h, go (Q1 t h) (l.drop at_) at_ = er l k 41) : EscE l at_ w (.returned (.tuple #[.string ⟨#[]⟩, .int .i64 (k : Nat), .bool false])) w' := ⟨hb, .inl ⟨k, rfl, h2, h⟩⟩
theorem esc_e_yes {l : List UInt8} {at_ k : Nat} {B : List UInt8} {X : ByteArray} {w w' : World} (hb : Below w.heap.size w w') (hX : X = str B) (h1 : at_ < k) (h2 : k ≤ l.length) (h4 : B.length ≤ 4) (h : ∀ t h, ∃ h', go (Q1 t h) (l.drop at_) at_ = go (Q1 (t ++ B) h') (l.drop k) k) :
    EscE l at_ w (.returned (.tuple #[.string X, .int .i64 (k : Nat), .bool true])) w' := by
  subst hX
  exact ⟨hb, .inr ⟨B, k, rfl, h1, h2, h4, h⟩⟩
/-- Within the backslash and the u of the second half. -/
def U2 (l : List UInt8) (at_ n j : Nat) : Prop := ∀ t h, go (Q1 t h) (l.drop at_) at_ = go ⟨5 + j, t, [], 0, 0, n⟩ (l.drop (at_ + 6 + j)) (at_ + 6 + j)
theorem U2.next {l : List UInt8} {at_ n j : Nat} {c : UInt8} (h : U2 l at_ n j) (hj : j < 2) (hc : l[at_ + 6 + j]? = some c) (he : c.toNat = if j = 0 then 92 else 117) : U2 l at_ n (j + 1) := by
  intro t H
  rw [h t H]
  rcases (show j = 0 ∨ j = 1 by omega) with rfl | rfl
  · rw [if_pos rfl] at he
    rw [go_one (q := ⟨5 + 0, t, [], 0, 0, n⟩) (q' := ⟨6, t, [], 0, 0, n⟩) (by show 5 ≠ 8; decide) hc (by show expS _ c.toNat 92 6 = _; unfold expS; rw [if_pos he])]
  · rw [if_neg (by decide)] at he
    rw [go_one (q := ⟨5 + 1, t, [], 0, 0, n⟩) (q' := ⟨7, t, [], 0, 0, n⟩) (by show 6 ≠ 8; decide) hc (by show expS _ c.toNat 117 7 = _; unfold expS; rw [if_pos he])]
theorem U2.bad {l : List UInt8} {at_ n j : Nat} {c : UInt8} (h : U2 l at_ n j) (hj : j < 2) (hc : l[at_ + 6 + j]? = some c) (he : c.toNat ≠ if j = 0 then 92 else 117) (t : List UInt8) (H : Nat) : go (Q1 t H) (l.drop at_) at_ = er l (at_ + 6 + j) 41 := by
  rw [h t H]
  rcases (show j = 0 ∨ j = 1 by omega) with rfl | rfl
  · rw [if_pos rfl] at he
    exact er_bad (q := ⟨5 + 0, t, [], 0, 0, n⟩) (by show 5 ≠ 8; decide) hc (by show (expS _ c.toNat 92 6).2 = 41; unfold expS; rw [if_neg he]) (by decide)
  · rw [if_neg (by decide)] at he
    exact er_bad (q := ⟨5 + 1, t, [], 0, 0, n⟩) (by show 6 ≠ 8; decide) hc (by show (expS _ c.toNat 117 7).2 = 41; unfold expS; rw [if_neg he]) (by decide)
theorem U2.stop {l : List UInt8} {at_ n j : Nat} (h : U2 l at_ n j) (hj : j < 2) (hc : l.length ≤ at_ + 6 + j) (t : List UInt8) (H : Nat) : go (Q1 t H) (l.drop at_) at_ = er l (at_ + 6 + j) 41 := by
  rw [h t H]
  exact er_end (by show 5 + j ≠ 8; omega) hc
theorem four_scal {N : Nat} (h1 : N < 65536) (h2 : ¬ half (N / 256)) (h3 : ¬ (55296 ≤ N ∧ N < 56320)) : scal N := by
  unfold half at h2
  unfold scal
  omega
theorem pair_scal {n k : Nat} (h1 : 55296 ≤ n ∧ n < 56320) (h2 : k < 65536) (h3 : half (k / 256)) : scal (65536 + 1024 * (n - 55296) + k - 56320) := by
  unfold half at h3
  unfold scal
  omega
theorem pair_val {n k N : Nat} (h1 : 55296 ≤ n ∧ n < 56320) (h2 : k < 65536) (h3 : half (k / 256)) (hN : 65536 + 1024 * (n - 55296) + k - 56320 = N) :
    wrap64 (wrap64 (wrap64 (65536 + wrap64 (1024 * wrap64 ((n : Int) - 55296))) + (k : Int)) - 56320) = (N : Int) ∧ wrap32 (N : Int) = (N : Int) := by
  unfold half at h3
  obtain ⟨m, rfl⟩ : ∃ m, n = 55296 + m := ⟨n - 55296, by omega⟩
  have e1 : wrap64 (((55296 + m : Nat) : Int) - 55296) = (m : Int) := by unfold wrap64; omega
  have e2 : wrap64 (1024 * (m : Int)) = 1024 * (m : Int) := by unfold wrap64; omega
  have e3 : wrap64 (65536 + 1024 * (m : Int)) = 65536 + 1024 * (m : Int) := by unfold wrap64; omega
  have e4 : wrap64 (65536 + 1024 * (m : Int) + (k : Int)) = 65536 + 1024 * (m : Int) + (k : Int) := by unfold wrap64; omega
  rw [e1, e2, e3, e4]
  constructor
  · unfold wrap64; omega
  · unfold wrap32; omega

theorem back_one {l : List UInt8} {at_ : Nat} {c0 : UInt8} (h0 : l[at_]? = some c0) (h92 : c0.toNat = 92) (t : List UInt8) (h : Nat) : go (Q1 t h) (l.drop at_) at_ = go (Q3 t h) (l.drop (at_ + 1)) (at_ + 1) :=
  go_one (q := Q1 t h) (by show 1 ≠ 8; decide) h0 (step_back h92)
set_option maxHeartbeats 8000000 in
set_option maxRecDepth 1000000 in
theorem escape_any (s : ByteArray) (l : List UInt8) (at_ : Nat) (hl : s.data.toList = l) (c0 : UInt8) (h0 : l[at_]? = some c0) (h92 : c0.toNat = 92) (hs : s.size ≤ 60000) (w : World) :
    Calls Tryz.prog 39 #[.string s, .int .i64 (at_ : Nat)] w (EscE l at_ w) := by
  have HSZ := Lib.hid (show s.size = l.length by rw [Lib.size_eq, hl])
  have hat : at_ < s.size := by rw [HSZ.out]; exact (List.getElem?_eq_some_iff.1 h0).1
  have HL := Lib.hid hl
  have HB1 := Lib.hid (fun t h => back_one h0 h92 t h)
  have hp : at_ + 12 ≤ 60012 := by omega
  obtain ⟨k1, hk1⟩ : ∃ k1, at_ + 1 = k1 := ⟨_, rfl⟩
  obtain ⟨k2, hk2⟩ : ∃ k2, at_ + 2 = k2 := ⟨_, rfl⟩
  have s1 : (at_ : Int) + 1 = (k1 : Int) := by omega
  have s2 : (at_ : Int) + 2 = (k2 : Int) := by omega
  have s1w : IntKind.i64.wrap ((at_ : Int) + 1) = (k1 : Int) := by rw [s1]; exact IntWalk.i64_in _ (by omega)
  have H1 := Lib.hid hk1
  have H2 := Lib.hid hk2
  have hk1b : 1 ≤ k1 ∧ k1 ≤ s.size := by omega
  obtain ⟨hk1b, hk1c⟩ := hk1b
  clear hl h0 h92 hk1 hk2
  by_cases hlt : k1 < s.size
  · obtain ⟨c, hc⟩ := getN l (k := k1) (by rw [← HSZ.out]; exact hlt)
    have hx : s[k1] = c := byte_at HL.out hc hlt
    have HC := Lib.hid (show l[at_ + 1]? = some c by rw [H1.out]; exact hc)
    have d1 : decide ((s.size : Int) ≤ (k1 : Int)) = false := decide_eq_false (by omega)
    have d2 : decide (s.size ≤ k1) = false := decide_eq_false (by omega)
    have i1 : (0 : Int) ≤ (k1 : Int) := by omega
    have i2 : (k1 : Int) < (s.size : Int) := by omega
    clear hc
    go_enter Tryz.func39, Tryz.ntmps39
    go_wp2
    go_loopw [7] (fun i wr => ∃ k : Nat, k ≤ 8 ∧ i = .int .i64 k ∧ Hid (∀ j, j < k → mkL.getD j 0 ≠ c) ∧ Hid (Below w.heap.size w wr)) (fun i _ => 9 - (RowKit.intOf i).toNat)
    case atStart => exact ⟨0, by omega, rfl, fun j h => by omega, Below.refl _ _⟩
    case round =>
      obtain ⟨k, hk, rfl, HN, HB⟩ := hrel
      by_cases hk8 : k < 8
      · have e1 : decide ((k : Int) < 8) = true := decide_eq_true (by omega)
        have i3 : (0 : Int) ≤ (k : Int) := by omega
        have i4 : (k : Int) < 8 := by omega
        have i5 : (k : Int) + 1 ≤ 8 := by omega
        obtain ⟨K, hK⟩ : ∃ K, mkL.getD k 0 = K := ⟨_, rfl⟩
        have hk2' : ∀ h, (⟨#[34, 92, 47, 98, 102, 110, 114, 116]⟩ : ByteArray)[k]'h = K := fun h => (mk_at k hk8 h).trans hK
        by_cases hKc : K = c
        · have q1 : ((K.toNat : Int) == (c.toNat : Int)) = true := by rw [hKc]; exact beq_self_eq_true _
          obtain ⟨he, hd, h117⟩ := esc_yes hk8 (hK.trans hKc)
          have HMT := Lib.hid (show (⟨#[34, 92, 47, 8, 12, 10, 13, 9]⟩ : ByteArray).extract k (k + 1) = str [mtL.getD k 0] from mt_cut ⟨k, hk8⟩)
          have HG := Lib.hid (show ∀ t h, ∃ h', go (Q1 t h) (l.drop at_) at_ = go (Q1 (t ++ [mtL.getD k 0]) h') (l.drop k2) k2 by
            intro t h
            refine ⟨h, ?_⟩
            rw [HB1.out t h, go_one (q := Q3 t h) (by show 3 ≠ 8; decide) HC.out (step_esc he h117), enc_small hd, ← H2.out])
          clear hK hKc he hd h117
          go_wp2
          go_quiet (fail)
          go_wp2
          go_ret3
          exact esc_e_yes (below_drewN HB.out _) HMT.out (by have := H2.out; omega) (by have := H2.out; have := H1.out; have := HSZ.out; omega) (by simp) HG.out
        · have q1 := u8B hKc
          have HK := Lib.hid (show mkL.getD k 0 ≠ c by rw [hK]; exact hKc)
          clear hK hKc
          go_wp2
          go_quiet (fail)
          go_wp2
          go_roundw
          case rel =>
            refine ⟨k + 1, by omega, by go_num, fun j h => ?_, below_drewN HB.out _⟩
            by_cases hj : j < k
            · exact HN.out j hj
            · have : j = k := by omega
              subst this
              exact HK.out
          case measure => simp [RowKit.intOf]; omega
      · have hk' : k = 8 := by omega
        have e1 : decide ((k : Int) < 8) = false := decide_eq_false (by omega)
        have HE := Lib.hid (esc_no (c := c) (by rw [← hk']; exact HN.out))
        clear hk8 hk' hk HN
        by_cases h117 : c.toNat = 117
        · obtain ⟨q1, q2⟩ := u8Y h117
          have HF := Lib.hid (show ∀ t h, go (Q1 t h) (l.drop at_) at_ = go (F1 t 0 0 h) (l.drop k2) k2 by
            intro t h
            rw [HB1.out t h, go_one (q := Q3 t h) (by show 3 ≠ 8; decide) HC.out (step_u h117), ← H2.out])
          have HFO := Lib.hid (fun W => four1_any s l k2 HL.out (by have := H2.out; have := H1.out; have := HSZ.out; omega) hs W)
          clear h117
          go_wp2_with fail
          refine (HFO.out _).mono ?_
          rintro e w2 ⟨rfl, ⟨k, rfl, hk1', hk2', hg⟩ | ⟨n, rfl, hn4, hn⟩⟩
          · have HG := Lib.hid (show ∀ t h, go (Q1 t h) (l.drop at_) at_ = er l k 41 from fun t h => (HF.out t h).trans (hg t h))
            have HK2 := Lib.hid hk2'
            clear hk1' hk2' hg
            go_wp2
            go_ret3
            exact esc_e_no HB.out HK2.out HG.out
          · have hn5 := hn.lt (by decide)
            have hnh := hn.2.2.2.1 rfl
            have hw : wrap32 (n : Int) = (n : Int) := by unfold wrap32; omega
            obtain ⟨k6, hk6⟩ : ∃ k6, at_ + 6 = k6 := ⟨_, rfl⟩
            have hk26 : k2 + 4 = k6 := by rw [← H2.out, ← hk6]
            have s6 : (at_ : Int) + 6 = (k6 : Int) := by omega
            have H6 := Lib.hid hk6
            have h6l : k6 ≤ l.length := by omega
            have hgo := fun t h => (HF.out t h).trans (hn.2.2.2.2 t h)
            rw [hk26] at hgo
            by_cases hsur : 55296 ≤ n ∧ n < 56320
            · obtain ⟨hsa, hsb⟩ := hsur
              have b1 : decide ((55296 : Int) ≤ (n : Int)) = true := decide_eq_true (by omega)
              have b2 : decide ((n : Int) < 56320) = true := decide_eq_true (by omega)
              have HU0 := Lib.hid (show U2 l at_ n 0 by
                intro t h
                rw [hgo t h, if_neg (by decide), if_pos ⟨hsa, hsb⟩, hk6])
              have HSUR := Lib.hid (show 55296 ≤ n ∧ n < 56320 from ⟨hsa, hsb⟩)
              have H6L := Lib.hid h6l
              have h6s : k6 ≤ s.size := by rw [HSZ.out]; exact h6l
              clear hk6 hk26 hgo hsa hsb hn hn4 hn5 hnh hw h6l
              go_wp2
              go_loopw [12] (fun i wr => ∃ j m : Nat, j ≤ 2 ∧ i = .int .i64 j ∧ m ≤ s.size ∧ Hid (k6 + j = m) ∧ Hid (U2 l at_ n j) ∧ Hid (Below w.heap.size w wr)) (fun i _ => 3 - (RowKit.intOf i).toNat)
              case atStart => exact ⟨0, k6, by omega, rfl, h6s, rfl, HU0.out, HB.out⟩
              case round =>
                clear HB HU0
                obtain ⟨j, m, hj, rfl, hms, HM, HU, HB⟩ := hrel
                have hm := HM.out
                have s7 : (k6 : Int) + (j : Int) = (m : Int) := by omega
                have s7w : IntKind.i64.wrap ((k6 : Int) + (j : Int)) = (m : Int) := by rw [s7]; exact IntWalk.i64_in _ (by omega)
                by_cases hj2 : j < 2
                · have e1 : decide ((j : Int) < 2) = true := decide_eq_true (by omega)
                  have i3 : (0 : Int) ≤ (j : Int) := by omega
                  have i4 : (j : Int) < 2 := by omega
                  have i5 : (0 : Int) ≤ (m : Int) := by omega
                  by_cases hml : m < s.size
                  · obtain ⟨c2, hc2⟩ := getN l (k := m) (by rw [← HSZ.out]; exact hml)
                    have hx2 : s[m] = c2 := byte_at HL.out hc2 hml
                    have hc2' : l[at_ + 6 + j]? = some c2 := by rw [H6.out, hm]; exact hc2
                    have i6 : (m : Int) < (s.size : Int) := by omega
                    have d3 : decide ((s.size : Int) ≤ (m : Int)) = false := decide_eq_false (by omega)
                    have d4 : decide (s.size ≤ m) = false := decide_eq_false (by omega)
                    obtain ⟨K, hK⟩ : ∃ K : UInt8, (if j = 0 then 92 else 117) = K := ⟨_, rfl⟩
                    have hk3' : ∀ h, (⟨#[92, 117]⟩ : ByteArray)[j]'h = K := by
                      intro h
                      rw [← hK]
                      rcases (show j = 0 ∨ j = 1 by omega) with rfl | rfl <;> rfl
                    have hKn : K.toNat = if j = 0 then 92 else 117 := by rw [← hK]; split <;> rfl
                    by_cases hKc : c2 = K
                    · have q3 : ((c2.toNat : Int) == (K.toNat : Int)) = true := by rw [hKc]; exact beq_self_eq_true _
                      have q4 : ((c2.toNat : Int) != (K.toNat : Int)) = false := by rw [bne, q3]; rfl
                      have HU2 := Lib.hid (HU.out.next hj2 hc2' (by rw [hKc]; exact hKn))
                      have HM2 := Lib.hid (show k6 + (j + 1) = m + 1 by omega)
                      clear hc2 hc2' hKc hKn hK hm
                      go_wp2
                      go_quiet (fail)
                      go_wp2
                      go_roundw
                      case rel => exact ⟨j + 1, m + 1, by omega, by go_num, by omega, HM2.out, HU2.out, below_drewN HB.out _⟩
                      case measure => simp [RowKit.intOf]; omega
                    · have q3 : ((c2.toNat : Int) == (K.toNat : Int)) = false := u8B hKc
                      have q4 : ((c2.toNat : Int) != (K.toNat : Int)) = true := by rw [bne, q3]; rfl
                      have HG := Lib.hid (show ∀ t h, go (Q1 t h) (l.drop at_) at_ = er l m 41 by
                        intro t h
                        rw [HU.out.bad hj2 hc2' (by rw [← hKn]; exact fun h => hKc (UInt8.toNat_inj.1 h)) t h, H6.out, hm])
                      clear hc2 hc2' hKc hKn hK hm
                      go_wp2
                      go_quiet (fail)
                      go_wp2
                      go_ret3
                      exact esc_e_no (below_drewN HB.out _) (by rw [← HSZ.out]; exact hms) HG.out
                  · have d3 : decide ((s.size : Int) ≤ (m : Int)) = true := decide_eq_true (by omega)
                    have d4 : decide (s.size ≤ m) = true := decide_eq_true (by omega)
                    have HG := Lib.hid (show ∀ t h, go (Q1 t h) (l.drop at_) at_ = er l m 41 by
                      intro t h
                      rw [HU.out.stop hj2 (by rw [H6.out, hm]; have := HSZ.out; omega) t h, H6.out, hm])
                    clear hml hm
                    go_wp2
                    go_quiet (fail)
                    go_wp2
                    go_ret3
                    exact esc_e_no (below_drewN HB.out _) (by rw [← HSZ.out]; exact hms) HG.out
                · have hj' : j = 2 := by omega
                  have e1 : decide ((j : Int) < 2) = false := decide_eq_false (by omega)
                  obtain ⟨k8, hk8'⟩ : ∃ k8, at_ + 8 = k8 := ⟨_, rfl⟩
                  obtain ⟨k12, hk12⟩ : ∃ k12, at_ + 12 = k12 := ⟨_, rfl⟩
                  have s8 : (at_ : Int) + 8 = (k8 : Int) := by omega
                  have s12 : (at_ : Int) + 12 = (k12 : Int) := by omega
                  have hk8l : k8 ≤ l.length := by have := H6.out; have := HSZ.out; omega
                  have HFT := Lib.hid (fun W => four2_any s l k8 HL.out hk8l hs W)
                  have HU2 := Lib.hid (show ∀ t h, go (Q1 t h) (l.drop at_) at_ = go (F2 t 0 0 n) (l.drop k8) k8 by
                    intro t h
                    have := HU.out t h
                    rw [hj'] at this
                    rw [this, show at_ + 6 + 2 = k8 by omega]
                    rfl)
                  have H812 := Lib.hid (show k8 + 4 = k12 by omega)
                  have H12 := Lib.hid hk12
                  clear hj2 hj' hm hk8' hk12 hk8l hj
                  go_wp2_with fail
                  refine (HFT.out _).mono ?_
                  rintro e w3 ⟨rfl, ⟨k, rfl, hk1', hk2', hg⟩ | ⟨k, rfl, hk4, hk⟩⟩
                  · have HG := Lib.hid (show ∀ t h, go (Q1 t h) (l.drop at_) at_ = er l k 41 from fun t h => (HU2.out t h).trans (hg t n))
                    have HK2 := Lib.hid hk2'
                    clear hk1' hk2' hg
                    go_wp2
                    go_ret3
                    exact esc_e_no HB.out HK2.out HG.out
                  · have hk5 := hk.lt (by decide)
                    have hkh := hk.2.2.2.2.1 rfl
                    have hps := pair_scal HSUR.out hk5 hkh
                    obtain ⟨N, hN⟩ : ∃ N, 65536 + 1024 * (n - 55296) + k - 56320 = N := ⟨_, rfl⟩
                    have hpv := pair_val HSUR.out hk5 hkh hN
                    rw [hN] at hps
                    have HPV := Lib.hid hpv
                    have HPS := Lib.hid hps
                    have HG := Lib.hid (show ∀ t h, ∃ h', go (Q1 t h) (l.drop at_) at_ = go (Q1 (t ++ enc N) h') (l.drop k12) k12 by
                      intro t h
                      refine ⟨n, ?_⟩
                      rw [HU2.out t h, hk.2.2.2.2.2 t n, if_neg (by decide), hN, H812.out])
                    have H12L := Lib.hid (show k12 ≤ l.length by rw [← H812.out]; exact hk4)
                    have HK5 := Lib.hid hk5
                    have HPUT := Lib.hid (fun W => refPut_yes N W hps)
                    clear hpv hps hN hk4 hk hk5 hkh
                    go_wp2_with fail
                    rw [HPV.out.1, HPV.out.2]
                    refine (HPUT.out _).mono ?_
                    rintro e w4 ⟨rfl, hb4⟩
                    have HB4 := Lib.hid (HB.out.trans (hb4.mono HB.out.size))
                    clear hb4
                    go_wp2
                    go_ret3
                    exact esc_e_yes HB4.out rfl (by have := H12.out; omega) H12L.out (enc_len N).2 HG.out
            · have HPUT := Lib.hid (fun W => refPut_yes n W (four_scal hn5 hnh hsur))
              have HG := Lib.hid (show ∀ t h, ∃ h', go (Q1 t h) (l.drop at_) at_ = go (Q1 (t ++ enc n) h') (l.drop k6) k6 by
                intro t h
                refine ⟨h, ?_⟩
                rw [hgo t h, if_neg (by decide), if_neg hsur])
              have H6L := Lib.hid h6l
              rcases (show n < 55296 ∨ 56320 ≤ n by omega) with hs1 | hs1
              · have b1 : decide ((55296 : Int) ≤ (n : Int)) = false := decide_eq_false (by omega)
                clear hk6 hk26 hgo hn hn4 hn5 hnh h6l hs1 hsur
                go_wp2_with fail
                rw [hw]
                refine (HPUT.out _).mono ?_
                rintro e w4 ⟨rfl, hb4⟩
                have HB4 := Lib.hid (HB.out.trans (hb4.mono HB.out.size))
                clear hb4
                go_wp2
                go_ret3
                exact esc_e_yes HB4.out rfl (by have := H6.out; omega) H6L.out (enc_len n).2 HG.out
              · have b1 : decide ((55296 : Int) ≤ (n : Int)) = true := decide_eq_true (by omega)
                have b2 : decide ((n : Int) < 56320) = false := decide_eq_false (by omega)
                clear hk6 hk26 hgo hn hn4 hn5 hnh h6l hs1 hsur
                go_wp2_with fail
                rw [hw]
                refine (HPUT.out _).mono ?_
                rintro e w4 ⟨rfl, hb4⟩
                have HB4 := Lib.hid (HB.out.trans (hb4.mono HB.out.size))
                clear hb4
                go_wp2
                go_ret3
                exact esc_e_yes HB4.out rfl (by have := H6.out; omega) H6L.out (enc_len n).2 HG.out
        · obtain ⟨q1, q2⟩ := u8K h117
          have HG := Lib.hid (show ∀ t h, go (Q1 t h) (l.drop at_) at_ = er l k1 41 by
            intro t h
            rw [HB1.out t h, ← H1.out, er_bad (q := Q3 t h) (by show 3 ≠ 8; decide) HC.out (step_unk HE.out h117) (by decide)])
          clear h117
          go_wp2
          go_ret3
          exact esc_e_no HB.out (by rw [← HSZ.out]; exact hk1c) HG.out
  · have d1 : decide ((s.size : Int) ≤ (k1 : Int)) = true := decide_eq_true (by omega)
    have d2 : decide (s.size ≤ k1) = true := decide_eq_true (by omega)
    have HG := Lib.hid (show ∀ t h, go (Q1 t h) (l.drop at_) at_ = er l k1 41 by
      intro t h
      rw [HB1.out t h, ← H1.out]
      exact er_end (by show 3 ≠ 8; decide) (by have := H1.out; have := HSZ.out; omega))
    clear hlt
    go_enter Tryz.func39, Tryz.ntmps39
    go_wp2
    go_ret3
    exact esc_e_no (Below.refl _ _) (by rw [← HSZ.out]; exact hk1c) HG.out
end Go.Proofs.YtodmlgbomhmbpaaGreatDoor
