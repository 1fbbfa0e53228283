/-
  What is proved here: contracts of lex.kinds (it makes a map that holds the kind of each first byte), lex.startsWith, lex.count, lex.skipDigits and lex.measure; no condition but those that each fact states; and: contracts of lex.count, lex.skipDigits and lex.measure; condition: a string of at most 2^40 bytes; and: the contract of lex.measure; condition: a string of at most 2^40 bytes.
-/
import Derived.Test.YtodmlgbomhmbpaaGreatDoorMem
import Derived.Test.YtodmlgbomhmbpaaGreatDoorLMath
import Derived.Lib.IndexLaws
import Derived.Maps.Own
import Derived.Maps.OwnSet
import Derived.Maps.OwnOps
import Derived.Deep.DeepCutAuto
namespace Go.Proofs.YtodmlgbomhmbpaaGreatDoor
open Go.RowKit Ut Lx Go.Maps

/-! The map of kinds. -/
theorem keyedU : Keyed Tryz.prog 5 := int_keyed Tryz.underlying5
noncomputable abbrev El : Value → Option (DataW Unit × List MemPlace) := plainElem Tryz.prog 3
noncomputable abbrev i0 : DataW Unit := .lit (.int .i64 0)
def look : List (Nat × Nat) → Nat → Option Nat
  | [], _ => none
  | p :: l, c => if c = p.1 then some p.2 else look l c
def Kl (D : DataW Unit) (l : List (Nat × Nat)) : Prop :=
  IsMap D ∧ ∀ c : Nat, Maps.has D (.int .u8 c) = (look l c).isSome ∧ D.atKey (.int .u8 c) i0 = .lit (.int .i64 ((look l c).getD 0 : Nat))
/-- The map at block b holds what has been stored. -/
def KM (w : World) (b : Nat) (l : List (Nat × Nat)) : Prop := ∃ n D, n = l.length ∧ w.ownsMap Tryz.prog 5 El b n D ∧ Kl D l
theorem key_int (c : Int) : WideAt.IsKeyLit (.int .u8 c) := by simp [WideAt.IsKeyLit]
theorem eval_const (a : Act) (v : Value) : a.eval (.const v) = v := rfl
theorem KM.made (w : World) : KM (w.alloc (.map #[] 0)) w.heap.size [] :=
  ⟨0, .map [], rfl, World.ownsMap_made _ _ _ _, isMap_empty, fun _ => ⟨rfl, rfl⟩⟩
theorem KM.lt {w : World} {b : Nat} {l : List (Nat × Nat)} (h : KM w b l) : b < w.heap.size := by obtain ⟨_, _, _, h, _⟩ := h; exact h.lt
theorem KM.below {w w' : World} {b B : Nat} {l : List (Nat × Nat)} (h : KM w b l) (hb : Below B w w') (hB : b < B) : KM w' b l := by
  obtain ⟨n, D, hn, ⟨es, clock, hh, r⟩, hk⟩ := h
  exact ⟨n, D, hn, ⟨es, clock, (hb.block b hB).trans hh, r⟩, hk⟩
theorem KM.put {w : World} {b : Nat} {l : List (Nat × Nat)} (h : KM w b l) (c v : Nat) (hc : (Lit.int .u8 c).wf = true) (hv : (Lit.int .i64 v).wf = true) (hl : l.length < 100) :
    ∃ w', (Instr.mapUpdate 47 (.map (some b)) (.int .u8 c) (.int .i64 v)).run Tryz.prog w = .ok () w' ∧ KM w' b ((c, v) :: l) ∧ w.grownBy w' (some b) := by
  obtain ⟨n, D, rfl, ho, hm, hk⟩ := h
  obtain ⟨w', hrun, r1, r2⟩ := ho.update keyedU Tryz.underlying47 (by unfold maxLen; omega) (keyOf_int_mk Tryz.underlying5 hc) (plainElem_int Tryz.underlying3 hv)
  refine ⟨w', hrun, ⟨_, _, rfl, r1, hm.put _ _, fun c' => ?_⟩, r2⟩
  by_cases e : c' = c
  · subst e
    rw [has_put_same hm (key_int _), atKey_put_same hm (key_int _)]
    simp [look]
  · have hne : (Lit.int .u8 c' : Lit) ≠ .int .u8 c := by intro h; injection h with _ h; omega
    rw [has_put_other hne, atKey_put_other hne]
    simp only [look, if_neg e]
    exact hk c'
theorem wpList_ins {ops : Array Oper} {rest : List Oper} {o : Oper} {a : Act} {Q : Exit → Act → World → Prop} {w : World} {b : Nat} {l : List (Nat × Nat)}
    (hgd : o.guard = none) (m : Operand) (c v : Int) (ho : o.op = .insert 47 m (.const (.int .u8 c)) (.const (.int .i64 v))) (hd : o.dst = none) (hm : a.eval m = .map (some b)) (h : KM w b l)
    (hc : (c.toNat : Int) = c ∧ (Lit.int .u8 c).wf = true) (hv : (v.toNat : Int) = v ∧ (Lit.int .i64 v).wf = true) (hl : l.length < 100)
    (hK : ∀ w', KM w' b ((c.toNat, v.toNat) :: l) → w.grownBy w' (some b) → wpList Tryz.prog ops Q rest a w') : wpList Tryz.prog ops Q (o :: rest) a w := by
  refine wpList_plain hgd fun K hK' => ?_
  obtain ⟨w', hrun, r1, r2⟩ := h.put c.toNat v.toNat (by rw [hc.1]; exact hc.2) (by rw [hv.1]; exact hv.2) hl
  rw [hc.1, hv.1] at hrun
  unfold Oper.wp
  simp only [execOp, ho, hm, eval_const, Sem.run_bind, Sem.run_pure, Result.andThen_ok, hrun, Oper.upon_skip, hd]
  exact hK' _ _ (hK w' r1 r2)

/-- What kinds stores, the last first. -/
def kdL : List (Nat × Nat) := [(34, 12), (57, 10), (56, 10), (55, 10), (54, 10), (53, 10), (52, 10), (51, 10), (50, 10), (49, 10), (48, 10), (45, 10), (116, 9), (102, 8), (110, 7), (58, 6), (44, 5), (93, 4), (91, 3), (125, 2), (123, 1)]
theorem kdL_kd (c : UInt8) : (look kdL c.toNat).isSome = decide (kd c.toNat ≠ 0) ∧ (look kdL c.toNat).getD 0 = kd c.toNat := by
  have : ∀ n : Fin 256, (look kdL n.val).isSome = decide (kd n.val ≠ 0) ∧ (look kdL n.val).getD 0 = kd n.val := by decide +kernel
  exact this ⟨c.toNat, UInt8.toNat_lt c⟩
theorem below_in {B b : Nat} {w0 w w' : World} (hb : Below B w0 w) (hg : w.grownBy w' (some b)) (hB : B ≤ b) (hs : B ≤ w.heap.size) : Below B w0 w' :=
  hb.grown hg hs (fun k hk => by injection hk with hk; omega)

set_option maxHeartbeats 4000000 in
set_option maxRecDepth 100000 in
theorem kinds_at (w w1 : World) (b : Nat) (hmm : (Instr.makeMap 47 none).run Tryz.prog w = .ok (.map (some b)) w1) (hM : KM w1 b []) (hB : Hid (Below b w w1)) :
    Calls Tryz.prog 16 #[] w fun e w' => e = .returned (.map (some b)) ∧ Below b w w' ∧ KM w' b kdL := by
  have hl := Lib.hid hM.lt
  go_enter Tryz.func16, Tryz.ntmps16
  go_wp2_with (refine wpList_ins (by rfl) (.tmp 1) _ _ (by rfl) (by rfl) (by rfl) hM ⟨by rfl, by decide⟩ ⟨by rfl, by decide⟩ (by decide) ?_; clear hM; intro w' hM hg; have hB' := Lib.hid (below_in hB.out hg (Nat.le_refl _) (Nat.le_of_lt hl.out)); have hl' := Lib.hid hM.lt; clear hB hg hl; have hB := hB'; have hl := hl'; clear hB' hl')
  have HM := Lib.hid hM
  clear hM
  go_ret
  exact ⟨rfl, hB.out, HM.out⟩
theorem kinds_any (w : World) :
    Calls Tryz.prog 16 #[] w fun e w' => e = .returned (.map (some w.heap.size)) ∧ Below w.heap.size w w' ∧ KM w' w.heap.size kdL :=
  kinds_at w _ _ (run_makeMap _ _) (KM.made w) ((Below.refl _ _).alloc (Nat.le_refl _) _)

/-! startsWith, count, skipDigits, measure. -/
theorem indexByte_in (a : List UInt8) (c : UInt8) : decide (0 ≤ Go.Lib.indexByte a c) = isin a c := by
  unfold isin
  induction a with
  | nil => rfl
  | cons b l ih =>
    unfold Go.Lib.indexByte
    have h1 := Go.Lib.indexByte_ge l c
    by_cases hb : b = c
    · subst hb; simp
    · have hb' : (b == c) = false := by simpa using hb
      rw [hb']
      have hc : (b :: l).contains c = l.contains c := by simp [Ne.symm hb]
      rw [hc, ← ih]
      by_cases h2 : Go.Lib.indexByte l c = -1
      · rw [h2]; rfl
      · have h3 : (Go.Lib.indexByte l c == -1) = false := by simpa using h2
        rw [h3]
        simp
        omega
theorem toNat_toU8 (c : UInt8) : ((c.toNat : Int)).toNat.toUInt8 = c := by simp
set_option maxRecDepth 100000 in
theorem startsWith_any (s a : ByteArray) (w : World) : Calls Tryz.prog 42 #[.string s, .string a] w fun e w' => e = .returned (.bool (st a.data.toList s.data.toList)) ∧ w = w' := by
  rcases h : s.data.toList with _ | ⟨c, r⟩
  · have h1 : s.toList = [] := by rw [Lib.toList_data]; exact h
    have h2 : s.toList.isEmpty = true := by rw [h1]; rfl
    clear h
    go_enter Tryz.func42, Tryz.ntmps42
    go_wp2
    go_ret
    exact ⟨rfl, rfl⟩
  · have hpos : 0 < s.size := by rw [Lib.size_eq, h]; simp
    have h1 : ¬ s.toList = [] := by rw [Lib.toList_data, h]; simp
    have h2 : s.toList.isEmpty = false := by rw [Lib.toList_data, h]; rfl
    have hx : s[0] = c := by
      have : s.data.toList[0]? = some c := by rw [h]; rfl
      rw [Array.getElem?_toList] at this
      obtain ⟨h3, h4⟩ := Array.getElem?_eq_some_iff.1 this
      exact h4
    have C := Tryz.strings_IndexByte a (c.toNat : Int) w
    rw [toNat_toU8] at C
    have HC := Lib.hid C
    have HI := Lib.hid (indexByte_in a.data.toList c)
    clear C h
    go_enter Tryz.func42, Tryz.ntmps42
    go_wp2_with (go_at_call 51; refine HC.out.mono ?_; rintro e w1 ⟨rfl, hw⟩; subst hw)
    go_ret
    exact ⟨ret_bool (by show _ = isin a.data.toList c; rw [← HI.out]), rfl⟩
end Go.Proofs.YtodmlgbomhmbpaaGreatDoor
namespace Go.Proofs.YtodmlgbomhmbpaaGreatDoor
open Go.RowKit Ut Lx

theorem lx_drop (s : ByteArray) (k : Nat) : (s.extract k s.size).data.toList = s.data.toList.drop k := by
  rw [ByteArray.data_extract, Array.toList_extract, List.extract_eq_take_drop, List.take_of_length_le]
  rw [List.length_drop, ← Lib.size_eq]
  exact Nat.le_refl _
theorem lx_take (s : ByteArray) (k : Nat) : (s.extract 0 k).data.toList = s.data.toList.take k := by
  rw [ByteArray.data_extract, Array.toList_extract, List.extract_eq_take_drop]
  simp
set_option maxRecDepth 100000 in
set_option maxHeartbeats 1000000 in
theorem count_any (s a : ByteArray) (w : World) (hs : s.size ≤ 1099511627776) :
    Calls Tryz.prog 29 #[.string s, .string a] w fun e w' => e = .returned (.int .i64 (cnt a.data.toList s.data.toList : Nat)) ∧ w = w' := by
  have hle := cnt_le a.data.toList s.data.toList
  rw [← Lib.size_eq] at hle
  obtain ⟨K, hK⟩ : ∃ K, cnt a.data.toList s.data.toList = K := ⟨_, rfl⟩
  rw [hK] at hle ⊢
  have HK := Lib.hid hK
  clear hK
  go_enter Tryz.func29, Tryz.ntmps29
  go_wp2
  go_loop [5] (fun v => ∃ k : Nat, k ≤ K ∧ v = .int .i64 k) (fun v => K + 1 - (intOf v).toNat)
  case atStart => exact ⟨0, Nat.zero_le _, rfl⟩
  case round =>
    obtain ⟨k, hk, rfl⟩ := hrel
    have hks : k ≤ s.size := by omega
    have C := startsWith_any (s.extract k s.size) a w
    rw [lx_drop] at C
    rcases hst : st a.data.toList (s.data.toList.drop k) with _ | _
    · rw [hst] at C
      have hke : k = K := by rw [← HK.out]; exact (cnt_end (by rw [HK.out]; exact hk) hst).symm
      have HKE := Lib.hid hke
      have HC := Lib.hid C
      clear C hst hke
      go_wp2_with (go_at_call 42; refine HC.out.mono ?_; rintro e w1 ⟨rfl, hw⟩; subst hw)
      go_ret
      rw [HKE.out]
      exact ⟨rfl, rfl⟩
    · rw [hst] at C
      have hlt := cnt_step (by rw [HK.out]; exact hk) hst
      rw [HK.out] at hlt
      have HC := Lib.hid C
      clear C hst
      go_wp2_with (go_at_call 42; refine HC.out.mono ?_; rintro e w1 ⟨rfl, hw⟩; subst hw)
      go_round
      case rel => exact ⟨k + 1, hlt, by go_num⟩
      case measure => simp [intOf]; omega
def digS : ByteArray := ⟨#[48, 49, 50, 51, 52, 53, 54, 55, 56, 57]⟩
set_option maxRecDepth 100000 in
theorem skipDigits_any (s : ByteArray) (k : Nat) (w : World) (hs : s.size ≤ 1099511627776) (hk : k ≤ s.size) :
    Calls Tryz.prog 60 #[.string s, .int .i64 k] w fun e w' => e = .returned (.tuple #[.int .i64 ((skd s.data.toList k).1 : Nat), .bool (skd s.data.toList k).2]) ∧ w = w' := by
  have C := count_any (s.extract k s.size) ⟨#[48, 49, 50, 51, 52, 53, 54, 55, 56, 57]⟩ w (by rw [ByteArray.size_extract]; omega)
  rw [lx_drop] at C
  have hle := cnt_le dgL (s.data.toList.drop k)
  rw [List.length_drop, ← Lib.size_eq] at hle
  unfold skd
  obtain ⟨n, hn⟩ : ∃ n, cnt dgL (s.data.toList.drop k) = n := ⟨_, rfl⟩
  rw [hn] at hle ⊢
  have C2 : Calls Tryz.prog 29 #[.string (s.extract k s.size), .string ⟨#[48, 49, 50, 51, 52, 53, 54, 55, 56, 57]⟩] w fun e w' => e = .returned (.int .i64 (n : Nat)) ∧ w = w' := by rw [← hn]; exact C
  have HC := Lib.hid C2
  have hp : decide (0 < (n : Int)) = decide (0 < n) := by simp
  have HP := Lib.hid hp
  clear C C2 hn hp
  go_enter Tryz.func60, Tryz.ntmps60
  go_wp2_with (go_at_call 29; refine HC.out.mono ?_; rintro e w1 ⟨rfl, hw⟩; subst hw)
  go_ret2
  refine ⟨?_, rfl⟩
  show Ending.returned (.tuple #[.int .i64 ((k : Int) + (n : Int)), _]) = .returned (.tuple #[.int .i64 ((k + n : Nat) : Int), _])
  rw [Int.natCast_add]
  congr 4
end Go.Proofs.YtodmlgbomhmbpaaGreatDoor
namespace Go.Proofs.YtodmlgbomhmbpaaGreatDoor
open Go.RowKit Ut Lx

theorem sw (s : ByteArray) (k : Nat) (a : ByteArray) (b : Bool) (h : st a.data.toList (s.data.toList.drop k) = b) (w : World) :
    Calls Tryz.prog 42 #[.string (s.extract k s.size), .string a] w fun e w' => e = .returned (.bool b) ∧ w = w' := by
  have C := startsWith_any (s.extract k s.size) a w
  rw [lx_drop, h] at C
  exact C
theorem sw0 (s : ByteArray) (a : ByteArray) (b : Bool) (h : st a.data.toList s.data.toList = b) (w : World) :
    Calls Tryz.prog 42 #[.string s, .string a] w fun e w' => e = .returned (.bool b) ∧ w = w' := by
  have C := startsWith_any s a w
  rw [h] at C
  exact C
theorem sd (s : ByteArray) (k : Nat) (n : Nat) (c : Bool) (h : skd s.data.toList k = (n, c)) (hs : s.size ≤ 1099511627776) (hk : k ≤ s.size) (w : World) :
    Calls Tryz.prog 60 #[.string s, .int .i64 k] w fun e w' => e = .returned (.tuple #[.int .i64 (n : Nat), .bool c]) ∧ w = w' := by
  have C := skipDigits_any s k w hs hk
  rw [h] at C
  exact C
def M2 (w : World) (n : Nat) (c : Bool) (s2 s3 : Value) (wx : World) : Prop := s2 = .int .i64 (n : Nat) ∧ s3 = .bool c ∧ wx = w
def M1 (w : World) (n : Nat) (s2 : Value) (wx : World) : Prop := s2 = .int .i64 (n : Nat) ∧ wx = w
set_option maxRecDepth 100000 in
set_option maxHeartbeats 4000000 in
theorem measure_at (s : ByteArray) (l : List UInt8) (w : World) (hs : s.size ≤ 1099511627776) (hl : s.data.toList = l) (p n1 n2 n3 : Nat) (c1 c2 c3 : Bool) (hp : sgn l = p) (h1 : mI l = (n1, c1)) (h2 : mF l = (n2, c2)) (h3 : mX l = (n3, c3)) :
    Calls Tryz.prog 52 #[.string s] w fun e w' => e = .returned (.tuple #[.int .i64 (n3 : Nat), .bool c3]) ∧ w = w' := by
  have hsz : s.size = l.length := by rw [Lib.size_eq, hl]
  have hps : p ≤ s.size := by rw [← hp, hsz]; exact sgn_le l
  have hn1 : n1 ≤ s.size := by have := mI_le l; rw [h1] at this; rw [hsz]; exact this
  have hn2 : n2 ≤ s.size := by have := (mF_le l).1; rw [h2] at this; rw [hsz]; exact this
  have HL := Lib.hid hl
  have HSZ := Lib.hid hsz
  have HP := Lib.hid hp
  have H1 := Lib.hid h1
  have H2 := Lib.hid h2
  have H3 := Lib.hid h3
  clear hl hsz hp h1 h2 h3
  have SW := Lib.hid (fun (k : Nat) (a : ByteArray) (b : Bool) (h : st a.data.toList (l.drop k) = b) W => sw s k a b (by rw [HL.out]; exact h) W)
  have SD := Lib.hid (fun (k n : Nat) (c : Bool) (h : skd l k = (n, c)) (hk : k ≤ s.size) W => sd s k n c (by rw [HL.out]; exact h) hs hk W)
  have S0 := Lib.hid (fun (b : Bool) (h : st [45] l = b) W => sw0 s ⟨#[45]⟩ b (by rw [HL.out]; exact h) W)
  go_enter Tryz.func52, Tryz.ntmps52
  obtain ⟨b0, hb0⟩ : ∃ b, st [45] l = b := ⟨_, rfl⟩
  have HA := Lib.hid (S0.out _ hb0)
  have HB0 := Lib.hid hb0
  clear hb0
  go_upto_if 5 with (go_at_call 42; (with_reducible refine (HA.out _).mono ?_); rintro e w1 ⟨rfl, hw⟩; subst hw)
  go_cut [2] (fun s2 wx => Hid (M1 w p s2 wx))
  case first =>
    have HQ := Lib.hid (show sgn l = p from HP.out)
    rcases b0 with _ | _
    · have HQ := Lib.hid (show 0 = p by rw [← HP.out]; unfold sgn; rw [HB0.out]; rfl)
      go_wp2_with fail
      go_meet
      exact ⟨by rw [← HQ.out]; rfl, rfl⟩
    · have HQ := Lib.hid (show 1 = p by rw [← HP.out]; unfold sgn; rw [HB0.out]; rfl)
      go_wp2_with fail
      go_meet
      exact ⟨by rw [← HQ.out]; rfl, rfl⟩
  case rest =>
    obtain ⟨rfl, rfl⟩ := hcut
    clear HA HB0
    obtain ⟨b1, hb1⟩ : ∃ b, st [48] (l.drop p) = b := ⟨_, rfl⟩
    have HA := Lib.hid (SW.out _ ⟨#[48]⟩ _ hb1)
    have HB1 := Lib.hid hb1
    clear hb1
    go_upto_if 11 with (go_at_call 42; (with_reducible refine (HA.out _).mono ?_); rintro e w1 ⟨rfl, hw⟩; subst hw)
    go_cut [2, 3] (fun s2 s3 wx => Hid (M2 wc n1 c1 s2 s3 wx))
    case first =>
      rcases b1 with _ | _
      · have HD := Lib.hid (SD.out p n1 c1 (by rw [← H1.out]; unfold mI; rw [HP.out, HB1.out]; rfl) hps)
        go_wp2_with (go_at_call 60; (with_reducible refine (HD.out _).mono ?_); rintro e w1 ⟨rfl, hw⟩; subst hw)
        go_meet
        exact ⟨rfl, rfl, rfl⟩
      · have HQ := Lib.hid (show (p + 1, true) = (n1, c1) by rw [← H1.out]; unfold mI; rw [HP.out, HB1.out]; rfl)
        go_wp2_with fail
        go_meet
        have h := HQ.out
        injection h with h1 h2
        subst h1; subst h2
        exact ⟨rfl, rfl, rfl⟩
    case rest =>
      obtain ⟨rfl, rfl, rfl⟩ := hcut
      clear HA HB1
      rcases c1 with _ | _
      · have HQ := Lib.hid (show n1 = n3 ∧ false = c3 from by
          have h2 := H2.out
          unfold mF at h2
          rw [H1.out] at h2
          have h3 := H3.out
          unfold mX at h3
          have e2 : mF l = (n1, false) := by rw [H2.out, ← h2]; rfl
          rw [e2] at h3
          injection h3 with h3 h4
          exact ⟨h3, h4⟩)
        go_wp2_with fail
        go_ret2
        rw [HQ.out.1, HQ.out.2]
        exact ⟨rfl, rfl⟩
      · obtain ⟨b2, hb2⟩ : ∃ b, st [46] (l.drop n1) = b := ⟨_, rfl⟩
        have HA := Lib.hid (SW.out _ ⟨#[46]⟩ _ hb2)
        have HB2 := Lib.hid hb2
        clear hb2
        go_upto_if 26 with (go_at_call 42; (with_reducible refine (HA.out _).mono ?_); rintro e w1 ⟨rfl, hw⟩; subst hw)
        go_cut [2, 3] (fun s2 s3 wx => Hid (M2 wc n2 c2 s2 s3 wx))
        case first =>
          rcases b2 with _ | _
          · have HQ := Lib.hid (show (n1, true) = (n2, c2) by rw [← H2.out]; unfold mF; rw [H1.out]; show _ = if (true && st [46] (l.drop n1)) = true then _ else _; rw [HB2.out]; rfl)
            go_wp2_with fail
            go_meet
            have h := HQ.out
            injection h with h1 h2
            subst h1; subst h2
            exact ⟨rfl, rfl, rfl⟩
          · have hlt : n1 < s.size := by rw [HSZ.out]; exact st_pos HB2.out
            have HD := Lib.hid (SD.out (n1 + 1) n2 c2 (by rw [← H2.out]; unfold mF; rw [H1.out]; show _ = if (true && st [46] (l.drop n1)) = true then _ else _; rw [HB2.out]; rfl) hlt)
            have HD2 := Lib.hid (fun W => (show Calls Tryz.prog 60 #[.string s, .int .i64 ((n1 : Int) + 1)] W fun e w' => e = .returned (.tuple #[.int .i64 (n2 : Nat), .bool c2]) ∧ W = w' from HD.out W))
            clear HD
            go_wp2_with (go_at_call 60; (with_reducible refine (HD2.out _).mono ?_); rintro e w1 ⟨rfl, hw⟩; subst hw)
            go_meet
            exact ⟨rfl, rfl, rfl⟩
        case rest =>
          obtain ⟨rfl, rfl, rfl⟩ := hcut
          clear HA HB2
          rcases c2 with _ | _
          · have HQ := Lib.hid (show n2 = n3 ∧ false = c3 from by
              have h3 := H3.out
              unfold mX at h3
              rw [H2.out] at h3
              injection h3 with h3 h4
              exact ⟨h3, h4⟩)
            go_wp2_with fail
            go_ret2
            rw [HQ.out.1, HQ.out.2]
            exact ⟨rfl, rfl⟩
          · obtain ⟨b3, hb3⟩ : ∃ b, st [101, 69] (l.drop n2) = b := ⟨_, rfl⟩
            have HA := Lib.hid (SW.out _ ⟨#[101, 69]⟩ _ hb3)
            have HB3 := Lib.hid hb3
            clear hb3
            rcases b3 with _ | _
            · have HQ := Lib.hid (show n2 = n3 ∧ true = c3 from by
                have h3 := H3.out
                unfold mX at h3
                rw [H2.out] at h3
                rw [show (((n2, true) : Nat × Bool).2 && st [101, 69] (l.drop ((n2, true) : Nat × Bool).1)) = st [101, 69] (l.drop n2) from rfl, HB3.out] at h3
                injection h3 with h3 h4
                exact ⟨h3, h4⟩)
              go_wp2_with (go_at_call 42; (with_reducible refine (HA.out _).mono ?_); rintro e w1 ⟨rfl, hw⟩; subst hw)
              go_ret2
              rw [HQ.out.1, HQ.out.2]
              exact ⟨rfl, rfl⟩
            · have hlt : n2 < s.size := by rw [HSZ.out]; exact st_pos HB3.out
              obtain ⟨m, hm⟩ : ∃ m, n2 + 1 = m := ⟨_, rfl⟩
              have hmi : (n2 : Int) + 1 = (m : Int) := by omega
              have hms : m ≤ s.size := by omega
              have H3b := Lib.hid (show skd l (mS l m) = (n3, c3) from by
                have h3 := H3.out
                unfold mX at h3
                rw [H2.out] at h3
                rw [show (((n2, true) : Nat × Bool).2 && st [101, 69] (l.drop ((n2, true) : Nat × Bool).1)) = st [101, 69] (l.drop n2) from rfl, HB3.out] at h3
                rw [← hm]
                exact h3)
              obtain ⟨b4, hb4⟩ : ∃ b, st [43, 45] (l.drop m) = b := ⟨_, rfl⟩
              have HA4 := Lib.hid (SW.out _ ⟨#[43, 45]⟩ _ hb4)
              have HB4 := Lib.hid hb4
              clear hb4 hm
              rcases b4 with _ | _
              · have HD := Lib.hid (SD.out m n3 c3 (by rw [← H3b.out]; unfold mS; rw [HB4.out]; rfl) hms)
                go_wp2_with (first
                  | (go_at_call 42; (with_reducible refine (HA.out _).mono ?_); rintro e w1 ⟨rfl, hw⟩; subst hw)
                  | (go_at_call 42; (with_reducible refine (HA4.out _).mono ?_); rintro e w1 ⟨rfl, hw⟩; subst hw)
                  | (go_at_call 60; (with_reducible refine (HD.out _).mono ?_); rintro e w1 ⟨rfl, hw⟩; subst hw))
                go_ret2
                exact ⟨rfl, rfl⟩
              · have hlt4 : m < s.size := by rw [HSZ.out]; exact st_pos HB4.out
                obtain ⟨m4, hm4⟩ : ∃ m4, m + 1 = m4 := ⟨_, rfl⟩
                have hmi4 : (m : Int) + 1 = (m4 : Int) := by omega
                have hms4 : m4 ≤ s.size := by omega
                have HD := Lib.hid (SD.out m4 n3 c3 (by rw [← H3b.out]; unfold mS; rw [HB4.out, ← hm4]; rfl) hms4)
                clear hm4
                go_wp2_with (first
                  | (go_at_call 42; (with_reducible refine (HA.out _).mono ?_); rintro e w1 ⟨rfl, hw⟩; subst hw)
                  | (go_at_call 42; (with_reducible refine (HA4.out _).mono ?_); rintro e w1 ⟨rfl, hw⟩; subst hw)
                  | (go_at_call 60; (with_reducible refine (HD.out _).mono ?_); rintro e w1 ⟨rfl, hw⟩; subst hw))
                go_ret2
                exact ⟨rfl, rfl⟩
theorem measure_any (s : ByteArray) (w : World) (hs : s.size ≤ 1099511627776) :
    Calls Tryz.prog 52 #[.string s] w fun e w' => e = .returned (.tuple #[.int .i64 ((mX s.data.toList).1 : Nat), .bool (mX s.data.toList).2]) ∧ w = w' :=
  measure_at s _ w hs rfl _ _ _ _ _ _ _ rfl rfl rfl rfl
end Go.Proofs.YtodmlgbomhmbpaaGreatDoor
