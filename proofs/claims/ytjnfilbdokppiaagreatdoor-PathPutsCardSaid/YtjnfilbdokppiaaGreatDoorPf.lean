/-
  What is proved here: plain facts of steps of paths and of where they lead in a tree; no program in this text; no condition but those that each fact states; and: how a path (a list of steps) lies in memory, and that an argument which reads as such a list is one; no condition but those that each fact states; and: contracts of path.startsWithDigit, path.countDigits, the law's at, by, num, vec, table, and of EqSteps; conditions: those that each states (lengths).
-/
import Derived.Test.YtjnfilbdokppiaaGreatDoorCheck
import Derived.Lib.ItoaMem
import Derived.Lib.Atoi
import Derived.Lib.SlicesS
import Derived.Test.YtjnfilbdokppiaaGreatDoorCopy
namespace Go.Proofs.YtjnfilbdokppiaaGreatDoor
open Go.Lib

/-- A step: a key, an index, and which of the two counts. -/
structure Stp where
  k : ByteArray
  a : Int
  b : Bool

def isDg (c : UInt8) : Bool := decide (48 ≤ c.toNat) && decide (c.toNat ≤ 57)
def dgs (l : List UInt8) : List UInt8 := l.takeWhile isDg
def dgV (l : List UInt8) : Nat := (decFrom 0 l).getD 0
/-- Where a step leads. -/
def lead (t : T) (s : Stp) : Option Nat :=
  if s.b = true then (if t.k = 17 then (if 0 ≤ idxOfS t.ks s.k ∧ idxOfS t.ks s.k < (t.l.length : Int) then some (idxOfS t.ks s.k).toNat else none) else none)
  else if 0 ≤ s.a ∧ s.a < (t.l.length : Int) then some s.a.toNat else none
theorem lead_lt {t : T} {s : Stp} {i : Nat} (h : lead t s = some i) : i < t.l.length := by
  unfold lead at h
  repeat' split at h
  all_goals first | (injection h with h; omega) | cases h
def getT : T → List Stp → Option T
  | t, [] => some t
  | t, s :: ss => match lead t s with
    | none => none
    | some i => match t.l[i]? with
      | none => none
      | some c => getT c ss
def setT : T → List Stp → T → Option T
  | _, [], n => some n
  | t, s :: ss, n => match lead t s with
    | none => none
    | some i => match t.l[i]? with
      | none => none
      | some c => match setT c ss n with
        | none => none
        | some c' => some (.mk t.k t.n t.u t.s t.ks (t.l.set i c'))
end Go.Proofs.YtjnfilbdokppiaaGreatDoor
namespace Go.Proofs.YtjnfilbdokppiaaGreatDoor
open Go.ChangeShapes Go.WideShapes Go.RowKit Go.Deep

/-- A step whose numbers fit. -/
def okR (s : Stp) : Prop := s.k.size ≤ maxLen ∧ -9223372036854775808 ≤ s.a ∧ s.a ≤ 9223372036854775807
/-- The three cells of a step. -/
def At3 (w : World) (b o : Nat) (s : Stp) : Prop := w.cell? ⟨b, o, none⟩ = some (.string s.k) ∧ w.cell? ⟨b, o + 1, none⟩ = some (.int .i64 s.a) ∧ w.cell? ⟨b, o + 2, none⟩ = some (.bool s.b)
theorem At3.below {w w' : World} {B b o : Nat} {s : Stp} (h : At3 w b o s) (hb : Below B w w') (hl : b < B) : At3 w' b o s :=
  ⟨(hb.cell (p := ⟨b, o, none⟩) hl).trans h.1, (hb.cell (p := ⟨b, o + 1, none⟩) hl).trans h.2.1, (hb.cell (p := ⟨b, o + 2, none⟩) hl).trans h.2.2⟩
/-- A value reads as a path. -/
def RdP (w : World) (v : Value) (ps : List Stp) : Prop :=
  ∃ A n c, v = .slice A n c ∧ ps.length = n ∧ n ≤ c ∧ c ≤ maxLen ∧ (∀ s ∈ ps, okR s) ∧ (0 < n → ∃ b off, A = some ⟨b, off, none⟩ ∧ b < w.heap.size ∧ ∀ j s, ps[j]? = some s → At3 w b (off + j * 3) s)
theorem RdP.below {w w' : World} {v : Value} {ps : List Stp} (h : RdP w v ps) (hb : Below w.heap.size w w') : RdP w' v ps := by
  obtain ⟨A, n, c, rfl, h1, h2, h3, h4, h5⟩ := h
  refine ⟨A, n, c, rfl, h1, h2, h3, h4, fun hn => ?_⟩
  obtain ⟨b, off, rfl, hlt, hc⟩ := h5 hn
  exact ⟨b, off, rfl, Nat.lt_of_lt_of_le hlt hb.size, fun j s hs => (hc j s hs).below hb hlt⟩
theorem rdp_nil (w : World) : RdP w (.slice none 0 0) [] := ⟨none, 0, 0, rfl, rfl, Nat.le_refl _, by unfold maxLen; omega, by simp, fun h => absurd h (by omega)⟩
/-- One step of a path, in a later world. -/
theorem RdP.at {w : World} {v : Value} {ps : List Stp} (h : RdP w v ps) : ∃ A n c, v = .slice A n c ∧ ps.length = n ∧ n ≤ c ∧ c ≤ maxLen ∧ (∀ s ∈ ps, okR s) ∧
    (0 < n → ∃ b off, A = some ⟨b, off, none⟩ ∧ b < w.heap.size ∧ ∀ wr, Below w.heap.size w wr → ∀ j s, ps[j]? = some s → At3 wr b (off + j * 3) s) := by
  obtain ⟨A, n, c, rfl, h1, h2, h3, h4, h5⟩ := h
  refine ⟨A, n, c, rfl, h1, h2, h3, h4, fun hn => ?_⟩
  obtain ⟨b, off, rfl, hlt, hc⟩ := h5 hn
  exact ⟨b, off, rfl, hlt, fun wr hb j s hs => (hc j s hs).below hb hlt⟩
/-- The cells of a list of steps. -/
def pv (ps : List Stp) : List Value := ps.flatMap fun s => [.string s.k, .int .i64 s.a, .bool s.b]
theorem pv_length (ps : List Stp) : (pv ps).length = ps.length * 3 := by
  induction ps with
  | nil => rfl
  | cons s ps ih => simp only [pv, List.flatMap_cons, List.length_append, List.length_cons, List.length_nil] at ih ⊢; omega
theorem pv_app (a b : List Stp) : pv (a ++ b) = pv a ++ pv b := by simp [pv]
theorem pv_one (ps : List Stp) : ∀ u ∈ pv ps, u.oneCell' = true := by
  intro u hu
  simp only [pv, List.mem_flatMap] at hu
  obtain ⟨s, _, hs⟩ := hu
  simp only [List.mem_cons, List.not_mem_nil, or_false] at hs
  rcases hs with rfl | rfl | rfl <;> rfl
theorem pv_at : ∀ (ps : List Stp) (j : Nat) (s : Stp), ps[j]? = some s → (pv ps)[j * 3]? = some (.string s.k) ∧ (pv ps)[j * 3 + 1]? = some (.int .i64 s.a) ∧ (pv ps)[j * 3 + 2]? = some (.bool s.b)
  | [], j, s, h => by simp at h
  | x :: ps, 0, s, h => by
    obtain rfl : x = s := by simpa using h
    simp [pv]
  | x :: ps, j + 1, s, h => by
    have ih := pv_at ps j s (by simpa using h)
    have e : pv (x :: ps) = .string x.k :: .int .i64 x.a :: .bool x.b :: pv ps := by simp [pv]
    rw [e, show (j + 1) * 3 = j * 3 + 1 + 1 + 1 by omega]
    simpa using ih
/-- A row of the call's own that reads as a path. -/
theorem own_rdp {w : World} {B : Nat} {v : Value} {ps : List Stp} (h : w.ownsRow B 51 3 v ps.length (pv ps)) (hR : ∀ s ∈ ps, okR s) : RdP w v ps := by
  obtain ⟨A, c, rfl⟩ := (Ow.of h).shape
  obtain ⟨A', c', hv, hle, hc, hA⟩ := (Ow.of h).cells
  injection hv with e1 e2 e3
  subst e1; subst e3
  refine ⟨A, _, c, rfl, rfl, hle, hc, hR, fun hn => ?_⟩
  obtain ⟨g, rfl, hg, _, hcell⟩ := hA hn
  refine ⟨g, 0, rfl, hg, fun j s hs => ?_⟩
  have hj : j < ps.length := (List.getElem?_eq_some_iff.1 hs).1
  obtain ⟨h0, h1, h2⟩ := pv_at ps j s hs
  unfold At3
  rw [Nat.zero_add]
  exact ⟨(hcell _ (by omega)).trans h0, (hcell _ (by omega)).trans h1, (hcell _ (by omega)).trans h2⟩

/-- The types of a program's steps. -/
structure ST (P : Program) (tn tl : TypeId) where
  f0 : Field
  f1 : Field
  f2 : Field
  hs : P.underlying tn = some (.struct #[f0, f1, f2])
  hC : P.cellsOf tn = 3
  u0 : P.underlying f0.type = some .string
  u1 : P.underlying f1.type = some (.int .i64)
  u2 : P.underlying f2.type = some .bool
  u5 : P.underlying tl = some (.slice tn)
  o0 : f0.offset = 0 ∧ P.cellsOf f0.type = 1
  o1 : f1.offset = 1 ∧ P.cellsOf f1.type = 1
  o2 : f2.offset = 2 ∧ P.cellsOf f2.type = 1

section
variable {H : Type} {enc : TypeId × Value → H} {P : Program} {w : World} {spare : Nat → Bool} {held : Bool} {tn tl : TypeId}
theorem open_step (S : ST P tn tl) (fuel : Nat) (cs : List Value) (x : DataW H × List MemPlace) (h : DataW.trod enc P w 0 spare held fuel tn cs = some x) : ∃ s, okR s ∧ cs = [.string s.k, .int .i64 s.a, .bool s.b] := by
  obtain ⟨xs, n, hn, rfl, hlen, hxl, hf⟩ := DataW.trod_struct S.hs h
  rw [S.hC] at hlen
  match cs, hlen with
  | [c0, c1, c2], _ =>
    have g0 := hf 0 S.f0 rfl
    have g1 := hf 1 S.f1 rfl
    have g2 := hf 2 S.f2 rfl
    match xs, hxl with
    | [y0, y1, y2], _ =>
      simp only [S.o0.1, S.o0.2, S.o1.1, S.o1.2, S.o2.1, S.o2.2, List.drop_succ_cons, List.drop_zero, List.take_succ_cons, List.take_zero, List.getElem?_cons_zero, List.getElem?_cons_succ] at g0 g1 g2
      obtain ⟨s, hs, _, ws⟩ := DataW.trod_string S.u0 g0
      obtain ⟨k, hk, _, wk⟩ := DataW.trod_int S.u1 g1
      obtain ⟨b, hb, _⟩ := DataW.trod_bool S.u2 g2
      have wk := wf_i64 wk
      obtain rfl : c0 = _ := by simpa using hs
      obtain rfl : c1 = _ := by simpa using hk
      obtain rfl : c2 = _ := by simpa using hb
      exact ⟨⟨s, k, b⟩, ⟨ws, wk.1, wk.2⟩, rfl⟩
/-- Whatever reads as a list of steps is a path. -/
theorem open_steps (S : ST P tn tl) (fuel : Nat) (v : Value) (x : DataW H × List MemPlace) (g5 : DataW.trod enc P w 0 spare held fuel tl [v] = some x) : ∃ ps, RdP w v ps := by
  rcases DataW.trod_slice S.u5 g5 with ⟨hc, _⟩ | ⟨a, len, cap, elems, rest, n', hn', hc, _, _, hl, hm, hel, he, _, _⟩
  · obtain rfl : v = .slice none 0 0 := by simpa using hc
    exact ⟨[], rdp_nil w⟩
  · obtain rfl : v = .slice (some a) len cap := by simpa using hc
    have each : ∀ j, j < len → ∃ s, okR s ∧ w.cells? 0 (a.add (j * 3)) 3 = some [.string s.k, .int .i64 s.a, .bool s.b] := by
      intro j hj
      have hj' := he j hj
      rw [S.hC, List.getElem?_eq_getElem (by omega)] at hj'
      obtain ⟨cs', h1, h2⟩ := Option.bind_eq_some_iff.1 hj'
      obtain ⟨s, hs, rfl⟩ := open_step S n' cs' _ h2
      exact ⟨s, hs, h1⟩
    have hex : ∀ m, m ≤ len → ∃ l : List Stp, l.length = m ∧ (∀ s ∈ l, okR s) ∧ ∀ j s, l[j]? = some s → w.cells? 0 (a.add (j * 3)) 3 = some [.string s.k, .int .i64 s.a, .bool s.b] := by
      intro m
      induction m with
      | zero => exact fun _ => ⟨[], rfl, by simp, fun j t h => by simp at h⟩
      | succ m ihm =>
        intro hm2
        obtain ⟨l, hl1, hl3, hl2⟩ := ihm (by omega)
        obtain ⟨s, hs, h1⟩ := each m (by omega)
        refine ⟨l ++ [s], by simp [hl1], fun x hx => ?_, fun j t' hj => ?_⟩
        · rcases List.mem_append.1 hx with hx | hx
          · exact hl3 x hx
          · obtain rfl := List.mem_singleton.1 hx; exact hs
        · rcases Nat.lt_or_ge j l.length with hlt | hge
          · rw [List.getElem?_append_left hlt] at hj
            exact hl2 j t' hj
          · rw [List.getElem?_append_right hge] at hj
            have hj0 : j - l.length = 0 := by
              have := (List.getElem?_eq_some_iff.1 hj).1
              simp at this
              exact this
            rw [hj0] at hj
            obtain rfl : s = t' := by simpa using hj
            have : j = m := by omega
            subst this
            exact h1
    obtain ⟨l, hl1, hl3, hl2⟩ := hex len (Nat.le_refl _)
    refine ⟨l, some a, len, cap, rfl, hl1, hl, hm, hl3, fun hpos => ?_⟩
    obtain ⟨b, off, spot⟩ := a
    obtain ⟨t0, ht0⟩ : ∃ t0, l[0]? = some t0 := ⟨_, List.getElem?_eq_getElem (by omega)⟩
    have h1 := hl2 0 t0 ht0
    obtain ⟨_, hlen0, hcell0⟩ := World.cells?_some h1
    have h00 := hcell0 0 (by omega)
    rw [List.getElem?_eq_getElem (by simp)] at h00
    have hspot : spot = none := by simpa [Addr.add] using World.cell?_spot h00
    subst hspot
    refine ⟨b, off, rfl, ?_, fun j t hj => ?_⟩
    · have := World.block_lt_of_cell? w _ h00
      simpa [Addr.add] using this
    · obtain ⟨_, _, hcell⟩ := World.cells?_some (hl2 j t hj)
      have e : ∀ i, (((⟨b, off, none⟩ : Addr).add (j * 3)).add i) = ⟨b, off + j * 3 + i, none⟩ := by
        intro i
        unfold Addr.add
        by_cases hj0 : j * 3 = 0
        · by_cases hi0 : i = 0 <;> simp [hj0, hi0]
        · by_cases hi0 : i = 0 <;> simp [hj0, hi0]
      refine ⟨?_, ?_, ?_⟩
      · have := hcell 0 (by omega); rw [e] at this; exact this
      · have := hcell 1 (by omega); rw [e] at this; exact this
      · have := hcell 2 (by omega); rw [e] at this; exact this
end
end Go.Proofs.YtjnfilbdokppiaaGreatDoor
namespace Go.Proofs.YtjnfilbdokppiaaGreatDoor
open Go.RowKit

/-! Digits. -/
def dg0 : List UInt8 → Bool
  | [] => false
  | c :: _ => isDg c
theorem dgs_pos (l : List UInt8) : dg0 l = decide ((dgs l).length ≠ 0) := by
  cases l with
  | nil => rfl
  | cons c r =>
    unfold dg0 dgs
    rw [List.takeWhile_cons]
    cases h : isDg c <;> simp [h]
theorem dgs_drop : ∀ (l : List UInt8) (k : Nat), k ≤ (dgs l).length → dg0 (l.drop k) = decide (k < (dgs l).length)
  | [], k, h => by
    have : k = 0 := by simpa [dgs] using h
    subst this; rfl
  | c :: r, 0, _ => by
    rw [List.drop_zero, dgs_pos]
    congr 1
    exact propext ⟨fun h => Nat.pos_of_ne_zero h, fun h => by omega⟩
  | c :: r, k + 1, h => by
    unfold dgs at h ⊢
    rw [List.takeWhile_cons] at h ⊢
    cases hc : isDg c with
    | false => rw [hc] at h; simp at h
    | true =>
      rw [hc] at h
      simp only [if_true, List.length_cons] at h ⊢
      rw [List.drop_succ_cons]
      have := dgs_drop r k (by unfold dgs; omega)
      rw [this]
      unfold dgs
      congr 1
      exact propext ⟨fun h => by omega, fun h => by omega⟩
theorem dgs_le (l : List UInt8) : (dgs l).length ≤ l.length := by
  unfold dgs
  exact (List.takeWhile_sublist _).length_le
theorem ps_drop (s : ByteArray) (k : Nat) : (s.extract k s.size).data.toList = s.data.toList.drop k := by
  rw [ByteArray.data_extract, Array.toList_extract, List.extract_eq_take_drop, List.take_of_length_le]
  rw [List.length_drop, ← Lib.size_eq]
  exact Nat.le_refl _
theorem retB {a b : Bool} (h : a = b) : Ending.returned (.bool a) = .returned (.bool b) := by rw [h]

set_option maxRecDepth 100000 in
theorem swd_any (s : ByteArray) (l : List UInt8) (hl : s.data.toList = l) (w : World) : Calls Tryz.prog 52 #[.string s] w fun e w' => e = .returned (.bool (dg0 l)) ∧ w = w' := by
  rcases h : l with _ | ⟨c, r⟩
  · have h1 : s.toList = [] := by rw [Lib.toList_data, hl]; exact h
    have h2 : s.toList.isEmpty = true := by rw [h1]; rfl
    have h3 : s.size = 0 := by rw [Lib.size_eq, hl, h]; rfl
    clear h hl
    go_enter Tryz.func52, Tryz.ntmps52
    go_wp2
    go_ret
    exact ⟨rfl, rfl⟩
  · rw [h] at hl
    have hpos : 0 < s.size := by rw [Lib.size_eq, hl]; simp
    have h1 : ¬ s.toList = [] := by rw [Lib.toList_data, hl]; simp
    have h2 : s.toList.isEmpty = false := by rw [Lib.toList_data, hl]; rfl
    have hx : s[0] = c := by
      have : s.data.toList[0]? = some c := by rw [hl]; rfl
      rw [Array.getElem?_toList] at this
      obtain ⟨h3, h4⟩ := Array.getElem?_eq_some_iff.1 this
      exact h4
    have hc := UInt8.toNat_lt c
    have e1 : decide ((48 : Int) ≤ (c.toNat : Int)) = decide (48 ≤ c.toNat) := by rw [decide_eq_decide]; omega
    have e2 : decide ((c.toNat : Int) ≤ 57) = decide (c.toNat ≤ 57) := by rw [decide_eq_decide]; omega
    have HR : Hid (dg0 (c :: r) = (decide (48 ≤ c.toNat) && decide (c.toNat ≤ 57))) := Lib.hid rfl
    clear h hl
    by_cases g1 : 48 ≤ c.toNat
    · rw [decide_eq_true g1] at e1
      go_enter Tryz.func52, Tryz.ntmps52
      go_wp2
      go_ret
      refine ⟨?_, rfl⟩
      rw [HR.out, decide_eq_true g1, Bool.true_and]
      rfl
    · rw [decide_eq_false g1] at e1
      go_enter Tryz.func52, Tryz.ntmps52
      go_wp2
      go_ret
      refine ⟨?_, rfl⟩
      rw [HR.out, decide_eq_false g1, Bool.false_and]
      rfl

set_option maxRecDepth 100000 in
set_option maxHeartbeats 1000000 in
theorem countD_any (s : ByteArray) (l : List UInt8) (hl : s.data.toList = l) (w : World) (hs : s.size ≤ 1099511627776) :
    Calls Tryz.prog 47 #[.string s] w fun e w' => e = .returned (.int .i64 ((dgs l).length : Nat)) ∧ w = w' := by
  have hle := dgs_le l
  rw [← hl, ← Lib.size_eq] at hle
  rw [hl] at hle
  obtain ⟨K, hK⟩ : ∃ K, (dgs l).length = K := ⟨_, rfl⟩
  rw [hK] at hle ⊢
  have HK := Lib.hid hK
  have HL := Lib.hid hl
  clear hK hl
  go_enter Tryz.func47, Tryz.ntmps47
  go_wp2
  go_loop [3] (fun v => ∃ k : Nat, k ≤ K ∧ v = .int .i64 k) (fun v => K + 1 - (intOf v).toNat)
  case atStart => exact ⟨0, Nat.zero_le _, rfl⟩
  case round =>
    obtain ⟨k, hk, rfl⟩ := hrel
    have hks : k ≤ s.size := by omega
    have C := swd_any (s.extract k s.size) (l.drop k) (by rw [ps_drop, HL.out]) w
    rw [dgs_drop l k (by rw [HK.out]; exact hk), HK.out] at C
    by_cases hlt : k < K
    · rw [decide_eq_true hlt] at C
      have HC := Lib.hid C
      clear C
      go_wp2_with (go_at_call 52; refine HC.out.mono ?_; rintro e w1 ⟨rfl, hw⟩; subst hw)
      go_round
      case rel => exact ⟨k + 1, hlt, by go_num⟩
      case measure => simp [intOf]; omega
    · rw [decide_eq_false hlt] at C
      have HC := Lib.hid C
      clear C
      obtain rfl : k = K := by omega
      go_wp2_with (go_at_call 52; refine HC.out.mono ?_; rintro e w1 ⟨rfl, hw⟩; subst hw)
      go_ret
      exact ⟨rfl, rfl⟩

/-! The law's constructors. -/
theorem loadVar_three {w : World} {g : Nat} {v0 v1 v2 : Value} (h : Blk w g 51 #[v0, v1, v2]) : (loadVar 51 ⟨g, 0, none⟩).run Tryz.prog w = .ok (.agg #[v0, v1, v2]) w := by
  have c0 : w.cell? ⟨g, 0, none⟩ = some v0 := by rw [Blk.cell h]; rfl
  have c1 : w.cell? ⟨g, 1, none⟩ = some v1 := by rw [Blk.cell h]; rfl
  have c2 : w.cell? ⟨g, 2, none⟩ = some v2 := by rw [Blk.cell h]; rfl
  simp [go_sem, c0, c1, c2]
/-- The result is a step in a cell of its own. -/
theorem ret_three {f : Func} {R : Ending → World → Prop} {a : Act} {w : World} {p : Tmp} {g : Nat} {v0 v1 v2 : Value} (hres : f.results = #[.cell p 51]) (hp : a.tmps.getD p undef = .pointer (some ⟨g, 0, none⟩)) (hB : Blk w g 51 #[v0, v1, v2]) (hd : a.defers = [])
    (hR : R (.returned (.agg #[v0, v1, v2])) w) : bodyPost Tryz.prog f R .ret a w := by
  refine bodyPost_ret ?_ hd hR
  have hp' : a.tmps[p]?.getD undef = .pointer (some ⟨g, 0, none⟩) := by simpa using hp
  simp only [results, hres]
  simp [hp', asAddr, loadVar_three hB]
theorem at_any (n : Int) (w : World) : Calls Tryz.prog 31 #[.int .i64 n] w fun e w' => e = .returned (.agg #[.string ⟨#[]⟩, .int .i64 n, .bool false]) ∧ Below w.heap.size w w' := by
  go_enter Tryz.func31, Tryz.ntmps31
  go_wp2
  exact ret_three (p := 2) (g := w.heap.size) rfl rfl (Blk.new _ _ _) rfl ⟨rfl, (Below.refl _ w).alloc (Nat.le_refl _) _⟩
theorem by_any (k : ByteArray) (w : World) : Calls Tryz.prog 33 #[.string k] w fun e w' => e = .returned (.agg #[.string k, .int .i64 0, .bool true]) ∧ Below w.heap.size w w' := by
  go_enter Tryz.func33, Tryz.ntmps33
  go_wp2
  exact ret_three (p := 2) (g := w.heap.size) rfl rfl (Blk.new _ _ _) rfl ⟨rfl, (Below.refl _ w).alloc (Nat.le_refl _) _⟩

/-! EqSteps. -/
theorem stpS : Tryz.prog.underlying 51 = some (.struct (Tryz.prog.fieldsOf 51)) := by kernel_rfl
theorem stpH : Tryz.prog.stoodInHeld 51 = false := by kernel_rfl
theorem stpG : Tryz.prog.eqGuardType Tryz.prog.depth 51 = false := by kernel_rfl
theorem neStp (w : World) (x y : ByteArray) (a c : Int) (b d : Bool) : (binOp .neq 51 (.agg #[.string x, .int .i64 a, .bool b]) (.agg #[.string y, .int .i64 c, .bool d])).run Tryz.prog w = .ok (.bool (!((x.toList == y.toList) && ((a == c) && (b == d))))) w := by
  have u3 := Tryz.underlying3
  have a3 := Tryz.isAgg3
  have z3 := Tryz.sizeOf3
  have u4 := Tryz.underlying4
  have a4 := Tryz.isAgg4
  have z4 := Tryz.sizeOf4
  have u5 := Tryz.underlying9
  have a5 := Tryz.isAgg9
  have z5 := Tryz.sizeOf9
  rw [run_neq_struct, show (10000 : Nat) = 9999 + 1 from rfl, run_equalIn_agg w 9999 51 _ _ stpS stpH]
  simp only [Program.fieldsOf, Tryz.underlying51]
  go_simp
  by_cases h1 : x.toList = y.toList
  · by_cases h2 : a = c
    · by_cases h3 : b = d
      · simp [h1, h2, h3]
      · simp [h1, h2, h3]
    · simp [h1, h2]
  · simp [h1]
theorem stp_eq {s r : Stp} (h : s = r) : (!((s.k.toList == r.k.toList) && ((s.a == r.a) && (s.b == r.b)))) = false := by subst h; simp
theorem stp_ne {s r : Stp} (h : s ≠ r) : (!((s.k.toList == r.k.toList) && ((s.a == r.a) && (s.b == r.b)))) = true := by
  obtain ⟨k, a, b⟩ := s
  obtain ⟨k', a', b'⟩ := r
  by_cases h1 : k = k'
  · subst h1
    by_cases h2 : a = a'
    · subst h2
      have : b ≠ b' := by rintro rfl; exact h rfl
      simp [this]
    · simp [h2]
  · simp only [strEq_false h1]; rfl

set_option maxRecDepth 100000 in
set_option maxHeartbeats 1000000 in
/-- EqSteps. -/
theorem eqSteps_any (p q : List Stp) (v u : Value) (w : World) (ha : RdP w v p) (hb : RdP w u q) (hal : p.length ≤ 100000) :
    Calls Tryz.prog 16 #[v, u] w fun e w' => (∃ β, e = .returned (.bool β) ∧ (β = true ↔ p = q)) ∧ Below w.heap.size w w' := by
  obtain ⟨A, n, c, rfl, hn, hnc, hc, hs, hA⟩ := ha.at
  obtain ⟨B, m, d, rfl, hm, hmd, hd, hs', hB⟩ := hb.at
  by_cases hne : n = m
  · subst hne
    have hG := stpG
    go_enter Tryz.func16, Tryz.ntmps16
    go_wp2_with fail
    go_loopw [5] (fun i wr => ∃ k : Nat, k ≤ n ∧ i = .int .i64 k ∧ p.take k = q.take k ∧ Hid (Below w.heap.size w wr)) (fun i _ => n - (intOf i).toNat)
    case atStart => exact ⟨0, Nat.zero_le _, rfl, by simp, Below.refl _ _⟩
    case round =>
      obtain ⟨k, hk, rfl, heq, HB⟩ := hrel
      by_cases hlt : k < n
      · obtain ⟨x, hx⟩ : ∃ x, p[k]? = some x := ⟨_, List.getElem?_eq_getElem (by omega)⟩
        obtain ⟨y, hy⟩ : ∃ y, q[k]? = some y := ⟨_, List.getElem?_eq_getElem (by omega)⟩
        obtain ⟨b1, off1, rfl, _, hc1⟩ := hA (by omega)
        obtain ⟨b2, off2, rfl, _, hc2⟩ := hB (by omega)
        obtain ⟨x0, x1, x2⟩ := hc1 wr HB.out k x hx
        obtain ⟨y0, y1, y2⟩ := hc2 wr HB.out k y hy
        clear hc1 hc2
        by_cases hxy : x = y
        · have hT := stp_eq hxy
          have hz : p.take (k + 1) = q.take (k + 1) := by rw [List.take_add_one, List.take_add_one, heq, hx, hy, hxy]
          have he : ∀ W, (binOp .neq 51 (.agg #[.string x.k, .int .i64 x.a, .bool x.b]) (.agg #[.string y.k, .int .i64 y.a, .bool y.b])).run Tryz.prog W = .ok (.bool false) W := fun W => by rw [neStp, hT]
          clear hx hy hxy hT
          go_wp2
          go_quiet (fail)
          go_wp2
          go_roundw
          case rel => exact ⟨k + 1, by omega, by simp, hz, HB.out.drewN _⟩
          case measure => simp [intOf]; omega
        · have hF := stp_ne hxy
          have hne : p ≠ q := by
            intro h; rw [h, hy] at hx; exact hxy (Option.some.inj hx).symm
          have he : ∀ W, (binOp .neq 51 (.agg #[.string x.k, .int .i64 x.a, .bool x.b]) (.agg #[.string y.k, .int .i64 y.a, .bool y.b])).run Tryz.prog W = .ok (.bool true) W := fun W => by rw [neStp, hF]
          clear hx hy hxy hF
          go_wp2
          go_quiet (fail)
          go_wp2
          go_ret
          exact ⟨⟨false, rfl, by simp [hne]⟩, HB.out.drewN _⟩
      · go_wp2
        go_ret
        obtain rfl : k = n := by omega
        rw [List.take_of_length_le (by omega), List.take_of_length_le (by omega)] at heq
        exact ⟨⟨true, rfl, by simp [heq]⟩, HB.out⟩
  · have hne2 : p ≠ q := fun h => hne (by rw [← hn, ← hm, h])
    go_enter Tryz.func16, Tryz.ntmps16
    go_wp2_with fail
    go_ret
    exact ⟨⟨false, rfl, by simp [hne2]⟩, Below.refl _ _⟩
end Go.Proofs.YtjnfilbdokppiaaGreatDoor
