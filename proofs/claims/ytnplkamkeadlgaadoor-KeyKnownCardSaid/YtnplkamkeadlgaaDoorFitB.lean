/-
  What is proved here: what the package-level table of package tree holds, contracts of tree.isKind, Leaf, hasZero, filled, allOfKind; conditions: the table holds what its initialiser lays; strings of at most 1000 bytes, at most 100000 nodes; and: contracts of tree.allOfKind and fitsKind; conditions: the table holds what its initialiser lays; at most 100000 nodes.
-/
import Derived.Test.YtnplkamkeadlgaaDoorAt
import Derived.Test.YtnplkamkeadlgaaDoorLow0
namespace Go.Proofs.YtnplkamkeadlgaaDoor
open Go.RowKit

def usesK (k : Nat) : Int := if k = 2 ∨ k = 3 ∨ k = 8 then 1 else if k = 4 ∨ k = 9 then 2 else if k = 5 ∨ k = 6 ∨ k = 7 then 4 else if k = 17 then 24 else if 10 ≤ k then 16 else 0
def elmK (k : Nat) : Int := if k = 11 ∨ k = 15 then 3 else if k = 12 ∨ k = 16 then 4 else if k = 13 then 5 else if k = 14 then 2 else 0
def fixK (k : Nat) : Bool := decide (k = 15 ∨ k = 16)
/-- The table holds what is laid. -/
def Tab (w : World) : Prop := 1 ≤ w.heap.size ∧ ∀ k : Nat, k < 18 → w.cell? ⟨0, k * 3, none⟩ = some (.int .i64 (usesK k)) ∧ w.cell? ⟨0, k * 3 + 1, none⟩ = some (.int .i64 (elmK k)) ∧ w.cell? ⟨0, k * 3 + 2, none⟩ = some (.bool (fixK k))
theorem Tab.below {w w' : World} (h : Tab w) {n : Nat} (hn : 1 ≤ n) (hb : Below n w w') : Tab w' := by
  refine ⟨Nat.le_trans h.1 hb.size, fun k hk => ?_⟩
  obtain ⟨a, b, c⟩ := h.2 k hk
  exact ⟨(hb.cell (p := ⟨0, k * 3, none⟩) (by show 0 < n; omega)).trans a, (hb.cell (p := ⟨0, k * 3 + 1, none⟩) (by show 0 < n; omega)).trans b, (hb.cell (p := ⟨0, k * 3 + 2, none⟩) (by show 0 < n; omega)).trans c⟩
theorem Tab.keep {w w' : World} (h : Tab w) (hb : Below w.heap.size w w') : Tab w' := h.below h.1 hb

theorem isKind_any (k : Int) (w : World) : Calls Tryd.prog 65 #[.int .i64 k] w fun e w' => e = .returned (.bool (decide (1 ≤ k) && decide (k ≤ 17))) ∧ w' = w := by
  go_enter Tryd.func65, Tryd.ntmps65
  go_wp2
  · rename_i h
    go_ret
    exact ⟨by rw [decide_eq_true h]; rfl, rfl⟩
  · rename_i h
    go_ret
    exact ⟨by rw [decide_eq_false (by omega : ¬ 1 ≤ k)]; rfl, rfl⟩

theorem hasZero_any (s : ByteArray) (w : World) : Calls Tryd.prog 68 #[.string s] w fun e w' => e = .returned (.bool (hasZ s)) ∧ w' = w := by
  have hz := hasZ_index s
  go_enter Tryd.func68, Tryd.ntmps68
  go_wp2_with (go_at_call 40; refine (Tryd.strings_IndexByte s 0 _).mono ?_; rintro e w' ⟨rfl, rfl⟩)
  go_ret
  exact ⟨by rw [← hz]; rfl, rfl⟩

/-- The fields of a node that are not zero. -/
def flB (a b c d e : Bool) : Int :=
  let f0 : Int := if a = true then bits BinOp.or IntKind.i64 0 1 else 0
  let f1 : Int := if b = true then bits BinOp.or IntKind.i64 f0 2 else f0
  let f2 : Int := if c = true then bits BinOp.or IntKind.i64 f1 4 else f1
  let f3 : Int := if d = true then bits BinOp.or IntKind.i64 f2 8 else f2
  if e = true then bits BinOp.or IntKind.i64 f3 16 else f3

set_option maxRecDepth 100000 in
set_option maxHeartbeats 4000000 in
theorem filled_any (t : T) (cs : List Value) (w : World) (hn : Nd w t cs) : Calls Tryd.prog 66 #[.agg cs.toArray] w fun e w' => e = .returned (.int .i64 (flB (t.n != 0) (t.u != 0) (!t.s.toList.isEmpty) (decide (0 < t.ks.length)) (decide (0 < t.l.length)))) ∧ Below w.heap.size w w' := by
  rcases t with ⟨kk, nn, uu, s, ks, L⟩
  obtain ⟨hr, hs, kv, A, m, c, rfl, ⟨B, d, e, rfl, hkl, _, _, _, _⟩, hl, hm, hmm, hL⟩ := hn
  have hb := Lib.hid ((Below.refl w.heap.size w).alloc (Nat.le_refl _) (.cells #[.int .i64 kk, .int .i64 nn, .int .u64 uu, .string s, .slice B d e, .slice A m c] 31))
  simp only [T.n, T.u, T.s, T.ks, T.l, hl, hkl]
  clear hL hkl hl hr hs hm hmm
  obtain ⟨b1, h1⟩ : ∃ b1, (nn != 0) = b1 := ⟨_, rfl⟩
  obtain ⟨b2, h2⟩ : ∃ b2, (uu != 0) = b2 := ⟨_, rfl⟩
  obtain ⟨b3, h3⟩ : ∃ b3, (!s.toList.isEmpty) = b3 := ⟨_, rfl⟩
  obtain ⟨b4, h4⟩ : ∃ b4, decide (0 < d) = b4 := ⟨_, rfl⟩
  obtain ⟨b5, h5⟩ : ∃ b5, decide (0 < m) = b5 := ⟨_, rfl⟩
  rw [h1, h2, h3, h4, h5]
  have h4' : decide (0 < (d : Int)) = b4 := by rw [← h4]; simp
  have h5' : decide (0 < (m : Int)) = b5 := by rw [← h5]; simp
  clear h4 h5
  go_enter Tryd.func66, Tryd.ntmps66
  go_wp2
  all_goals
    go_ret
    refine ⟨?_, hb.out⟩
    have e4 : b4 = decide (0 < (d : Int)) := h4'.symm
    have e5 : b5 = decide (0 < (m : Int)) := h5'.symm
    clear h1 h2 h3 h4' h5' hb
    simp_all [flB]
end Go.Proofs.YtnplkamkeadlgaaDoor
namespace Go.Proofs.YtnplkamkeadlgaaDoor
open Go.RowKit

theorem Nd.kind {w : World} {t : T} {v0 v1 v2 v3 v4 v5 : Value} (h : Nd w t [v0, v1, v2, v3, v4, v5]) : v0 = .int .i64 t.k := by
  rcases t with ⟨k, n, u, s, ks, l⟩
  obtain ⟨_, _, kv, A, m, c, e, _⟩ := h
  simp only [List.cons.injEq] at e
  exact e.1
theorem all_take {l : List T} {k : Int} {j : Nat} {t : T} (ht : l[j]? = some t) (h : (l.take j).all (fun t => decide (t.k = k)) = true) (hk : t.k = k) : (l.take (j + 1)).all (fun t => decide (t.k = k)) = true := by
  rw [List.take_add_one, ht, List.all_append, h]
  simp [hk]
theorem all_not {l : List T} {k : Int} {j : Nat} {t : T} (ht : l[j]? = some t) (hk : ¬ t.k = k) : l.all (fun t => decide (t.k = k)) = false := by
  rw [List.all_eq_false]
  exact ⟨t, List.mem_of_getElem? ht, by simp [hk]⟩

set_option maxRecDepth 100000 in
set_option maxHeartbeats 4000000 in
theorem allOfKind_any (A : Option Addr) (m c : Nat) (k : Int) (L : List T) (w : World) (hl : L.length = m) (hm : m ≤ 100000) (hL : 0 < m → ∃ b off, A = some ⟨b, off, none⟩ ∧ b < w.heap.size ∧ NdL w b L off) :
    Calls Tryd.prog 67 #[.slice A m c, .int .i64 k] w fun e w' => e = .returned (.bool (L.all fun t => decide (t.k = k))) ∧ Below w.heap.size w w' := by
  go_enter Tryd.func67, Tryd.ntmps67
  go_wp2
  go_loopw [8] (fun i wr => ∃ j : Nat, j ≤ m ∧ i = .int .i64 (j : Int) ∧ Hid ((L.take j).all (fun t => decide (t.k = k)) = true) ∧ Hid (Below w.heap.size w wr)) (fun i _ => m - (intOf i).toNat)
  case atStart => exact ⟨0, Nat.zero_le _, rfl, by simp [Hid], Below.refl _ _⟩
  case round =>
    obtain ⟨j, hj, rfl, HA, HB⟩ := hrel
    by_cases hjm : j < m
    · obtain ⟨b, off, rfl, hbw, hN⟩ := hL (by omega)
      obtain ⟨t0, ht0⟩ : ∃ t0, L[j]? = some t0 := ⟨_, List.getElem?_eq_getElem (by omega)⟩
      obtain ⟨v0, v1, v2, v3, v4, v5, d0, d1, d2, d3, d4, d5, hn0⟩ := hN.six HB.out hbw ht0
      obtain rfl := hn0.kind
      clear d1 d2 d3 d4 d5 hn0
      obtain ⟨kt, hkt⟩ : ∃ kt, t0.k = kt := ⟨_, rfl⟩
      rw [hkt] at d0
      by_cases hk : kt = k
      · have HA2 := Lib.hid (all_take ht0 HA.out (by rw [hkt, hk]))
        subst hk
        clear ht0 HA hkt
        go_wp2
        go_roundw
        case rel => exact ⟨j + 1, by omega, by simp, HA2, HB⟩
        case measure => simp [intOf]; omega
      · have hf := all_not ht0 (by rw [hkt]; exact hk)
        have hne := neB hk
        clear ht0 HA hkt
        go_wp2
        go_ret
        exact ⟨by rw [hf]; rfl, HB.out⟩
    · go_wp2
      go_ret
      obtain rfl : j = m := by omega
      have := HA.out
      rw [List.take_of_length_le (by omega)] at this
      exact ⟨by rw [this]; rfl, HB.out⟩

/-- The box of the node and that of its kind's row. -/
def FS (w : World) (v0 v1 v2 v3 v4 v5 : Value) (U E : Int) (X : Bool) (W : World) : Prop :=
  Below w.heap.size w W ∧ w.heap.size + 2 ≤ W.heap.size ∧ Bx W w.heap.size v0 v1 v2 v3 v4 v5 ∧ Blk W (w.heap.size + 1) 86 #[.int .i64 U, .int .i64 E, .bool X]
theorem FS.below {w W W2 : World} {v0 v1 v2 v3 v4 v5 : Value} {U E : Int} {X : Bool} (h : FS w v0 v1 v2 v3 v4 v5 U E X W) (hb : Below W.heap.size W W2) : FS w v0 v1 v2 v3 v4 v5 U E X W2 := by
  obtain ⟨h1, h2, h3, h4⟩ := h
  exact ⟨h1.trans (hb.mono (by omega)), by have := hb.size; omega, h3.below hb (by omega), h4.below hb (by omega)⟩
/-- What fitsKind asks of a node, in the table's words. -/
def fitB (k n : Int) (ab : Bool) (ksl ll : Nat) (E : Int) (X : Bool) (al : Bool) : Bool :=
  if ab = true then false
  else if k = 2 ∧ ¬ n = 0 ∧ ¬ n = 1 then false
  else if k = 17 ∧ ¬ ksl = ll then false
  else if X = true ∧ (ll < 2 ∨ 4 < ll) then false
  else if E = 0 then true else al

set_option maxRecDepth 100000 in
set_option maxHeartbeats 8000000 in
theorem fits_any (kn : Nat) (nn uu : Int) (s : ByteArray) (ks : List ByteArray) (L : List T) (cs : List Value) (w : World) (hT : Tab w) (hn : Nd w (.mk (kn : Int) nn uu s ks L) cs) (hsz : L.length ≤ 100000) (hks : ks.length ≤ 1000) (hk1 : 1 ≤ kn) (hk2 : kn ≤ 17) :
    Calls Tryd.prog 49 #[.agg cs.toArray] w fun e w' => e = .returned (.bool (fitB (kn : Int) nn (bits BinOp.andNot IntKind.i64 (flB (nn != 0) (uu != 0) (!s.toList.isEmpty) (decide (0 < ks.length)) (decide (0 < L.length))) (usesK kn) != 0) ks.length L.length (elmK kn) (fixK kn) (L.all fun x => decide (x.k = elmK kn)))) ∧ Below w.heap.size w w' := by
  obtain ⟨F, hF⟩ : ∃ F, flB (nn != 0) (uu != 0) (!s.toList.isEmpty) (decide (0 < ks.length)) (decide (0 < L.length)) = F := ⟨_, rfl⟩
  have hfl : ∀ W, Below w.heap.size w W → Calls Tryd.prog 66 #[.agg cs.toArray] W fun e w' => e = .returned (.int .i64 F) ∧ Below W.heap.size W w' := fun W hb => by rw [← hF]; exact filled_any _ cs W (hn.bel hb)
  rw [hF]
  obtain ⟨hr, hs, kv, A, m, c, rfl, ⟨B, d, e, rfl, hkl, _, _, _, _⟩, hl, hm, hmm, hL⟩ := hn
  obtain ⟨U, hU⟩ : ∃ U, usesK kn = U := ⟨_, rfl⟩
  obtain ⟨E, hE⟩ : ∃ E, elmK kn = E := ⟨_, rfl⟩
  obtain ⟨X, hX⟩ : ∃ X, fixK kn = X := ⟨_, rfl⟩
  have htab := fun W (hb : Below w.heap.size w W) => (hT.keep hb).2 kn (by omega)
  rw [hU, hE, hX] at htab ⊢
  obtain ⟨ab, hab⟩ : ∃ ab, (bits BinOp.andNot IntKind.i64 F U != 0) = ab := ⟨_, rfl⟩
  rw [hab]
  have hall := fun W (hb : Below w.heap.size w W) => allOfKind_any A m c E L W hl (by omega) (fun h0 => by
    obtain ⟨b, off, h1, h2, h3⟩ := hL h0
    exact ⟨b, off, h1, Nat.lt_of_lt_of_le h2 hb.size, NdL.below hb h2 L off h3⟩)
  obtain ⟨al, hal⟩ : ∃ al, (L.all fun x => decide (x.k = E)) = al := ⟨_, rfl⟩
  rw [hal] at hall ⊢
  rw [hl, hkl]
  rw [hl] at hsz
  rw [hkl] at hks
  clear hL hF hU hE hX hal
  have hik := fun W => isKind_any (kn : Int) W
  have hd1 : decide (1 ≤ (kn : Int)) = true := by simp; omega
  have hd2 : decide ((kn : Int) ≤ 17) = true := by simp; omega
  simp only [hd1, hd2, Bool.and_self] at hik
  obtain ⟨t0, t1, t2⟩ := htab (w.alloc (.cells #[.int .i64 (kn : Int), .int .i64 nn, .int .u64 uu, .string s, .slice B d e, .slice A m c] 31)) ((Below.refl _ w).alloc (Nat.le_refl _) _)
  have HFL := Lib.hid hfl
  have HAL := Lib.hid hall
  have hjb : (0 : Int) ≤ (kn : Int) := by omega
  have hjb2 : (kn : Int) < 18 := by omega
  clear htab hfl hall hT hd1 hd2 hr hs hm hmm
  go_enter Tryd.func49, Tryd.ntmps49
  go_wp2_with (first | (go_at_call 65; refine (hik _).mono ?_; rintro e w' ⟨rfl, rfl⟩))
  obtain ⟨W1, hW1⟩ : ∃ W1, ((w.alloc (.cells #[.int .i64 (kn : Int), .int .i64 nn, .int .u64 uu, .string s, .slice B d e, .slice A m c] 31)).alloc (.cells #[.int .i64 U, .int .i64 E, .bool X] 86)) = W1 := ⟨_, rfl⟩
  have HF1 : Hid (FS w (.int .i64 (kn : Int)) (.int .i64 nn) (.int .u64 uu) (.string s) (.slice B d e) (.slice A m c) U E X W1) := by
    refine Lib.hid ⟨?_, ?_, ?_, ?_⟩
    · rw [← hW1]; exact ((Below.refl _ w).alloc (Nat.le_refl _) _).alloc (by simp) _
    · rw [← hW1]; simp
    · rw [← hW1]; exact (Blk.new _ _ _).alloc _
    · rw [← hW1]
      have := Blk.new (w.alloc (.cells #[.int .i64 (kn : Int), .int .i64 nn, .int .u64 uu, .string s, .slice B d e, .slice A m c] 31)) 86 #[.int .i64 U, .int .i64 E, .bool X]
      rwa [World.size_alloc] at this
  have HF1d := Lib.hid (HF1.out.below (Below.refl _ _).drew)
  have hcells : ∀ W, Hid (FS w (.int .i64 (kn : Int)) (.int .i64 nn) (.int .u64 uu) (.string s) (.slice B d e) (.slice A m c) U E X W) → Hid (FS w (.int .i64 (kn : Int)) (.int .i64 nn) (.int .u64 uu) (.string s) (.slice B d e) (.slice A m c) U E X W) ∧ W.cell? ⟨w.heap.size, 0, none⟩ = some (.int .i64 (kn : Int)) ∧ W.cell? ⟨w.heap.size, 1, none⟩ = some (.int .i64 nn) ∧ W.cell? ⟨w.heap.size, 2, none⟩ = some (.int .u64 uu) ∧ W.cell? ⟨w.heap.size, 3, none⟩ = some (.string s) ∧ W.cell? ⟨w.heap.size, 4, none⟩ = some (.slice B d e) ∧ W.cell? ⟨w.heap.size, 5, none⟩ = some (.slice A m c) ∧ W.cell? ⟨w.heap.size + 1, 0, none⟩ = some (.int .i64 U) ∧ W.cell? ⟨w.heap.size + 1, 1, none⟩ = some (.int .i64 E) ∧ W.cell? ⟨w.heap.size + 1, 2, none⟩ = some (.bool X) := by
    intro W H
    obtain ⟨c0, c1, c2, c3, c4, c5⟩ := H.out.2.2.1.all
    exact ⟨H, c0, c1, c2, c3, c4, c5, by rw [Blk.cell H.out.2.2.2]; rfl, by rw [Blk.cell H.out.2.2.2]; rfl, by rw [Blk.cell H.out.2.2.2]; rfl⟩
  have HFC : Hid (∀ W, Hid (FS w (.int .i64 (kn : Int)) (.int .i64 nn) (.int .u64 uu) (.string s) (.slice B d e) (.slice A m c) U E X W) → Calls Tryd.prog 66 #[.agg #[.int .i64 (kn : Int), .int .i64 nn, .int .u64 uu, .string s, .slice B d e, .slice A m c]] W fun e9 w' => e9 = .returned (.int .i64 F) ∧ Hid (FS w (.int .i64 (kn : Int)) (.int .i64 nn) (.int .u64 uu) (.string s) (.slice B d e) (.slice A m c) U E X w')) := Lib.hid fun W H => (HFL.out W H.out.1).mono fun e9 w' h => ⟨h.1, Lib.hid (H.out.below h.2)⟩
  rw [hW1]
  obtain ⟨_, x0, x1, x2, x3, x4, x5, y0, y1, y2⟩ := hcells W1 HF1
  clear hW1 t0 t1 t2
  go_region_held3 (fun W => Hid (FS w (.int .i64 (kn : Int)) (.int .i64 nn) (.int .u64 uu) (.string s) (.slice B d e) (.slice A m c) U E X W) ∧ W.cell? ⟨w.heap.size, 0, none⟩ = some (.int .i64 (kn : Int)) ∧ W.cell? ⟨w.heap.size, 1, none⟩ = some (.int .i64 nn) ∧ W.cell? ⟨w.heap.size, 2, none⟩ = some (.int .u64 uu) ∧ W.cell? ⟨w.heap.size, 3, none⟩ = some (.string s) ∧ W.cell? ⟨w.heap.size, 4, none⟩ = some (.slice B d e) ∧ W.cell? ⟨w.heap.size, 5, none⟩ = some (.slice A m c) ∧ W.cell? ⟨w.heap.size + 1, 0, none⟩ = some (.int .i64 U) ∧ W.cell? ⟨w.heap.size + 1, 1, none⟩ = some (.int .i64 E) ∧ W.cell? ⟨w.heap.size + 1, 2, none⟩ = some (.bool X)) (first | (with_reducible exact hcells _ (by assumption)) | (with_reducible exact hcells _ HF1d))
    (first | (go_at_call 66; (with_reducible refine (HFC.out _ (by assumption)).mono ?_); rintro e w3 ⟨rfl, HF3⟩))
  clear x0 x1 x2 x3 x4 x5 y0 y1 y2 HFC HF1 HF1d HFL
  have HALC : Hid (∀ W, Hid (FS w (.int .i64 (kn : Int)) (.int .i64 nn) (.int .u64 uu) (.string s) (.slice B d e) (.slice A m c) U E X W) → Calls Tryd.prog 67 #[.slice A m c, .int .i64 E] W fun e9 w' => e9 = .returned (.bool al) ∧ Hid (FS w (.int .i64 (kn : Int)) (.int .i64 nn) (.int .u64 uu) (.string s) (.slice B d e) (.slice A m c) U E X w')) := Lib.hid fun W H => (HAL.out W H.out.1).mono fun e9 w' h => ⟨h.1, Lib.hid (H.out.below h.2)⟩
  obtain ⟨_, x0, x1, x2, x3, x4, x5, y0, y1, y2⟩ := hcells w3 HF3
  clear hcells HAL
  go_wp2_with (first | (go_at_call 67; (with_reducible refine (HALC.out _ (by assumption)).mono ?_); rintro e9 w4 ⟨rfl, HF4⟩))
  all_goals
    go_ret
    refine ⟨congrArg (fun x => Ending.returned (Value.bool x)) ?_, ?_⟩
  all_goals first
    | exact HF4.out.1
    | exact HF3.out.1
    | (clear HALC HF3 x0 x1 x2 x3 x4 x5 y0 y1 y2 hik; try clear HF4
       unfold fitB
       repeat' split
       all_goals first | rfl | (simp [*]; done) | (exfalso; simp_all; done) | (exfalso; simp_all; omega))
end Go.Proofs.YtnplkamkeadlgaaDoor
