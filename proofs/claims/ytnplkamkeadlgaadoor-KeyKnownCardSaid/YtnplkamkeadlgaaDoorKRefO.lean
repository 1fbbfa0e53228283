/-
  What is proved here: what the reference's Order answers; condition: the list is one that the form reads.
-/
import Derived.Test.YtnplkamkeadlgaaDoorKLessQ
namespace Go.Proofs.YtnplkamkeadlgaaDoor
open Go.RowKit Go.Sort Go.Shelf

abbrev nb (q : List Nat) : List Value := bv (q.map Int.ofNat)
theorem nb_at {q : List Nat} {j a : Nat} (h : q[j]? = some a) : (q.map Int.ofNat)[j]? = some (a : Int) := by simp [h]

/-- What the first at' of q have to do with the key at i. -/
def Low (l : List ByteArray) (q : List Nat) (i at' : Nat) : Prop := ∀ j, j < at' → ∀ a, q[j]? = some a → lt (ky l a) (ky l i) = true
theorem Low.step {l : List ByteArray} {q : List Nat} {i k a : Nat} (h : Low l q i k) (ha : q[k]? = some a) (hl : lt (ky l a) (ky l i) = true) : Low l q i (k + 1) := by
  intro j hj b hb
  by_cases e : j = k
  · subst e; rw [ha] at hb; cases hb; exact hl
  · exact h j (by omega) b hb
structure OI (l : List ByteArray) (w : World) (q : List Nat) (i : Nat) (P : Option Addr) (m cap : Nat) (W : World) : Prop where
  sq : SQ l q i
  row : W.ownsRow w.heap.size 3 1 (.slice P m cap) i (nb q)
  hb : RowKit.Below w.heap.size w W
theorem OI.len {l : List ByteArray} {w W : World} {q : List Nat} {i m cap : Nat} {P : Option Addr} (h : OI l w q i P m cap W) : m = i ∧ q.length = i := by
  refine ⟨?_, h.sq.length⟩
  rcases h.row.2 with ⟨h', h0⟩ | ⟨g, cap', cur, h', _⟩
  · cases h'; omega
  · cases h'; rfl
theorem OI.below {l : List ByteArray} {w W W' : World} {q : List Nat} {i m cap : Nat} {P : Option Addr} (h : OI l w q i P m cap W) (hb : RowKit.Below W.heap.size W W') : OI l w q i P m cap W' :=
  ⟨h.sq, own_keep h.row hb, h.hb.trans (hb.mono h.hb.size)⟩
theorem OI.at {l : List ByteArray} {w W : World} {q : List Nat} {i m cap k : Nat} {P : Option Addr} (h : OI l w q i P m cap W) (hk : k < i) :
    ∃ g a, P = some ⟨g, 0, none⟩ ∧ q[k]? = some a ∧ a < i ∧ W.cell? ⟨g, k, none⟩ = some (.int .i64 (a : Int)) := by
  have hq : k < q.length := by rw [h.len.2]; exact hk
  rcases h.row.2 with ⟨h', h0⟩ | ⟨g, cap', cur, h', h1, hg, _, _, _, htake⟩
  · omega
  · cases h'
    refine ⟨g, q[k], rfl, List.getElem?_eq_getElem hq, h.sq.lt (List.getElem?_eq_getElem hq), ?_⟩
    rw [cell_of_row W g k cur _ (0, 0) hg]
    have : (cur.toList.take (i * 1))[k]? = (nb q)[k]? := by rw [htake]
    rw [List.getElem?_take_of_lt (by omega), Array.getElem?_toList] at this
    rw [this]
    exact bv_at (nb_at (List.getElem?_eq_getElem hq))
/-- The row as the next statement slices it. -/
theorem OI.cut {l : List ByteArray} {w W : World} {q : List Nat} {m cap : Nat} {P : Option Addr} (h : OI l w q m P m cap W) :
    (P = none ∧ m = 0 ∧ cap = 0) ∨ ∃ g, P = some ⟨g, 0, none⟩ ∧ m ≤ cap ∧ Rds W (some ⟨g, 0, none⟩) m cap (q.map Int.ofNat) := by
  rcases h.row.2 with ⟨h', h0⟩ | ⟨g, cap', cur, h', h1, hg, h3, _, _, htake⟩
  · cases h'; exact .inl ⟨rfl, rfl, rfl⟩
  · cases h'
    obtain ⟨A, n, c, e, hr⟩ := Rd.of_own h.row
    cases e
    exact .inr ⟨g, rfl, h3, hr⟩
theorem OI.ins {l : List ByteArray} {w wr W : World} {q : List Nat} {m k : Nat} {v : Value} {xs : List Int} (hs : SQ l (q.take k ++ m :: q.drop k) (m + 1)) (hw : RowKit.Below w.heap.size w wr) (h : AP wr W v xs)
    (hx : xs = (q.take k ++ m :: q.drop k).map Int.ofNat) : ∃ P m' cap, v = .slice P m' cap ∧ OI l w (q.take k ++ m :: q.drop k) (m + 1) P m' cap W := by
  subst hx
  have h1 := h.1
  rw [List.length_map, hs.length] at h1
  have h2 := own_base_le h1 hw.size
  have : ∃ P m' cap, v = .slice P m' cap := by
    rcases h1.2 with ⟨h', _⟩ | ⟨g, cap', cur, h', _⟩
    · exact ⟨_, _, _, h'⟩
    · exact ⟨_, _, _, h'⟩
  obtain ⟨P, m', cap, rfl⟩ := this
  exact ⟨P, m', cap, rfl, hs, h2, hw.trans (h.2.mono hw.size)⟩
theorem map_take_nat (q : List Nat) (k : Nat) : (q.take k).map Int.ofNat = (q.map Int.ofNat).take k := by rw [List.map_take]

theorem quiet_addq {P : Program} {f : FuncId} {args : Array Value} {w : World} {a n : Nat} {v : Value} (h : Calls P f args (w.drewN (a + n)) fun e w' => e = .returned v ∧ ∃ q, w' = (w.drewN (a + n)).drewN q) :
    Calls P f args (w.drewN (a + n)) fun e w'' => e = .returned v ∧ ∃ m, w'' = w.drewN (a + m) := by
  refine h.mono ?_
  rintro e w' ⟨h1, q, rfl⟩
  exact ⟨h1, n + q, by rw [World.drewN_drewN, Nat.add_assoc]⟩

set_option maxRecDepth 100000 in
set_option maxHeartbeats 2000000 in
theorem refOrder_any (l : List ByteArray) (v : Value) (w : World) (hl : RdS w v l) (hn : l.length ≤ 60000) :
    Calls Tryd.prog 16 #[v] w fun e w' => RowKit.Below w.heap.size w w' ∧ ((e = .returned (.tuple #[.slice none 0 0, .int .i64 71]) ∧ ¬ l.Nodup) ∨
      ∃ v' q, e = .returned (.tuple #[v', .int .i64 0]) ∧ SQ l q l.length ∧ w'.ownsRow w.heap.size 3 1 v' l.length (nb q)) := by
  obtain ⟨A, n, c, rfl, hln, hnc, hc, hsz, hA⟩ := hl.at
  have hn1 : n ≤ 60000 := by omega
  have HLN := Lib.hid hln
  have HA := Lib.hid hA
  have HSZ := Lib.hid hsz
  have HI : Hid (OI l w [] 0 none 0 0 w) := Lib.hid ⟨SQ.nil l, World.ownsRow_nil _ _ _ _, RowKit.Below.refl _ _⟩
  clear hA hsz hl hln
  go_enter Tryd.func16, Tryd.ntmps16
  go_wp2_with fail
  go_loopw [4, 5] (fun vo vi wr => ∃ (q : List Nat) (i : Nat) (P : Option Addr) (m cap : Nat), vo = .slice P m cap ∧ vi = .int .i64 (i : Int) ∧ i ≤ n ∧ Hid (OI l w q i P m cap wr)) (fun _ vi _ => n - (intOf vi).toNat)
  case atStart => exact ⟨[], 0, none, 0, 0, rfl, rfl, Nat.zero_le _, HI⟩
  case round =>
    obtain ⟨q, i, P, m, cap, rfl, rfl, hin, HO⟩ := hrel
    obtain ⟨hm, hq⟩ := HO.out.len
    subst hm
    by_cases h1 : m < n
    · clear HI
      obtain ⟨W0, hW0⟩ : ∃ W0, W0 = wr := ⟨_, rfl⟩
      subst hW0
      go_wp2_with fail
      go_loopw [6] (fun va wx => ∃ k q' : Nat, va = .int .i64 (k : Int) ∧ k ≤ m ∧ Hid (Low l q m k) ∧ wx = W0.drewN q') (fun va _ => m - (intOf va).toNat)
      case atStart => exact ⟨0, 0, rfl, Nat.zero_le _, Lib.hid (fun j hj => by omega), rfl⟩
      case round =>
        obtain ⟨k, q', rfl, hkm, HL, rfl⟩ := hrel
        obtain ⟨b, off, rfl, _, hc1⟩ := HA.out (by omega)
        obtain ⟨y, hy⟩ : ∃ y, l[m]? = some y := ⟨_, List.getElem?_eq_getElem (by rw [HLN.out]; exact h1)⟩
        have hym : ky l m = y := by unfold ky; rw [List.getD_eq_getElem?_getD, hy]; rfl
        have hys := HSZ.out y (List.mem_of_getElem? hy)
        have cy := hc1 W0 HO.out.hb m y hy
        have i1 : (0 : Int) ≤ (k : Int) := by omega
        have i5 : (0 : Int) ≤ (m : Int) := by omega
        have i6 : (m : Int) < (n : Int) := by omega
        by_cases h2 : k < m
        · obtain ⟨g, a, rfl, ha, ham, cg⟩ := HO.out.at h2
          obtain ⟨x, hx⟩ : ∃ x, l[a]? = some x := ⟨_, List.getElem?_eq_getElem (by rw [HLN.out]; omega)⟩
          have hxa : ky l a = x := by unfold ky; rw [List.getD_eq_getElem?_getD, hx]; rfl
          have hxs := HSZ.out x (List.mem_of_getElem? hx)
          have cx := hc1 W0 HO.out.hb a x hx
          have i2 : (k : Int) < (m : Int) := by omega
          have i3 : (0 : Int) ≤ (a : Int) := by omega
          have i4 : (a : Int) < (n : Int) := by omega
          obtain ⟨β, hβ⟩ : ∃ β, lt x y = β := ⟨_, rfl⟩
          have HC : Hid (∀ W, Calls Tryd.prog 19 #[.string x, .string y] W fun e w' => e = .returned (.bool β) ∧ ∃ q, w' = W.drewN q) := Lib.hid fun W => by rw [← hβ]; exact refLess_q x y W hxs hys
          have HX : Hid (q[k]? = some a ∧ ky l a = x ∧ ky l m = y ∧ lt x y = β) := Lib.hid ⟨ha, hxa, hym, hβ⟩
          clear ha hx hxa hxs hc1 hy hym hys hβ HA HSZ
          go_wp2_with fail
          go_quiet ((go_at_call 19; first | exact quiet_addq (HC.out _) | exact Calls.quiet_of (HC.out _)))
          cases β with
          | true =>
            have HL2 : Hid (Low l q m (k + 1)) := Lib.hid (by
              obtain ⟨e1, e2, e3, e4⟩ := HX.out
              exact HL.out.step e1 (by rw [e2, e3]; exact e4))
            go_wp2_with fail
            go_roundw
            case rel => exact ⟨k + 1, _, by simp, by omega, HL2, rfl⟩
            case measure => simp [intOf]; omega
          | false =>
            by_cases hxy : x = y
            · have hT := strEq_true hxy
              have HT : Hid (¬ l.Nodup) := Lib.hid (by
                obtain ⟨e1, e2, e3, e4⟩ := HX.out
                exact HO.out.sq.twice (by rw [HLN.out]; exact h1) e1 (by rw [e2, e3]; exact hxy))
              clear hxy
              go_wp2_with fail
              go_quiet (fail)
              go_wp2_with fail
              go_ret2
              exact ⟨by first | exact belN HO.out.hb _ | exact belN (belN HO.out.hb _) _ | exact belN (belN (belN HO.out.hb _) _) _, .inl ⟨rfl, HT.out⟩⟩
            · have hF := strEq_false hxy
              have HG : Hid (∀ a, q[k]? = some a → lt (ky l m) (ky l a) = true) := Lib.hid (by
                obtain ⟨e1, e2, e3, e4⟩ := HX.out
                intro a' h'
                rw [e1] at h'
                cases h'
                rw [e2, e3]
                rcases lt_tri x y with e | ⟨e, _⟩ | ⟨e, _⟩
                · exact absurd e hxy
                · rw [e4] at e; cases e
                · exact e)
              clear hxy
              go_wp2_with fail
              go_quiet (fail)
              go_wp2_with fail
              obtain ⟨hcap, HR⟩ : m ≤ cap ∧ Hid (Rds W0 (some ⟨g, 0, none⟩) m cap (q.map Int.ofNat)) := by
                rcases HO.out.cut with ⟨e, _⟩ | ⟨g', e, e1, e2⟩
                · cases e
                · cases e; exact ⟨e1, Lib.hid e2⟩
              have HKL : Hid (k < m ∧ m < 60000 ∧ q.length = m) := Lib.hid ⟨h2, by omega, HO.out.len.2⟩
              have HSQ : Hid (SQ l (q.take k ++ m :: q.drop k) (m + 1)) := Lib.hid (HO.out.sq.ins HL.out HG.out)
              have HS1 : Hid (∀ W, RowKit.Below W0.heap.size W0 W → Rds W (some ⟨g, 0, none⟩) k cap ((q.map Int.ofNat).take k)) := Lib.hid fun W hb => (HR.out.cut (lo := 0) (m := k) (c' := cap) (by omega) (by omega)).below hb
              have HS3 : Hid (∀ W, RowKit.Below W0.heap.size W0 W → Rds W (some ⟨g, k, none⟩) (m - k) (cap - k) ((q.map Int.ofNat).drop k)) := Lib.hid fun W hb => by
                have h := (HR.out.cut (lo := k) (m := m - k) (c' := cap - k) (by omega) (by omega)).below hb
                rw [Nat.zero_add, List.take_of_length_le (by simp [HKL.out.2.2])] at h
                exact h
              have ik0 : (k : Int) ≤ (m : Int) := by omega
              have ik1 : (m : Int) ≤ (cap : Int) := by omega
              have ik2 : (k : Int) ≤ (cap : Int) := by omega
              have ik3 : ¬ cap = k := by omega
              clear HC HX hF HG
              generalize hW5 : World.drewN _ _ = W5
              have HW5 : Hid (RowKit.Below W0.heap.size W0 W5) := Lib.hid (by rw [← hW5]; first | exact belN (belN (belN (RowKit.Below.refl _ _) _) _) _ | exact belN (belN (RowKit.Below.refl _ _) _) _)
              clear hW5
              go_region_held3 (fun _ => True) (go_keep)
                (first
                  | (refine step_ap (w0 := W0) (v := .slice none 0 0) (xs := []) (ys := (q.map Int.ofNat).take k) (A := some ⟨g, 0, none⟩) (m := k) (c := cap) rfl _ _ rfl rfl rfl (AP.nil (by first | exact HW5.out.drew | exact (HW5.out.drew).alloc (HW5.out.drew).size _)) (by first | exact HS1.out _ HW5.out.drew | exact HS1.out _ ((HW5.out.drew).alloc (HW5.out.drew).size _)) (by have := HKL.out; simp; omega) ?_; intro v1 w1 H1 H1b)
                  | (refine step_ap (w0 := W0) (v := v1) (xs := [] ++ (q.map Int.ofNat).take k) (ys := [(m : Int)]) (A := some ⟨_, 0, none⟩) (m := 1) (c := 1) rfl _ _ rfl rfl rfl (by first | exact H1.out | exact H1.out.alloc _) (by first | exact rds_lit _ _ | exact (rds_lit _ _).below (H1b.out rfl) | exact (rds_lit W5 _).below (((RowKit.Below.refl _ _).drew).trans (H1b.out rfl))) (by have := HKL.out; simp; omega) ?_; intro v2 w2 H2 H2b)
                  | (refine step_ap (w0 := W0) (v := v2) (xs := [] ++ (q.map Int.ofNat).take k ++ [(m : Int)]) (ys := (q.map Int.ofNat).drop k) (A := some ⟨g, k, none⟩) (m := m - k) (c := cap - k) rfl _ _ rfl rfl rfl H2.out (HS3.out _ H2.out.2) (by have := HKL.out; simp; omega) ?_; intro v3 w3 H3 H3b))
              all_goals
                obtain ⟨P', m', cap', rfl, HOI⟩ := OI.ins HSQ.out HO.out.hb H3.out (by have := HKL.out; simp)
                have HOI := Lib.hid HOI
                clear H1 H1b H2 H2b H3 H3b
                go_wp2_with fail
                go_roundw
                case rel => exact ⟨_, m + 1, P', m', cap', rfl, by simp, by omega, HOI⟩
                case measure => simp [intOf]; omega
        · obtain rfl : k = m := by omega
          have hd : decide ((k : Int) < (k : Int)) = false := by simp
          go_wp2_with fail
          go_quiet (fail)
          go_wp2_with fail
          go_quiet (fail)
          go_wp2_with fail
          have HKL : Hid (k < 60000 ∧ q.length = k) := Lib.hid ⟨by omega, HO.out.len.2⟩
          have HKD : Hid (q.length ≤ k) := Lib.hid (by omega)
          have HSQ : Hid (SQ l (q.take k ++ k :: q.drop k) (k + 1)) := Lib.hid (HO.out.sq.ins HL.out (fun a ha => by rw [List.getElem?_eq_none HKD.out] at ha; cases ha))
          rcases HO.out.cut with ⟨rfl, rfl, rfl⟩ | ⟨g, rfl, hcap, hR⟩
          · have HS1 : Hid (∀ W, RowKit.Below W0.heap.size W0 W → Rds W none 0 0 ((q.map Int.ofNat).take 0)) := Lib.hid fun W hb => ⟨rfl, Nat.le_refl _, fun h => absurd h (by omega)⟩
            generalize hW5 : World.drewN _ _ = W5
            have HW5 : Hid (RowKit.Below W0.heap.size W0 W5) := Lib.hid (by rw [← hW5]; first | exact belN (belN (belN (RowKit.Below.refl _ _) _) _) _ | exact belN (belN (RowKit.Below.refl _ _) _) _)
            clear hW5
            go_region_held3 (fun _ => True) (go_keep)
              (first
                | (refine step_ap (w0 := W0) (v := .slice none 0 0) (xs := []) (ys := [((0 : Nat) : Int)]) (A := some ⟨_, 0, none⟩) (m := 1) (c := 1) rfl _ _ rfl rfl rfl (AP.nil (by first | exact (HW5.out.drew).alloc (HW5.out.drew).size _ | exact (HW5.out.alloc HW5.out.size _).drew)) (by first | exact rds_lit _ _ | exact (rds_lit W5 _).below ((RowKit.Below.refl _ _).drew)) (by simp) ?_; intro v2 w2 H2 H2b)
                | (refine step_ap (w0 := W0) (v := v2) (xs := [] ++ [((0 : Nat) : Int)]) (ys := []) (A := none) (m := 0) (c := 0) rfl _ _ rfl rfl rfl H2.out ⟨rfl, Nat.le_refl _, fun h => absurd h (by omega)⟩ (by simp) ?_; intro v3 w3 H3 H3b))
            all_goals
              obtain ⟨P', m', cap', rfl, HOI⟩ := OI.ins HSQ.out HO.out.hb H3.out (by have := HKL.out; simp [List.eq_nil_of_length_eq_zero (Nat.le_zero.1 HKD.out)])
              have HOI := Lib.hid HOI
              clear H2 H2b H3 H3b
              go_wp2_with fail
              go_roundw
              case rel => exact ⟨_, 0 + 1, P', m', cap', rfl, by simp, by omega, HOI⟩
              case measure => simp [intOf]; omega
          · have HR := Lib.hid hR
            have HS1 : Hid (∀ W, RowKit.Below W0.heap.size W0 W → Rds W (some ⟨g, 0, none⟩) k cap ((q.map Int.ofNat).take k)) := Lib.hid fun W hb => (HR.out.cut (lo := 0) (m := k) (c' := cap) (by omega) (by omega)).below hb
            have ik2 : (k : Int) ≤ (cap : Int) := by omega
            clear hR
            by_cases ik3 : cap = k
            · subst ik3
              generalize hW5 : World.drewN _ _ = W5
              have HW5 : Hid (RowKit.Below W0.heap.size W0 W5) := Lib.hid (by rw [← hW5]; first | exact belN (belN (belN (RowKit.Below.refl _ _) _) _) _ | exact belN (belN (RowKit.Below.refl _ _) _) _)
              clear hW5
              go_region_held3 (fun _ => True) (go_keep)
                (first
                  | (refine step_ap (w0 := W0) (v := .slice none 0 0) (xs := []) (ys := (q.map Int.ofNat).take cap) (A := some ⟨g, 0, none⟩) (m := cap) (c := cap) rfl _ _ rfl rfl rfl (AP.nil (by first | exact HW5.out.drew | exact (HW5.out.drew).alloc (HW5.out.drew).size _)) (by first | exact HS1.out _ HW5.out.drew | exact HS1.out _ ((HW5.out.drew).alloc (HW5.out.drew).size _)) (by have := HKL.out; simp; omega) ?_; intro v1 w1 H1 H1b)
                  | (refine step_ap (w0 := W0) (v := v1) (xs := [] ++ (q.map Int.ofNat).take cap) (ys := [(cap : Int)]) (A := some ⟨_, 0, none⟩) (m := 1) (c := 1) rfl _ _ rfl rfl rfl (by first | exact H1.out | exact H1.out.alloc _) (by first | exact rds_lit _ _ | exact (rds_lit _ _).below (H1b.out rfl) | exact (rds_lit W5 _).below (((RowKit.Below.refl _ _).drew).trans (H1b.out rfl))) (by have := HKL.out; simp; omega) ?_; intro v2 w2 H2 H2b)
                  | (refine step_ap (w0 := W0) (v := v2) (xs := [] ++ (q.map Int.ofNat).take cap ++ [(cap : Int)]) (ys := []) (A := some ⟨g, 0, none⟩) (m := 0) (c := 0) rfl _ _ rfl rfl rfl H2.out ((fun W (_ : RowKit.Below W0.heap.size W0 W) => (⟨rfl, Nat.zero_le _, fun h => absurd h (by omega)⟩ : Rds W _ 0 _ [])) _ H2.out.2) (by have := HKL.out; simp; omega) ?_; intro v3 w3 H3 H3b))
              all_goals
                obtain ⟨P', m', cap', rfl, HOI⟩ := OI.ins HSQ.out HO.out.hb H3.out (by have := HKL.out; simp [List.drop_eq_nil_of_le HKD.out])
                have HOI := Lib.hid HOI
                clear H1 H1b H2 H2b H3 H3b
                go_wp2_with fail
                go_roundw
                case rel => exact ⟨_, cap + 1, P', m', cap', rfl, by simp, by omega, HOI⟩
                case measure => simp [intOf]; omega
            · skip
              generalize hW5 : World.drewN _ _ = W5
              have HW5 : Hid (RowKit.Below W0.heap.size W0 W5) := Lib.hid (by rw [← hW5]; first | exact belN (belN (belN (RowKit.Below.refl _ _) _) _) _ | exact belN (belN (RowKit.Below.refl _ _) _) _)
              clear hW5
              go_region_held3 (fun _ => True) (go_keep)
                (first
                  | (refine step_ap (w0 := W0) (v := .slice none 0 0) (xs := []) (ys := (q.map Int.ofNat).take k) (A := some ⟨g, 0, none⟩) (m := k) (c := cap) rfl _ _ rfl rfl rfl (AP.nil (by first | exact HW5.out.drew | exact (HW5.out.drew).alloc (HW5.out.drew).size _)) (by first | exact HS1.out _ HW5.out.drew | exact HS1.out _ ((HW5.out.drew).alloc (HW5.out.drew).size _)) (by have := HKL.out; simp; omega) ?_; intro v1 w1 H1 H1b)
                  | (refine step_ap (w0 := W0) (v := v1) (xs := [] ++ (q.map Int.ofNat).take k) (ys := [(k : Int)]) (A := some ⟨_, 0, none⟩) (m := 1) (c := 1) rfl _ _ rfl rfl rfl (by first | exact H1.out | exact H1.out.alloc _) (by first | exact rds_lit _ _ | exact (rds_lit _ _).below (H1b.out rfl) | exact (rds_lit W5 _).below (((RowKit.Below.refl _ _).drew).trans (H1b.out rfl))) (by have := HKL.out; simp; omega) ?_; intro v2 w2 H2 H2b)
                  | (refine step_ap (w0 := W0) (v := v2) (xs := [] ++ (q.map Int.ofNat).take k ++ [(k : Int)]) (ys := []) (A := _) (m := 0) (c := _) rfl _ _ rfl rfl rfl H2.out ((fun W (_ : RowKit.Below W0.heap.size W0 W) => (⟨rfl, Nat.zero_le _, fun h => absurd h (by omega)⟩ : Rds W _ 0 _ [])) _ H2.out.2) (by have := HKL.out; simp; omega) ?_; intro v3 w3 H3 H3b))
              all_goals
                obtain ⟨P', m', cap', rfl, HOI⟩ := OI.ins HSQ.out HO.out.hb H3.out (by have := HKL.out; simp [List.drop_eq_nil_of_le HKD.out])
                have HOI := Lib.hid HOI
                clear H1 H1b H2 H2b H3 H3b
                go_wp2_with fail
                go_roundw
                case rel => exact ⟨_, k + 1, P', m', cap', rfl, by simp, by omega, HOI⟩
                case measure => simp [intOf]; omega
    · go_wp2_with fail
      go_ret2
      have e : m = l.length := by rw [HLN.out]; omega
      have hr : ∀ z, m = z → SQ l q z ∧ wr.ownsRow w.heap.size 3 1 (.slice P m cap) z (nb q) := by
        intro z hz
        subst hz
        exact ⟨HO.out.sq, HO.out.row⟩
      exact ⟨HO.out.hb, .inr ⟨.slice P m cap, q, rfl, (hr _ e).1, (hr _ e).2⟩⟩
end Go.Proofs.YtnplkamkeadlgaaDoor
