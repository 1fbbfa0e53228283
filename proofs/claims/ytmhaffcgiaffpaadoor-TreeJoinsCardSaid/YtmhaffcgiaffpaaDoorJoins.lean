/-
  What is proved here: how the law of joined vectors holds its list, what Check says of it, and nest with memory of the call's own; no condition but those that each fact states.
-/
import Derived.Test.YtmhaffcgiaffpaaDoorChkZ
import Derived.Test.YtmhaffcgiaffpaaDoorCutR
import Derived.Test.YtmhaffcgiaffpaaDoorBring
namespace Go.Proofs.YtmhaffcgiaffpaaDoor
open Go.RowKit

set_option maxRecDepth 100000 in
set_option maxHeartbeats 4000000 in
theorem nestO_any (n : Nat) (w : World) (hn1 : 1 ≤ n) (hn : n ≤ 1000) : Calls Tryd.prog 27 #[.int .i64 (n : Int)] w fun e w' => (∃ cs, e = .returned (.agg cs.toArray) ∧ NdO (fun b => w.heap.size ≤ b) w' (nestT (n - 1)) cs) ∧ Below w.heap.size w w' := by
  go_enter Tryd.func27, Tryd.ntmps27
  go_wp2_with (go_at_call 29; refine (vec_any _ _ _ _).mono ?_; rintro e w' ⟨rfl, hb⟩)
  have hs1 : w.heap.size < w'.heap.size := by have := hb.size; simp at this; omega
  have HS : Hid (∃ A m c, NS w w'.heap.size 0 A m c (w'.alloc (.cells #[.int .i64 10, .int .i64 0, .int .u64 0, .string ⟨#[]⟩, .slice none 0 0, .slice none 0 0] 26))) := by
    refine Lib.hid ⟨none, 0, 0, ?_, hs1, ?_, Blk.new _ _ _, ?_⟩
    · exact (((Below.refl _ w).alloc (Nat.le_refl _) _).trans (hb.mono (by simp))).alloc (by omega) _
    · exact (Blk.below (Blk.new w _ _) hb (by simp)).alloc _
    · exact ndo_vec (l := []) (xs := []) ⟨⟨rfl, .inl ⟨rfl, rfl⟩⟩, fun g hg => by cases hg⟩ rfl
  obtain ⟨B3, hB3⟩ : ∃ B3, w'.heap.size = B3 := ⟨_, rfl⟩
  simp only [hB3] at HS ⊢
  clear hb hs1 hB3
  go_loopw [4] (fun i wr => ∃ j : Nat, 1 ≤ j ∧ j ≤ n ∧ i = .int .i64 (j : Int) ∧ Hid (∃ A m c, NS w B3 (j - 1) A m c wr)) (fun i _ => n - (intOf i).toNat)
  case atStart => exact ⟨1, Nat.le_refl _, hn1, rfl, HS⟩
  case round =>
    obtain ⟨j, hj1, hj, rfl, HN⟩ := hrel
    obtain ⟨A, m, c, hN⟩ := HN.out
    have HN2 := Lib.hid hN
    by_cases hjm : j < n
    · obtain ⟨c0, c1, c2, c3, c4, c5⟩ := hN.2.2.2.1.all
      have HBX : Hid (∀ W, Below wr.heap.size wr W → Bx W B3 (.int .i64 10) (.int .i64 0) (.int .u64 0) (.string ⟨#[]⟩) (.slice none 0 0) (.slice A m c)) := Lib.hid fun W hb => Blk.below HN2.out.2.2.2.1 hb (Blk.lt HN2.out.2.2.2.1)
      clear hN HN
      go_wp2_with (go_at_call 29; refine (vec_any _ _ _ _).mono ?_; rintro e w9 ⟨rfl, hb9⟩; have HB9 := Lib.hid hb9; obtain ⟨⟨z0, z1, z2, z3, z4, z5⟩, y0, y1, y2, y3, y4, y5⟩ := Bx.both (HBX.out w9 (((Below.refl _ wr).alloc (Nat.le_refl _) _).trans (hb9.mono (Nat.le_of_lt (Nat.lt_of_lt_of_eq (Nat.lt_succ_self _) (World.size_alloc _ _).symm))))); clear hb9)
      have HNX := Lib.hid (HN2.out.next HB9.out)
      unfold put6 at HNX
      go_roundw
      case rel => exact ⟨j + 1, by omega, by omega, by simp, Lib.hid ⟨_, _, _, by rw [show j + 1 - 1 = j - 1 + 1 by omega]; exact HNX.out⟩⟩
      case measure => simp [intOf]; omega
    · obtain rfl : j = n := by omega
      obtain ⟨c0, c1, c2, c3, c4, c5⟩ := hN.2.2.2.1.all
      obtain ⟨⟨z0, z1, z2, z3, z4, z5⟩, y0, y1, y2, y3, y4, y5⟩ := Bx.both hN.2.2.1
      clear hN HN
      go_wp2_with fail
      refine ret_six (p := 2) (g := w.heap.size) rfl rfl (Bx.put6 HN2.out.2.2.1 _ _ _ _ _ _) rfl ?_
      have hB3l := HN2.out.2.1
      refine ⟨⟨[.int .i64 10, .int .i64 0, .int .u64 0, .string ⟨#[]⟩, .slice none 0 0, .slice A m c], rfl, ?_⟩, put6_below HN2.out.1 w.heap.size 0 _ _ _ _ _ _ (Nat.le_refl _)⟩
      exact NdO.step (fun b hb _ => ⟨put6_other wr w.heap.size 0 b _ _ _ _ _ _ (by omega), by omega⟩) _ _ HN2.out.2.2.2.2

theorem chkL_app2 : ∀ (a b : List (Nat × T)) (i : Nat), chkL a i ≠ 0 → chkL (a ++ b) i = chkL a i
  | [], b, i, h => absurd rfl h
  | x :: a, b, i, h => by
    have e1 : ∀ r, chkL (x :: r) i = if stepE i x ≠ 0 then stepE i x else chkL r (i + 1) := fun r => rfl
    rw [e1] at h
    rw [List.cons_append, e1, e1]
    by_cases h0 : stepE i x ≠ 0
    · rw [if_pos h0, if_pos h0]
    · rw [if_neg h0] at h
      rw [if_neg h0, if_neg h0]
      exact chkL_app2 a b (i + 1) h
theorem nest_deep : chkL (preT (nestT 63) 1) 1 = 61 := by decide +kernel
theorem own_vec (K : List T) : ownE (vecT K) = 0 := by
  have hs : suchT (vecT K) = true := by simp [suchT, vecT, partK] <;> rfl
  unfold ownE
  rw [if_neg (by rw [hs]; simp), if_neg (by simp [vecT, T.k])]
  rfl
theorem chk_deep (K : List T) : chk (vecT (nestT 63 :: K)) = 61 := by
  have h0 : stepE 0 (0, vecT (nestT 63 :: K)) = 0 := (stepE_zero _ _).2 ⟨by decide, by show (0 : Nat) < 64; omega, own_vec _⟩
  have e : chk (vecT (nestT 63 :: K)) = if stepE 0 (0, vecT (nestT 63 :: K)) ≠ 0 then stepE 0 (0, vecT (nestT 63 :: K)) else chkL (preT (nestT 63) 1 ++ preL K 1) 1 := rfl
  rw [e, if_neg (by simp [h0]), chkL_app2 _ _ _ (by rw [nest_deep]; decide), nest_deep]
theorem nest_ok : ∀ n, okT (nestT n)
  | 0 => ⟨own_vec _, trivial⟩
  | n + 1 => ⟨own_vec _, nest_ok n, trivial⟩
theorem okL_of : ∀ {l : List T}, (∀ t ∈ l, okT t) → okL l
  | [], _ => trivial
  | x :: xs, h => ⟨h x (by simp), okL_of fun t ht => h t (by simp [ht])⟩
theorem dpL_of {n : Nat} : ∀ {l : List T}, (∀ t ∈ l, dp t ≤ n) → dpL l ≤ n
  | [], _ => Nat.zero_le _
  | x :: xs, h => by
    have h1 := h x (by simp)
    have h2 := dpL_of (l := xs) fun t ht => h t (by simp [ht])
    simp only [dpL]
    omega
theorem szL_of {n : Nat} : ∀ {l : List T}, (∀ t ∈ l, sz t ≤ n) → szL l ≤ l.length * n
  | [], _ => by simp [szL]
  | x :: xs, h => by
    have h1 := h x (by simp)
    have h2 := szL_of (l := xs) fun t ht => h t (by simp [ht])
    simp only [szL, List.length_cons, Nat.add_mul]
    omega
/-- What the law keeps of the vectors that it takes. -/
def Kept (t : T) : Prop := okT t ∧ dp t ≤ 63 ∧ sz t ≤ 120 ∧ sm 1000 1000 t
theorem kept_QQ {D : Nat} (hD : D ≤ 63) {K : List T} (hK : ∀ t ∈ K, Kept t) (hl : K.length ≤ 20) : QQ (vecT (nestT D :: K)) := by
  have h1 := szL_of (n := 120) (l := K) fun t ht => (hK t ht).2.2.1
  have h2 := nest_sz D
  refine ⟨?_, Nat.zero_le _, Nat.zero_le _, fun x hx => by simp at hx, nest_sm D, smL_of fun t ht => (hK t ht).2.2.2⟩
  show 1 + (sz (nestT D) + szL K) ≤ 100000
  omega
theorem chk_kept {D : Nat} (hD : D ≤ 62) {K : List T} (hK : ∀ t ∈ K, Kept t) (hl : K.length ≤ 20) : chk (vecT (nestT D :: K)) = 0 := by
  have h1 := szL_of (n := 120) (l := K) fun t ht => (hK t ht).2.2.1
  have h2 := nest_sz D
  have h3 := dpL_of (n := 63) (l := K) fun t ht => (hK t ht).2.1
  have h4 := nest_dp D
  refine (chk_zero _).2 ⟨⟨own_vec _, nest_ok D, okL_of fun t ht => (hK t ht).1⟩, ?_, ?_⟩
  · show 1 + max (dp (nestT D)) (dpL K) ≤ 64
    omega
  · show 1 + (sz (nestT D) + szL K) ≤ 4096
    omega

/-- The list that grows: a row of the call's own whose nodes lie elsewhere. -/
structure JR (w : World) (K : List T) (ys : List Value) (lv : Value) (wr : World) : Prop where
  bl : Below w.heap.size w wr
  row : wr.ownsRow w.heap.size 26 6 lv K.length ys
  kids : NdOL (fun b => w.heap.size ≤ b ∧ some b ≠ lv.ownBlock) wr K ys
theorem JR.below {w wr w2 : World} {K : List T} {ys : List Value} {lv : Value} (h : JR w K ys lv wr) (hb : Below wr.heap.size wr w2) : JR w K ys lv w2 :=
  ⟨h.bl.trans (hb.mono h.bl.size), own_bel h.row hb, NdOL.step (fun b hb2 hlt => ⟨hb.block b hlt, hb2⟩) _ _ h.kids⟩
theorem JR.start {w w1 : World} {t : T} {cs : List Value} (hb : Below w.heap.size w w1) (hn : NdO (fun b => w.heap.size ≤ b) w1 t cs) : JR w [t] cs (.slice (some ⟨w1.heap.size, 0, none⟩) 1 1) (w1.alloc (.cells cs.toArray 26)) := by
  have hl := World.ownsRow_lit (base := w.heap.size) (e := 26) (size := 6) w1 cs.toArray 1 hb.size (by decide) (by simp [hn.len])
  refine ⟨hb.alloc hb.size _, by simpa using hl, cs, [], (List.append_nil _).symm, NdO.step (fun b hb2 hlt => ⟨Below.heap_alloc _ _ _ hlt, hb2, ?_⟩) _ _ hn, rfl⟩
  intro e
  have := Option.some.inj e
  simp at this
  omega
theorem JR.app {w w2 w3 : World} {K : List T} {ys : List Value} {lv v' : Value} {t : T} {cs : List Value} {ob : Obj} {n0 : Nat} (h : JR w K ys lv w2) (ht : NdO (fun b => n0 ≤ b) w2 t cs) (hn : w.heap.size ≤ n0) (hlv : ∀ g, lv.ownBlock = some g → g < n0)
    (hown : w3.ownsRow w.heap.size 26 6 v' (K.length + 1) (ys ++ cs)) (hg : (w2.alloc ob).grownBy w3 lv.ownBlock) (hp : v'.ownBlock = lv.ownBlock ∨ v'.ownBlock = some (w2.alloc ob).heap.size) : JR w (K ++ [t]) (ys ++ cs) v' w3 := by
  have hs := h.bl.size
  have hgb : ∀ b, b < w2.heap.size → some b ≠ lv.ownBlock → w3.heap[b]? = w2.heap[b]? := fun b hb hne => (hg.block b (by rw [World.size_alloc]; omega) hne).trans (Below.heap_alloc w2 ob b hb)
  have hlow : ∀ g, lv.ownBlock = some g → w.heap.size ≤ g := fun g hg => (h.row.lt g hg).1
  have hv : ∀ b, b < w2.heap.size → some b ≠ lv.ownBlock → some b ≠ v'.ownBlock := fun b hb hne e => by
    rcases hp with e2 | e2
    · exact hne (by rw [← e2, ← e])
    · rw [e2] at e
      have e3 := Option.some.inj e
      rw [World.size_alloc] at e3
      omega
  refine ⟨⟨hg.os.trans h.bl.os, hg.tape.trans h.bl.tape, hg.output.trans h.bl.output, by have := hg.size; rw [World.size_alloc] at this; omega, fun i hi => (hgb i (by omega) (fun e => by have := hlow i e.symm; omega)).trans (h.bl.block i hi)⟩, by simpa using hown,
    NdOL.app (NdO.step (fun b hb hlt => ?_) _ _ ht) (NdOL.step (fun b hb hlt => ⟨hgb b hlt hb.2, hb.1, hv b hlt hb.2⟩) _ _ h.kids)⟩
  have hne : some b ≠ lv.ownBlock := fun e => by have := hlv b e.symm; omega
  exact ⟨hgb b hlt hne, by omega, hv b hlt hne⟩
theorem own_zero {w : World} {B : Nat} {e : TypeId} {size n : Nat} {v : Value} {xs : List Value} (h : w.ownsRow B e size v n xs) : w.ownsRow 0 e size v n xs := by
  refine ⟨h.1, ?_⟩
  rcases h.2 with h0 | ⟨g, cap, cur, h1, _, h3⟩
  · exact .inl h0
  · exact .inr ⟨g, cap, cur, h1, Nat.zero_le _, h3⟩
theorem JR.nd {w wr : World} {K : List T} {ys : List Value} {lv : Value} (h : JR w K ys lv wr) : Nd wr (vecT K) [.int .i64 10, .int .i64 0, .int .u64 0, .string ⟨#[]⟩, .slice none 0 0, lv] :=
  NdO.nd _ _ (ndo_vec (U := fun _ => True) ⟨own_zero h.row, fun _ _ => trivial⟩ (NdOL.step (fun _ _ _ => ⟨rfl, trivial⟩) _ _ h.kids))
end Go.Proofs.YtmhaffcgiaffpaaDoor
