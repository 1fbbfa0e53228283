/-
  What is proved here: plain facts of Set and Get: the node that was put is found; a path that diverges finds what it found; no condition but those that each fact states.
-/
import Derived.Test.YtjnfilbdokppiaaGreatDoorPap
namespace Go.Proofs.YtjnfilbdokppiaaGreatDoor
open Go.RowKit

/-- A node of which one child is replaced. -/
def repT (m : T) (a : Nat) (c : T) : T := .mk m.k m.n m.u m.s m.ks (m.l.set a c)
theorem lead_rep (m : T) (a : Nat) (c : T) (s : Stp) : lead (repT m a c) s = lead m s := by
  obtain ⟨k, n, u, z, ks, l⟩ := m
  unfold lead repT
  simp only [T.l, T.k, T.ks, List.length_set]
  rfl
theorem rep_l (m : T) (a : Nat) (c : T) : (repT m a c).l = m.l.set a c := rfl
theorem setT_cons {m y m' : T} {s : Stp} {ps : List Stp} (h : setT m (s :: ps) y = some m') : ∃ a c c', lead m s = some a ∧ m.l[a]? = some c ∧ setT c ps y = some c' ∧ m' = repT m a c' := by
  rw [setT] at h
  split at h
  · cases h
  · rename_i a ha
    split at h
    · cases h
    · rename_i c hc
      split at h
      · cases h
      · rename_i c' hc'
        exact ⟨a, c, c', ha, hc, hc', (Option.some.inj h).symm⟩
theorem getT_cons {m c : T} {s : Stp} {ps : List Stp} {a : Nat} (h1 : lead m s = some a) (h2 : m.l[a]? = some c) : getT m (s :: ps) = getT c ps := by
  rw [getT, h1]
  simp only [h2]
theorem getT_one {m c : T} {s : Stp} (h : getT m [s] = some c) : ∃ a, lead m s = some a ∧ m.l[a]? = some c := by
  rw [getT] at h
  split at h
  · cases h
  · rename_i a ha
    split at h
    · cases h
    · rename_i c' hc
      rw [getT] at h
      exact ⟨a, ha, by rw [hc, Option.some.inj h]⟩
theorem getT_non8 {m : T} {s : Stp} (ps : List Stp) (h : getT m [s] = none) : getT m (s :: ps) = none ∧ ∀ a c, a < m.l.length → getT (repT m a c) (s :: ps) = none := by
  rw [getT] at h
  have hl : lead m s = none := by
    split at h
    · assumption
    · rename_i a ha
      have := lead_lt ha
      rw [List.getElem?_eq_getElem this] at h
      simp [getT] at h
  refine ⟨by rw [getT, hl], fun a c _ => by rw [getT, lead_rep, hl]⟩
/-- The node that was put. -/
theorem get_put (y : T) : ∀ (ps : List Stp) (t x : T), setT t ps y = some x → getT x ps = some y
  | [], t, x, h => by
    have : y = x := by simpa [setT] using h
    rw [this]
    rfl
  | s :: ps, t, x, h => by
    obtain ⟨a, c, c', h1, h2, h3, rfl⟩ := setT_cons h
    have hal := (List.getElem?_eq_some_iff.1 h2).1
    rw [getT_cons (a := a) (c := c') (by rw [lead_rep]; exact h1) (by rw [rep_l, List.getElem?_set]; simp [hal])]
    exact get_put y ps c c' h3
theorem take_one {ps : List Stp} {i : Nat} {s : Stp} (h : ps[i]? = some s) : ps.take (i + 1) = ps.take i ++ [s] := by
  rw [List.take_add_one, h]; rfl
theorem drop_one {ps : List Stp} {i : Nat} {s : Stp} (h : ps[i]? = some s) : ps.drop i = s :: ps.drop (i + 1) := by
  obtain ⟨hl, rfl⟩ := List.getElem?_eq_some_iff.1 h
  exact List.drop_eq_getElem_cons hl
/-- A path that leads, leads at each of its beginnings. -/
theorem get_take {t x y : T} {ps : List Stp} (h : setT t ps y = some x) (i : Nat) : ∃ m, getT t (ps.take i) = some m := by
  induction ps generalizing t x i with
  | nil => exact ⟨t, by simp [getT]⟩
  | cons s ps ih =>
    obtain ⟨a, c, c', h1, h2, h3, rfl⟩ := setT_cons h
    cases i with
    | zero => exact ⟨t, rfl⟩
    | succ i =>
      obtain ⟨m, hm⟩ := ih h3 i
      exact ⟨m, by rw [List.take_succ_cons, getT_cons h1 h2]; exact hm⟩
/-- Two paths of which the first i steps lead to one node, or that have diverged. -/
def PIn (t x y : T) (one two : List Stp) (i : Nat) : Prop := getT t two = getT x two ∨ ∃ m m', getT t (one.take i) = some m ∧ getT t (two.take i) = some m ∧ setT m (one.drop i) y = some m' ∧ getT t two = getT m (two.drop i) ∧ getT x two = getT m' (two.drop i)
theorem PIn.zero {t x y : T} {one two : List Stp} (h : setT t one y = some x) : PIn t x y one two 0 := .inr ⟨t, x, rfl, rfl, h, rfl, rfl⟩
theorem PIn.nope {t x y : T} {one two : List Stp} {i : Nat} {r s : Stp} (h : PIn t x y one two i) (hr : one[i]? = some r) (hs : two[i]? = some s) (hn : getT t (two.take (i + 1)) = none) : getT t two = none ∧ getT x two = none := by
  have h0 : getT t two = none := by
    rw [← List.take_append_drop (i + 1) two, getT_app, hn]; rfl
  rcases h with h | ⟨m, m', h1, h2, h3, h4, h5⟩
  · exact ⟨h0, h ▸ h0⟩
  · refine ⟨h0, ?_⟩
    rw [take_one hs, getT_app, h2] at hn
    rw [drop_one hr] at h3
    obtain ⟨a, c, c', g1, g2, g3, rfl⟩ := setT_cons h3
    rw [h5, drop_one hs]
    exact (getT_non8 _ hn).2 a c' (lead_lt g1)
theorem PIn.step {t x y c d : T} {one two : List Stp} {i : Nat} {r s : Stp} (h : PIn t x y one two i) (hr : one[i]? = some r) (hs : two[i]? = some s) (hc : getT t (one.take (i + 1)) = some c) (hd : getT t (two.take (i + 1)) = some d) : (c ≠ d → getT t two = getT x two) ∧ PIn t x y one two (i + 1) := by
  rcases h with h | ⟨m, m', h1, h2, h3, h4, h5⟩
  · exact ⟨fun _ => h, .inl h⟩
  · have hc0 := hc
    have hd0 := hd
    rw [take_one hr, getT_app, h1] at hc
    rw [take_one hs, getT_app, h2] at hd
    obtain ⟨a, ha, hac⟩ := getT_one hc
    obtain ⟨b, hb, hbd⟩ := getT_one hd
    rw [drop_one hr] at h3
    obtain ⟨a', c', c'', g1, g2, g3, rfl⟩ := setT_cons h3
    obtain rfl : a = a' := Option.some.inj (ha.symm.trans g1)
    obtain rfl : c = c' := Option.some.inj (hac.symm.trans g2)
    rw [drop_one hs] at h4 h5
    rw [getT_cons hb hbd] at h4
    have hl := (List.getElem?_eq_some_iff.1 hac).1
    by_cases hab : a = b
    · subst hab
      obtain rfl : c = d := Option.some.inj (hac.symm.trans hbd)
      rw [getT_cons (a := a) (c := c'') (by rw [lead_rep]; exact hb) (by rw [rep_l, List.getElem?_set]; simp [hl])] at h5
      exact ⟨fun h => absurd rfl h, .inr ⟨c, c'', hc0, hd0, g3, h4, h5⟩⟩
    · rw [getT_cons (a := b) (c := d) (by rw [lead_rep]; exact hb) (by rw [rep_l, List.getElem?_set]; simp [hab, hbd])] at h5
      have he : getT t two = getT x two := h4.trans h5.symm
      exact ⟨fun _ => he, .inl he⟩
/-! In memory. -/
theorem At3.same {w w' : World} {b o : Nat} {s : Stp} (h : At3 w b o s) (e : w'.heap[b]? = w.heap[b]?) : At3 w' b o s :=
  ⟨(World.cell?_of_block (a := ⟨b, o, none⟩) e).trans h.1, (World.cell?_of_block (a := ⟨b, o + 1, none⟩) e).trans h.2.1, (World.cell?_of_block (a := ⟨b, o + 2, none⟩) e).trans h.2.2⟩
theorem RdP.putA {w : World} {A : Option Addr} {n c p : Nat} {ps : List Stp} (h : RdP w (.slice A n c) ps) (hp : ∀ ad, A = some ad → ad.block ≠ p) (a0 a1 a2 a3 a4 a5 : Value) : RdP (put6 w p 0 a0 a1 a2 a3 a4 a5) (.slice A n c) ps := by
  obtain ⟨A', n', c', e, h1, h2, h3, h4, h5⟩ := h
  injection e with e1 e2 e3
  subst e1 e2 e3
  refine ⟨_, _, _, rfl, h1, h2, h3, h4, fun hn => ?_⟩
  obtain ⟨b, off, rfl, hb, hc⟩ := h5 hn
  exact ⟨b, off, rfl, by rw [put6_size]; exact hb, fun j s hs => (hc j s hs).same (put6_other _ _ _ _ _ _ _ _ _ _ (hp _ rfl))⟩
theorem RdP.takeA {w : World} {A : Option Addr} {n c k : Nat} {ps : List Stp} (h : RdP w (.slice A n c) ps) (hk : k ≤ n) : RdP w (.slice A k c) (ps.take k) := by
  obtain ⟨A', n', c', e, h1, h2, h3, h4, h5⟩ := h
  injection e with e1 e2 e3
  subst e1 e2 e3
  refine ⟨_, _, _, rfl, by rw [List.length_take]; omega, by omega, h3, fun s hs => h4 s (List.mem_of_mem_take hs), fun hn => ?_⟩
  obtain ⟨b, off, rfl, hb, hc⟩ := h5 (by omega)
  refine ⟨b, off, rfl, hb, fun j s hs => hc j s ?_⟩
  rw [List.getElem?_take] at hs
  split at hs
  · exact hs
  · cases hs
theorem three_boxes (w : World) (cs ds es : Array Value) (t u v : TypeId) : Blk (((w.alloc (.cells cs t)).alloc (.cells ds u)).alloc (.cells es v)) w.heap.size t cs ∧ Blk (((w.alloc (.cells cs t)).alloc (.cells ds u)).alloc (.cells es v)) (w.heap.size + 1) u ds ∧ Blk (((w.alloc (.cells cs t)).alloc (.cells ds u)).alloc (.cells es v)) (w.heap.size + 1 + 1) v es ∧ Below w.heap.size w (((w.alloc (.cells cs t)).alloc (.cells ds u)).alloc (.cells es v)) := by
  have h1 := (Blk.new (w.alloc (.cells cs t)) u ds).alloc (.cells es v)
  have h2 := Blk.new ((w.alloc (.cells cs t)).alloc (.cells ds u)) v es
  rw [World.size_alloc] at h1
  rw [World.size_alloc, World.size_alloc] at h2
  exact ⟨((Blk.new w t cs).alloc _).alloc _, h1, h2, tr (tr (al0 w _) (al0 _ _)) (al0 _ _)⟩
theorem two_cells {W : World} {b : Nat} {t : TypeId} {x y : Value} (h : Blk W b t #[x, y]) : W.cell? ⟨b, 0, none⟩ = some x ∧ W.cell? ⟨b, 1, none⟩ = some y := ⟨h.cell 0, h.cell 1⟩
theorem rdp_at {w : World} {A : Option Addr} {n c : Nat} {ps : List Stp} (h : RdP w (.slice A n c) ps) : n ≤ c ∧ (0 < n → ∃ b off, A = some ⟨b, off, none⟩ ∧ b < w.heap.size ∧ ∀ wr, Below w.heap.size w wr → ∀ j s, ps[j]? = some s → At3 wr b (off + j * 3) s) := by
  obtain ⟨A', n', c', e, h1, h2, h3, h4, h5⟩ := h.at
  injection e with e1 e2 e3
  subst e1 e2 e3
  exact ⟨h2, h5⟩
theorem getT_K {t d : T} {ps : List Stp} {K : Int} (h : getR t ps = (d, K)) : (K = 80 ∧ getT t ps = none) ∨ (K = 0 ∧ getT t ps = some d) := by
  unfold getR at h
  cases hg : getT t ps with
  | none =>
    rw [hg] at h
    injection h with h1 h2
    exact .inl ⟨h2.symm, rfl⟩
  | some z =>
    rw [hg] at h
    injection h with h1 h2
    exact .inr ⟨h2.symm, by rw [h1]⟩
theorem getR_none {t d : T} {ps : List Stp} {K : Int} (h : getR t ps = (d, K)) (hn : getT t ps = none) : K = 80 := by
  rcases getT_K h with h | h
  · exact h.1
  · rw [hn] at h; cases h.2
theorem getR_congr {t x a b : T} {ps : List Stp} {G H : Int} (h : getT t ps = getT x ps) (h1 : getR t ps = (a, G)) (h2 : getR x ps = (b, H)) : a = b ∧ G = H := by
  unfold getR at h1 h2
  rw [h] at h1
  rw [h1] at h2
  injection h2 with e1 e2
  exact ⟨e1, e2⟩
/-- The law's cut, with the place of what it hands back. -/
theorem cutP_F (ps : List Stp) (v : Value) (W : World) (h : RdP W v ps) : Calls Tryz.prog 13 #[v] W fun e w' =>
    ∃ A c, e = .returned (.slice A (cut8 ps).length c) ∧ Hid (RdP w' (.slice A (cut8 ps).length c) (cut8 ps)) ∧ Hid (∀ ad, A = some ad → W.heap.size ≤ ad.block ∧ ad.block < w'.heap.size) ∧ Hid (Below W.heap.size W w') := by
  have hok : ∀ s ∈ ps, okR s := by obtain ⟨_, _, _, -, -, -, -, h4, -⟩ := h; exact h4
  refine (cut8_any ps v W h).mono ?_
  rintro e w' ⟨⟨v', rfl, ho⟩, hb⟩
  have hr := own_rdp ho (cut8_ok hok)
  obtain ⟨A, n, c, rfl, hn, -⟩ := id hr
  subst hn
  refine ⟨A, c, rfl, Lib.hid hr, Lib.hid ?_, Lib.hid hb⟩
  rintro ad rfl
  rcases ho.2 with ⟨h0, _⟩ | ⟨g, cap, cur, h0, h1, h2, _⟩
  · cases h0
  · injection h0 with h0
    injection h0 with h0
    subst h0
    exact ⟨h1, (Array.getElem?_eq_some_iff.1 h2).1⟩
/-- Behind the first statement: a tree in a box, two paths. -/
def PV (A : World) (X : T) (qs rs : List Stp) (s7 s8 s9 : Value) (W : World) : Prop := Below A.heap.size A W ∧ (∃ (p : Nat) (kaz naz uaz : Int) (saz : ByteArray) (EAz : Option Addr) (qaz faz : Nat) (GAz : Option Addr) (raz haz : Nat), s7 = .pointer (some ⟨p, 0, none⟩) ∧ Bd W p X (.int .i64 kaz) (.int .i64 naz) (.int .u64 uaz) (.string saz) (.slice EAz qaz faz) (.slice GAz raz haz)) ∧ ∃ B c B' c', s8 = .slice B qs.length c ∧ s9 = .slice B' rs.length c' ∧ RdP W (.slice B qs.length c) qs ∧ RdP W (.slice B' rs.length c') rs
section
variable {A w3 w5 : World} {X : T} {lo : Nat} {qs rs : List Stp} {B1 B2 : Option Addr} {c1 c2 : Nat} {kaz naz uaz : Int} {saz : ByteArray} {EAz : Option Addr} {qaz faz : Nat} {GAz : Option Addr} {raz haz : Nat} (hA : Below A.heap.size A w5) (ho : NdO (fun b => lo ≤ b) w3 X [.int .i64 kaz, .int .i64 naz, .int .u64 uaz, .string saz, .slice EAz qaz faz, .slice GAz raz haz]) (hb : Below w3.heap.size w3 w5) (r1 : RdP w5 (.slice B1 qs.length c1) qs) (r2 : RdP w5 (.slice B2 rs.length c2) rs)
include hA ho hb r1 r2
theorem pv_new : PV A X qs rs (.pointer (some ⟨w5.heap.size, 0, none⟩)) (.slice B1 qs.length c1) (.slice B2 rs.length c2) (w5.alloc (.cells #[.int .i64 kaz, .int .i64 naz, .int .u64 uaz, .string saz, .slice EAz qaz faz, .slice GAz raz haz] 38)) :=
  ⟨tr hA (al0 _ _), ⟨_, kaz, naz, uaz, saz, EAz, qaz, faz, GAz, raz, haz, rfl, Bd.new (NdO.nd _ _ (NdO.step (U' := fun _ => True) (fun b _ hl => ⟨hb.block b hl, trivial⟩) _ _ ho))⟩, _, _, _, _, rfl, rfl, r1.below (al0 _ _), r2.below (al0 _ _)⟩
theorem pv_put {p : Nat} {z0 z1 z2 z3 z4 z5 : Value} (hB : Bx w5 p z0 z1 z2 z3 z4 z5) (hp : A.heap.size ≤ p) (hq : p < lo ∨ w3.heap.size ≤ p) (n1 : ∀ ad, B1 = some ad → ad.block ≠ p) (n2 : ∀ ad, B2 = some ad → ad.block ≠ p) :
    PV A X qs rs (.pointer (some ⟨p, 0, none⟩)) (.slice B1 qs.length c1) (.slice B2 rs.length c2) ((((((w5.setCell ⟨p, 0, none⟩ (.int .i64 kaz)).setCell ⟨p, 1, none⟩ (.int .i64 naz)).setCell ⟨p, 2, none⟩ (.int .u64 uaz)).setCell ⟨p, 3, none⟩ (.string saz)).setCell ⟨p, 4, none⟩ (.slice EAz qaz faz)).setCell ⟨p, 5, none⟩ (.slice GAz raz haz)) :=
  ⟨below_put hA hp _ _ _ _ _ _, ⟨p, kaz, naz, uaz, saz, EAz, qaz, faz, GAz, raz, haz, rfl, Bx.put6 hB _ _ _ _ _ _, NdO.nd _ _ (NdO.step (U' := fun _ => True) (fun b h1 hl => ⟨(put6_other _ _ _ _ _ _ _ _ _ _ (by omega)).trans (hb.block b hl), trivial⟩) _ _ ho)⟩, _, _, _, _, rfl, rfl, r1.putA n1 _ _ _ _ _ _, r2.putA n2 _ _ _ _ _ _⟩
end
/-- What Set hands back, in one tree. -/
def setU (t : T) (ps : List Stp) (y : T) : T × Int := match setR t ps y with
  | (none, E) => (T0, E)
  | (some x, _) => (x, 0)
theorem setU_cases {t y x : T} {ps : List Stp} {E : Int} (h : setU t ps y = (x, E)) : (E ≠ 0 ∧ x = T0) ∨ (E = 0 ∧ setT t ps y = some x ∧ chk x = 0) := by
  unfold setU setR at h
  cases hs : setT t ps y with
  | none =>
    rw [hs] at h
    injection h with h1 h2
    exact .inl ⟨by omega, h1.symm⟩
  | some z =>
    rw [hs] at h
    simp only at h
    by_cases hc : chk z = 0
    · rw [if_pos hc] at h
      injection h with h1 h2
      subst h1
      exact .inr ⟨h2.symm, rfl, hc⟩
    · rw [if_neg hc] at h
      injection h with h1 h2
      exact .inl ⟨by omega, h1.symm⟩
theorem GE.gotU {w w' : World} {t y x : T} {ps : List Stp} {E : Int} {e : Ending} (hx : setU t ps y = (x, E)) (h : GE w (setR t ps y).1 (setR t ps y).2 e w') : ∃ cs', e = .returned (.tuple #[.agg cs'.toArray, .int .i64 E]) ∧ NdO (fun b => w.heap.size ≤ b) w' x cs' ∧ Below w.heap.size w w' := by
  obtain ⟨h, hb⟩ := h
  unfold setU at hx
  rcases hr : setR t ps y with ⟨r, F⟩
  rw [hr] at h hx
  cases r with
  | none =>
    injection hx with h1 h2
    subst h1 h2
    exact ⟨_, h, ndo_zero _ _, hb⟩
  | some z =>
    injection hx with h1 h2
    subst h1 h2
    obtain ⟨cs, he, ho⟩ := h
    exact ⟨cs, he, ho, hb⟩
theorem setU_qq {t y x : T} {ps : List Stp} {E : Int} (hx : setU t ps y = (x, E)) (h1 : sz t ≤ 80) (h2 : sz y ≤ 80) (h3 : sm 1000 1000 t) (h4 : sm 1000 1000 y) : sz x ≤ 100000 ∧ sm 1000 1000 x := by
  rcases setU_cases hx with ⟨_, rfl⟩ | ⟨_, hs, _⟩
  · exact ⟨by decide, by decide, by decide, by simp, trivial⟩
  · have a := setT_sz y ps t x hs
    exact ⟨by omega, setT_sm y h4 ps t x h3 hs⟩
theorem setU_S (t y : T) (cs ys : List Value) (qs : List Stp) (v : Value) (x : T) (E : Int) (hx : setU t qs y = (x, E)) (W : World) (hT : Tab W) (hnd : Nd W t cs) (hy : Nd W y ys) (hp : RdP W v qs) (h1 : sz t + sz y ≤ 100000) (h2 : sm 1000 1000 t) (h3 : sm 1000 1000 y) (h4 : qs.length ≤ 100000) :
    Calls Tryz.prog 26 #[.agg cs.toArray, v, .agg ys.toArray] W fun e w' => ∃ (ka0 na0 ua0 : Int) (sa0 : ByteArray) (EA0 : Option Addr) (qa0 fa0 : Nat) (GA0 : Option Addr) (ra0 ha0 : Nat), e = .returned (.tuple #[.agg #[.int .i64 ka0, .int .i64 na0, .int .u64 ua0, .string sa0, .slice EA0 qa0 fa0, .slice GA0 ra0 ha0], .int .i64 E]) ∧ Hid (NdO (fun b => W.heap.size ≤ b) w' x [.int .i64 ka0, .int .i64 na0, .int .u64 ua0, .string sa0, .slice EA0 qa0 fa0, .slice GA0 ra0 ha0]) ∧ Hid (Below W.heap.size W w') := by
  refine (set_any t y cs ys qs v W hT hnd hy hp h1 h2 h3 h4).mono ?_
  rintro e w' hg
  obtain ⟨cs', rfl, ho, hb⟩ := hg.gotU hx
  obtain ⟨ka0, na0, ua0, sa0, EA0, qa0, fa0, GA0, ra0, ha0, rfl⟩ := ho.shape6
  exact ⟨ka0, na0, ua0, sa0, EA0, qa0, fa0, GA0, ra0, ha0, rfl, Lib.hid ho, Lib.hid hb⟩
/-- Two trees compared. -/
theorem sameD_S (s t : T) (ca cb : List Value) (w : World) (h1 : sz s ≤ 100000) (ha : Nd w s ca) (hb : Nd w t cb) (β : Bool) (hβ : β = true ↔ s = t) : Calls Tryz.prog 29 #[.agg ca.toArray, .agg cb.toArray] w fun e w' => e = .returned (.bool β) ∧ Hid (Below w.heap.size w w') := by
  refine (same_any (dp s) s t ca cb w (Nat.le_refl _) h1 ha hb).mono ?_
  rintro e w' ⟨⟨γ, rfl, hγ⟩, hb⟩
  have : γ = β := by cases γ <;> cases β <;> simp_all
  rw [this]
  exact ⟨rfl, Lib.hid hb⟩
end Go.Proofs.YtjnfilbdokppiaaGreatDoor
