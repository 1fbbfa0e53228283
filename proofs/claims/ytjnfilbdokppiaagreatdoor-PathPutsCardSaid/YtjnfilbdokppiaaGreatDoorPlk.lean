/-
  What is proved here: contracts of few, cut, Get, the reference's Get, EqNode, Same, SpoilNode and works in the words that the walks of layer 8's laws use; conditions: those of the contracts they come from.
-/
import Derived.Test.YtjnfilbdokppiaaGreatDoorPwM
import Derived.Test.YtjnfilbdokppiaaGreatDoorFew
import Derived.Test.YtjnfilbdokppiaaGreatDoorSame
import Derived.Test.YtjnfilbdokppiaaGreatDoorSpoil
import Derived.Test.YtjnfilbdokppiaaGreatDoorPgr
namespace Go.Proofs.YtjnfilbdokppiaaGreatDoor
open Go.RowKit U U.Ut

theorem few_ok (t : T) : sz (fewT t) ≤ 80 ∧ sm 1000 1000 (fewT t) := ⟨fewT_sz t, fewT_sm t⟩
theorem few_S (t : T) (cs : List Value) (W : World) (hnd : Nd W t cs) : Calls Tryz.prog 21 #[.agg cs.toArray] W fun e w' =>
    ∃ (ka0 na0 ua0 : Int) (sa0 : ByteArray) (EA0 : Option Addr) (qa0 fa0 : Nat) (GA0 : Option Addr) (ra0 ha0 : Nat), e = .returned (.agg #[.int .i64 ka0, .int .i64 na0, .int .u64 ua0, .string sa0, .slice EA0 qa0 fa0, .slice GA0 ra0 ha0]) ∧ Hid (NdO (fun b => W.heap.size ≤ b) w' (fewT t) [.int .i64 ka0, .int .i64 na0, .int .u64 ua0, .string sa0, .slice EA0 qa0 fa0, .slice GA0 ra0 ha0]) ∧ Hid (Below W.heap.size W w') := by
  refine (few_any t cs W hnd).mono ?_
  rintro e w' ⟨⟨cs', rfl, h1⟩, hb⟩
  obtain ⟨ka0, na0, ua0, sa0, EA0, qa0, fa0, GA0, ra0, ha0, rfl⟩ := h1.shape6
  exact ⟨ka0, na0, ua0, sa0, EA0, qa0, fa0, GA0, ra0, ha0, rfl, Lib.hid h1, Lib.hid hb⟩
theorem cutP_S (ps : List Stp) (v : Value) (W : World) (h : RdP W v ps) : Calls Tryz.prog 13 #[v] W fun e w' =>
    ∃ A c, e = .returned (.slice A (cut8 ps).length c) ∧ Hid (RdP w' (.slice A (cut8 ps).length c) (cut8 ps)) ∧ Hid (Below W.heap.size W w') := by
  have hok : ∀ s ∈ ps, okR s := by obtain ⟨_, _, _, -, -, -, -, h4, -⟩ := h; exact h4
  refine (cut8_any ps v W h).mono ?_
  rintro e w' ⟨⟨v', rfl, ho⟩, hb⟩
  have hr := own_rdp ho (cut8_ok hok)
  obtain ⟨A, n, c, rfl, hn, -⟩ := id hr
  subst hn
  exact ⟨A, c, rfl, Lib.hid hr, Lib.hid hb⟩
/-- What Get hands back, in one tree. -/
theorem getR_qq {t x : T} {E : Int} {qs : List Stp} (hx : getR t qs = (x, E)) (h1 : sz t ≤ 100000) (h2 : sm 1000 1000 t) : sz x ≤ 100000 ∧ sm 1000 1000 x := by
  have a := getR_sz (ps := qs) h1 (by omega)
  have b := getR_sm (ps := qs) h2
  rw [hx] at a b
  exact ⟨a, b⟩
theorem get_S (t : T) (cs : List Value) (qs : List Stp) (v : Value) (x : T) (E : Int) (hx : getR t qs = (x, E)) (W : World) (hnd : Nd W t cs) (hp : RdP W v qs) (h1 : sz t ≤ 100000) (h2 : sm 1000 1000 t) (h3 : qs.length ≤ 100000) : Calls Tryz.prog 22 #[.agg cs.toArray, v] W fun e w' =>
    ∃ (ka0 na0 ua0 : Int) (sa0 : ByteArray) (EA0 : Option Addr) (qa0 fa0 : Nat) (GA0 : Option Addr) (ra0 ha0 : Nat), e = .returned (.tuple #[.agg #[.int .i64 ka0, .int .i64 na0, .int .u64 ua0, .string sa0, .slice EA0 qa0 fa0, .slice GA0 ra0 ha0], .int .i64 E]) ∧ Hid (NdO (fun b => W.heap.size ≤ b) w' x [.int .i64 ka0, .int .i64 na0, .int .u64 ua0, .string sa0, .slice EA0 qa0 fa0, .slice GA0 ra0 ha0]) ∧ Hid (Below W.heap.size W w') := by
  refine (get_any t cs qs v W hnd hp h1 h2 h3).mono ?_
  rintro e w' hg
  obtain ⟨cs', he, ho, hb⟩ := hg.got
  rw [hx] at he ho
  obtain ⟨ka0, na0, ua0, sa0, EA0, qa0, fa0, GA0, ra0, ha0, rfl⟩ := ho.shape6
  exact ⟨ka0, na0, ua0, sa0, EA0, qa0, fa0, GA0, ra0, ha0, he, Lib.hid ho, Lib.hid hb⟩
theorem refGet_S (t : T) (cs : List Value) (qs : List Stp) (v : Value) (x : T) (E : Int) (hx : getR t qs = (x, E)) (W : World) (hnd : Nd W t cs) (hp : RdP W v qs) (h1 : sz t ≤ 100000) (h2 : sm 1000 1000 t) (h3 : qs.length ≤ 100000) : Calls Tryz.prog 23 #[.agg cs.toArray, v] W fun e w' =>
    ∃ (ka0 na0 ua0 : Int) (sa0 : ByteArray) (EA0 : Option Addr) (qa0 fa0 : Nat) (GA0 : Option Addr) (ra0 ha0 : Nat), e = .returned (.tuple #[.agg #[.int .i64 ka0, .int .i64 na0, .int .u64 ua0, .string sa0, .slice EA0 qa0 fa0, .slice GA0 ra0 ha0], .int .i64 E]) ∧ Hid (NdO (fun b => W.heap.size ≤ b) w' x [.int .i64 ka0, .int .i64 na0, .int .u64 ua0, .string sa0, .slice EA0 qa0 fa0, .slice GA0 ra0 ha0]) ∧ Hid (Below W.heap.size W w') := by
  refine (refGet_any t cs qs v W hnd hp h1 h2 h3).mono ?_
  rintro e w' hg
  obtain ⟨cs', he, ho, hb⟩ := hg.got
  rw [hx] at he ho
  obtain ⟨ka0, na0, ua0, sa0, EA0, qa0, fa0, GA0, ra0, ha0, rfl⟩ := ho.shape6
  exact ⟨ka0, na0, ua0, sa0, EA0, qa0, fa0, GA0, ra0, ha0, he, Lib.hid ho, Lib.hid hb⟩
theorem eq_S (t : T) (ca cb : List Value) (w : World) (h1 : sz t ≤ 100000) (h2 : sm 1000 1000 t) (ha : Nd w t ca) (hb : Nd w t cb) : Calls Tryz.prog 24 #[.agg ca.toArray, .agg cb.toArray] w fun e w' => e = .returned (.bool true) ∧ Hid (Below w.heap.size w w') := by
  refine (eqNode_any (dp t) t t ca cb w (Nat.le_refl _) h1 h2 ha hb).mono ?_
  rintro e w' ⟨⟨β, rfl, hβ⟩, hb⟩
  rw [hβ.2 rfl]
  exact ⟨rfl, Lib.hid hb⟩
theorem same_S (t : T) (ca cb : List Value) (w : World) (h1 : sz t ≤ 100000) (ha : Nd w t ca) (hb : Nd w t cb) : Calls Tryz.prog 29 #[.agg ca.toArray, .agg cb.toArray] w fun e w' => e = .returned (.bool true) ∧ Hid (Below w.heap.size w w') := by
  refine (same_any (dp t) t t ca cb w (Nat.le_refl _) h1 ha hb).mono ?_
  rintro e w' ⟨⟨β, rfl, hβ⟩, hb⟩
  rw [hβ.2 rfl]
  exact ⟨rfl, Lib.hid hb⟩
theorem works_S8 {A W : World} (hL : LP A.heap.size A) (h : Below A.heap.size A W) : Calls Tryz.prog 17 #[] W fun e w' => e = .returned (.bool true) ∧ Hid (Below W.heap.size W w') :=
  (works_any W (hL.keep h)).mono fun _ _ h => ⟨h.1, Lib.hid h.2.bl⟩

/-- A box that holds a tree. -/
def Bd (W : World) (b : Nat) (t : T) (v0 v1 v2 v3 v4 v5 : Value) : Prop := Bx W b v0 v1 v2 v3 v4 v5 ∧ Nd W t [v0, v1, v2, v3, v4, v5]
theorem Bd.below {W W' : World} {b : Nat} {t : T} {v0 v1 v2 v3 v4 v5 : Value} (h : Bd W b t v0 v1 v2 v3 v4 v5) (hb : Below W.heap.size W W') : Bd W' b t v0 v1 v2 v3 v4 v5 := ⟨h.1.below hb h.1.lt, h.2.bel hb⟩
theorem Bd.new {W : World} {t : T} {v0 v1 v2 v3 v4 v5 : Value} (h : Nd W t [v0, v1, v2, v3, v4, v5]) : Bd (W.alloc (.cells #[v0, v1, v2, v3, v4, v5] 38)) W.heap.size t v0 v1 v2 v3 v4 v5 := ⟨Blk.new _ _ _, h.bel (al0 _ _)⟩
theorem below_put {A W : World} (h : Below A.heap.size A W) {p : Nat} (hp : A.heap.size ≤ p) (a0 a1 a2 a3 a4 a5 : Value) : Below A.heap.size A (put6 W p 0 a0 a1 a2 a3 a4 a5) := put6_below h _ _ _ _ _ _ _ _ hp
/-- A box behind A that holds a tree whose rows lie behind A, too, and not in the box. -/
def BO (A : World) (X : T) (p : Nat) (v0 v1 v2 v3 v4 v5 : Value) (W : World) : Prop := A.heap.size ≤ p ∧ Bx W p v0 v1 v2 v3 v4 v5 ∧ NdO (fun b => A.heap.size ≤ b ∧ b ≠ p) W X [v0, v1, v2, v3, v4, v5]
theorem BO.bd {A W : World} {X : T} {p : Nat} {v0 v1 v2 v3 v4 v5 : Value} (h : BO A X p v0 v1 v2 v3 v4 v5 W) : Bd W p X v0 v1 v2 v3 v4 v5 := ⟨h.2.1, NdO.nd _ _ h.2.2⟩
theorem BO.below {A W W' : World} {X : T} {p : Nat} {v0 v1 v2 v3 v4 v5 : Value} (h : BO A X p v0 v1 v2 v3 v4 v5 W) (hb : Below W.heap.size W W') : BO A X p v0 v1 v2 v3 v4 v5 W' :=
  ⟨h.1, h.2.1.below hb h.2.1.lt, NdO.step (fun b hb2 hl => ⟨hb.block b hl, hb2⟩) _ _ h.2.2⟩
/-- Behind a statement that lays down a tree and an error. -/
def ZG (A : World) (X : T) (E : Int) (s8 s9 : Value) (W : World) : Prop := s9 = .int .i64 E ∧ Below A.heap.size A W ∧ ∃ (p : Nat) (kaz naz uaz : Int) (saz : ByteArray) (EAz : Option Addr) (qaz faz : Nat) (GAz : Option Addr) (raz haz : Nat), s8 = .pointer (some ⟨p, 0, none⟩) ∧ BO A X p (.int .i64 kaz) (.int .i64 naz) (.int .u64 uaz) (.string saz) (.slice EAz qaz faz) (.slice GAz raz haz) W
theorem zg_new {A w4 : World} {X : T} {E : Int} {lo : Nat} {kaz naz uaz : Int} {saz : ByteArray} {EAz : Option Addr} {qaz faz : Nat} {GAz : Option Addr} {raz haz : Nat} (h : Below A.heap.size A w4) (hlo : A.heap.size ≤ lo) (ho : NdO (fun b => lo ≤ b) w4 X [.int .i64 kaz, .int .i64 naz, .int .u64 uaz, .string saz, .slice EAz qaz faz, .slice GAz raz haz]) :
    ZG A X E (.pointer (some ⟨w4.heap.size, 0, none⟩)) (.int .i64 E) (w4.alloc (.cells #[.int .i64 kaz, .int .i64 naz, .int .u64 uaz, .string saz, .slice EAz qaz faz, .slice GAz raz haz] 38)) :=
  ⟨rfl, tr h (al0 _ _), _, kaz, naz, uaz, saz, EAz, qaz, faz, GAz, raz, haz, rfl, h.size, Blk.new _ _ _, NdO.step (fun b hb hl => ⟨(al0 w4 _).block b hl, by omega, by omega⟩) _ _ ho⟩
theorem zg_put {A w4 : World} {X : T} {E : Int} {lo p : Nat} {z0 z1 z2 z3 z4 z5 : Value} {kaz naz uaz : Int} {saz : ByteArray} {EAz : Option Addr} {qaz faz : Nat} {GAz : Option Addr} {raz haz : Nat} (h : Below A.heap.size A w4) (ho : NdO (fun b => lo ≤ b) w4 X [.int .i64 kaz, .int .i64 naz, .int .u64 uaz, .string saz, .slice EAz qaz faz, .slice GAz raz haz]) (hB : Bx w4 p z0 z1 z2 z3 z4 z5) (h1 : A.heap.size ≤ p) (h2 : p < lo) :
    ZG A X E (.pointer (some ⟨p, 0, none⟩)) (.int .i64 E) ((((((w4.setCell ⟨p, 0, none⟩ (.int .i64 kaz)).setCell ⟨p, 1, none⟩ (.int .i64 naz)).setCell ⟨p, 2, none⟩ (.int .u64 uaz)).setCell ⟨p, 3, none⟩ (.string saz)).setCell ⟨p, 4, none⟩ (.slice EAz qaz faz)).setCell ⟨p, 5, none⟩ (.slice GAz raz haz)) :=
  ⟨rfl, below_put h h1 _ _ _ _ _ _, p, kaz, naz, uaz, saz, EAz, qaz, faz, GAz, raz, haz, rfl, h1, Bx.put6 hB _ _ _ _ _ _, NdO.step (fun b hb _ => ⟨put6_other _ _ _ _ _ _ _ _ _ _ (by omega), by omega, by omega⟩) _ _ ho⟩
theorem lt_alloc (w : World) (o : Obj) : w.heap.size < (w.alloc o).heap.size := by simp
/-- A tree behind A spoilt: what lay before A lies as it lay. -/
theorem spoil_S {A W : World} {X : T} {p : Nat} {v0 v1 v2 v3 v4 v5 : Value} (h : Below A.heap.size A W) (ho : BO A X p v0 v1 v2 v3 v4 v5 W) : Calls Tryz.prog 25 #[.agg #[v0, v1, v2, v3, v4, v5]] W fun e w' => e = .returned (.tuple #[]) ∧ Hid (Below A.heap.size A w') := by
  refine (spoil_any (dp X) (fun b => A.heap.size ≤ b) _ W (SX.of_ndo (dp X) X _ (by omega) (NdO.step (fun b hb hl => ⟨rfl, hb.1⟩) _ _ ho.2.2))).mono ?_
  rintro e w' ⟨rfl, hs⟩
  exact ⟨rfl, Lib.hid (h.trans (hs.bel h.size (fun b hb => hb)))⟩
end Go.Proofs.YtjnfilbdokppiaaGreatDoor
