/-
  What is proved here: contracts of the reference's set and Set; conditions: those that each states (sizes).
-/
import Derived.Test.YtjnfilbdokppiaaGreatDoorCn8
import Derived.Test.YtjnfilbdokppiaaGreatDoorPgr
import Derived.Test.YtjnfilbdokppiaaGreatDoorPlk
import Derived.Test.YtjnfilbdokppiaaGreatDoorRefCk
import Derived.Deep.DeepCutAuto
import Derived.Deep.RegionHeld3
namespace Go.Proofs.YtjnfilbdokppiaaGreatDoor
open Go.RowKit

/-- What the reference's set leaves: a tree of its own, and whether the path leads somewhere. -/
def SetE (w : World) (r : Option T) (e : Ending) (w' : World) : Prop :=
  ∃ (X : T) (ka5 na5 ua5 : Int) (sa5 : ByteArray) (EA5 : Option Addr) (qa5 fa5 : Nat) (GA5 : Option Addr) (ra5 ha5 : Nat), e = .returned (.tuple #[.agg #[.int .i64 ka5, .int .i64 na5, .int .u64 ua5, .string sa5, .slice EA5 qa5 fa5, .slice GA5 ra5 ha5], .bool r.isSome]) ∧ Hid (NdO (fun b => w.heap.size ≤ b) w' X [.int .i64 ka5, .int .i64 na5, .int .u64 ua5, .string sa5, .slice EA5 qa5 fa5, .slice GA5 ra5 ha5]) ∧ (∀ z, r = some z → X = z) ∧ Hid (Below w.heap.size w w')
/-- Behind a statement that lays down a tree and a truth value. -/
def ZB (A : World) (X : T) (β : Bool) (s8 s9 : Value) (W : World) : Prop := s9 = .bool β ∧ Below A.heap.size A W ∧ ∃ (p : Nat) (kaz naz uaz : Int) (saz : ByteArray) (EAz : Option Addr) (qaz faz : Nat) (GAz : Option Addr) (raz haz : Nat), s8 = .pointer (some ⟨p, 0, none⟩) ∧ BO A X p (.int .i64 kaz) (.int .i64 naz) (.int .u64 uaz) (.string saz) (.slice EAz qaz faz) (.slice GAz raz haz) W
theorem zb_new {A w4 : World} {X : T} {β : Bool} {lo : Nat} {kaz naz uaz : Int} {saz : ByteArray} {EAz : Option Addr} {qaz faz : Nat} {GAz : Option Addr} {raz haz : Nat} (h : Below A.heap.size A w4) (hlo : A.heap.size ≤ lo) (ho : NdO (fun b => lo ≤ b) w4 X [.int .i64 kaz, .int .i64 naz, .int .u64 uaz, .string saz, .slice EAz qaz faz, .slice GAz raz haz]) :
    ZB A X β (.pointer (some ⟨w4.heap.size, 0, none⟩)) (.bool β) (w4.alloc (.cells #[.int .i64 kaz, .int .i64 naz, .int .u64 uaz, .string saz, .slice EAz qaz faz, .slice GAz raz haz] 38)) :=
  ⟨rfl, (zg_new (E := 0) h hlo ho).2.1, (zg_new (E := 0) h hlo ho).2.2⟩
theorem zb_put {A w4 : World} {X : T} {β : Bool} {lo p : Nat} {z0 z1 z2 z3 z4 z5 : Value} {kaz naz uaz : Int} {saz : ByteArray} {EAz : Option Addr} {qaz faz : Nat} {GAz : Option Addr} {raz haz : Nat} (h : Below A.heap.size A w4) (ho : NdO (fun b => lo ≤ b) w4 X [.int .i64 kaz, .int .i64 naz, .int .u64 uaz, .string saz, .slice EAz qaz faz, .slice GAz raz haz]) (hB : Bx w4 p z0 z1 z2 z3 z4 z5) (h1 : A.heap.size ≤ p) (h2 : p < lo) :
    ZB A X β (.pointer (some ⟨p, 0, none⟩)) (.bool β) ((((((w4.setCell ⟨p, 0, none⟩ (.int .i64 kaz)).setCell ⟨p, 1, none⟩ (.int .i64 naz)).setCell ⟨p, 2, none⟩ (.int .u64 uaz)).setCell ⟨p, 3, none⟩ (.string saz)).setCell ⟨p, 4, none⟩ (.slice EAz qaz faz)).setCell ⟨p, 5, none⟩ (.slice GAz raz haz)) :=
  ⟨rfl, (zg_put (E := 0) h ho hB h1 h2).2.1, (zg_put (E := 0) h ho hB h1 h2).2.2⟩

set_option maxRecDepth 100000 in
set_option maxHeartbeats 4000000 in
theorem refSet_any (w0 : World) (y : T) (ys : List Value) (hy : Nd w0 y ys) (hysz : sz y ≤ 100000) (hysm : sm 1000 1000 y) : ∀ (ps : List Stp) (t : T) (cs : List Value) (v : Value) (w : World), Below w0.heap.size w0 w → Nd w0 t cs → RdP w0 v ps → sz t ≤ 100000 → sm 1000 1000 t → ps.length ≤ 100000 →
    Calls Tryz.prog 62 #[.agg cs.toArray, v, .agg ys.toArray] w (SetE w (setT t ps y)) := by
  intro ps
  induction ps with
  | nil =>
    intro t cs v w hb0 hnd hp hsz hsm hpl
    obtain ⟨A, n, c, rfl, hn, hnc, hc, hs, hA⟩ := hp.at
    obtain rfl : n = 0 := by simpa using hn.symm
    obtain ⟨ka0, na0, ua0, sa0, EA0, qa0, fa0, GA0, ra0, ha0, rfl⟩ := hnd.shape
    obtain ⟨ka1, na1, ua1, sa1, EA1, qa1, fa1, GA1, ra1, ha1, rfl⟩ := hy.shape
    have HT := Lib.hid (Tr.start w (.int .i64 ka0) (.int .i64 na0) (.int .u64 ua0) (.string sa0) (.slice EA0 qa0 fa0) (.slice GA0 ra0 ha0) (.int .i64 ka1) (.int .i64 na1) (.int .u64 ua1) (.string sa1) (.slice EA1 qa1 fa1) (.slice GA1 ra1 ha1) (.int .i64 0) (.int .i64 0) (.int .u64 0) (.string ⟨#[]⟩) (.slice none 0 0) (.slice none 0 0))
    have HCN := Lib.hid (copyNode_any (dp y) y _ _ (Nat.le_refl _) hysz hysm (hy.bel (hb0.trans (HT.out.bl.mono hb0.size))))
    go_enter Tryz.func62, Tryz.ntmps62
    go_wp2_with (go_at_call 59; (with_reducible refine HCN.out.mono ?_); rintro e w2 ⟨⟨cs', rfl, hno⟩, hb2⟩; have HT2 := Lib.hid (HT.out.below hb2); obtain ⟨⟨d0, d1, d2, d3, d4, d5⟩, g0, g1, g2, g3, g4, g5⟩ := Bx.both HT2.out.b2; have HNO := Lib.hid hno; obtain ⟨ka5, na5, ua5, sa5, EA5, qa5, fa5, GA5, ra5, ha5, rfl⟩ := hno.shape6; clear hno hb2)
    have HFI := Lib.hid (fill_tr HT2.out HT.out.sz HNO.out)
    change bodyPost Tryz.prog Tryz.f62 (SetE w _) .ret _ _
    refine ret_six2 (p := 6) (q := 7) (g := w.heap.size + 1 + 1) (v := .bool true) (by rfl) (by rfl) (by rfl) HFI.out.1 (by rfl) ?_
    exact ⟨y, ka5, na5, ua5, sa5, EA5, qa5, fa5, GA5, ra5, ha5, rfl, Lib.hid HFI.out.2.1, fun z hz => by simpa [setT] using hz, Lib.hid HFI.out.2.2⟩
  | cons x ps ih =>
    intro t cs v w hb0 hnd hp hsz hsm hpl
    have hB : ∀ W, Below w.heap.size w W → Below w0.heap.size w0 W := fun W h => hb0.trans (h.mono hb0.size)
    obtain ⟨A, n, c, rfl, hn, hnc, hc, hs, hA⟩ := hp.at
    have hn0 : 0 < n := by simp at hn; omega
    have hn1 : ((n : Int) == 0) = false := by simp; omega
    obtain ⟨ka0, na0, ua0, sa0, EA0, qa0, fa0, GA0, ra0, ha0, rfl⟩ := hnd.shape
    obtain ⟨ka1, na1, ua1, sa1, EA1, qa1, fa1, GA1, ra1, ha1, rfl⟩ := hy.shape
    have hT0 := Tr.start w (.int .i64 ka0) (.int .i64 na0) (.int .u64 ua0) (.string sa0) (.slice EA0 qa0 fa0) (.slice GA0 ra0 ha0) (.int .i64 ka1) (.int .i64 na1) (.int .u64 ua1) (.string sa1) (.slice EA1 qa1 fa1) (.slice GA1 ra1 ha1) (.int .i64 0) (.int .i64 0) (.int .u64 0) (.string ⟨#[]⟩) (.slice none 0 0) (.slice none 0 0)
    obtain ⟨bb, off, rfl, hbw, hc1⟩ := hA hn0
    have hall : ∀ W, Hid (Tr w (.int .i64 ka0) (.int .i64 na0) (.int .u64 ua0) (.string sa0) (.slice EA0 qa0 fa0) (.slice GA0 ra0 ha0) (.int .i64 ka1) (.int .i64 na1) (.int .u64 ua1) (.string sa1) (.slice EA1 qa1 fa1) (.slice GA1 ra1 ha1) (.int .i64 0) (.int .i64 0) (.int .u64 0) (.string ⟨#[]⟩) (.slice none 0 0) (.slice none 0 0) W) → Hid (Tr w (.int .i64 ka0) (.int .i64 na0) (.int .u64 ua0) (.string sa0) (.slice EA0 qa0 fa0) (.slice GA0 ra0 ha0) (.int .i64 ka1) (.int .i64 na1) (.int .u64 ua1) (.string sa1) (.slice EA1 qa1 fa1) (.slice GA1 ra1 ha1) (.int .i64 0) (.int .i64 0) (.int .u64 0) (.string ⟨#[]⟩) (.slice none 0 0) (.slice none 0 0) W) ∧ (W.cell? ⟨w.heap.size, 0, none⟩ = some (.int .i64 ka0) ∧ W.cell? ⟨w.heap.size, 1, none⟩ = some (.int .i64 na0) ∧ W.cell? ⟨w.heap.size, 2, none⟩ = some (.int .u64 ua0) ∧ W.cell? ⟨w.heap.size, 3, none⟩ = some (.string sa0) ∧ W.cell? ⟨w.heap.size, 4, none⟩ = some (.slice EA0 qa0 fa0) ∧ W.cell? ⟨w.heap.size, 5, none⟩ = some (.slice GA0 ra0 ha0)) ∧ W.cell? ⟨bb, off, none⟩ = some (.string x.k) ∧ W.cell? ⟨bb, off + 1, none⟩ = some (.int .i64 x.a) ∧ W.cell? ⟨bb, off + 2, none⟩ = some (.bool x.b) := by
      intro W H
      have hx3 := hc1 _ (hB _ H.out.bl) 0 x (by simp)
      rw [Nat.zero_mul, Nat.add_zero] at hx3
      obtain ⟨a0, a1, a2, a3, a4, a5⟩ := H.out.b0.all
      exact ⟨H, ⟨a0, a1, a2, a3, a4, a5⟩, hx3.1, hx3.2.1, hx3.2.2⟩
    have HF0 : Hid (∀ W, Hid (Tr w (.int .i64 ka0) (.int .i64 na0) (.int .u64 ua0) (.string sa0) (.slice EA0 qa0 fa0) (.slice GA0 ra0 ha0) (.int .i64 ka1) (.int .i64 na1) (.int .u64 ua1) (.string sa1) (.slice EA1 qa1 fa1) (.slice GA1 ra1 ha1) (.int .i64 0) (.int .i64 0) (.int .u64 0) (.string ⟨#[]⟩) (.slice none 0 0) (.slice none 0 0) W) → Calls Tryz.prog 58 #[.agg #[.int .i64 ka0, .int .i64 na0, .int .u64 ua0, .string sa0, .slice EA0 qa0 fa0, .slice GA0 ra0 ha0], .agg #[.string x.k, .int .i64 x.a, .bool x.b]] W fun e w' => (∃ i : Int, e = .returned (.int .i64 i) ∧ (∀ n, lead t x = some n → i = (n : Int)) ∧ (lead t x = none → i = -1)) ∧ Hid (Tr w (.int .i64 ka0) (.int .i64 na0) (.int .u64 ua0) (.string sa0) (.slice EA0 qa0 fa0) (.slice GA0 ra0 ha0) (.int .i64 ka1) (.int .i64 na1) (.int .u64 ua1) (.string sa1) (.slice EA1 qa1 fa1) (.slice GA1 ra1 ha1) (.int .i64 0) (.int .i64 0) (.int .u64 0) (.string ⟨#[]⟩) (.slice none 0 0) (.slice none 0 0) w')) :=
      Lib.hid fun W H => (refLeads_any t _ x _ (hnd.bel (hB _ H.out.bl)) (kids_len hsz) (keys_len hsm)).mono fun e w' h => ⟨h.1, Lib.hid (H.out.below h.2)⟩
    have HT0 := Lib.hid hT0
    have HTd := Lib.hid (HT0.out.below (Below.refl _ _).drew)
    have hn2 : (0 : Int) < (n : Int) := by omega
    obtain ⟨_, ⟨a0, a1, a2, a3, a4, a5⟩, x0, x1, x2⟩ := hall _ HT0
    clear hT0
    cases hld : lead t x with
    | none =>
      rw [hld] at HF0
      have HSN := Lib.hid (setT_none (ps := ps) (y := y) hld)
      clear hld hA hc1 hp hnd ih
      go_enter Tryz.func62, Tryz.ntmps62
      go_wp2_with fail
      go_region_held3 (fun W => Hid (Tr w (.int .i64 ka0) (.int .i64 na0) (.int .u64 ua0) (.string sa0) (.slice EA0 qa0 fa0) (.slice GA0 ra0 ha0) (.int .i64 ka1) (.int .i64 na1) (.int .u64 ua1) (.string sa1) (.slice EA1 qa1 fa1) (.slice GA1 ra1 ha1) (.int .i64 0) (.int .i64 0) (.int .u64 0) (.string ⟨#[]⟩) (.slice none 0 0) (.slice none 0 0) W) ∧ (W.cell? ⟨w.heap.size, 0, none⟩ = some (.int .i64 ka0) ∧ W.cell? ⟨w.heap.size, 1, none⟩ = some (.int .i64 na0) ∧ W.cell? ⟨w.heap.size, 2, none⟩ = some (.int .u64 ua0) ∧ W.cell? ⟨w.heap.size, 3, none⟩ = some (.string sa0) ∧ W.cell? ⟨w.heap.size, 4, none⟩ = some (.slice EA0 qa0 fa0) ∧ W.cell? ⟨w.heap.size, 5, none⟩ = some (.slice GA0 ra0 ha0)) ∧ W.cell? ⟨bb, off, none⟩ = some (.string x.k) ∧ W.cell? ⟨bb, off + 1, none⟩ = some (.int .i64 x.a) ∧ W.cell? ⟨bb, off + 2, none⟩ = some (.bool x.b)) (exact hall _ (by first | assumption | exact HTd))
        (first | (go_at_call 58; (with_reducible refine (HF0.out _ (by assumption)).mono ?_); rintro e w2 ⟨⟨ii, rfl, -, hi⟩, HT2⟩; have hi2 := hi (by simp); subst hi2; obtain ⟨⟨d0, d1, d2, d3, d4, d5⟩, g0, g1, g2, g3, g4, g5⟩ := Bx.both HT2.out.b2))
      go_wp2_with fail
      change bodyPost Tryz.prog Tryz.f62 (SetE w _) .ret _ _
      refine ret_six2 (p := 6) (q := 7) (g := w.heap.size + 1 + 1) (v := .bool false) (by rfl) (by rfl) (by rfl) (put6_bx HT2.out.b2 _ _ _ _ _ _) (by rfl) ?_
      exact ⟨T0, 0, 0, 0, ⟨#[]⟩, none, 0, 0, none, 0, 0, by rw [HSN.out]; rfl, Lib.hid (ndo_zero _ _), fun z hz => (by rw [HSN.out] at hz; cases hz), Lib.hid (put6_below HT2.out.bl _ _ _ _ _ _ _ _ (by omega))⟩
    | some i =>
      rw [hld] at HF0
      obtain ⟨c', hc'⟩ : ∃ c', t.l[i]? = some c' := ⟨_, List.getElem?_eq_getElem (lead_lt hld)⟩
      have hil := lead_lt hld
      obtain ⟨b9, o9, q9, e9, hb9, z0, z1, z2, z3, z4, z5, h6, hnk⟩ := hnd.kid (Below.refl _ _) hc'
      injection e9 with e91 e92 e93
      subst e91 e92 e93
      have H6 := Lib.hid h6
      obtain ⟨ka8, na8, ua8, sa8, EA8, qa8, fa8, GA8, ra8, ha8, g0, g1, g2, g3, g4, g5⟩ := hnk.shape6
      subst g0 g1 g2 g3 g4 g5
      have hil2 : (i : Int) < (t.l.length : Int) := by omega
      have hi0 : ¬ (i : Int) < 0 := by omega
      obtain ⟨TA, hTA⟩ : ∃ TA, (if c = 1 then (some ⟨bb, off, none⟩ : Option Addr) else some ⟨bb, off + 3, none⟩) = TA := ⟨_, rfl⟩
      have htl := RdP.tail hp
      rw [hTA] at htl
      have HTA := Lib.hid hTA
      clear hTA
      have hall2 : ∀ W, Hid (Tr w (.int .i64 ka0) (.int .i64 na0) (.int .u64 ua0) (.string sa0) (.slice EA0 qa0 fa0) (.slice (some ⟨b9, o9, none⟩) t.l.length ha0) (.int .i64 ka1) (.int .i64 na1) (.int .u64 ua1) (.string sa1) (.slice EA1 qa1 fa1) (.slice GA1 ra1 ha1) (.int .i64 0) (.int .i64 0) (.int .u64 0) (.string ⟨#[]⟩) (.slice none 0 0) (.slice none 0 0) W) → Hid (Tr w (.int .i64 ka0) (.int .i64 na0) (.int .u64 ua0) (.string sa0) (.slice EA0 qa0 fa0) (.slice (some ⟨b9, o9, none⟩) t.l.length ha0) (.int .i64 ka1) (.int .i64 na1) (.int .u64 ua1) (.string sa1) (.slice EA1 qa1 fa1) (.slice GA1 ra1 ha1) (.int .i64 0) (.int .i64 0) (.int .u64 0) (.string ⟨#[]⟩) (.slice none 0 0) (.slice none 0 0) W) ∧ W.cell? ⟨w.heap.size, 5, none⟩ = some (.slice (some ⟨b9, o9, none⟩) t.l.length ha0) ∧ (W.cell? ⟨w.heap.size + 1, 0, none⟩ = some (.int .i64 ka1) ∧ W.cell? ⟨w.heap.size + 1, 1, none⟩ = some (.int .i64 na1) ∧ W.cell? ⟨w.heap.size + 1, 2, none⟩ = some (.int .u64 ua1) ∧ W.cell? ⟨w.heap.size + 1, 3, none⟩ = some (.string sa1) ∧ W.cell? ⟨w.heap.size + 1, 4, none⟩ = some (.slice EA1 qa1 fa1) ∧ W.cell? ⟨w.heap.size + 1, 5, none⟩ = some (.slice GA1 ra1 ha1)) ∧ W.cell? ⟨b9, o9 + i * 6, none⟩ = some (.int .i64 ka8) ∧ W.cell? ⟨b9, o9 + i * 6 + 1, none⟩ = some (.int .i64 na8) ∧ W.cell? ⟨b9, o9 + i * 6 + 2, none⟩ = some (.int .u64 ua8) ∧ W.cell? ⟨b9, o9 + i * 6 + 3, none⟩ = some (.string sa8) ∧ W.cell? ⟨b9, o9 + i * 6 + 4, none⟩ = some (.slice EA8 qa8 fa8) ∧ W.cell? ⟨b9, o9 + i * 6 + 5, none⟩ = some (.slice GA8 ra8 ha8) := by
        intro W H
        obtain ⟨d0, d1, d2, d3, d4, d5⟩ := H.out.b0.all
        obtain ⟨f0, f1, f2, f3, f4, f5⟩ := H.out.b1.all
        obtain ⟨y0, y1, y2, y3, y4, y5⟩ := h6.below (hB _ H.out.bl) hb9
        exact ⟨H, d5, ⟨f0, f1, f2, f3, f4, f5⟩, y0, y1, y2, y3, y4, y5⟩
      obtain ⟨r, hr⟩ : ∃ r, setT c' ps y = r := ⟨_, rfl⟩
      have HIH : Hid (∀ W, Hid (Tr w (.int .i64 ka0) (.int .i64 na0) (.int .u64 ua0) (.string sa0) (.slice EA0 qa0 fa0) (.slice (some ⟨b9, o9, none⟩) t.l.length ha0) (.int .i64 ka1) (.int .i64 na1) (.int .u64 ua1) (.string sa1) (.slice EA1 qa1 fa1) (.slice GA1 ra1 ha1) (.int .i64 0) (.int .i64 0) (.int .u64 0) (.string ⟨#[]⟩) (.slice none 0 0) (.slice none 0 0) W) → Calls Tryz.prog 62 #[.agg #[.int .i64 ka8, .int .i64 na8, .int .u64 ua8, .string sa8, .slice EA8 qa8 fa8, .slice GA8 ra8 ha8], .slice TA (n - 1) (c - 1), .agg #[.int .i64 ka1, .int .i64 na1, .int .u64 ua1, .string sa1, .slice EA1 qa1 fa1, .slice GA1 ra1 ha1]] W fun e w' => ∃ (X : T) (ka5 na5 ua5 : Int) (sa5 : ByteArray) (EA5 : Option Addr) (qa5 fa5 : Nat) (GA5 : Option Addr) (ra5 ha5 : Nat), e = .returned (.tuple #[.agg #[.int .i64 ka5, .int .i64 na5, .int .u64 ua5, .string sa5, .slice EA5 qa5 fa5, .slice GA5 ra5 ha5], .bool r.isSome]) ∧ Hid (NdO (fun b => W.heap.size ≤ b) w' X [.int .i64 ka5, .int .i64 na5, .int .u64 ua5, .string sa5, .slice EA5 qa5 fa5, .slice GA5 ra5 ha5]) ∧ (∀ z, r = some z → X = z) ∧ Hid (Below W.heap.size W w')) :=
        Lib.hid fun W H => by rw [← hr]; exact ih c' _ _ W (hB _ H.out.bl) hnk htl (sz_kid hsz hc') (sm_kid hsm hc') (by simp at hpl; omega)
      have HCS : Hid (∀ W, Hid (Tr w (.int .i64 ka0) (.int .i64 na0) (.int .u64 ua0) (.string sa0) (.slice EA0 qa0 fa0) (.slice (some ⟨b9, o9, none⟩) t.l.length ha0) (.int .i64 ka1) (.int .i64 na1) (.int .u64 ua1) (.string sa1) (.slice EA1 qa1 fa1) (.slice GA1 ra1 ha1) (.int .i64 0) (.int .i64 0) (.int .u64 0) (.string ⟨#[]⟩) (.slice none 0 0) (.slice none 0 0) W) → Calls Tryz.prog 59 #[.agg #[.int .i64 ka0, .int .i64 na0, .int .u64 ua0, .string sa0, .slice EA0 qa0 fa0, .slice (some ⟨b9, o9, none⟩) t.l.length ha0]] W fun e w' => (∃ kv lv, e = .returned (.agg #[.int .i64 t.k, .int .i64 t.n, .int .u64 t.u, .string t.s, kv, lv]) ∧ CQ W.heap.size w' t kv lv) ∧ Below W.heap.size W w') :=
        Lib.hid fun W H => copyNodeS_any (dp t) t _ W (Nat.le_succ _) hsz hsm (hnd.bel (hB _ H.out.bl))
      have HRS : Hid ((setT t (x :: ps) y).isSome = r.isSome ∧ ∀ z, setT t (x :: ps) y = some z → ∃ c9, r = some c9 ∧ z = .mk t.k t.n t.u t.s t.ks (t.l.set i c9)) := Lib.hid (by
        cases hrr : r with
        | none => rw [setT_none2 hld hc' (hr.trans hrr)]; exact ⟨rfl, fun z hz => by cases hz⟩
        | some c9 => rw [setT_some hld hc' (hr.trans hrr)]; exact ⟨rfl, fun z hz => ⟨c9, rfl, (Option.some.inj hz).symm⟩⟩)
      have HND := Lib.hid hnd
      clear hld hA hc1 hp hnd ih h6 hnk hc' htl hr
      go_enter Tryz.func62, Tryz.ntmps62
      go_wp2_with fail
      go_region_held3 (fun W => Hid (Tr w (.int .i64 ka0) (.int .i64 na0) (.int .u64 ua0) (.string sa0) (.slice EA0 qa0 fa0) (.slice (some ⟨b9, o9, none⟩) t.l.length ha0) (.int .i64 ka1) (.int .i64 na1) (.int .u64 ua1) (.string sa1) (.slice EA1 qa1 fa1) (.slice GA1 ra1 ha1) (.int .i64 0) (.int .i64 0) (.int .u64 0) (.string ⟨#[]⟩) (.slice none 0 0) (.slice none 0 0) W) ∧ (W.cell? ⟨w.heap.size, 0, none⟩ = some (.int .i64 ka0) ∧ W.cell? ⟨w.heap.size, 1, none⟩ = some (.int .i64 na0) ∧ W.cell? ⟨w.heap.size, 2, none⟩ = some (.int .u64 ua0) ∧ W.cell? ⟨w.heap.size, 3, none⟩ = some (.string sa0) ∧ W.cell? ⟨w.heap.size, 4, none⟩ = some (.slice EA0 qa0 fa0) ∧ W.cell? ⟨w.heap.size, 5, none⟩ = some (.slice (some ⟨b9, o9, none⟩) t.l.length ha0)) ∧ W.cell? ⟨bb, off, none⟩ = some (.string x.k) ∧ W.cell? ⟨bb, off + 1, none⟩ = some (.int .i64 x.a) ∧ W.cell? ⟨bb, off + 2, none⟩ = some (.bool x.b)) (exact hall _ (by first | assumption | exact HTd))
        (first | (go_at_call 58; (with_reducible refine (HF0.out _ (by assumption)).mono ?_); rintro e w2 ⟨⟨ii, rfl, hi, -⟩, HT2⟩; have hi2 := hi i rfl; subst hi2; obtain ⟨d0, d1, d2, d3, d4, d5⟩ := HT2.out.b0.all; obtain ⟨f0, f1, f2, f3, f4, f5⟩ := HT2.out.b1.all; obtain ⟨y0, y1, y2, y3, y4, y5⟩ := H6.out.below (hB _ HT2.out.bl) hb9))
      have g8 : Hid (∀ W o, Hid (Tr w (.int .i64 ka0) (.int .i64 na0) (.int .u64 ua0) (.string sa0) (.slice EA0 qa0 fa0) (.slice (some ⟨b9, o9, none⟩) t.l.length ha0) (.int .i64 ka1) (.int .i64 na1) (.int .u64 ua1) (.string sa1) (.slice EA1 qa1 fa1) (.slice GA1 ra1 ha1) (.int .i64 0) (.int .i64 0) (.int .u64 0) (.string ⟨#[]⟩) (.slice none 0 0) (.slice none 0 0) W) → Hid (Tr w (.int .i64 ka0) (.int .i64 na0) (.int .u64 ua0) (.string sa0) (.slice EA0 qa0 fa0) (.slice (some ⟨b9, o9, none⟩) t.l.length ha0) (.int .i64 ka1) (.int .i64 na1) (.int .u64 ua1) (.string sa1) (.slice EA1 qa1 fa1) (.slice GA1 ra1 ha1) (.int .i64 0) (.int .i64 0) (.int .u64 0) (.string ⟨#[]⟩) (.slice none 0 0) (.slice none 0 0) (W.alloc o))) := Lib.hid fun W o H => Lib.hid (H.out.below ((Below.refl _ W).alloc (Nat.le_refl _) o))
      have hset : ∀ (W : World) (o : Nat) (a0 a1 a2 a3 a4 a5 : Value), Hid (Tr w (.int .i64 ka0) (.int .i64 na0) (.int .u64 ua0) (.string sa0) (.slice EA0 qa0 fa0) (.slice (some ⟨b9, o9, none⟩) t.l.length ha0) (.int .i64 ka1) (.int .i64 na1) (.int .u64 ua1) (.string sa1) (.slice EA1 qa1 fa1) (.slice GA1 ra1 ha1) (.int .i64 0) (.int .i64 0) (.int .u64 0) (.string ⟨#[]⟩) (.slice none 0 0) (.slice none 0 0) W) → Hid (w.heap.size + 3 ≤ o) → Hid (Tr w (.int .i64 ka0) (.int .i64 na0) (.int .u64 ua0) (.string sa0) (.slice EA0 qa0 fa0) (.slice (some ⟨b9, o9, none⟩) t.l.length ha0) (.int .i64 ka1) (.int .i64 na1) (.int .u64 ua1) (.string sa1) (.slice EA1 qa1 fa1) (.slice GA1 ra1 ha1) (.int .i64 0) (.int .i64 0) (.int .u64 0) (.string ⟨#[]⟩) (.slice none 0 0) (.slice none 0 0) ((((((W.setCell ⟨o, 0, none⟩ a0).setCell ⟨o, 1, none⟩ a1).setCell ⟨o, 2, none⟩ a2).setCell ⟨o, 3, none⟩ a3).setCell ⟨o, 4, none⟩ a4).setCell ⟨o, 5, none⟩ a5)) :=
        fun W o a0 a1 a2 a3 a4 a5 H ho => Lib.hid (H.out.put 0 ho.out a0 a1 a2 a3 a4 a5)
      have HL2 : Hid (w.heap.size + 3 ≤ w2.heap.size) := Lib.hid HT2.out.sz
      have hj1 : (1 : Int) ≤ (n : Int) := by omega
      have HTd2 := Lib.hid (HT2.out.below (Below.refl _ _).drew)
      have HTa2 := g8.out w2 (.cells #[.int .i64 0, .int .i64 0, .int .u64 0, .string ⟨#[]⟩, .slice none 0 0, .slice none 0 0] 38) HT2
      have HTad2 := Lib.hid (HTa2.out.below (Below.refl _ _).drew)
      have HB2a := Lib.hid (al0 w2 (.cells #[.int .i64 0, .int .i64 0, .int .u64 0, .string ⟨#[]⟩, .slice none 0 0, .slice none 0 0] 38)).drew
      have HBd2 := Lib.hid (Below.refl w2.heap.size w2).drew
      have HLT2 : Hid (w2.heap.size < (w2.alloc (.cells #[.int .i64 0, .int .i64 0, .int .u64 0, .string ⟨#[]⟩, .slice none 0 0, .slice none 0 0] 38)).drew.heap.size) := Lib.hid (lt_alloc w2 _)
      obtain ⟨_, r5, ⟨r6, r7, r8, r9, r10, r11⟩, r12, r13, r14, r15, r16, r17⟩ := hall2 _ HT2
      clear hall HF0 HT0 HTd a0 a1 a2 a3 a4 a5 x0 x1 x2 d0 d1 d2 d3 d4 d5 f0 f1 f2 f3 f4 f5 y0 y1 y2 y3 y4 y5
      go_wp2_with fail
      go_cut [9, 10] (fun s8 s9 wn => Hid (∃ X, ZB w2 X r.isSome s8 s9 wn ∧ ∀ z, r = some z → X = z))
      case first =>
        go_region_held3 (fun W => Hid (Tr w (.int .i64 ka0) (.int .i64 na0) (.int .u64 ua0) (.string sa0) (.slice EA0 qa0 fa0) (.slice (some ⟨b9, o9, none⟩) t.l.length ha0) (.int .i64 ka1) (.int .i64 na1) (.int .u64 ua1) (.string sa1) (.slice EA1 qa1 fa1) (.slice GA1 ra1 ha1) (.int .i64 0) (.int .i64 0) (.int .u64 0) (.string ⟨#[]⟩) (.slice none 0 0) (.slice none 0 0) W) ∧ W.cell? ⟨w.heap.size, 5, none⟩ = some (.slice (some ⟨b9, o9, none⟩) t.l.length ha0) ∧ (W.cell? ⟨w.heap.size + 1, 0, none⟩ = some (.int .i64 ka1) ∧ W.cell? ⟨w.heap.size + 1, 1, none⟩ = some (.int .i64 na1) ∧ W.cell? ⟨w.heap.size + 1, 2, none⟩ = some (.int .u64 ua1) ∧ W.cell? ⟨w.heap.size + 1, 3, none⟩ = some (.string sa1) ∧ W.cell? ⟨w.heap.size + 1, 4, none⟩ = some (.slice EA1 qa1 fa1) ∧ W.cell? ⟨w.heap.size + 1, 5, none⟩ = some (.slice GA1 ra1 ha1)) ∧ W.cell? ⟨b9, o9 + i * 6, none⟩ = some (.int .i64 ka8) ∧ W.cell? ⟨b9, o9 + i * 6 + 1, none⟩ = some (.int .i64 na8) ∧ W.cell? ⟨b9, o9 + i * 6 + 2, none⟩ = some (.int .u64 ua8) ∧ W.cell? ⟨b9, o9 + i * 6 + 3, none⟩ = some (.string sa8) ∧ W.cell? ⟨b9, o9 + i * 6 + 4, none⟩ = some (.slice EA8 qa8 fa8) ∧ W.cell? ⟨b9, o9 + i * 6 + 5, none⟩ = some (.slice GA8 ra8 ha8)) (with_reducible exact hall2 _ (by first | assumption | exact HTad2 | exact g8.out _ _ (by assumption) | exact hset _ _ _ _ _ _ _ _ (by assumption) (by assumption)))
          (first | (go_at_call 62; rw [HTA.out]; (with_reducible refine (HIH.out _ (by first | assumption | exact HTa2 | exact HTad2)).mono ?_); rintro e w4 ⟨X, ka5, na5, ua5, sa5, EA5, qa5, fa5, GA5, ra5, ha5, rfl, HO4, hXz, hb4⟩; have HXZ := Lib.hid hXz; have HB4 : Hid (Below w2.heap.size w2 w4) := (by first | exact Lib.hid (tr HBd2.out hb4.out) | exact Lib.hid (tr HB2a.out hb4.out)); have HT4 := Lib.hid (HT2.out.below HB4.out); have HL4 := Lib.hid HT4.out.sz; (first | (have HP4 := Lib.hid (born_drew hb4.out); obtain ⟨⟨p0, p1, p2, p3, p4, p5⟩, fr0, fr1, fr2, fr3, fr4, fr5⟩ := Bx.both HP4.out) | skip); clear hb4))
        all_goals
          go_wp2_with fail
          go_meet
        all_goals
          refine Lib.hid ⟨X, ?_, HXZ.out⟩
          first
          | (with_reducible exact zb_new HB4.out HBd2.out.size HO4.out)
          | (with_reducible exact zb_put HB4.out HO4.out HP4.out (Nat.le_refl _) HLT2.out)
      case rest =>
        obtain ⟨wx, hwx⟩ : ∃ wx, wx = wc := ⟨_, rfl⟩
        subst hwx
        obtain ⟨X, ⟨rfl, hbx, p9, ka6, na6, ua6, sa6, EA6, qa6, fa6, GA6, ra6, ha6, rfl, hbo⟩, hXz⟩ := hcut.out
        have HXZ := Lib.hid hXz
        have HBX := Lib.hid hbx
        have HOX := Lib.hid hbo
        have HTX := Lib.hid (HT2.out.below hbx)
        have HCX := Lib.hid (HCS.out wx HTX)
        obtain ⟨d0, d1, d2, d3, d4, d5⟩ := HTX.out.b0.all
        clear hcut hXz hbx hbo HIH HCS hall2 r5 r6 r7 r8 r9 r10 r11 r12 r13 r14 r15 r16 r17 HTd2 HTa2 HTad2 HB2a HBd2 g8 hset
        go_wp2_with fail
        with_reducible refine HCX.out.mono ?_
        rintro e w5 ⟨⟨kv, lv, rfl, hcq⟩, hb5⟩
        obtain ⟨c1', c2', c3', yr, c4', c5', c6'⟩ := hcq
        obtain ⟨GA9, d9, elv, hle9, hc9, hcell9⟩ := c5'.cells
        subst elv
        obtain ⟨g, rfl, hgl, _⟩ := hcell9 (by omega)
        obtain ⟨KA9, K9, rfl⟩ := c4'.shape
        have hgw : wx.heap.size ≤ g := c5'.2 g rfl
        have HB5 := Lib.hid hb5
        have HT5 := Lib.hid (HTX.out.below hb5)
        have HOX5 := Lib.hid (HOX.out.below hb5)
        have hp9 : p9 < wx.heap.size := HOX.out.2.1.lt
        have HXO : Hid (NdO (fun b => wx.heap.size ≤ b ∧ some b ≠ (Value.slice (some ⟨g, 0, none⟩) t.l.length d9).ownBlock ∨ (w2.heap.size ≤ b ∧ b < wx.heap.size)) w5 X [.int .i64 ka6, .int .i64 na6, .int .u64 ua6, .string sa6, .slice EA6 qa6 fa6, .slice GA6 ra6 ha6]) := Lib.hid (NdO.step (fun b hb hl => ⟨hb5.block b hl, .inr ⟨hb.1, hl⟩⟩) _ _ HOX.out.2.2)
        obtain ⟨pq, b0, b1, b2, b3, b4, b5, zs, eyr, hpl9, hkids⟩ := NdOL.setAt HXO.out t.l i yr hil (NdOL.step (U' := fun b => wx.heap.size ≤ b ∧ some b ≠ (Value.slice (some ⟨g, 0, none⟩) t.l.length d9).ownBlock ∨ (w2.heap.size ≤ b ∧ b < wx.heap.size)) (fun b hb hl => ⟨rfl, .inl hb⟩) _ _ c6')
        subst eyr
        have HKD := Lib.hid hkids
        have HKV := Lib.hid c4'
        have HRW := Lib.hid c5'
        have HR0 := Lib.hid (And.intro c1' (And.intro c2' c3'))
        have HGW := Lib.hid hgw
        have HGL := Lib.hid hgl
        obtain ⟨wo, hwo⟩ : ∃ wo, w5.alloc (.cells #[.int .i64 t.k, .int .i64 t.n, .int .u64 t.u, .string t.s, .slice KA9 t.ks.length K9, .slice (some ⟨g, 0, none⟩) t.l.length d9] 38) = wo := ⟨_, rfl⟩
        obtain ⟨po, hpo⟩ : ∃ po, w5.heap.size = po := ⟨_, rfl⟩
        have HBO : Hid (Below w5.heap.size w5 wo) := Lib.hid (by rw [← hwo]; exact al0 _ _)
        have HXB : Hid (Bx wo po (.int .i64 t.k) (.int .i64 t.n) (.int .u64 t.u) (.string t.s) (.slice KA9 t.ks.length K9) (.slice (some ⟨g, 0, none⟩) t.l.length d9)) := Lib.hid (by rw [← hwo, ← hpo]; exact Blk.new _ _ _)
        have HTo := Lib.hid (HT5.out.below HBO.out)
        have HXo := Lib.hid (HOX5.out.below HBO.out)
        have HRWo : Hid (Ow (fun b => wx.heap.size ≤ b) wo 38 6 (.slice (some ⟨g, 0, none⟩) t.l.length d9) t.l.length (pq ++ ([b0, b1, b2, b3, b4, b5] ++ zs))) := Lib.hid (HRW.out.step fun b hb hl => ⟨HBO.out.block b hl, hb⟩)
        have hpo5 : w5.heap.size = po := hpo
        go_upto_region 8 with fail
        try simp only [hwo, hpo]
        clear hwo hpo hcell9 c1' c2' c3' c4' c5' c6' hkids hgl hb5 d0 d1 d2 d3 d4 d5
        obtain ⟨m0, m1, m2, m3, m4, m5⟩ := HXB.out.all
        obtain ⟨n0, n1, n2, n3, n4, n5⟩ := HXo.out.2.1.all
        obtain ⟨⟨q0, q1, q2, q3, q4, q5⟩, fz⟩ := row_six HRWo.out hpl9
        have z0 := fz (i * 6)
        have z1 := fz (i * 6 + 1)
        have z2 := fz (i * 6 + 2)
        have z3 := fz (i * 6 + 3)
        have z4 := fz (i * 6 + 4)
        have z5 := fz (i * 6 + 5)
        have hsx := HT2.out.sz
        have hs2x := HBX.out.size
        have hsx5 := HB5.out.size
        have hg1 : w.heap.size + 3 ≤ g := by omega
        have hgpo : g ≠ po := by have := HGL.out; omega
        clear fz
        go_upto_region 9 with fail
        have HT8 := Lib.hid (HTo.out.put (i * 6) hg1 (.int .i64 ka6) (.int .i64 na6) (.int .u64 ua6) (.string sa6) (.slice EA6 qa6 fa6) (.slice GA6 ra6 ha6))
        have hO8 := put6_ow HRWo.out hpl9 (.int .i64 ka6) (.int .i64 na6) (.int .u64 ua6) (.string sa6) (.slice EA6 qa6 fa6) (.slice GA6 ra6 ha6)
        rw [List.append_assoc] at hO8
        have HO8 := Lib.hid hO8
        have HXB8 : Hid (Bx (put6 wo g (i * 6) (.int .i64 ka6) (.int .i64 na6) (.int .u64 ua6) (.string sa6) (.slice EA6 qa6 fa6) (.slice GA6 ra6 ha6)) po (.int .i64 t.k) (.int .i64 t.n) (.int .u64 t.u) (.string t.s) (.slice KA9 t.ks.length K9) (.slice (some ⟨g, 0, none⟩) t.l.length d9)) := Lib.hid (put6_blk HXB.out (Ne.symm hgpo) _ _ _ _ _ _)
        have HOT : Hid (∀ b, b ≠ g → (put6 wo g (i * 6) (.int .i64 ka6) (.int .i64 na6) (.int .u64 ua6) (.string sa6) (.slice EA6 qa6 fa6) (.slice GA6 ra6 ha6)).heap[b]? = wo.heap[b]?) := Lib.hid fun b hb => put6_other _ _ _ _ _ _ _ _ _ _ hb
        obtain ⟨W8, hW8⟩ : ∃ W8, put6 wo g (i * 6) (.int .i64 ka6) (.int .i64 na6) (.int .u64 ua6) (.string sa6) (.slice EA6 qa6 fa6) (.slice GA6 ra6 ha6) = W8 := ⟨_, rfl⟩
        rw [hW8] at HT8 HO8 HXB8 HOT
        unfold put6 at hW8
        rw [hW8]
        clear hO8 hW8 q0 q1 q2 q3 q4 q5 z0 z1 z2 z3 z4 z5 n0 n1 n2 n3 n4 n5 m0 m1 m2 m3 m4 m5
        obtain ⟨m0, m1, m2, m3, m4, m5⟩ := HXB8.out.all
        obtain ⟨⟨d0, d1, d2, d3, d4, d5⟩, ee0, ee1, ee2, ee3, ee4, ee5⟩ := Bx.both HT8.out.b2
        go_wp2_with fail
        change bodyPost Tryz.prog Tryz.f62 (SetE w _) .ret _ _
        refine ret_six2 (p := 6) (q := 7) (g := w.heap.size + 1 + 1) (v := .bool r.isSome) (by rfl) (by rfl) (by rfl) (put6_bx HT8.out.b2 _ _ _ _ _ _) (by rfl) ?_
        have hk : ∀ b, w2.heap.size ≤ b → b < w5.heap.size → b ≠ g → (put6 W8 (w.heap.size + 1 + 1) 0 (.int .i64 t.k) (.int .i64 t.n) (.int .u64 t.u) (.string t.s) (.slice KA9 t.ks.length K9) (.slice (some ⟨g, 0, none⟩) t.l.length d9)).heap[b]? = w5.heap[b]? := fun b h1 h2 h3 =>
          ((put6_other _ _ _ _ _ _ _ _ _ _ (by omega)).trans (HOT.out b h3)).trans (HBO.out.block b h2)
        refine ⟨.mk t.k t.n t.u t.s t.ks (t.l.set i X), t.k, t.n, t.u, t.s, KA9, t.ks.length, K9, some ⟨g, 0, none⟩, t.l.length, d9, by rw [HRS.out.1], Lib.hid ?_, ?_, Lib.hid (put6_below HT8.out.bl _ _ _ _ _ _ _ _ (by omega))⟩
        · refine ⟨HR0.out.1, HR0.out.2.1, HR0.out.2.2, .slice KA9 t.ks.length K9, .slice (some ⟨g, 0, none⟩) t.l.length d9, _, rfl, HKV.out.step fun b hb hl => ⟨hk b (by have := hb.1; omega) hl (fun e => hb.2 (by rw [e]; rfl)), by have := hb.1; omega⟩, ?_, NdOL.step (fun b hb hl => ⟨hk b (by rcases hb with hb | hb; (· have := hb.1; omega); (· exact hb.1)) hl (fun e => by rcases hb with hb | hb; (· exact hb.2 (by rw [e]; rfl)); (· have := hb.2; omega)), by rcases hb with hb | hb; (· have := hb.1; omega); (· have := hb.1; omega)⟩) _ _ HKD.out⟩
          rw [List.length_set]
          exact HO8.out.step fun b hb hl => ⟨put6_other _ _ _ _ _ _ _ _ _ _ (by have e3 : wx.heap.size ≤ b := hb; omega), by have e3 : wx.heap.size ≤ b := hb; omega⟩
        · intro z hz
          obtain ⟨c9, h1, h2⟩ := HRS.out.2 z hz
          rw [HXZ.out c9 h1, h2]

set_option maxRecDepth 100000 in
set_option maxHeartbeats 4000000 in
theorem refSetTop_any (t y : T) (cs ys : List Value) (ps : List Stp) (v : Value) (w : World) (hnd : Nd w t cs) (hy : Nd w y ys) (hp : RdP w v ps) (hsz : sz t + sz y ≤ 100000) (hsm : sm 1000 1000 t) (hsy : sm 1000 1000 y) (hpl : ps.length ≤ 100000) :
    Calls Tryz.prog 27 #[.agg cs.toArray, v, .agg ys.toArray] w (GE w (setR t ps y).1 (setR t ps y).2) := by
  obtain ⟨ka0, na0, ua0, sa0, EA0, qa0, fa0, GA0, ra0, ha0, rfl⟩ := hnd.shape
  obtain ⟨ka1, na1, ua1, sa1, EA1, qa1, fa1, GA1, ra1, ha1, rfl⟩ := hy.shape
  have hT0 := Tr.start w (.int .i64 ka0) (.int .i64 na0) (.int .u64 ua0) (.string sa0) (.slice EA0 qa0 fa0) (.slice GA0 ra0 ha0) (.int .i64 ka1) (.int .i64 na1) (.int .u64 ua1) (.string sa1) (.slice EA1 qa1 fa1) (.slice GA1 ra1 ha1) (.int .i64 0) (.int .i64 0) (.int .u64 0) (.string ⟨#[]⟩) (.slice none 0 0) (.slice none 0 0)
  have HR := Lib.hid (refSet_any w y _ hy (by omega) hsy ps t _ v _ hT0.bl hnd hp (by omega) hsm hpl)
  have HT0 := Lib.hid hT0
  obtain ⟨A, n, c, rfl, -, -, -, -, -⟩ := id hp
  obtain ⟨R, hR⟩ : ∃ R, setT t ps y = R := ⟨_, rfl⟩
  have HSZ := Lib.hid (fun x h => setT_sz y ps t x h)
  rw [hR] at HSZ HR
  cases R with
  | none =>
    have e : setR t ps y = (none, 80) := by unfold setR; rw [hR]
    rw [e]
    clear e hR hT0 hnd hp hy hsm hsy
    go_enter Tryz.func27, Tryz.ntmps27
    go_wp2_with fail
    (with_reducible refine HR.out.mono ?_)
    rintro e w2 ⟨X, ka5, na5, ua5, sa5, EA5, qa5, fa5, GA5, ra5, ha5, rfl, HO2, -, HB2⟩
    have HT2 := Lib.hid ((HT0.out.below HB2.out).below (al0 w2 (.cells #[.int .i64 ka5, .int .i64 na5, .int .u64 ua5, .string sa5, .slice EA5 qa5 fa5, .slice GA5 ra5 ha5] 38)))
    obtain ⟨⟨a0, a1, a2, a3, a4, a5⟩, g0, g1, g2, g3, g4, g5⟩ := Bx.both HT2.out.b2
    go_wp2_with fail
    refine ret_six2 (p := 6) (q := 7) (g := w.heap.size + 1 + 1) (v := .int .i64 80) (by rfl) (by rfl) (by rfl) (put6_bx HT2.out.b2 _ _ _ _ _ _) (by rfl) ?_
    exact GE.no rfl (put6_below HT2.out.bl _ _ _ _ _ _ _ _ (by omega))
  | some x =>
    have e : setR t ps y = if chk x = 0 then (some x, (0 : Int)) else (none, ((chk x : Nat) : Int)) := by unfold setR; rw [hR]
    obtain ⟨RR, hRR⟩ : ∃ RR, (if chk x = 0 then (some x, (0 : Int)) else (none, ((chk x : Nat) : Int))) = RR := ⟨_, rfl⟩
    rw [e, hRR]
    have HRR := Lib.hid hRR
    have hxz := HSZ.out x rfl
    clear e hR hRR hT0 hnd hp hy hsm hsy
    go_enter Tryz.func27, Tryz.ntmps27
    go_wp2_with fail
    (with_reducible refine HR.out.mono ?_)
    rintro e w2 ⟨X, ka5, na5, ua5, sa5, EA5, qa5, fa5, GA5, ra5, ha5, rfl, HO2, hXz, HB2⟩
    obtain rfl := hXz x rfl
    have HT2 := Lib.hid ((HT0.out.below HB2.out).below (al0 w2 (.cells #[.int .i64 ka5, .int .i64 na5, .int .u64 ua5, .string sa5, .slice EA5 qa5 fa5, .slice GA5 ra5 ha5] 38)))
    have HN2 := Lib.hid ((NdO.nd _ _ HO2.out).bel (al0 w2 (.cells #[.int .i64 ka5, .int .i64 na5, .int .u64 ua5, .string sa5, .slice EA5 qa5 fa5, .slice GA5 ra5 ha5] 38)))
    have HCK := Lib.hid (refCheck_any X _ _ (by omega) HN2.out)
    by_cases hz : chk X = 0
    · have hrr := HRR.out
      rw [if_pos hz] at hrr
      subst hrr
      rw [hz] at HCK
      have HCK : Hid (Calls Tryz.prog 63 #[.agg #[.int .i64 ka5, .int .i64 na5, .int .u64 ua5, .string sa5, .slice EA5 qa5 fa5, .slice GA5 ra5 ha5]] (w2.alloc (.cells #[.int .i64 ka5, .int .i64 na5, .int .u64 ua5, .string sa5, .slice EA5 qa5 fa5, .slice GA5 ra5 ha5] 38)) fun e w' => e = .returned (.int .i64 0) ∧ Below (w2.alloc (.cells #[.int .i64 ka5, .int .i64 na5, .int .u64 ua5, .string sa5, .slice EA5 qa5 fa5, .slice GA5 ra5 ha5] 38)).heap.size (w2.alloc (.cells #[.int .i64 ka5, .int .i64 na5, .int .u64 ua5, .string sa5, .slice EA5 qa5 fa5, .slice GA5 ra5 ha5] 38)) w') := HCK
      go_wp2_with fail
      (with_reducible refine HCK.out.mono ?_)
      rintro e w4 ⟨rfl, hb4⟩
      have HT4 := Lib.hid (HT2.out.below hb4)
      have HX4 := Lib.hid (born hb4)
      have HO4 := Lib.hid (NdO.step (U' := fun b => (((w.alloc (.cells #[.int .i64 ka0, .int .i64 na0, .int .u64 ua0, .string sa0, .slice EA0 qa0 fa0, .slice GA0 ra0 ha0] 38)).alloc (.cells #[.int .i64 ka1, .int .i64 na1, .int .u64 ua1, .string sa1, .slice EA1 qa1 fa1, .slice GA1 ra1 ha1] 38)).alloc (.cells #[.int .i64 0, .int .i64 0, .int .u64 0, .string ⟨#[]⟩, .slice none 0 0, .slice none 0 0] 38)).heap.size ≤ b) (fun b hb hl => ⟨(tr (al0 w2 _) hb4).block b hl, hb⟩) _ _ HO2.out)
      obtain ⟨m0, m1, m2, m3, m4, m5⟩ := Bx.all HX4.out
      obtain ⟨⟨a0, a1, a2, a3, a4, a5⟩, g0, g1, g2, g3, g4, g5⟩ := Bx.both HT4.out.b2
      clear hb4
      go_wp2_with fail
      have HFI := Lib.hid (fill_tr HT4.out HT0.out.sz HO4.out)
      refine ret_six2 (p := 6) (q := 7) (g := w.heap.size + 1 + 1) (v := .int .i64 0) (by rfl) (by rfl) (by rfl) HFI.out.1 (by rfl) ?_
      exact GE.yes rfl HFI.out.2.1 HFI.out.2.2
    · have hrr := HRR.out
      rw [if_neg hz] at hrr
      subst hrr
      obtain ⟨E, hE⟩ : ∃ E, chk X = E := ⟨_, rfl⟩
      rw [hE] at HCK hz
      have HEE := Lib.hid hE
      have hEn : ((E : Nat) : Int) ≠ 0 := by omega
      have hEb := neB hEn
      clear hE hEn hz
      go_wp2_with fail
      (with_reducible refine HCK.out.mono ?_)
      rintro e w4 ⟨rfl, hb4⟩
      have HT4 := Lib.hid (HT2.out.below hb4)
      obtain ⟨⟨a0, a1, a2, a3, a4, a5⟩, g0, g1, g2, g3, g4, g5⟩ := Bx.both HT4.out.b2
      clear hb4
      go_wp2_with fail
      change bodyPost Tryz.prog Tryz.f27 (GE w _ _) .ret _ _
      refine ret_six2 (p := 6) (q := 7) (g := w.heap.size + 1 + 1) (v := .int .i64 (E : Int)) (by rfl) (by rfl) (by rfl) (put6_bx HT4.out.b2 _ _ _ _ _ _) (by rfl) ?_
      rw [HEE.out]
      exact GE.no (r := none) rfl (put6_below HT4.out.bl _ _ _ _ _ _ _ _ (by omega))
end Go.Proofs.YtjnfilbdokppiaaGreatDoor
