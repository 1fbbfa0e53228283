/-
  What is proved here: the contract of package pool's insert; condition: the string is not in the pool.
-/
import Derived.Test.YtoenigbfcbillaaIns
namespace Go.Proofs.Ytoenigbfcbillaa
open Go.RowKit

theorem app_row {B p n0 c0 : Nat} {xs : List E} {w w1 : World} {A0 : Option Addr} {v1 : Value} {z : E} (hn : n0 = xs.length) (h : Pk B w p true (.slice A0 xs.length c0) xs) (ho : OV true w1 B v1 (xs ++ [z])) (hg : w.grownBy w1 (Value.slice A0 n0 c0).ownBlock)
    (hl : v1.ownBlock = (Value.slice A0 n0 c0).ownBlock ∨ v1.ownBlock = some w.heap.size) :
    ∃ g c, v1 = .slice (some ⟨g, 0, none⟩) (n0 + 1) c ∧ n0 + 1 ≤ c ∧ c ≤ 9223372036854775807 ∧ w1.cell? ⟨p, 1, none⟩ = some (.slice A0 n0 c0) ∧ w1.frozen? ⟨p, 1, none⟩ = false ∧
      (∀ W2, W2 = w1.setCell ⟨p, 1, none⟩ (.slice (some ⟨g, 0, none⟩) (n0 + 1) c) → Bx W2 p (ty true) (bc true (.slice (some ⟨g, 0, none⟩) (n0 + 1) c)) ∧ OV true W2 B (.slice (some ⟨g, 0, none⟩) (n0 + 1) c) (xs ++ [z]) ∧ Ch w W2 p (.slice A0 n0 c0) (.slice (some ⟨g, 0, none⟩) (n0 + 1) c)) := by
  subst hn
  have hob : (Value.slice A0 xs.length c0).ownBlock = (Value.slice A0 xs.length c0).ownBlock := rfl
  obtain ⟨g, c, rfl, h1, h2, _⟩ := row_some ho (by simp)
  rw [List.length_append, List.length_singleton] at h1 ho hl ⊢
  refine ⟨g, c, rfl, h1, h2, ?_, ?_, ?_⟩
  · have hb1 : Bx w1 p (ty true) (bc true (.slice A0 xs.length c0)) := h.box.same (hg.block p h.box.lt (fun e => h.box.ne_row h.own (ty_ne true) e.symm))
    exact hb1.cell 1
  · have hb1 : Bx w1 p (ty true) (bc true (.slice A0 xs.length c0)) := h.box.same (hg.block p h.box.lt (fun e => h.box.ne_row h.own (ty_ne true) e.symm))
    exact hb1.frozen 1
  · rintro W2 rfl
    exact h.add ho hg hl
/-- Behind the copy. -/
def CP (B : Nat) (w w3 : World) (p g n0 c m : Nat) (A0 : Option Addr) (c0 : Nat) (xs : List E) : Prop :=
  Bx w3 p (ty true) (bc true (.slice (some ⟨g, 0, none⟩) (n0 + 1) c)) ∧ OV true w3 B (.slice (some ⟨g, 0, none⟩) (n0 + 1) c) (cpy xs ⟨⟨#[]⟩, 0⟩ m) ∧ Ch w w3 p (.slice A0 n0 c0) (.slice (some ⟨g, 0, none⟩) (n0 + 1) c)
theorem copy_end {B p g n0 c m c0 : Nat} {A0 : Option Addr} {xs ys : List E} {w W2 w3 : World} {o : Obj} (hx : Bx W2 p (ty true) (bc true (.slice (some ⟨g, 0, none⟩) (n0 + 1) c))) (ho : OV true W2 B (.slice (some ⟨g, 0, none⟩) (n0 + 1) c) ys)
    (h0 : Below w.heap.size w (w.alloc o)) (hc : Ch (w.alloc o) W2 p (.slice A0 n0 c0) (.slice (some ⟨g, 0, none⟩) (n0 + 1) c)) (hd : Below W2.heap.size W2 W2.drew)
    (h3 : OV true w3 B (.slice (some ⟨g, 0, none⟩) (n0 + 1) c) (cpy xs ⟨⟨#[]⟩, 0⟩ m)) (hg : W2.drew.grownBy w3 (some g)) : CP B w w3 p g n0 c m A0 c0 xs := by
  have hne : g ≠ p := fun e => hx.ne_row ho (ty_ne true) (by rw [e]; rfl)
  have hch : Ch W2.drew w3 p (.slice (some ⟨g, 0, none⟩) (n0 + 1) c) (.slice (some ⟨g, 0, none⟩) (n0 + 1) c) :=
    ⟨hg.os, hg.tape, hg.output, hg.size, fun i hi _ hiv => hg.block i hi (fun e => hiv e.symm), fun i hi => .inl hi⟩
  exact ⟨(hx.below hd hx.lt).same (hg.block p (Nat.lt_of_lt_of_le hx.lt hd.size) (fun e => hne (Option.some.inj e).symm)), h3, (((Ch.below p _ h0).trans hc).trans (Ch.below p _ hd)).trans hch⟩
/-- The cells that the last statement reads and writes. -/
def IC (p g n0 c m : Nat) (e : E) (W : World) : Prop :=
  W.cell? ⟨p, 1, none⟩ = some (.slice (some ⟨g, 0, none⟩) (n0 + 1) c) ∧ W.cell? ⟨g, m * 2, none⟩ = some (.string e.k) ∧ W.cell? ⟨g, m * 2 + 1, none⟩ = some (.int .i64 e.n) ∧ W.frozen? ⟨g, m * 2, none⟩ = false ∧ W.frozen? ⟨g, m * 2 + 1, none⟩ = false
theorem insert_cells {p g n0 c m B : Nat} {xs : List E} {w3 : World} (hn : n0 = xs.length) (hm : m ≤ n0) (hx : Bx w3 p (ty true) (bc true (.slice (some ⟨g, 0, none⟩) (n0 + 1) c))) (ho : OV true w3 B (.slice (some ⟨g, 0, none⟩) (n0 + 1) c) (cpy xs ⟨⟨#[]⟩, 0⟩ m)) :
    ∃ e, ∀ W, Below w3.heap.size w3 W → IC p g n0 c m e W := by
  have hl : (cpy xs ⟨⟨#[]⟩, 0⟩ m).length = n0 + 1 := by rw [cpy_length (by omega), hn]
  obtain ⟨e, he⟩ : ∃ e, (cpy xs ⟨⟨#[]⟩, 0⟩ m)[m]? = some e := ⟨_, List.getElem?_eq_getElem (by omega)⟩
  obtain ⟨h0, h1⟩ := pv_at _ m e he
  refine ⟨e, fun W hW => ?_⟩
  have ho' := ho.below hW
  unfold OV at ho'
  rw [hl] at ho'
  exact ⟨(hx.below hW hx.lt).cell 1, (ho'.cellAt (m * 2) (by omega)).trans h0, (ho'.cellAt (m * 2 + 1) (by omega)).trans h1, ho'.frozenAt _, ho'.frozenAt _⟩
theorem cell_set2 {W : World} {g p a b i : Nat} {u u' : Value} (h : g ≠ p) : ((W.setCell ⟨g, a, none⟩ u).setCell ⟨g, b, none⟩ u').cell? ⟨p, i, none⟩ = W.cell? ⟨p, i, none⟩ :=
  World.cell?_of_block ((Below.heap_setCell _ _ _ _ (by exact fun e => h e.symm)).trans (Below.heap_setCell _ _ _ _ (by exact fun e => h e.symm)))
theorem insert_end {B p g n0 c m c0 : Nat} {A0 : Option Addr} {xs : List E} {w w3 W : World} {k : ByteArray} {n : Int} (hlo : B ≤ p ∧ B ≤ w.heap.size) (hsr : Srt (ins xs k n)) (hil : (ins xs k n).length = xs.length + 1) (hsz : ∀ e ∈ ins xs k n, e.k.size ≤ 1000)
    (hins : ins xs k n = xs.take m ++ ⟨k, n⟩ :: xs.drop m) (hn : n0 = xs.length) (hm : m ≤ n0) (hl : n0 ≤ 99) (hx : Bx w3 p (ty true) (bc true (.slice (some ⟨g, 0, none⟩) (n0 + 1) c)))
    (ho : OV true w3 B (.slice (some ⟨g, 0, none⟩) (n0 + 1) c) (cpy xs ⟨⟨#[]⟩, 0⟩ m)) (hc : Ch w w3 p (.slice A0 n0 c0) (.slice (some ⟨g, 0, none⟩) (n0 + 1) c)) (hW : Below w3.heap.size w3 W) :
    ∃ v', Pk B ((W.setCell ⟨g, m * 2, none⟩ (.string k)).setCell ⟨g, m * 2 + 1, none⟩ (.int .i64 n)) p true v' (ins xs k n) ∧ Ch w ((W.setCell ⟨g, m * 2, none⟩ (.string k)).setCell ⟨g, m * 2 + 1, none⟩ (.int .i64 n)) p (.slice A0 n0 c0) v' := by
  have hne : g ≠ p := fun e => hx.ne_row ho (ty_ne true) (by rw [e]; rfl)
  have hlen : (cpy xs ⟨⟨#[]⟩, 0⟩ m).length = n0 + 1 := by rw [cpy_length (by omega), hn]
  have ho' := ho.below hW
  unfold OV at ho'
  rw [hlen] at ho'
  obtain ⟨s0, t0⟩ := ho'.stored (m * 2) (.string k)
  obtain ⟨s1, t1⟩ := s0.stored (m * 2 + 1) (.int .i64 n)
  have e1 := pv_set (cpy xs ⟨⟨#[]⟩, 0⟩ m) m ⟨k, n⟩
  rw [cpy_set (by omega), ← hins] at e1
  rw [e1] at s1
  refine ⟨.slice (some ⟨g, 0, none⟩) (n0 + 1) c, ⟨?_, ?_, hlo.1, ?_, by omega, hsz, fun _ => hsr⟩, ?_⟩
  · have h1 := hx.below hW hx.lt
    have h2 := h1.same (t0.block p h1.lt (fun e => hne (Option.some.inj e).symm))
    exact h2.same (t1.block p h2.lt (fun e => hne (Option.some.inj e).symm))
  · unfold OV
    rw [hil, ← hn]
    exact s1
  · have := hc.size; have := hW.size; simp; omega
  · have g1 : ∀ {a b : World}, a.grownBy b (some g) → Ch a b p (.slice (some ⟨g, 0, none⟩) (n0 + 1) c) (.slice (some ⟨g, 0, none⟩) (n0 + 1) c) := fun hg =>
      ⟨hg.os, hg.tape, hg.output, hg.size, fun i hi _ hiv => hg.block i hi (fun e => hiv e.symm), fun i hi => .inl hi⟩
    exact ((hc.trans (Ch.below p _ hW)).trans (g1 t0)).trans (g1 t1)
section
variable {B p : Nat} {v : Value} {xs : List E} {w : World}
set_option maxRecDepth 20000 in
set_option maxHeartbeats 1000000 in
theorem insert_any (h : Pk B w p true v xs) (k : ByteArray) (n : Int) (hk : has xs k = false) (hl : xs.length ≤ 99) (hs : k.size ≤ 1000) :
    Calls Try.prog 30 #[.pointer (some ⟨p, 1, none⟩), .int .i64 (pos xs k : Int), .string k, .int .i64 n] w (fun e w' => ∃ v', e = .returned (.tuple #[]) ∧ Pk B w' p true v' (ins xs k n) ∧ Ch w w' p v v') := by
  have c1 : w.cell? ⟨p, 1, none⟩ = some v := h.cell
  have f1 : w.frozen? ⟨p, 1, none⟩ = false := h.box.frozen 1
  obtain ⟨m, hm⟩ : ∃ m, pos xs k = m := ⟨_, rfl⟩
  have hmn : m ≤ xs.length := by rw [← hm]; exact pos_le xs k
  have HINS : Hid (ins xs k n = xs.take m ++ ⟨k, n⟩ :: xs.drop m) := Lib.hid (by unfold ins; rw [hm])
  have HSR := Lib.hid (ins_srt (n := n) (h.srt rfl) hk)
  have HIL := Lib.hid (ins_length xs k n)
  have HSZ : Hid (∀ e ∈ ins xs k n, e.k.size ≤ 1000) := Lib.hid (by
    intro e he
    rcases mem_ins.1 he with rfl | he
    · exact hs
    · exact h.sz e he)
  rw [hm]
  have hb0 := al0 w (.cells #[.string ⟨#[]⟩, .int .i64 0] 68)
  have HP0 := Lib.hid (h.below hb0)
  have HB0 := Lib.hid hb0
  have HLIT : Hid (At2 (w.alloc (.cells #[.string ⟨#[]⟩, .int .i64 0] 68)) w.heap.size 0 ⟨⟨#[]⟩, 0⟩) := Lib.hid (by
    have hx := Bx.new w 68 #[.string ⟨#[]⟩, .int .i64 0]
    exact ⟨hx.cell 0, hx.cell 1⟩)
  have HCL : Hid (∀ W, Calls Try.prog 36 #[.string k] W fun e w' => e = .returned (.string k) ∧ Below W.heap.size W w') := Lib.hid fun W => clone_any k W hs
  obtain ⟨n0, hn0⟩ : ∃ n0, n0 = xs.length := ⟨_, rfl⟩
  have HN := Lib.hid hn0
  have HLO := Lib.hid (show B ≤ p ∧ B ≤ w.heap.size from ⟨h.low, h.base⟩)
  rw [← hn0] at hmn hl
  obtain ⟨A0, c0, rfl, -⟩ := h.own.at
  rw [← hn0] at c1
  clear h hm hk hs hb0 hn0
  go_enter Try.func30, Try.ntmps30
  go_upto_region 1 with (at_builtin; refine wpList_app1 (B := B) (xs := xs) (x := ⟨⟨#[]⟩, 0⟩) (v := .slice A0 n0 c0) true rfl (.tmp 12) (.tmp 14) rfl rfl rfl (by rw [HN.out]; exact HP0.out.own) HLIT.out (by rw [← HN.out]; omega) HP0.out.base ?_; intro v1 w1 ho1 hg1 hl1; obtain ⟨g, c, rfl, hnc, hcm, hrow⟩ := app_row HN.out HP0.out ho1 hg1 hl1; obtain ⟨q1, q2, q3⟩ := hrow; have HR := Lib.hid q3; clear q3 ho1 hg1 hl1)
  obtain ⟨W2, hW2⟩ : ∃ W2, W2 = w1.setCell ⟨p, 1, none⟩ (.slice (some ⟨g, 0, none⟩) (n0 + 1) c) := ⟨_, rfl⟩
  obtain ⟨r1, r2, r3⟩ := HR.out W2 hW2
  simp only [← hW2]
  have HBX := Lib.hid r1
  have HO := Lib.hid r2
  have HCH := Lib.hid r3
  have d1 : W2.cell? ⟨p, 1, none⟩ = some (.slice (some ⟨g, 0, none⟩) (n0 + 1) c) := r1.cell 1
  have g1 : W2.frozen? ⟨p, 1, none⟩ = false := r1.frozen 1
  clear r1 r2 r3 hW2 HR q1 q2 c1 f1
  have e1 : IntKind.i64.wrap ((m : Int) + 1) = (m : Int) + 1 := by rw [IntWalk.i64_in _ ⟨by omega, by omega⟩]
  have e2 : (0 : Int) ≤ (m : Int) + 1 := by omega
  have e3 : (m : Int) + 1 ≤ (n0 : Int) + 1 := by omega
  have e5 : (0 : Int) ≤ (m : Int) := by omega
  have e6 : (m : Int) ≤ (n0 : Int) + 1 := by omega
  have e7 : ¬ c = m := by omega
  have hm1 : m ≤ n0 + 1 := by omega
  have HD : Hid (Below W2.heap.size W2 W2.drew) := Lib.hid (Below.refl W2.heap.size W2).drew
  have HO1 : Hid (OV true W2.drew B (.slice (some ⟨g, 0, none⟩) (n0 + 1) c) (xs ++ [⟨⟨#[]⟩, 0⟩])) := Lib.hid (HO.out.below HD.out)
  have HMN := Lib.hid hmn
  have HL99 := Lib.hid hl
  have HNC := Lib.hid hnc
  have HEND : Hid (∀ w3, Hid (OV true w3 B (.slice (some ⟨g, 0, none⟩) (n0 + 1) c) (cpy xs ⟨⟨#[]⟩, 0⟩ m) ∧ W2.drew.grownBy w3 (some g)) → CP B w w3 p g n0 c m A0 c0 xs) := Lib.hid fun w3 H =>
    copy_end HBX.out HO.out (HB0.out) HCH.out HD.out H.out.1 H.out.2
  go_cut [31] (fun s31 wn => CP B w wn p g n0 c m A0 c0 xs)
  case first =>
    by_cases e8 : c = m + 1
    · subst e8
      have e9 : m + 1 - m = 1 := by omega
      go_region_law (refine step_copy (B := B) (g := g) (c := m + 1) (n := n0) (m := m) (q := 0) (xs := xs) (z := ⟨⟨#[]⟩, 0⟩) rfl (.tmp 24) (.tmp 30) rfl rfl rfl (by have := HMN.out; have := HNC.out; omega) (by have := HMN.out; have := HNC.out; omega) HO1.out HN.out HMN.out (.inr ⟨by have := HMN.out; have := HNC.out; omega, rfl⟩) ?_; intro r w3 H3)
      all_goals
        go_wp2_with fail
        go_meet
        exact HEND.out _ H3
    · go_region_law (refine step_copy (B := B) (g := g) (c := c) (n := n0) (m := m) (q := (m + 1) * 2) (xs := xs) (z := ⟨⟨#[]⟩, 0⟩) rfl (.tmp 24) (.tmp 30) rfl rfl rfl (by have := HMN.out; have := HNC.out; omega) (by have := HMN.out; have := HNC.out; omega) HO1.out HN.out HMN.out (.inl rfl) ?_; intro r w3 H3)
      all_goals
        go_wp2_with fail
        go_meet
        exact HEND.out _ H3
  case rest =>
    obtain ⟨r1, r2, r3⟩ := hcut
    have HC3 := Lib.hid r3
    have HO3 := Lib.hid r2
    have HX3 := Lib.hid r1
    have HGP := Lib.hid (fun e : g = p => r1.ne_row r2 (ty_ne true) (by rw [e]; rfl))
    have HE := Lib.hid (fun W hW => insert_end (W := W) (k := k) (n := n) HLO.out HSR.out HIL.out HSZ.out HINS.out HN.out HMN.out HL99.out r1 r2 r3 hW)
    obtain ⟨e, hce⟩ := insert_cells HN.out HMN.out r1 r2
    have HCE := Lib.hid hce
    obtain ⟨y1, y2, y3, y4, y5⟩ := hce _ (Below.refl _ _)
    have HD0 := Lib.hid (Below.refl wc.heap.size wc)
    have HD1 := Lib.hid HD0.out.drew
    have hall : ∀ W, Hid (Below wc.heap.size wc W) → W.cell? ⟨p, 1, none⟩ = some (.slice (some ⟨g, 0, none⟩) (n0 + 1) c) := fun W H => (HCE.out W H.out).1
    have hset : ∀ W u u', Hid (Below wc.heap.size wc W) → ((W.setCell ⟨g, m * 2, none⟩ u).setCell ⟨g, m * 2 + 1, none⟩ u').cell? ⟨p, 1, none⟩ = some (.slice (some ⟨g, 0, none⟩) (n0 + 1) c) := fun W u u' H => (cell_set2 HGP.out).trans (HCE.out W H.out).1
    have i1 : (0 : Int) ≤ (m : Int) := by omega
    have i2 : (m : Int) < (n0 : Int) + 1 := by omega
    clear r1 r2 r3 hce HBX HO HCH HO1 HD HEND HX3 HO3 HC3 HB0 HP0 HLIT d1 g1
    go_upto_region 2 with fail
    go_region_held3 (fun W => W.cell? ⟨p, 1, none⟩ = some (.slice (some ⟨g, 0, none⟩) (n0 + 1) c))
      (first | (with_reducible exact hall _ HD0) | (with_reducible exact hall _ HD1) | (with_reducible exact hall _ (by assumption)) | (with_reducible exact hset _ _ _ HB5))
      (first | (go_at_call 36; (with_reducible refine (HCL.out _).mono ?_); rintro e' w5 ⟨rfl, hb5⟩; have HB5 := Lib.hid (HD1.out.trans (hb5.mono HD1.out.size)); obtain ⟨z1, z2, z3, z4, z5⟩ := HCE.out _ HB5.out; clear hb5))
    all_goals
      go_wp2_with fail
      obtain ⟨v', hp', hc'⟩ := HE.out _ HB5.out
      go_end0
      rw [← HN.out]
      exact ⟨v', rfl, hp', hc'⟩
end
end Go.Proofs.Ytoenigbfcbillaa
