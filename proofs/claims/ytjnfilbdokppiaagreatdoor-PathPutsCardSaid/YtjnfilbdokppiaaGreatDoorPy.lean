/-
  What is proved here: the contract of the law's cut: the path's first 70 steps with keys of at most 40 bytes, in memory of the call's own; condition: the argument reads as a path; and: contracts of the two function literals of path.Parse; conditions: where the text and the offset lie, the tables that they read, and the lengths that each states; and: the contract of path.Parse; conditions: the tables that it reads hold what is laid, and the text has at most 60000 bytes.
-/
import Derived.Test.YtjnfilbdokppiaaGreatDoorPsh
import Derived.Test.YtjnfilbdokppiaaGreatDoorCutR
import Derived.Lib.AtoiErrMem
namespace Go.Proofs.YtjnfilbdokppiaaGreatDoor
open Go.RowKit U U.Ut

theorem dgs_take (l : List UInt8) : l.take (dgs l).length = dgs l := by
  unfold dgs
  induction l with
  | nil => rfl
  | cons c r ih =>
    rw [List.takeWhile_cons]
    cases isDg c with
    | false => simp
    | true => simp [ih]
theorem dgs_all (l : List UInt8) : ∀ c ∈ dgs l, isDg c = true := by
  unfold dgs
  induction l with
  | nil => simp
  | cons c r ih =>
    rw [List.takeWhile_cons]
    cases h : isDg c with
    | false => simp
    | true =>
      intro x hx
      rcases List.mem_cons.1 hx with rfl | hx
      · exact h
      · exact ih x hx
theorem dec_some : ∀ (l : List UInt8) (a : Nat), (∀ c ∈ l, isDg c = true) → ∃ v, Lib.decFrom a l = some v
  | [], a, _ => ⟨a, rfl⟩
  | c :: r, a, h => by
    have hc := h c (by simp)
    unfold isDg at hc
    simp only [Bool.and_eq_true, decide_eq_true_eq] at hc
    have e : Lib.digitVal c = some (c.toNat - 48) := by unfold Lib.digitVal; rw [if_pos hc]
    obtain ⟨v, hv⟩ := dec_some r (a * 10 + (c.toNat - 48)) fun x hx => h x (by simp [hx])
    exact ⟨v, by simp only [Lib.decFrom, e, hv]⟩
theorem atoi_dgs {l : List UInt8} (h : (dgs l).length ≠ 0) : Lib.atoi (dgs l) = some ((dgV (dgs l) : Nat) : Int) := by
  have ha := dgs_all l
  generalize dgs l = d at *
  match d, h with
  | c :: r, _ =>
    have hc := ha c (by simp)
    unfold isDg at hc
    simp only [Bool.and_eq_true, decide_eq_true_eq] at hc
    have h1 : (c == 45) = false := by
      rw [beq_eq_false_iff_ne]; rintro rfl; revert hc; decide
    have h2 : (c == 43) = false := by
      rw [beq_eq_false_iff_ne]; rintro rfl; revert hc; decide
    obtain ⟨v, hv⟩ := dec_some (c :: r) 0 ha
    show (if (c == 45) = true then _ else if (c == 43) = true then _ else (Lib.decNat (c :: r)).map fun (m : Nat) => (m : Int)) = _
    rw [h1, h2, if_neg (by decide), if_neg (by decide)]
    unfold Lib.decNat dgV
    rw [hv]
    rfl
theorem dgV_lt : ∀ (l : List UInt8) (a n v : Nat), l.length ≤ n → Lib.decFrom a l = some v → v < (a + 1) * 10 ^ n
  | [], a, n, v, _, h => by
    obtain rfl : a = v := by simpa [Lib.decFrom] using h
    have : 1 ≤ 10 ^ n := Nat.one_le_pow _ _ (by decide)
    have := Nat.mul_le_mul_left (a + 1) this
    omega
  | c :: r, a, 0, v, hl, h => by simp at hl
  | c :: r, a, n + 1, v, hl, h => by
    simp only [Lib.decFrom] at h
    split at h
    · rename_i d hd
      have hd9 : d ≤ 9 := by
        unfold Lib.digitVal at hd
        split at hd
        · injection hd with hd; omega
        · cases hd
      have ih := dgV_lt r (a * 10 + d) n v (by simpa using hl) h
      have h1 : (a * 10 + d + 1) * 10 ^ n ≤ ((a + 1) * 10) * 10 ^ n := Nat.mul_le_mul_right _ (by omega)
      rw [Nat.pow_succ]
      have h2 : (a + 1) * (10 ^ n * 10) = ((a + 1) * 10) * 10 ^ n := by
        rw [Nat.mul_comm (10 ^ n) 10, Nat.mul_assoc]
      omega
    · cases h
theorem dgV_small {l : List UInt8} (h : (dgs l).length ≤ 9) : dgV (dgs l) ≤ 999999999 := by
  obtain ⟨v, hv⟩ := dec_some (dgs l) 0 (dgs_all l)
  have := dgV_lt (dgs l) 0 9 v h hv
  unfold dgV
  rw [hv]
  simp at *
  omega

/-- What a function literal that reads a step leaves: the step, or an error, and where it got. -/
def CL (W : World) (A k : Nat) (r : (Stp × Nat) ⊕ (Nat × Nat)) (e : Ending) (w' : World) : Prop :=
  match r with
  | .inl (x, n) => e = .returned (.tuple #[.agg #[.string x.k, .int .i64 x.a, .bool x.b], .int .i64 0]) ∧ Ex A W w' ∧ Blk w' A 3 #[.int .i64 ((k + n : Nat) : Int)]
  | .inr (o, er) => e = .returned (.tuple #[.agg #[.string ⟨#[]⟩, .int .i64 0, .bool false], .int .i64 ((er : Nat) : Int)]) ∧ Ex A W w' ∧ Blk w' A 3 #[.int .i64 ((k + o : Nat) : Int)]

theorem drop_head {l : List UInt8} {k : Nat} (h : k < l.length) : (l.drop k).head? = some l[k] := by rw [List.head?_drop, List.getElem?_eq_getElem h]
theorem ext_take {s : ByteArray} {l : List UInt8} (hl : s.data.toList = l) (k n : Nat) : (s.extract k (k + n)).data.toList = (l.drop k).take n := by
  rw [ByteArray.data_extract, Array.toList_extract, List.extract_eq_take_drop, hl, Nat.add_sub_cancel_left]
theorem atoi_any (x : ByteArray) (d : List UInt8) (hx : x.data.toList = dgs d) (h0 : (dgs d).length ≠ 0) (h9 : (dgs d).length ≤ 9) (w : World) :
    Calls Tryz.prog 48 #[.string x] w fun e w' => e = .returned (.tuple #[.int .i64 ((dgV (dgs d) : Nat) : Int), .nilIface]) ∧ Below w.heap.size w w' := by
  refine (Tryz.strconv_Atoi x _ (by rw [Lib.size_eq, hx]; omega) (by rw [hx]; exact atoi_dgs h0) w).mono ?_
  rintro e w' ⟨rfl, t, rfl⟩
  exact ⟨rfl, Lib.bytesWorld_below _ _ _⟩
theorem ret_three2 {f : Func} {R : Ending → World → Prop} {a : Act} {w : World} {p q : Tmp} {g : Nat} {v v0 v1 v2 : Value} (hres : f.results = #[.cell p 51, .tmp q]) (hp : a.tmps.getD p undef = .pointer (some ⟨g, 0, none⟩)) (hq : a.tmps.getD q undef = v)
    (hB : Blk w g 51 #[v0, v1, v2]) (hd : a.defers = []) (hR : R (.returned (.tuple #[.agg #[v0, v1, v2], v])) w) : bodyPost Tryz.prog f R .ret a w := by
  refine bodyPost_ret ?_ hd hR
  have hp' : a.tmps[p]?.getD undef = .pointer (some ⟨g, 0, none⟩) := by simpa using hp
  have hq' : a.tmps[q]?.getD undef = v := by simpa using hq
  simp only [results, hres]
  simp [hp', hq', asAddr, loadVar_three hB]
/-- Three cells written over. -/
def put3 (w : World) (g : Nat) (a0 a1 a2 : Value) : World := ((w.setCell ⟨g, 0, none⟩ a0).setCell ⟨g, 1, none⟩ a1).setCell ⟨g, 2, none⟩ a2
theorem put3_blk {w : World} {g : Nat} {v0 v1 v2 : Value} {t : TypeId} (h : Blk w g t #[v0, v1, v2]) (a0 a1 a2 : Value) : Blk (put3 w g a0 a1 a2) g t #[a0, a1, a2] := ((Blk.put h 0 a0).put 1 a1).put 2 a2
theorem put3_other {w : World} {g b : Nat} {t : TypeId} {cs : Array Value} (hne : b ≠ g) (h : Blk w b t cs) (a0 a1 a2 : Value) : Blk (put3 w g a0 a1 a2) b t cs := Blk.setOther (Blk.setOther (Blk.setOther h _ hne) _ hne) _ hne
theorem ex_fin {A g : Nat} {w W : World} (h : Ex A w W) (hg : w.heap.size ≤ g) (a0 a1 a2 : Value) : Ex A w (put3 W g a0 a1 a2) :=
  ⟨h.os, h.tape, h.output, by unfold put3; simp only [World.size_setCell]; exact h.size, fun k hk hne => (((heap_set_other _ _ _ _ _ (by omega)).trans (heap_set_other _ _ _ _ _ (by omega))).trans (heap_set_other _ _ _ _ _ (by omega))).trans (h.block k hk hne)⟩
/-- The text and the offset of a reader of steps, and its result's box. -/
structure IX (w : World) (S A k : Nat) (s : ByteArray) (W : World) : Prop where
  bl : Below w.heap.size w W
  lt : w.heap.size < W.heap.size
  bs : Blk W S 9 #[.string s]
  ba : Blk W A 3 #[.int .i64 (k : Int)]
  br : Blk W w.heap.size 51 #[.string ⟨#[]⟩, .int .i64 0, .bool false]
theorem IX.below {w W W2 : World} {S A k : Nat} {s : ByteArray} (h : IX w S A k s W) (hb : Below W.heap.size W W2) : IX w S A k s W2 :=
  ⟨h.bl.trans (hb.mono h.bl.size), Nat.lt_of_lt_of_le h.lt hb.size, h.bs.below hb h.bs.lt, h.ba.below hb h.ba.lt, h.br.below hb h.br.lt⟩
theorem IX.start {w : World} {S A k : Nat} {s : ByteArray} (hS : Blk w S 9 #[.string s]) (hA : Blk w A 3 #[.int .i64 (k : Int)]) : IX w S A k s (w.alloc (.cells #[.string ⟨#[]⟩, .int .i64 0, .bool false] 51)) :=
  ⟨(Below.refl _ _).alloc (Nat.le_refl _) _, by simp, hS.alloc _, hA.alloc _, Blk.new _ _ _⟩
theorem IX.cells {w W : World} {S A k : Nat} {s : ByteArray} (h : IX w S A k s W) : W.cell? ⟨S, 0, none⟩ = some (.string s) ∧ W.cell? ⟨A, 0, none⟩ = some (.int .i64 (k : Int)) ∧ W.frozen? ⟨A, 0, none⟩ = false ∧ W.cell? ⟨w.heap.size, 0, none⟩ = some (.string ⟨#[]⟩) ∧ W.cell? ⟨w.heap.size, 1, none⟩ = some (.int .i64 0) ∧ W.cell? ⟨w.heap.size, 2, none⟩ = some (.bool false) ∧
    W.frozen? ⟨w.heap.size, 0, none⟩ = false ∧ W.frozen? ⟨w.heap.size, 1, none⟩ = false ∧ W.frozen? ⟨w.heap.size, 2, none⟩ = false :=
  ⟨h.bs.cell 0, h.ba.cell 0, h.ba.frozen 0, h.br.cell 0, h.br.cell 1, h.br.cell 2, h.br.frozen 0, h.br.frozen 1, h.br.frozen 2⟩

set_option maxRecDepth 100000 in
set_option maxHeartbeats 1000000 in
theorem index_any (s : ByteArray) (l : List UInt8) (hl : s.data.toList = l) (S A k : Nat) (w : World) (hS : Blk w S 9 #[.string s]) (hA : Blk w A 3 #[.int .i64 (k : Int)]) (hs : s.size ≤ 1000000) (hd : (dgs (l.drop k)).length ≠ 0) :
    Calls Tryz.prog 46 #[.pointer (some ⟨S, 0, none⟩), .pointer (some ⟨A, 0, none⟩)] w (CL w A k (stIn (l.drop k))) := by
  have HX := Lib.hid (IX.start hS hA)
  obtain ⟨c0, a0, a1, r0, r1, r2, f0, f1, f2⟩ := HX.out.cells
  obtain ⟨N, hN⟩ : ∃ N, (dgs (l.drop k)).length = N := ⟨_, rfl⟩
  have hle := dgs_le (l.drop k)
  rw [hN] at hle hd
  rw [List.length_drop, ← hl, ← Lib.size_eq] at hle
  have hk : k < s.size := by omega
  have hkl : k < l.length := by rw [← hl, ← Lib.size_eq]; exact hk
  have HCD := Lib.hid (countD_any (s.extract k s.size) (l.drop k) (by rw [ps_drop, hl]) (w.alloc (.cells #[.string ⟨#[]⟩, .int .i64 0, .bool false] 51)) (by rw [ByteArray.size_extract]; omega))
  rw [hN] at HCD
  obtain ⟨c, hc⟩ : ∃ c, s[k]'hk = c := ⟨_, rfl⟩
  have hh : (l.drop k).head? = some c := by
    rw [drop_head hkl, ← hc]
    subst hl
    rfl
  obtain ⟨R, hR⟩ : ∃ R, stIn (l.drop k) = R := ⟨_, rfl⟩
  have hR2 : R = if 9 < N ∨ (1 < N ∧ c = 48) then .inr (0, 4) else .inl (⟨⟨#[]⟩, (dgV (dgs (l.drop k)) : Int), false⟩, N) := by
    rw [← hR]
    unfold stIn
    rw [hN, if_pos hd, hh]
    simp only [Option.some.injEq]
  rw [hR]
  have HR := Lib.hid hR2
  have hj1 : (0 : Int) ≤ (k : Int) := by omega
  have hj2 : (k : Int) ≤ (s.size : Int) := by omega
  have hj3 : (k : Int) < (s.size : Int) := by omega
  have HL := Lib.hid hl
  have HNN := Lib.hid hN
  have hne1 : ¬ A = w.heap.size := by have := hA.lt; omega
  have hne2 : ¬ w.heap.size = A := by omega
  clear hR hR2 hh hl hN hkl hS hA
  by_cases h9 : 9 < N
  · have d9 : decide ((9 : Int) < (N : Int)) = true := decide_eq_true (by omega)
    have hr : R = .inr (0, 4) := by rw [HR.out, if_pos (Or.inl h9)]
    have HRR := Lib.hid hr
    clear hr
    go_enter Tryz.func46, Tryz.ntmps46
    go_wp2_with (go_at_call 47; (with_reducible refine HCD.out.mono ?_); rintro e w1 ⟨rfl, hw⟩; subst hw)
    rw [HRR.out]
    exact ret_three2 (p := 2) (q := 3) (g := w.heap.size) (v := .int .i64 4) (by rfl) (by rfl) (by rfl) HX.out.br (by rfl) ⟨rfl, Ex.of_below HX.out.bl, HX.out.ba⟩
  have d9 : decide ((9 : Int) < (N : Int)) = false := decide_eq_false (by omega)
  by_cases h1 : 1 < N
  · have d1 : decide ((1 : Int) < (N : Int)) = true := decide_eq_true (by omega)
    by_cases h48 : c = 48
    · have e48 : ((c.toNat : Int) == 48) = true := by rw [h48]; rfl
      have hr : R = .inr (0, 4) := by rw [HR.out, if_pos (Or.inr ⟨h1, h48⟩)]
      have HRR := Lib.hid hr
      clear hr h48
      go_enter Tryz.func46, Tryz.ntmps46
      go_wp2_with (go_at_call 47; (with_reducible refine HCD.out.mono ?_); rintro e w1 ⟨rfl, hw⟩; subst hw)
      rw [HRR.out]
      exact ret_three2 (p := 2) (q := 3) (g := w.heap.size) (v := .int .i64 4) (by rfl) (by rfl) (by rfl) HX.out.br (by rfl) ⟨rfl, Ex.of_below HX.out.bl, HX.out.ba⟩
    · have e48 : ((c.toNat : Int) == 48) = false := by
        rw [beq_eq_false_iff_ne]; intro h; apply h48; apply UInt8.toNat_inj.1; show c.toNat = 48; omega
      obtain ⟨kn, hkn⟩ : ∃ kn, k + N = kn := ⟨_, rfl⟩
      have q1 : (k : Int) + (N : Int) = (kn : Int) := by omega
      have q2 : IntKind.i64.wrap ((k : Int) + (N : Int)) = (kn : Int) := by rw [q1]; exact IntWalk.i64_in _ (by omega)
      have q3 : (kn : Int) ≤ (s.size : Int) := by omega
      have q4 : (k : Int) ≤ (kn : Int) := by omega
      have q5 : k ≤ kn := by omega
      have q6 : kn ≤ s.size := by omega
      obtain ⟨V, hV⟩ : ∃ V, dgV (dgs (l.drop k)) = V := ⟨_, rfl⟩
      have HA := Lib.hid (atoi_any (s.extract k kn) (l.drop k) (by rw [← hkn, ext_take HL.out, ← HNN.out, dgs_take]) (by rw [HNN.out]; exact hd) (by rw [HNN.out]; omega))
      rw [hV] at HA
      have hr : R = .inl (⟨⟨#[]⟩, (V : Int), false⟩, N) := by rw [HR.out, if_neg (by rintro (h | ⟨_, h⟩); (· exact h9 h); (· exact h48 h)), hV]
      have HRR := Lib.hid hr
      have HKN := Lib.hid hkn
      clear hr hV hkn
      go_enter Tryz.func46, Tryz.ntmps46
      go_wp2_with (first
        | (go_at_call 47; (with_reducible refine HCD.out.mono ?_); rintro e w1 ⟨rfl, hw⟩; subst hw)
        | (go_at_call 48; (with_reducible refine (HA.out _).mono ?_); rintro e w2 ⟨rfl, hb2⟩; have HX2 := Lib.hid (HX.out.below hb2); obtain ⟨c0', a0', a1', r0', r1', r2', f0', f1', f2'⟩ := HX2.out.cells; clear hb2))
      rw [HRR.out]
      refine ret_three2 (p := 2) (q := 3) (g := w.heap.size) (v := .int .i64 0) (by rfl) (by rfl) (by rfl) (put3_blk (Blk.setOther HX2.out.br _ hne2) _ _ _) (by rfl) ⟨rfl, ?_, ?_⟩
      · exact ex_fin ((Ex.of_below HX2.out.bl).trans (Ex.set _ _ _ _)) (Nat.le_refl _) _ _ _
      · rw [HKN.out]; exact put3_other (by omega) (Blk.put HX2.out.ba 0 _) _ _ _
  · have d1 : decide ((1 : Int) < (N : Int)) = false := decide_eq_false (by omega)
    obtain ⟨kn, hkn⟩ : ∃ kn, k + N = kn := ⟨_, rfl⟩
    have q1 : (k : Int) + (N : Int) = (kn : Int) := by omega
    have q2 : IntKind.i64.wrap ((k : Int) + (N : Int)) = (kn : Int) := by rw [q1]; exact IntWalk.i64_in _ (by omega)
    have q3 : (kn : Int) ≤ (s.size : Int) := by omega
    have q4 : (k : Int) ≤ (kn : Int) := by omega
    have q5 : k ≤ kn := by omega
    have q6 : kn ≤ s.size := by omega
    obtain ⟨V, hV⟩ : ∃ V, dgV (dgs (l.drop k)) = V := ⟨_, rfl⟩
    have HA := Lib.hid (atoi_any (s.extract k kn) (l.drop k) (by rw [← hkn, ext_take HL.out, ← HNN.out, dgs_take]) (by rw [HNN.out]; exact hd) (by rw [HNN.out]; omega))
    rw [hV] at HA
    have hr : R = .inl (⟨⟨#[]⟩, (V : Int), false⟩, N) := by rw [HR.out, if_neg (by rintro (h | ⟨h, _⟩); (· exact h9 h); (· exact h1 h)), hV]
    have HRR := Lib.hid hr
    have HKN := Lib.hid hkn
    clear hr hV hkn
    go_enter Tryz.func46, Tryz.ntmps46
    go_wp2_with (first
      | (go_at_call 47; (with_reducible refine HCD.out.mono ?_); rintro e w1 ⟨rfl, hw⟩; subst hw)
      | (go_at_call 48; (with_reducible refine (HA.out _).mono ?_); rintro e w2 ⟨rfl, hb2⟩; have HX2 := Lib.hid (HX.out.below hb2); obtain ⟨c0', a0', a1', r0', r1', r2', f0', f1', f2'⟩ := HX2.out.cells; clear hb2))
    rw [HRR.out]
    refine ret_three2 (p := 2) (q := 3) (g := w.heap.size) (v := .int .i64 0) (by rfl) (by rfl) (by rfl) (put3_blk (Blk.setOther HX2.out.br _ hne2) _ _ _) (by rfl) ⟨rfl, ?_, ?_⟩
    · exact ex_fin ((Ex.of_below HX2.out.bl).trans (Ex.set _ _ _ _)) (Nat.le_refl _) _ _ _
    · rw [HKN.out]; exact put3_other (by omega) (Blk.put HX2.out.ba 0 _) _ _ _

theorem unq_bounds (l : List UInt8) : (unq l).2.1 ≤ l.length ∧ (unq l).2.2.1 ≤ l.length ∧ ((unq l).2.2.2 = 0 ∨ (unq l).2.2.2 = 3 ∨ (unq l).2.2.2 = 40 ∨ (unq l).2.2.2 = 41) := by
  unfold unq
  rcases go_facts l q0 0 with ⟨h1, h2, h3, h4, h5⟩ | ⟨h1, h2, h3, h4, h5, h6, _⟩
  · exact ⟨by omega, by omega, .inl h1⟩
  · refine ⟨?_, by omega, .inr h6⟩
    rw [h2]
    exact Nat.zero_le _

set_option maxRecDepth 100000 in
set_option maxHeartbeats 1000000 in
theorem name_any (s : ByteArray) (l : List UInt8) (hl : s.data.toList = l) (S A k : Nat) (w : World) (hL : LP w.heap.size w) (hS : Blk w S 9 #[.string s]) (hA : Blk w A 3 #[.int .i64 (k : Int)]) (hs : s.size ≤ 60000) (hk : k ≤ s.size) (hd : (dgs (l.drop k)).length = 0) (h34 : (l.drop k).head? = some 34) :
    Calls Tryz.prog 49 #[.pointer (some ⟨S, 0, none⟩), .pointer (some ⟨A, 0, none⟩)] w (CL w A k (stIn (l.drop k))) := by
  have HX := Lib.hid (IX.start hS hA)
  obtain ⟨c0, a0, a1, r0, r1, r2, f0, f1, f2⟩ := HX.out.cells
  have HU := unquote_any (s.extract k s.size) (w.alloc (.cells #[.string ⟨#[]⟩, .int .i64 0, .bool false] 51)) (hL.keep HX.out.bl).tb (by rw [ByteArray.size_extract]; omega)
  rw [ps_drop, hl] at HU
  obtain ⟨b1, b2, b3⟩ := unq_bounds (l.drop k)
  obtain ⟨r, hr⟩ : ∃ r, unq (l.drop k) = r := ⟨_, rfl⟩
  obtain ⟨R, hR⟩ : ∃ R, stIn (l.drop k) = R := ⟨_, rfl⟩
  have hR2 : R = if r.2.2.2 ≠ 0 then .inr (r.2.2.1, r.2.2.2) else if hasZ (str r.1) = true then .inr (0, 70) else .inl (⟨str r.1, 0, true⟩, r.2.1) := by
    rw [← hR]
    unfold stIn
    rw [hd, if_neg (by decide), if_pos h34, hr]
  rw [hr] at HU b1 b2 b3
  rw [hR]
  rw [List.length_drop, ← hl, ← Lib.size_eq] at b1 b2
  have HR := Lib.hid hR2
  obtain ⟨x, n, o, er⟩ := r
  simp only at b1 b2 b3
  obtain ⟨y, hy⟩ : ∃ y, str x = y := ⟨_, rfl⟩
  unfold UE uR at HU
  simp only [hy] at HU HR
  have HU := Lib.hid HU
  have hj1 : (0 : Int) ≤ (k : Int) := by omega
  have hj2 : (k : Int) ≤ (s.size : Int) := by omega
  have hne1 : ¬ A = w.heap.size := by have := hA.lt; omega
  have hne2 : ¬ w.heap.size = A := by omega
  clear hR hR2 hr hl hS hA hd h34 hy hL
  by_cases he : er = 0
  · subst he
    have HK := Lib.hid (fun W => keyCheck_any y W)
    unfold keyZ at HK
    cases hz : hasZ y with
    | true =>
      rw [hz, if_pos rfl] at HK
      have hr : R = .inr (0, 70) := by rw [HR.out, if_neg (by simp), if_pos hz]
      have HRR := Lib.hid hr
      clear hr hz
      go_enter Tryz.func49, Tryz.ntmps49
      go_wp2_with (first
        | (go_at_call 50; (with_reducible refine HU.out.mono ?_); rintro e w2 ⟨rfl, hb2⟩; have HX2 := Lib.hid (HX.out.below hb2); obtain ⟨c0', a0', a1', r0', r1', r2', f0', f1', f2'⟩ := HX2.out.cells; clear hb2)
        | (go_at_call 51; refine (HK.out _).mono ?_; rintro e w3 ⟨rfl, rfl⟩))
      rw [HRR.out]
      refine ret_three2 (p := 2) (q := 3) (g := w.heap.size) (v := .int .i64 70) (by rfl) (by rfl) (by rfl) (put3_blk HX2.out.br _ _ _) (by rfl) ⟨rfl, ?_, ?_⟩
      · exact ex_fin (Ex.of_below HX2.out.bl) (Nat.le_refl _) _ _ _
      · exact put3_other hne1 HX2.out.ba _ _ _
    | false =>
      rw [hz, if_neg (by decide)] at HK
      have hr : R = .inl (⟨y, 0, true⟩, n) := by rw [HR.out, if_neg (by simp), if_neg (by simp [hz])]
      have HRR := Lib.hid hr
      obtain ⟨kn, hkn⟩ : ∃ kn, k + n = kn := ⟨_, rfl⟩
      have q1 : (k : Int) + (n : Int) = (kn : Int) := by omega
      have q2 : IntKind.i64.wrap ((k : Int) + (n : Int)) = (kn : Int) := by rw [q1]; exact IntWalk.i64_in _ (by omega)
      have HKN := Lib.hid hkn
      clear hr hz hkn
      go_enter Tryz.func49, Tryz.ntmps49
      go_wp2_with (first
        | (go_at_call 50; (with_reducible refine HU.out.mono ?_); rintro e w2 ⟨rfl, hb2⟩; have HX2 := Lib.hid (HX.out.below hb2); obtain ⟨c0', a0', a1', r0', r1', r2', f0', f1', f2'⟩ := HX2.out.cells; clear hb2)
        | (go_at_call 51; refine (HK.out _).mono ?_; rintro e w3 ⟨rfl, rfl⟩))
      rw [HRR.out]
      refine ret_three2 (p := 2) (q := 3) (g := w.heap.size) (v := .int .i64 0) (by rfl) (by rfl) (by rfl) (put3_blk (Blk.setOther HX2.out.br _ hne2) _ _ _) (by rfl) ⟨rfl, ?_, ?_⟩
      · exact ex_fin ((Ex.of_below HX2.out.bl).trans (Ex.set _ _ _ _)) (Nat.le_refl _) _ _ _
      · rw [HKN.out]; exact put3_other hne1 (Blk.put HX2.out.ba 0 _) _ _ _
  · have hr : R = .inr (o, er) := by rw [HR.out, if_pos (by simpa using he)]
    have HRR := Lib.hid hr
    obtain ⟨kn, hkn⟩ : ∃ kn, k + o = kn := ⟨_, rfl⟩
    have q1 : (k : Int) + (o : Int) = (kn : Int) := by omega
    have q2 : IntKind.i64.wrap ((k : Int) + (o : Int)) = (kn : Int) := by rw [q1]; exact IntWalk.i64_in _ (by omega)
    have q3 : ((er : Int) != 0) = true := neB (by omega)
    have HKN := Lib.hid hkn
    clear hr hkn he b3
    go_enter Tryz.func49, Tryz.ntmps49
    go_wp2_with (go_at_call 50; (with_reducible refine HU.out.mono ?_); rintro e w2 ⟨rfl, hb2⟩; have HX2 := Lib.hid (HX.out.below hb2); obtain ⟨c0', a0', a1', r0', r1', r2', f0', f1', f2'⟩ := HX2.out.cells; clear hb2)
    rw [HRR.out]
    refine ret_three2 (p := 2) (q := 3) (g := w.heap.size) (v := .int .i64 (er : Int)) (by rfl) (by rfl) (by rfl) (put3_blk (Blk.setOther HX2.out.br _ hne2) _ _ _) (by rfl) ⟨rfl, ?_, ?_⟩
    · exact ex_fin ((Ex.of_below HX2.out.bl).trans (Ex.set _ _ _ _)) (Nat.le_refl _) _ _ _
    · rw [HKN.out]; exact put3_other hne1 (Blk.put HX2.out.ba 0 _) _ _ _
end Go.Proofs.YtjnfilbdokppiaaGreatDoor
namespace Go.Proofs.YtjnfilbdokppiaaGreatDoor
open Go.RowKit U U.Ut

/-- The memory of Parse: the text, the offset, the path so far. -/
structure PJ (w : World) (s : ByteArray) (v : Value) (k : Nat) (ps : List Stp) (W : World) : Prop where
  sp : SP w W
  sz : w.heap.size + 2 ≤ W.heap.size
  bs : Blk W w.heap.size 9 #[.string s]
  ba : Blk W (w.heap.size + 1) 3 #[.int .i64 (k : Int)]
  own : W.ownsRow (w.heap.size + 2) 51 3 v ps.length (pv ps)
  rg : ∀ x ∈ ps, okR x
theorem PJ.ex {w W W' : World} {s : ByteArray} {v : Value} {k k' : Nat} {ps : List Stp} (h : PJ w s v k ps W) (he : Ex (w.heap.size + 1) W W') (hb : Blk W' (w.heap.size + 1) 3 #[.int .i64 (k' : Int)]) : PJ w s v k' ps W' := by
  refine ⟨h.sp.step0 (he.below h.sp.bl.size (by omega)), Nat.le_trans h.sz he.size, he.blk h.bs (by omega), hb, ?_, h.rg⟩
  refine ⟨h.own.1, h.own.2.elim Or.inl fun ⟨g, cap, cur, hv, hg, hh, r⟩ => Or.inr ⟨g, cap, cur, hv, hg, (he.block g (h.own.lt g (by rw [hv]; rfl)).2 (by omega)).trans hh, r⟩⟩
theorem PJ.set {w W : World} {s : ByteArray} {v : Value} {k : Nat} {ps : List Stp} (h : PJ w s v k ps W) (k' : Nat) : PJ w s v k' ps (W.setCell ⟨w.heap.size + 1, 0, none⟩ (.int .i64 (k' : Int))) :=
  h.ex (Ex.set _ _ _ _) (Blk.put h.ba 0 _)
theorem PJ.below {w W W' : World} {s : ByteArray} {v : Value} {k : Nat} {ps : List Stp} (h : PJ w s v k ps W) (hb : Below W.heap.size W W') : PJ w s v k ps W' :=
  h.ex (Ex.of_below hb) (h.ba.below hb h.ba.lt)
theorem PJ.cells {w W : World} {s : ByteArray} {v : Value} {k : Nat} {ps : List Stp} (h : PJ w s v k ps W) :
    W.cell? ⟨w.heap.size, 0, none⟩ = some (.string s) ∧ W.cell? ⟨w.heap.size + 1, 0, none⟩ = some (.int .i64 (k : Int)) ∧ W.frozen? ⟨w.heap.size + 1, 0, none⟩ = false := ⟨h.bs.cell 0, h.ba.cell 0, h.ba.frozen 0⟩
theorem PJ.box {w W : World} {s : ByteArray} {v : Value} {k g : Nat} {ps : List Stp} (h : PJ w s v k ps W) (hg : w.heap.size + 2 ≤ g ∧ v.ownBlock ≠ some g) (a0 a1 a2 : Value) : PJ w s v k ps (put3 W g a0 a1 a2) := by
  have hb : ∀ b, b ≠ g → (put3 W g a0 a1 a2).heap[b]? = W.heap[b]? := fun b hb => ((heap_set_other _ _ _ _ _ hb).trans (heap_set_other _ _ _ _ _ hb)).trans (heap_set_other _ _ _ _ _ hb)
  have hsz : (put3 W g a0 a1 a2).heap.size = W.heap.size := by unfold put3; simp only [World.size_setCell]
  refine ⟨h.sp.step0 ⟨rfl, rfl, rfl, by rw [hsz]; exact Nat.le_refl _, fun b hlt => hb b (by omega)⟩, by rw [hsz]; exact h.sz, (hb _ (by omega)).trans h.bs, (hb _ (by omega)).trans h.ba, ?_, h.rg⟩
  refine ⟨h.own.1, h.own.2.elim Or.inl fun ⟨g', cap, cur, hv, hg', hh, r⟩ => Or.inr ⟨g', cap, cur, hv, hg', (hb g' (fun e => hg.2 (by rw [hv, ← e]; rfl))).trans hh, r⟩⟩
theorem infoSt : (Tryz.prog.info? 51).map (fun i => (i.zero, i.size, i.bytes)) = some (some (.agg #[.string ⟨#[]⟩, .int .i64 0, .bool false]), 3, 32) := by kernel_rfl
theorem PJ.app {w W W' : World} {s : ByteArray} {v v' : Value} {k : Nat} {ps : List Stp} {x : Stp} {ob : Obj} (h : PJ w s v k ps W) (hx : okR x) (ho : W'.ownsRow (w.heap.size + 2) 51 3 v' (ps.length + 1) (pv ps ++ [.string x.k, .int .i64 x.a, .bool x.b])) (hg : (W.alloc ob).grownBy W' v.ownBlock) : PJ w s v' k (ps ++ [x]) W' := by
  have hne : ∀ b, b < w.heap.size + 2 → some b ≠ v.ownBlock := fun b hb e => by have := (h.own.lt b e.symm).1; omega
  have hsz := h.sz
  have hb : ∀ b, b < w.heap.size + 2 → W'.heap[b]? = W.heap[b]? := fun b hb => (hg.block b (by rw [World.size_alloc]; omega) (hne b hb)).trans (Below.heap_alloc W ob b (by omega))
  refine ⟨⟨h.sp.lo.below ?_, ?_⟩, ?_, (hb _ (by omega)).trans h.bs, (hb _ (by omega)).trans h.ba, ?_, ?_⟩
  · exact ((Below.refl _ W).alloc h.sp.bl.size ob).grown hg (by rw [World.size_alloc]; have := h.sp.bl.size; omega) (fun k hk => by have := (h.own.lt k hk).1; omega)
  · exact (h.sp.bl.alloc h.sp.bl.size ob).grown hg (by rw [World.size_alloc]; have := h.sp.bl.size; omega) (fun k hk => by have := (h.own.lt k hk).1; omega)
  · have := hg.size
    rw [World.size_alloc] at this
    omega
  · rw [pv_app, List.length_append]
    exact ho
  · intro y hy
    rcases List.mem_append.1 hy with hy | hy
    · exact h.rg y hy
    · obtain rfl := List.mem_singleton.1 hy; exact hx
/-- What holds of Parse between two steps. -/
structure PI (w : World) (s : ByteArray) (l : List UInt8) (R : List Stp × Nat × Nat) (v : Value) (k : Nat) (ps : List Stp) (W : World) : Prop where
  j : PJ w s v k ps W
  ks : k ≤ s.size
  pr : PR l k ps = R
  le : ps.length ≤ 64
def lenV : Value → Nat
  | .slice _ n _ => n
  | _ => 0
/-- What Parse hands back. -/
def PE (w : World) (R : List Stp × Nat × Nat) (e : Ending) (w' : World) : Prop :=
  (∃ v, e = .returned (.tuple #[v, .int .i64 (R.2.1 : Nat), .int .i64 (R.2.2 : Nat)]) ∧ RdP w' v R.1) ∧ Below w.heap.size w w'
theorem PE.no {w w' : World} {R : List Stp × Nat × Nat} {k E : Nat} (h : R = ([], k, E)) (hb : Below w.heap.size w w') : PE w R (.returned (.tuple #[.slice none 0 0, .int .i64 (k : Nat), .int .i64 (E : Nat)])) w' := by
  subst h; exact ⟨⟨_, rfl, rdp_nil _⟩, hb⟩
theorem ret_pae {f : Func} {R : Ending → World → Prop} {a : Act} {w : World} {g : Nat} {v u : Value} {k : Int} (hres : f.results = #[.tmp 2, .cell 3 3, .tmp 4]) (h2 : a.tmps.getD 2 undef = v) (h3 : a.tmps.getD 3 undef = .pointer (some ⟨g, 0, none⟩)) (h4 : a.tmps.getD 4 undef = u)
    (hc : w.cell? ⟨g, 0, none⟩ = some (.int .i64 k)) (hd : a.defers = []) (hR : R (.returned (.tuple #[v, .int .i64 k, u])) w) : bodyPost Tryz.prog f R .ret a w := by
  refine bodyPost_ret ?_ hd hR
  have h2' : a.tmps[2]?.getD undef = v := by simpa using h2
  have h3' : a.tmps[3]?.getD undef = .pointer (some ⟨g, 0, none⟩) := by simpa using h3
  have h4' : a.tmps[4]?.getD undef = u := by simpa using h4
  have hl : (loadVar 3 ⟨g, 0, none⟩).run Tryz.prog w = .ok (.int .i64 k) w := by simp [go_sem, hc]
  simp only [results, hres]
  simp [h2', h3', h4', asAddr, hl]

theorem go_len : ∀ (l : List UInt8) (q : Q) (k : Nat), WF q → (go q l k).1.length ≤ q.text.length + 4 * l.length
  | [], q, k, _ => by
    by_cases h : q.st = 8
    · rw [go_8 h]; simp
    · rw [go_nil h]; simp
  | c :: r, q, k, hw => by
    by_cases h : q.st = 8
    · rw [go_8 h]; simp
    · by_cases hs : (U.Ut.step q c).2 = 0
      · rw [go_ok h hs]
        have ih := go_len r _ (k + 1) (step_wf hw h c hs)
        have := step_len hw c
        simp only [List.length_cons]
        omega
      · rw [go_err h hs]; simp
theorem unq_len (l : List UInt8) : (unq l).1.length ≤ 4 * l.length := by
  have := go_len l q0 0 wf0
  simpa [unq, q0] using this
def stOk (l : List UInt8) (r : (Stp × Nat) ⊕ (Nat × Nat)) : Prop :=
  match r with
  | .inl (x, n) => n ≤ l.length ∧ x.k.size ≤ 4 * l.length ∧ 0 ≤ x.a ∧ x.a ≤ 999999999
  | .inr (o, er) => er ≠ 0 ∧ o ≤ l.length
theorem stIn_facts {l : List UInt8} {r : (Stp × Nat) ⊕ (Nat × Nat)} (h : stIn l = r) : stOk l r := by
  subst h
  have h1 := dgs_le l
  obtain ⟨b1, b2, b3⟩ := unq_bounds l
  have b4 := unq_len l
  have e4 : stOk l (.inr (0, 4)) := ⟨by decide, Nat.zero_le _⟩
  unfold stIn
  by_cases h0 : (dgs l).length ≠ 0
  · rw [if_pos h0]
    by_cases h9 : 9 < (dgs l).length ∨ (1 < (dgs l).length ∧ l.head? = some 48)
    · rw [if_pos h9]; exact e4
    · rw [if_neg h9]
      have := dgV_small (l := l) (by omega)
      exact ⟨h1, Nat.zero_le _, by show (0 : Int) ≤ ((dgV (dgs l) : Nat) : Int); omega, by show ((dgV (dgs l) : Nat) : Int) ≤ 999999999; omega⟩
  · rw [if_neg h0]
    by_cases h34 : l.head? = some 34
    · rw [if_pos h34]
      by_cases he : (unq l).2.2.2 ≠ 0
      · rw [if_pos he]; exact ⟨he, b2⟩
      · rw [if_neg he]
        by_cases hz : hasZ (str (unq l).1) = true
        · rw [if_pos hz]; exact ⟨by decide, Nat.zero_le _⟩
        · rw [if_neg hz]; exact ⟨b1, by show (str (unq l).1).size ≤ _; rw [str_size]; exact b4, by show (0 : Int) ≤ 0; decide, by show (0 : Int) ≤ 999999999; decide⟩
    · rw [if_neg h34]; exact e4
theorem pfx34 (l : List UInt8) : Lib.hasPrefix l (⟨#[34]⟩ : ByteArray).data.toList = decide (l.head? = some 34) := by
  cases l with
  | nil => rfl
  | cons c r =>
    show (([34] : List UInt8).isPrefixOf (c :: r)) = _
    by_cases h : c = 34
    · subst h; rfl
    · have h2 : ¬ (34 : UInt8) = c := fun e => h e.symm
      simp [List.isPrefixOf, h, h2]
theorem pfx93 (l : List UInt8) : Lib.hasPrefix l (⟨#[93]⟩ : ByteArray).data.toList = decide (l.head? = some 93) := by
  cases l with
  | nil => rfl
  | cons c r =>
    show (([93] : List UInt8).isPrefixOf (c :: r)) = _
    by_cases h : c = 93
    · subst h; rfl
    · have h2 : ¬ (93 : UInt8) = c := fun e => h e.symm
      simp [List.isPrefixOf, h, h2]
set_option maxRecDepth 100000 in
set_option maxHeartbeats 2000000 in
theorem parse_any (s : ByteArray) (l : List UInt8) (hl : s.data.toList = l) (w : World) (hL : LP w.heap.size w) (hs : s.size ≤ 60000) :
    Calls Tryz.prog 19 #[.string s] w (PE w (parseP l)) := by
  have hmf : ∀ (fn : Fn) (first cap : Array Value) (w : World), (Instr.makeFunc fn first cap).run Tryz.prog w = .ok (.func fn first cap) w := fun _ _ _ _ => rfl
  obtain ⟨R, hR⟩ : ∃ R, parseP l = R := ⟨_, rfl⟩
  rw [hR]
  have H0 : Hid (PI w s l R (.slice none 0 0) 0 [] ((w.alloc (.cells #[.string s] 9)).alloc (.cells #[.int .i64 0] 3))) := by
    have h1 := (SP.start hL).step ((Below.refl _ w).alloc (Nat.le_refl _) (.cells #[.string s] 9))
    have h2 := h1.step ((Below.refl _ (w.alloc (.cells #[.string s] 9))).alloc (Nat.le_refl _) (.cells #[.int .i64 0] 3))
    have hb := Blk.new (w.alloc (.cells #[.string s] 9)) 3 #[.int .i64 0]
    rw [World.size_alloc] at hb
    exact Lib.hid ⟨⟨h2, by simp, (Blk.new w 9 #[.string s]).alloc _, hb, World.ownsRow_nil _ _ _ _, by simp⟩, Nat.zero_le _, by rw [← pr_start]; exact hR, by simp⟩
  have HL := Lib.hid hl
  have hsl : s.size = l.length := by rw [Lib.size_eq, hl]
  have HSL := Lib.hid hsl
  clear hR hl hsl hL
  go_enter Tryz.func19, Tryz.ntmps19
  go_wp2
  go_step3
  go_wp2
  go_step3
  go_wp2
  go_loopw [2, 4] (fun v e wr => ∃ (k : Nat) (ps : List Stp), e = .int .i64 0 ∧ Hid (PI w s l R v k ps wr)) (fun v _ _ => 65 - lenV v)
  case atStart => exact ⟨0, [], rfl, H0⟩
  case round =>
    obtain ⟨k, ps, rfl, H⟩ := hrel
    obtain ⟨A, c, rfl⟩ := (Ow.of H.out.j.own).shape
    have HJ := Lib.hid H.out.j
    obtain ⟨c0, c1, c2⟩ := HJ.out.cells
    have hks := H.out.ks
    have hle := H.out.le
    clear H0
    have hallJ : ∀ W, Hid (PJ w s (.slice A ps.length c) k ps W) → Hid (PJ w s (.slice A ps.length c) k ps W) ∧ W.cell? ⟨w.heap.size + 1, 0, none⟩ = some (.int .i64 (k : Int)) ∧ W.frozen? ⟨w.heap.size + 1, 0, none⟩ = false := fun W h => ⟨h, h.out.cells.2.1, h.out.cells.2.2⟩
    by_cases hke : k = s.size
    · have e1 : ((k : Int) == (s.size : Int)) = true := by rw [hke]; simp
      have hr : R = (ps, 0, 0) := by rw [← H.out.pr]; exact pr_end ps (by rw [hke, HSL.out])
      have HRR := Lib.hid hr
      have HJ2 := Lib.hid (HJ.out.set 0)
      obtain ⟨c0', c1', c2'⟩ := HJ2.out.cells
      clear hr
      go_wp2_with fail
      rw [Exit.noGoto_ret]
      rw [HRR.out]
      refine ret_pae (v := .slice A ps.length c) (u := .int .i64 0) (k := 0) (g := w.heap.size + 1) (by rfl) (by rfl) (by rfl) (by rfl) c1' (by rfl) ⟨⟨_, rfl, own_rdp HJ2.out.own HJ2.out.rg⟩, HJ2.out.sp.bl⟩
    · have e1 : ((k : Int) == (s.size : Int)) = false := by rw [beq_eq_false_iff_ne]; omega
      have hkl : k < s.size := by omega
      by_cases h64 : ps.length = 64
      · have e2 : ((ps.length : Int) == 64) = true := by rw [h64]; rfl
        have hr : R = ([], k, 5) := by rw [← H.out.pr]; exact pr_limit (by rw [← HSL.out]; exact hkl) h64
        have HRR := Lib.hid hr
        clear hr
        go_wp2_with fail
        have HJd := Lib.hid (HJ.out.below (Below.refl _ _).drew)
        go_region_held3 (fun W => Hid (PJ w s (.slice A ps.length c) k ps W) ∧ W.cell? ⟨w.heap.size + 1, 0, none⟩ = some (.int .i64 (k : Int)) ∧ W.frozen? ⟨w.heap.size + 1, 0, none⟩ = false)
          (with_reducible first | exact hallJ _ (by assumption) | exact hallJ _ (Lib.hid (PJ.set (Hid.out (by assumption)) k))) (fail)
        --GEN
        have HJ3 := Lib.hid ((HJ.out.set k).below (Below.refl _ _).drew)
        obtain ⟨_, c1', _⟩ := HJ3.out.cells
        go_wp2_with fail
        try rw [Exit.noGoto_ret]
        exact ret_pae (v := .slice none 0 0) (u := .int .i64 5) (k := (k : Int)) (g := w.heap.size + 1) (by rfl) (by rfl) (by rfl) (by rfl) c1' (by rfl) (PE.no HRR.out HJ3.out.sp.bl)
      · have e2 : ((ps.length : Int) == 64) = false := by rw [beq_eq_false_iff_ne]; omega
        obtain ⟨cb, hcb⟩ : ∃ cb, s[k]'hkl = cb := ⟨_, rfl⟩
        have hhead : (l.drop k).head? = some cb := by
          rw [drop_head (by rw [← HSL.out]; exact hkl), ← hcb]
          have := HL.out
          subst this
          rfl
        have hj0 : (0 : Int) ≤ (k : Int) := by omega
        have hj1 : (k : Int) < (s.size : Int) := by omega
        by_cases h91 : cb = 91
        · have e3 : ((cb.toNat : Int) != 91) = false := by rw [h91]; rfl
          obtain ⟨k1, hk1⟩ : ∃ k1, k + 1 = k1 := ⟨_, rfl⟩
          have q1 : (k : Int) + 1 = (k1 : Int) := by omega
          have q2 : IntKind.i64.wrap ((k : Int) + 1) = (k1 : Int) := by rw [q1]; exact IntWalk.i64_in _ (by omega)
          have q3 : (0 : Int) ≤ (k1 : Int) := by omega
          have q4 : (k1 : Int) ≤ (s.size : Int) := by omega
          have q5 : k1 ≤ s.size := by omega
          have hstp : stp (l.drop k) = (match stIn (l.drop k1) with
              | .inr (o, e) => .inr (1 + o, e)
              | .inl (x, n) => if (l.drop (k1 + n)).head? = some 93 then .inl (x, n + 2) else .inr (1 + n, 4)) := by
            unfold stp
            rw [hhead, if_pos (by rw [h91])]
            simp only [List.drop_drop, hk1, ← Nat.add_assoc]
            cases stIn (l.drop k1) with
            | inr x => rfl
            | inl x => rfl
          have HSTP := Lib.hid hstp
          have hpr : PR l k ps = R := H.out.pr
          have HPR := Lib.hid hpr
          have HNO : Hid (w.heap.size + 2 ≤ wr.heap.size ∧ (Value.slice A ps.length c).ownBlock ≠ some wr.heap.size) := Lib.hid ⟨HJ.out.sz, fun e => by have := (HJ.out.own.lt _ e).2; omega⟩
          have HLT := Lib.hid (show k < l.length by rw [← HSL.out]; exact hkl)
          have hJ1 := (HJ.out.set k1).below ((Below.refl _ _).alloc (Nat.le_refl _) (.cells #[.string ⟨#[]⟩, .int .i64 0, .bool false] 51))
          have hBX : Blk ((wr.setCell ⟨w.heap.size + 1, 0, none⟩ (.int .i64 (k1 : Int))).alloc (.cells #[.string ⟨#[]⟩, .int .i64 0, .bool false] 51)) wr.heap.size 51 #[.string ⟨#[]⟩, .int .i64 0, .bool false] := by
            have := Blk.new (wr.setCell ⟨w.heap.size + 1, 0, none⟩ (.int .i64 (k1 : Int))) 51 #[.string ⟨#[]⟩, .int .i64 0, .bool false]
            rwa [World.size_setCell] at this
          have hsb := HJ.out.sz
          have HSW := Lib.hid (fun W => swd_any (s.extract k1 s.size) (l.drop k1) (by rw [ps_drop, HL.out]) W)
          have HPX := Lib.hid (fun W => by have := Tryz.strings_HasPrefix (s.extract k1 s.size) ⟨#[34]⟩ W; rw [ps_drop, HL.out, pfx34] at this; exact this)
          simp only [dgs_pos] at HSW
          go_upto_region 10 with fail
          obtain ⟨W1, hW1⟩ : ∃ W1, (wr.setCell ⟨w.heap.size + 1, 0, none⟩ (.int .i64 (k1 : Int))).alloc (.cells #[.string ⟨#[]⟩, .int .i64 0, .bool false] 51) = W1 := ⟨_, rfl⟩
          rw [hW1] at hJ1 hBX
          rw [hW1]
          have HJ1 := Lib.hid hJ1
          have HBX := Lib.hid hBX
          have HK1 := Lib.hid hk1
          clear hW1 hJ1 hBX hstp hpr hhead hcb c0 c1 c2 hallJ hk1
          obtain ⟨c0, c1, c2⟩ := HJ1.out.cells
          by_cases hd : (dgs (l.drop k1)).length ≠ 0
          · rw [decide_eq_true hd] at HSW
            have HCLO := Lib.hid (index_any s l HL.out w.heap.size (w.heap.size + 1) k1 W1 HJ1.out.bs HJ1.out.ba (by omega) hd)
            obtain ⟨r, hst⟩ : ∃ r, stIn (l.drop k1) = r := ⟨_, rfl⟩
            have hfacts := stIn_facts hst
            rw [hst] at HCLO HSTP
            have hdl : (l.drop k1).length = s.size - k1 := by rw [List.length_drop, ← HSL.out]
            rcases r with ⟨x, n⟩ | ⟨o, er⟩
            · obtain ⟨k2, hk2⟩ : ∃ k2, k1 + n = k2 := ⟨_, rfl⟩
              have hn2 : n ≤ s.size - k1 := by rw [← hdl]; exact hfacts.1
              have hk2s : k2 ≤ s.size := by omega
              have hok : okR x := ⟨by have := hfacts.2.1; rw [hdl] at this; unfold maxLen; omega, by have := hfacts.2.2.1; omega, by have := hfacts.2.2.2; omega⟩
              have hst2 : stp (l.drop k) = if (l.drop k2).head? = some 93 then .inl (x, n + 2) else .inr (1 + n, 4) := by rw [HSTP.out, ← hk2]
              have HCL2 := HCLO
              have w1 : (0 : Int) ≤ (k2 : Int) := by omega
              have w2' : (k2 : Int) ≤ (s.size : Int) := by omega
              have HOK := Lib.hid hok
              by_cases h93 : (l.drop k2).head? = some 93
              · rw [if_pos h93] at hst2
                have hk2l : k2 < s.size := by
                  rcases Nat.lt_or_ge k2 s.size with h | h
                  · exact h
                  · rw [List.drop_eq_nil_of_le (by rw [← HSL.out]; exact h)] at h93; cases h93
                have HPB := Lib.hid (fun W => by have := Tryz.strings_HasPrefix (s.extract k2 s.size) ⟨#[93]⟩ W; rw [ps_drop, HL.out, pfx93, decide_eq_true h93] at this; exact this)
                obtain ⟨k3, hk3⟩ : ∃ k3, k2 + 1 = k3 := ⟨_, rfl⟩
                have t1 : (k2 : Int) + 1 = (k3 : Int) := by omega
                have t2 : IntKind.i64.wrap ((k2 : Int) + 1) = (k3 : Int) := by rw [t1]; exact IntWalk.i64_in _ (by omega)
                have hpr3 : PR l k3 (ps ++ [x]) = R := by
                  rw [← HPR.out, pr_step HLT.out h64 hst2]
                  congr 1
                  omega
                have HPR3 := Lib.hid hpr3
                have HK2 := Lib.hid hk2
                have HK3 := Lib.hid (show k3 ≤ s.size by omega)
                clear hst hk2 hfacts hst2 hpr3 hk3 h93 hok
                go_upto_region 16 with (first
                  | (go_at_call 52; refine (HSW.out _).mono ?_; rintro e w9 ⟨rfl, hw⟩; subst hw)
                  | (go_at_call 46; (with_reducible refine HCL2.out.mono ?_); rintro e w2 ⟨rfl, hex, hba⟩; rw [HK2.out] at hba; have HJ2 := Lib.hid (HJ1.out.ex hex hba); have hb2 := hex.blk HBX.out (by omega); have HB2 := Lib.hid hb2; have g0 := hb2.cell 0; have g1 := hb2.cell 1; have g2 := hb2.cell 2; have f0 := hb2.frozen 0; have f1 := hb2.frozen 1; have f2 := hb2.frozen 2; clear hex hba hb2))
                have HJ4 := Lib.hid (HJ2.out.box HNO.out (.string x.k) (.int .i64 x.a) (.bool x.b))
                have HB4 := Lib.hid (put3_blk HB2.out (.string x.k) (.int .i64 x.a) (.bool x.b))
                obtain ⟨W4, hW4⟩ : ∃ W4, put3 w2 wr.heap.size (.string x.k) (.int .i64 x.a) (.bool x.b) = W4 := ⟨_, rfl⟩
                rw [hW4] at HJ4 HB4
                unfold put3 at hW4
                rw [hW4]
                clear hW4 g0 g1 g2 f0 f1 f2 c0 c1 c2
                obtain ⟨c0, c1, c2⟩ := HJ4.out.cells
                go_upto_region 18 with (go_at_call 53; refine (HPB.out _).mono ?_; rintro e w5 ⟨rfl, hw5⟩; subst hw5)
                have HJ5 := Lib.hid (HJ4.out.set k3)
                have HB5 := Lib.hid (Blk.setOther (g := w.heap.size + 1) (i := 0) HB4.out (.int .i64 (k3 : Int)) (by omega))
                obtain ⟨W5, hW5⟩ : ∃ W5, w5.setCell ⟨w.heap.size + 1, 0, none⟩ (.int .i64 (k3 : Int)) = W5 := ⟨_, rfl⟩
                rw [hW5] at HJ5 HB5
                rw [hW5]
                clear hW5 c0 c1 c2
                have g0 := HB5.out.cell 0
                have g1 := HB5.out.cell 1
                have g2 := HB5.out.cell 2
                obtain ⟨i0, hi, hz0, hz1, hz2⟩ := info_parts infoSt
                have hj5 := HJ5.out.sz
                go_wp2_with (at_builtin; refine wpList_append_own_at _ rfl _ _ 22 rfl (w.heap.size + 2) 51 i0 _ 3 32 Tryz.underlying22 hi hz0 hz1 hz2 rfl (by decide) _ ps.length (pv ps) rfl (HJ5.out.own.alloc _) ⟨W5.heap.size, 0, none⟩ 1 1 [.string x.k, .int .i64 x.a, .bool x.b] rfl rfl ?q11 ?q12 ?q13 ?q14 ?q15 ?_; rotate_left 5; intro v' w6 hown6 hgrow6 _ _)
                · obtain ⟨A', c', rfl⟩ := (Ow.of hown6).shape
                  refine ⟨⟨k3, ps ++ [x], rfl, Lib.hid ⟨PJ.app HJ5.out HOK.out hown6 hgrow6, HK3.out, HPR3.out, by rw [List.length_append]; simp only [List.length_cons, List.length_nil]; omega⟩⟩, ?_⟩
                  show 65 - (ps.length + 1) < 65 - ps.length
                  omega
                case q11 => exact cells_new _ _ _
                case q12 =>
                  intro u hu
                  simp only [List.mem_cons, List.not_mem_nil, or_false] at hu
                  rcases hu with rfl | rfl | rfl <;> rfl
                case q13 => unfold maxLen; omega
                case q14 => omega
                case q15 => rw [World.size_alloc]; omega
              · rw [if_neg h93] at hst2
                have HPB := Lib.hid (fun W => by have := Tryz.strings_HasPrefix (s.extract k2 s.size) ⟨#[93]⟩ W; rw [ps_drop, HL.out, pfx93, decide_eq_false h93] at this; exact this)
                have hr : R = ([], k2, 4) := by
                  rw [← HPR.out, pr_bad (o := 1 + n) HLT.out h64 hst2]
                  congr 2
                  omega
                have HRR := Lib.hid hr
                have HK2 := Lib.hid hk2
                clear hst hk2 hfacts hst2 hr h93 hok
                go_upto_region 16 with (first
                  | (go_at_call 52; refine (HSW.out _).mono ?_; rintro e w9 ⟨rfl, hw⟩; subst hw)
                  | (go_at_call 46; (with_reducible refine HCL2.out.mono ?_); rintro e w2 ⟨rfl, hex, hba⟩; rw [HK2.out] at hba; have HJ2 := Lib.hid (HJ1.out.ex hex hba); have hb2 := hex.blk HBX.out (by omega); have HB2 := Lib.hid hb2; have g0 := hb2.cell 0; have g1 := hb2.cell 1; have g2 := hb2.cell 2; have f0 := hb2.frozen 0; have f1 := hb2.frozen 1; have f2 := hb2.frozen 2; clear hex hba hb2))
                have HJ4 := Lib.hid (HJ2.out.box HNO.out (.string x.k) (.int .i64 x.a) (.bool x.b))
                have HB4 := Lib.hid (put3_blk HB2.out (.string x.k) (.int .i64 x.a) (.bool x.b))
                obtain ⟨W4, hW4⟩ : ∃ W4, put3 w2 wr.heap.size (.string x.k) (.int .i64 x.a) (.bool x.b) = W4 := ⟨_, rfl⟩
                rw [hW4] at HJ4 HB4
                unfold put3 at hW4
                rw [hW4]
                clear hW4 g0 g1 g2 f0 f1 f2 c0 c1 c2
                obtain ⟨c0, c1, c2⟩ := HJ4.out.cells
                go_wp2_with (go_at_call 53; refine (HPB.out _).mono ?_; rintro e w5 ⟨rfl, hw5⟩; subst hw5)
                have hallK : ∀ W, Hid (PJ w s (.slice A ps.length c) k2 ps W) → Hid (PJ w s (.slice A ps.length c) k2 ps W) ∧ W.cell? ⟨w.heap.size + 1, 0, none⟩ = some (.int .i64 (k2 : Int)) ∧ W.frozen? ⟨w.heap.size + 1, 0, none⟩ = false := fun W h => ⟨h, h.out.cells.2.1, h.out.cells.2.2⟩
                have HJd := Lib.hid (HJ4.out.below (Below.refl _ _).drew)
                go_region_held3 (fun W => Hid (PJ w s (.slice A ps.length c) k2 ps W) ∧ W.cell? ⟨w.heap.size + 1, 0, none⟩ = some (.int .i64 (k2 : Int)) ∧ W.frozen? ⟨w.heap.size + 1, 0, none⟩ = false) (with_reducible first | exact hallK _ (by assumption) | exact hallK _ (Lib.hid (PJ.set (Hid.out (by assumption)) k2))) (fail)
                have HJ3 := Lib.hid ((HJ4.out.set k2).below (Below.refl _ _).drew)
                obtain ⟨_, c1', _⟩ := HJ3.out.cells
                go_wp2_with fail
                try rw [Exit.noGoto_ret]
                exact ret_pae (v := .slice none 0 0) (u := .int .i64 4) (k := (k2 : Int)) (g := w.heap.size + 1) (by rfl) (by rfl) (by rfl) (by rfl) c1' (by rfl) (PE.no HRR.out HJ3.out.sp.bl)
            · obtain ⟨k2, hk2⟩ : ∃ k2, k1 + o = k2 := ⟨_, rfl⟩
              have hr : R = ([], k2, er) := by
                rw [← HPR.out]
                have := pr_bad (o := 1 + o) HLT.out h64 HSTP.out
                rw [this]
                congr 2
                omega
              have HRR := Lib.hid hr
              have hee : ((er : Int) != 0) = true := neB (by have := hfacts.1; omega)
              have HK2 := Lib.hid hk2
              clear hr hst hk2 hfacts
              go_wp2_with (first
                | (go_at_call 52; refine (HSW.out _).mono ?_; rintro e w9 ⟨rfl, hw⟩; subst hw)
                | (go_at_call 46; (with_reducible refine HCLO.out.mono ?_); rintro e w2 ⟨rfl, hex, hba⟩; rw [HK2.out] at hba; have HJ2 := Lib.hid (HJ1.out.ex hex hba); have hb2 := hex.blk HBX.out (by omega); have HB2 := Lib.hid hb2; have g0 := hb2.cell 0; have g1 := hb2.cell 1; have g2 := hb2.cell 2; have f0 := hb2.frozen 0; have f1 := hb2.frozen 1; have f2 := hb2.frozen 2; clear hex hba hb2))
              have HJ4 := Lib.hid (HJ2.out.box HNO.out (.string ⟨#[]⟩) (.int .i64 0) (.bool false))
              obtain ⟨W4, hW4⟩ : ∃ W4, put3 w2 wr.heap.size (.string ⟨#[]⟩) (.int .i64 0) (.bool false) = W4 := ⟨_, rfl⟩
              rw [hW4] at HJ4
              unfold put3 at hW4
              rw [hW4]
              clear hW4 g0 g1 g2 f0 f1 f2 c0 c1 c2
              obtain ⟨c0, c1, c2⟩ := HJ4.out.cells
              have hallK : ∀ W, Hid (PJ w s (.slice A ps.length c) k2 ps W) → Hid (PJ w s (.slice A ps.length c) k2 ps W) ∧ W.cell? ⟨w.heap.size + 1, 0, none⟩ = some (.int .i64 (k2 : Int)) ∧ W.frozen? ⟨w.heap.size + 1, 0, none⟩ = false := fun W h => ⟨h, h.out.cells.2.1, h.out.cells.2.2⟩
              have HJd := Lib.hid (HJ4.out.below (Below.refl _ _).drew)
              go_region_held3 (fun W => Hid (PJ w s (.slice A ps.length c) k2 ps W) ∧ W.cell? ⟨w.heap.size + 1, 0, none⟩ = some (.int .i64 (k2 : Int)) ∧ W.frozen? ⟨w.heap.size + 1, 0, none⟩ = false) (with_reducible first | exact hallK _ (by assumption) | exact hallK _ (Lib.hid (PJ.set (Hid.out (by assumption)) k2))) (fail)
              have HJ3 := Lib.hid ((HJ4.out.set k2).below (Below.refl _ _).drew)
              obtain ⟨_, c1', _⟩ := HJ3.out.cells
              go_wp2_with fail
              try rw [Exit.noGoto_ret]
              exact ret_pae (v := .slice none 0 0) (u := .int .i64 er) (k := (k2 : Int)) (g := w.heap.size + 1) (by rfl) (by rfl) (by rfl) (by rfl) c1' (by rfl) (PE.no HRR.out HJ3.out.sp.bl)
          · rw [decide_eq_false hd] at HSW
            have hd0 : (dgs (l.drop k1)).length = 0 := by omega
            by_cases h34 : (l.drop k1).head? = some 34
            · rw [decide_eq_true h34] at HPX
              have HCLO := Lib.hid (name_any s l HL.out w.heap.size (w.heap.size + 1) k1 W1 HJ1.out.sp.lp HJ1.out.bs HJ1.out.ba hs q5 hd0 h34)
              obtain ⟨r, hst⟩ : ∃ r, stIn (l.drop k1) = r := ⟨_, rfl⟩
              have hfacts := stIn_facts hst
              rw [hst] at HCLO HSTP
              have hdl : (l.drop k1).length = s.size - k1 := by rw [List.length_drop, ← HSL.out]
              rcases r with ⟨x, n⟩ | ⟨o, er⟩
              · obtain ⟨k2, hk2⟩ : ∃ k2, k1 + n = k2 := ⟨_, rfl⟩
                have hn2 : n ≤ s.size - k1 := by rw [← hdl]; exact hfacts.1
                have hk2s : k2 ≤ s.size := by omega
                have hok : okR x := ⟨by have := hfacts.2.1; rw [hdl] at this; unfold maxLen; omega, by have := hfacts.2.2.1; omega, by have := hfacts.2.2.2; omega⟩
                have hst2 : stp (l.drop k) = if (l.drop k2).head? = some 93 then .inl (x, n + 2) else .inr (1 + n, 4) := by rw [HSTP.out, ← hk2]
                have HCL2 := HCLO
                have w1 : (0 : Int) ≤ (k2 : Int) := by omega
                have w2' : (k2 : Int) ≤ (s.size : Int) := by omega
                have HOK := Lib.hid hok
                by_cases h93 : (l.drop k2).head? = some 93
                · rw [if_pos h93] at hst2
                  have hk2l : k2 < s.size := by
                    rcases Nat.lt_or_ge k2 s.size with h | h
                    · exact h
                    · rw [List.drop_eq_nil_of_le (by rw [← HSL.out]; exact h)] at h93; cases h93
                  have HPB := Lib.hid (fun W => by have := Tryz.strings_HasPrefix (s.extract k2 s.size) ⟨#[93]⟩ W; rw [ps_drop, HL.out, pfx93, decide_eq_true h93] at this; exact this)
                  obtain ⟨k3, hk3⟩ : ∃ k3, k2 + 1 = k3 := ⟨_, rfl⟩
                  have t1 : (k2 : Int) + 1 = (k3 : Int) := by omega
                  have t2 : IntKind.i64.wrap ((k2 : Int) + 1) = (k3 : Int) := by rw [t1]; exact IntWalk.i64_in _ (by omega)
                  have hpr3 : PR l k3 (ps ++ [x]) = R := by
                    rw [← HPR.out, pr_step HLT.out h64 hst2]
                    congr 1
                    omega
                  have HPR3 := Lib.hid hpr3
                  have HK2 := Lib.hid hk2
                  have HK3 := Lib.hid (show k3 ≤ s.size by omega)
                  clear hst hk2 hfacts hst2 hpr3 hk3 h93 hok
                  go_upto_region 16 with (first
                    | (go_at_call 52; refine (HSW.out _).mono ?_; rintro e w9 ⟨rfl, hw⟩; subst hw) | (go_at_call 53; refine (HPX.out _).mono ?_; rintro e w8 ⟨rfl, rfl⟩)
                    | (go_at_call 49; (with_reducible refine HCL2.out.mono ?_); rintro e w2 ⟨rfl, hex, hba⟩; rw [HK2.out] at hba; have HJ2 := Lib.hid (HJ1.out.ex hex hba); have hb2 := hex.blk HBX.out (by omega); have HB2 := Lib.hid hb2; have g0 := hb2.cell 0; have g1 := hb2.cell 1; have g2 := hb2.cell 2; have f0 := hb2.frozen 0; have f1 := hb2.frozen 1; have f2 := hb2.frozen 2; clear hex hba hb2))
                  have HJ4 := Lib.hid (HJ2.out.box HNO.out (.string x.k) (.int .i64 x.a) (.bool x.b))
                  have HB4 := Lib.hid (put3_blk HB2.out (.string x.k) (.int .i64 x.a) (.bool x.b))
                  obtain ⟨W4, hW4⟩ : ∃ W4, put3 w2 wr.heap.size (.string x.k) (.int .i64 x.a) (.bool x.b) = W4 := ⟨_, rfl⟩
                  rw [hW4] at HJ4 HB4
                  unfold put3 at hW4
                  rw [hW4]
                  clear hW4 g0 g1 g2 f0 f1 f2 c0 c1 c2
                  obtain ⟨c0, c1, c2⟩ := HJ4.out.cells
                  go_upto_region 18 with (go_at_call 53; refine (HPB.out _).mono ?_; rintro e w5 ⟨rfl, hw5⟩; subst hw5)
                  have HJ5 := Lib.hid (HJ4.out.set k3)
                  have HB5 := Lib.hid (Blk.setOther (g := w.heap.size + 1) (i := 0) HB4.out (.int .i64 (k3 : Int)) (by omega))
                  obtain ⟨W5, hW5⟩ : ∃ W5, w5.setCell ⟨w.heap.size + 1, 0, none⟩ (.int .i64 (k3 : Int)) = W5 := ⟨_, rfl⟩
                  rw [hW5] at HJ5 HB5
                  rw [hW5]
                  clear hW5 c0 c1 c2
                  have g0 := HB5.out.cell 0
                  have g1 := HB5.out.cell 1
                  have g2 := HB5.out.cell 2
                  obtain ⟨i0, hi, hz0, hz1, hz2⟩ := info_parts infoSt
                  have hj5 := HJ5.out.sz
                  go_wp2_with (at_builtin; refine wpList_append_own_at _ rfl _ _ 22 rfl (w.heap.size + 2) 51 i0 _ 3 32 Tryz.underlying22 hi hz0 hz1 hz2 rfl (by decide) _ ps.length (pv ps) rfl (HJ5.out.own.alloc _) ⟨W5.heap.size, 0, none⟩ 1 1 [.string x.k, .int .i64 x.a, .bool x.b] rfl rfl ?q21 ?q22 ?q23 ?q24 ?q25 ?_; rotate_left 5; intro v' w6 hown6 hgrow6 _ _)
                  · obtain ⟨A', c', rfl⟩ := (Ow.of hown6).shape
                    refine ⟨⟨k3, ps ++ [x], rfl, Lib.hid ⟨PJ.app HJ5.out HOK.out hown6 hgrow6, HK3.out, HPR3.out, by rw [List.length_append]; simp only [List.length_cons, List.length_nil]; omega⟩⟩, ?_⟩
                    show 65 - (ps.length + 1) < 65 - ps.length
                    omega
                  case q21 => exact cells_new _ _ _
                  case q22 =>
                    intro u hu
                    simp only [List.mem_cons, List.not_mem_nil, or_false] at hu
                    rcases hu with rfl | rfl | rfl <;> rfl
                  case q23 => unfold maxLen; omega
                  case q24 => omega
                  case q25 => rw [World.size_alloc]; omega
                · rw [if_neg h93] at hst2
                  have HPB := Lib.hid (fun W => by have := Tryz.strings_HasPrefix (s.extract k2 s.size) ⟨#[93]⟩ W; rw [ps_drop, HL.out, pfx93, decide_eq_false h93] at this; exact this)
                  have hr : R = ([], k2, 4) := by
                    rw [← HPR.out, pr_bad (o := 1 + n) HLT.out h64 hst2]
                    congr 2
                    omega
                  have HRR := Lib.hid hr
                  have HK2 := Lib.hid hk2
                  clear hst hk2 hfacts hst2 hr h93 hok
                  go_upto_region 16 with (first
                    | (go_at_call 52; refine (HSW.out _).mono ?_; rintro e w9 ⟨rfl, hw⟩; subst hw) | (go_at_call 53; refine (HPX.out _).mono ?_; rintro e w8 ⟨rfl, rfl⟩)
                    | (go_at_call 49; (with_reducible refine HCL2.out.mono ?_); rintro e w2 ⟨rfl, hex, hba⟩; rw [HK2.out] at hba; have HJ2 := Lib.hid (HJ1.out.ex hex hba); have hb2 := hex.blk HBX.out (by omega); have HB2 := Lib.hid hb2; have g0 := hb2.cell 0; have g1 := hb2.cell 1; have g2 := hb2.cell 2; have f0 := hb2.frozen 0; have f1 := hb2.frozen 1; have f2 := hb2.frozen 2; clear hex hba hb2))
                  have HJ4 := Lib.hid (HJ2.out.box HNO.out (.string x.k) (.int .i64 x.a) (.bool x.b))
                  have HB4 := Lib.hid (put3_blk HB2.out (.string x.k) (.int .i64 x.a) (.bool x.b))
                  obtain ⟨W4, hW4⟩ : ∃ W4, put3 w2 wr.heap.size (.string x.k) (.int .i64 x.a) (.bool x.b) = W4 := ⟨_, rfl⟩
                  rw [hW4] at HJ4 HB4
                  unfold put3 at hW4
                  rw [hW4]
                  clear hW4 g0 g1 g2 f0 f1 f2 c0 c1 c2
                  obtain ⟨c0, c1, c2⟩ := HJ4.out.cells
                  go_wp2_with (go_at_call 53; refine (HPB.out _).mono ?_; rintro e w5 ⟨rfl, hw5⟩; subst hw5)
                  have hallK : ∀ W, Hid (PJ w s (.slice A ps.length c) k2 ps W) → Hid (PJ w s (.slice A ps.length c) k2 ps W) ∧ W.cell? ⟨w.heap.size + 1, 0, none⟩ = some (.int .i64 (k2 : Int)) ∧ W.frozen? ⟨w.heap.size + 1, 0, none⟩ = false := fun W h => ⟨h, h.out.cells.2.1, h.out.cells.2.2⟩
                  have HJd := Lib.hid (HJ4.out.below (Below.refl _ _).drew)
                  go_region_held3 (fun W => Hid (PJ w s (.slice A ps.length c) k2 ps W) ∧ W.cell? ⟨w.heap.size + 1, 0, none⟩ = some (.int .i64 (k2 : Int)) ∧ W.frozen? ⟨w.heap.size + 1, 0, none⟩ = false) (with_reducible first | exact hallK _ (by assumption) | exact hallK _ (Lib.hid (PJ.set (Hid.out (by assumption)) k2))) (fail)
                  have HJ3 := Lib.hid ((HJ4.out.set k2).below (Below.refl _ _).drew)
                  obtain ⟨_, c1', _⟩ := HJ3.out.cells
                  go_wp2_with fail
                  try rw [Exit.noGoto_ret]
                  exact ret_pae (v := .slice none 0 0) (u := .int .i64 4) (k := (k2 : Int)) (g := w.heap.size + 1) (by rfl) (by rfl) (by rfl) (by rfl) c1' (by rfl) (PE.no HRR.out HJ3.out.sp.bl)
              · obtain ⟨k2, hk2⟩ : ∃ k2, k1 + o = k2 := ⟨_, rfl⟩
                have hr : R = ([], k2, er) := by
                  rw [← HPR.out]
                  have := pr_bad (o := 1 + o) HLT.out h64 HSTP.out
                  rw [this]
                  congr 2
                  omega
                have HRR := Lib.hid hr
                have hee : ((er : Int) != 0) = true := neB (by have := hfacts.1; omega)
                have HK2 := Lib.hid hk2
                clear hr hst hk2 hfacts
                go_wp2_with (first
                  | (go_at_call 52; refine (HSW.out _).mono ?_; rintro e w9 ⟨rfl, hw⟩; subst hw) | (go_at_call 53; refine (HPX.out _).mono ?_; rintro e w8 ⟨rfl, rfl⟩)
                  | (go_at_call 49; (with_reducible refine HCLO.out.mono ?_); rintro e w2 ⟨rfl, hex, hba⟩; rw [HK2.out] at hba; have HJ2 := Lib.hid (HJ1.out.ex hex hba); have hb2 := hex.blk HBX.out (by omega); have HB2 := Lib.hid hb2; have g0 := hb2.cell 0; have g1 := hb2.cell 1; have g2 := hb2.cell 2; have f0 := hb2.frozen 0; have f1 := hb2.frozen 1; have f2 := hb2.frozen 2; clear hex hba hb2))
                have HJ4 := Lib.hid (HJ2.out.box HNO.out (.string ⟨#[]⟩) (.int .i64 0) (.bool false))
                obtain ⟨W4, hW4⟩ : ∃ W4, put3 w2 wr.heap.size (.string ⟨#[]⟩) (.int .i64 0) (.bool false) = W4 := ⟨_, rfl⟩
                rw [hW4] at HJ4
                unfold put3 at hW4
                rw [hW4]
                clear hW4 g0 g1 g2 f0 f1 f2 c0 c1 c2
                obtain ⟨c0, c1, c2⟩ := HJ4.out.cells
                have hallK : ∀ W, Hid (PJ w s (.slice A ps.length c) k2 ps W) → Hid (PJ w s (.slice A ps.length c) k2 ps W) ∧ W.cell? ⟨w.heap.size + 1, 0, none⟩ = some (.int .i64 (k2 : Int)) ∧ W.frozen? ⟨w.heap.size + 1, 0, none⟩ = false := fun W h => ⟨h, h.out.cells.2.1, h.out.cells.2.2⟩
                have HJd := Lib.hid (HJ4.out.below (Below.refl _ _).drew)
                go_region_held3 (fun W => Hid (PJ w s (.slice A ps.length c) k2 ps W) ∧ W.cell? ⟨w.heap.size + 1, 0, none⟩ = some (.int .i64 (k2 : Int)) ∧ W.frozen? ⟨w.heap.size + 1, 0, none⟩ = false) (with_reducible first | exact hallK _ (by assumption) | exact hallK _ (Lib.hid (PJ.set (Hid.out (by assumption)) k2))) (fail)
                have HJ3 := Lib.hid ((HJ4.out.set k2).below (Below.refl _ _).drew)
                obtain ⟨_, c1', _⟩ := HJ3.out.cells
                go_wp2_with fail
                try rw [Exit.noGoto_ret]
                exact ret_pae (v := .slice none 0 0) (u := .int .i64 er) (k := (k2 : Int)) (g := w.heap.size + 1) (by rfl) (by rfl) (by rfl) (by rfl) c1' (by rfl) (PE.no HRR.out HJ3.out.sp.bl)
            · rw [decide_eq_false h34] at HPX
              have hr : R = ([], k1, 4) := by
                rw [← HPR.out, pr_bad (o := 1) (e := 4) HLT.out h64 (by rw [HSTP.out]; unfold stIn; rw [if_neg hd, if_neg h34])]
                congr 1
                have := HK1.out
                congr 1
              have HRR := Lib.hid hr
              clear hr h34 hd0
              go_wp2_with (first
                | (go_at_call 52; refine (HSW.out _).mono ?_; rintro e w9 ⟨rfl, hw⟩; subst hw)
                | (go_at_call 53; refine (HPX.out _).mono ?_; rintro e w8 ⟨rfl, hw8⟩; subst hw8))
              have hallK : ∀ W, Hid (PJ w s (.slice A ps.length c) k1 ps W) → Hid (PJ w s (.slice A ps.length c) k1 ps W) ∧ W.cell? ⟨w.heap.size + 1, 0, none⟩ = some (.int .i64 (k1 : Int)) ∧ W.frozen? ⟨w.heap.size + 1, 0, none⟩ = false := fun W h => ⟨h, h.out.cells.2.1, h.out.cells.2.2⟩
              have HJd := Lib.hid (HJ1.out.below (Below.refl _ _).drew)
              go_region_held3 (fun W => Hid (PJ w s (.slice A ps.length c) k1 ps W) ∧ W.cell? ⟨w.heap.size + 1, 0, none⟩ = some (.int .i64 (k1 : Int)) ∧ W.frozen? ⟨w.heap.size + 1, 0, none⟩ = false) (with_reducible first | exact hallK _ (by assumption) | exact hallK _ (Lib.hid (PJ.set (Hid.out (by assumption)) k1))) (fail)
              have HJ3 := Lib.hid ((HJ1.out.set k1).below (Below.refl _ _).drew)
              obtain ⟨_, c1', _⟩ := HJ3.out.cells
              go_wp2_with fail
              try rw [Exit.noGoto_ret]
              exact ret_pae (v := .slice none 0 0) (u := .int .i64 4) (k := (k1 : Int)) (g := w.heap.size + 1) (by rfl) (by rfl) (by rfl) (by rfl) c1' (by rfl) (PE.no HRR.out HJ3.out.sp.bl)
        · have e3 : ((cb.toNat : Int) != 91) = true := neB (by intro h; apply h91; apply UInt8.toNat_inj.1; show cb.toNat = 91; omega)
          have hr : R = ([], k, 4) := by
            rw [← H.out.pr]
            exact pr_bad (o := 0) (by rw [← HSL.out]; exact hkl) h64 (by unfold stp; rw [hhead, if_neg (by simpa using h91)])
          have HRR := Lib.hid hr
          clear hr hhead h91
          go_wp2_with fail
          have hallK : ∀ W, Hid (PJ w s (.slice A ps.length c) k ps W) → Hid (PJ w s (.slice A ps.length c) k ps W) ∧ W.cell? ⟨w.heap.size + 1, 0, none⟩ = some (.int .i64 (k : Int)) ∧ W.frozen? ⟨w.heap.size + 1, 0, none⟩ = false := fun W h => ⟨h, h.out.cells.2.1, h.out.cells.2.2⟩
          have HJd := Lib.hid (HJ.out.below (Below.refl _ _).drew)
          go_region_held3 (fun W => Hid (PJ w s (.slice A ps.length c) k ps W) ∧ W.cell? ⟨w.heap.size + 1, 0, none⟩ = some (.int .i64 (k : Int)) ∧ W.frozen? ⟨w.heap.size + 1, 0, none⟩ = false) (with_reducible first | exact hallK _ (by assumption) | exact hallK _ (Lib.hid (PJ.set (Hid.out (by assumption)) k))) (fail)
          have HJ3 := Lib.hid ((HJ.out.set k).below (Below.refl _ _).drew)
          obtain ⟨_, c1', _⟩ := HJ3.out.cells
          go_wp2_with fail
          try rw [Exit.noGoto_ret]
          exact ret_pae (v := .slice none 0 0) (u := .int .i64 4) (k := (k : Int)) (g := w.heap.size + 1) (by rfl) (by rfl) (by rfl) (by rfl) c1' (by rfl) (PE.no HRR.out HJ3.out.sp.bl)
end Go.Proofs.YtjnfilbdokppiaaGreatDoor
namespace Go.Proofs.YtjnfilbdokppiaaGreatDoor
open Go.RowKit U U.Ut

def sh40 (s : Stp) : Stp := ⟨str (s.k.data.toList.take 40), s.a, s.b⟩
def cut8 (ps : List Stp) : List Stp := (ps.take 70).map sh40
theorem str_size (l : List UInt8) : (str l).size = l.length := by
  rw [Lib.size_eq]
  rfl
theorem sh40_size (s : Stp) : (sh40 s).k.size ≤ 40 := by
  show (str (s.k.data.toList.take 40)).size ≤ 40
  rw [str_size, List.length_take]
  omega
theorem sh40_ok {s : Stp} (h : okR s) : okR (sh40 s) := ⟨by have := sh40_size s; unfold maxLen; omega, h.2⟩
theorem cut8_ok {ps : List Stp} (h : ∀ s ∈ ps, okR s) : ∀ s ∈ cut8 ps, okR s := by
  intro s hs
  obtain ⟨x, hx, rfl⟩ := List.mem_map.1 hs
  exact sh40_ok (h x (List.mem_of_mem_take hx))
theorem cut8_len (ps : List Stp) : (cut8 ps).length ≤ 70 := by
  unfold cut8
  rw [List.length_map, List.length_take]
  omega
theorem cut8_small (ps : List Stp) : ∀ s ∈ cut8 ps, s.k.size ≤ 40 := by
  intro s hs
  obtain ⟨x, _, rfl⟩ := List.mem_map.1 hs
  exact sh40_size x
theorem short40 (s : ByteArray) (w : World) (hs : s.size ≤ maxLen) :
    Calls Tryz.prog 18 #[.string s, .int .i64 40] w fun e w' => e = .returned (.string (str (s.data.toList.take 40))) ∧ w = w' := U.short_any s 40 w hs
theorem take_row {ps : List Stp} {j : Nat} {x : Stp} (h : ps[j]? = some x) : pv ((ps.take (j + 1)).map sh40) = pv ((ps.take j).map sh40) ++ [.string (str (x.k.data.toList.take 40)), .int .i64 x.a, .bool x.b] := by
  rw [List.take_add_one, h, Option.toList_some, List.map_append, pv_app]
  rfl

set_option maxRecDepth 100000 in
set_option maxHeartbeats 2000000 in
theorem cut8_any (ps : List Stp) (v : Value) (w : World) (h : RdP w v ps) :
    Calls Tryz.prog 13 #[v] w fun e w' => (∃ v', e = .returned v' ∧ w'.ownsRow w.heap.size 51 3 v' (cut8 ps).length (pv (cut8 ps))) ∧ Below w.heap.size w w' := by
  obtain ⟨A, n, c, rfl, hn, hnc, hc, hok, hA⟩ := h.at
  have hmx : n ≤ 9223372036854775807 := Nat.le_trans hnc hc
  obtain ⟨i0, hi, hz0, hz1, hz2⟩ := info_parts infoSt
  go_enter Tryz.func13, Tryz.ntmps13
  go_wp2
  go_loopw [3, 4] (fun v i wr => ∃ j : Nat, j ≤ n ∧ j ≤ 70 ∧ i = .int .i64 (j : Int) ∧ Hid (wr.ownsRow w.heap.size 51 3 v j (pv ((ps.take j).map sh40))) ∧ Hid (Below w.heap.size w wr)) (fun v i _ => 70 - (intOf i).toNat)
  case atStart => exact ⟨0, Nat.zero_le _, Nat.zero_le _, rfl, World.ownsRow_nil _ _ _ _, Below.refl _ _⟩
  case round =>
    obtain ⟨j, hj, hj70, rfl, HO, HB⟩ := hrel
    by_cases hjn : j < n
    · by_cases hj7 : j < 70
      · obtain ⟨x, hx⟩ : ∃ x, ps[j]? = some x := ⟨_, List.getElem?_eq_getElem (by omega)⟩
        obtain ⟨b1, off1, rfl, _, hc1⟩ := hA (by omega)
        obtain ⟨c0, c1, c2⟩ := hc1 wr HB.out j x hx
        have hxs := (hok x (List.mem_of_getElem? hx)).1
        have HT := Lib.hid (take_row hx)
        have HSZ : Hid (w.heap.size ≤ wr.heap.size) := Lib.hid HB.out.size
        clear hc1 hx
        go_wp2_with (first
          | (go_at_call 18; refine (short40 x.k _ hxs).mono ?_; rintro e w2 ⟨rfl, rfl⟩)
          | (at_builtin; refine wpList_append_own_at _ rfl _ _ 22 rfl w.heap.size 51 i0 _ 3 32 Tryz.underlying22 hi hz0 hz1 hz2 rfl (by decide) _ j (pv ((ps.take j).map sh40)) rfl ((HO.out.alloc _).alloc _) ⟨wr.heap.size + 1, 0, none⟩ 1 1 [.string (str (x.k.data.toList.take 40)), .int .i64 x.a, .bool x.b] rfl rfl ?q1 ?q2 ?q3 ?q4 ?q5 ?_; rotate_left 5; intro v' w3 hown3 hgrow3 _ _))
        · have HB3 : Below w.heap.size w w3 := ((HB.out.alloc HSZ.out _).alloc (by rw [World.size_alloc]; have := HSZ.out; omega) _).grown hgrow3 (by rw [World.size_alloc, World.size_alloc]; have := HSZ.out; omega) (fun k hk => (HO.out.lt k hk).1)
          have HO3 : Hid (w3.ownsRow w.heap.size 51 3 v' (j + 1) (pv ((ps.take (j + 1)).map sh40))) := Lib.hid (by rw [HT.out]; exact hown3)
          go_roundw
          case rel => exact ⟨j + 1, by omega, by omega, by simp, HO3, Lib.hid HB3⟩
          case measure => simp [intOf]; omega
        case q1 => rw [← World.size_alloc wr]; exact cells_new _ _ _
        case q2 =>
          intro u hu
          simp only [List.mem_cons, List.not_mem_nil, or_false] at hu
          rcases hu with rfl | rfl | rfl <;> rfl
        case q3 => unfold maxLen; omega
        case q4 => omega
        case q5 => rw [World.size_alloc, World.size_alloc]; have := HSZ.out; omega
      · have HE : Hid ((ps.take j).map sh40 = cut8 ps) := Lib.hid (by unfold cut8; rw [show j = 70 by omega])
        have HLN : Hid ((cut8 ps).length = j) := Lib.hid (by rw [← HE.out, List.length_map, List.length_take]; omega)
        go_wp2
        go_ret
        exact ⟨⟨_, rfl, by rw [HLN.out, ← HE.out]; exact HO.out⟩, HB.out⟩
    · have HE : Hid ((ps.take j).map sh40 = cut8 ps) := Lib.hid (by unfold cut8; rw [List.take_of_length_le (by omega), List.take_of_length_le (by omega)])
      have HLN : Hid ((cut8 ps).length = j) := Lib.hid (by rw [← HE.out, List.length_map, List.length_take]; omega)
      go_wp2
      go_ret
      exact ⟨⟨_, rfl, by rw [HLN.out, ← HE.out]; exact HO.out⟩, HB.out⟩
end Go.Proofs.YtjnfilbdokppiaaGreatDoor
