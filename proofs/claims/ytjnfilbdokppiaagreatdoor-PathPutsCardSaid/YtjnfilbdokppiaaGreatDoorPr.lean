/-
  What is proved here: contracts of path.follow and path.Get; conditions: those that each states (sizes); and: plain facts of rows of nodes of which one is replaced; no condition but those that each fact states; and: contracts of path.replace and path.Set; conditions: those that each states (sizes).
-/
import Derived.Test.YtjnfilbdokppiaaGreatDoorPf
import Derived.Test.YtjnfilbdokppiaaGreatDoorCutR
namespace Go.Proofs.YtjnfilbdokppiaaGreatDoor
open Go.RowKit

theorem indexS_any (ks : List ByteArray) (v : Value) (x : ByteArray) (w : World) (h : RdS w v ks) :
    Calls Tryz.prog 86 #[v, .string x] w fun e w' => e = .returned (.int .i64 (Lib.idxOfS ks x)) ∧ w' = w := by
  obtain ⟨A, n, c, rfl, hn, hnc, hc, hs, hA⟩ := h
  by_cases h0 : n = 0
  · subst h0
    obtain rfl : ks = [] := List.eq_nil_of_length_eq_zero hn
    exact Tryz.slices_Index_string_empty A c x w
  · obtain ⟨b, off, rfl, _, hcell⟩ := hA (by omega)
    have C := Tryz.slices_Index_string b off n c ks x w (by omega) (by unfold maxLen at hc; omega) (fun j hj => by
      rw [hcell j (ks.getD j ByteArray.empty) (by simp [List.getD, hj])])
    rw [List.take_of_length_le (by omega)] at C
    exact C

def zeroL : List Value := [.int .i64 0, .int .i64 0, .int .u64 0, .string ⟨#[]⟩, .slice none 0 0, .slice none 0 0]
theorem lead_num {o : Option Nat} {I m : Int} (h : o = if 0 ≤ I ∧ I < m then some I.toNat else none) : ∀ n, o = some n → I = (n : Int) := by
  intro n hn
  rw [h] at hn
  split at hn
  · injection hn with hn; omega
  · cases hn
theorem lead_ret {o : Option Nat} {I m : Int} (h : o = if 0 ≤ I ∧ I < m then some I.toNat else none) (h0 : 0 ≤ I) : Ending.returned (.tuple #[.int .i64 I, .bool (decide (I < m))]) = .returned (.tuple #[.int .i64 I, .bool o.isSome]) := by
  rw [h]
  by_cases h1 : I < m
  · rw [if_pos ⟨h0, h1⟩, decide_eq_true h1]; rfl
  · rw [if_neg (fun x => h1 x.2), decide_eq_false h1]; rfl
theorem lead_ret0 {o : Option Nat} {I m : Int} (h : o = if 0 ≤ I ∧ I < m then some I.toNat else none) (h0 : ¬ 0 ≤ I) : Ending.returned (.tuple #[.int .i64 I, .bool false]) = .returned (.tuple #[.int .i64 I, .bool o.isSome]) := by
  rw [h, if_neg (fun x => h0 x.1)]; rfl

theorem ret_six2 {f : Func} {R : Ending → World → Prop} {a : Act} {w : World} {p q : Tmp} {g : Nat} {v v0 v1 v2 v3 v4 v5 : Value} (hres : f.results = #[.cell p 38, .tmp q]) (hp : a.tmps.getD p undef = .pointer (some ⟨g, 0, none⟩)) (hq : a.tmps.getD q undef = v)
    (hB : Bx w g v0 v1 v2 v3 v4 v5) (hd : a.defers = []) (hR : R (.returned (.tuple #[.agg #[v0, v1, v2, v3, v4, v5], v])) w) : bodyPost Tryz.prog f R .ret a w := by
  refine bodyPost_ret ?_ hd hR
  have hp' : a.tmps[p]?.getD undef = .pointer (some ⟨g, 0, none⟩) := by simpa using hp
  have hq' : a.tmps[q]?.getD undef = v := by simpa using hq
  simp only [results, hres]
  simp [hp', hq', asAddr, loadVar_six hB]

/-- The two boxes of a node and a step. -/
def FB (w : World) (v0 v1 v2 v3 v4 v5 : Value) (s : Stp) (W : World) : Prop := Below w.heap.size w W ∧ w.heap.size + 2 ≤ W.heap.size ∧ Bx W w.heap.size v0 v1 v2 v3 v4 v5 ∧ Blk W (w.heap.size + 1) 51 #[.string s.k, .int .i64 s.a, .bool s.b]

theorem FB.start (w : World) (v0 v1 v2 v3 v4 v5 : Value) (s : Stp) : FB w v0 v1 v2 v3 v4 v5 s ((w.alloc (.cells #[v0, v1, v2, v3, v4, v5] 38)).alloc (.cells #[.string s.k, .int .i64 s.a, .bool s.b] 51)) := by
  refine ⟨((Below.refl _ w).alloc (Nat.le_refl _) _).alloc (by simp) _, by simp, (Blk.new _ _ _).alloc _, ?_⟩
  have := Blk.new (w.alloc (.cells #[v0, v1, v2, v3, v4, v5] 38)) 51 #[.string s.k, .int .i64 s.a, .bool s.b]
  rwa [World.size_alloc] at this
theorem FB.below {w W W2 : World} {v0 v1 v2 v3 v4 v5 : Value} {s : Stp} (h : FB w v0 v1 v2 v3 v4 v5 s W) (hb : Below W.heap.size W W2) : FB w v0 v1 v2 v3 v4 v5 s W2 := by
  have := hb.size
  exact ⟨h.1.trans (hb.mono (by have := h.2.1; omega)), by have := h.2.1; omega, h.2.2.1.below hb (by have := h.2.1; omega), h.2.2.2.below hb (by have := h.2.1; omega)⟩
set_option maxRecDepth 100000 in
set_option maxHeartbeats 1000000 in
theorem follow_any (t : T) (cs : List Value) (s : Stp) (w : World) (hnd : Nd w t cs) (hl : t.l.length ≤ 100000) (hk : t.ks.length ≤ 100000) :
    Calls Tryz.prog 56 #[.agg cs.toArray, .agg #[.string s.k, .int .i64 s.a, .bool s.b]] w fun e w' => (∃ i : Int, e = .returned (.tuple #[.int .i64 i, .bool (lead t s).isSome]) ∧ ∀ n, lead t s = some n → i = (n : Int)) ∧ Below w.heap.size w w' := by
  obtain ⟨kk, nn, uu, str, ks, l⟩ := t
  obtain ⟨hr, hsz, kv, A, m, c, rfl, hks, hm, hmc, hc, hL⟩ := hnd
  have HF0 : Hid (FB w (.int .i64 kk) (.int .i64 nn) (.int .u64 uu) (.string str) kv (.slice A m c) s ((w.alloc (.cells #[.int .i64 kk, .int .i64 nn, .int .u64 uu, .string str, kv, .slice A m c] 38)).alloc (.cells #[.string s.k, .int .i64 s.a, .bool s.b] 51))) := Lib.hid (FB.start _ _ _ _ _ _ _ _)
  have hml : l.length = m := hm
  have hlm : (T.mk kk nn uu str ks l).l.length = m := hm
  cases hb : s.b with
  | false =>
    have e1 : lead (.mk kk nn uu str ks l) s = if 0 ≤ s.a ∧ s.a < (m : Int) then some s.a.toNat else none := by
      unfold lead; rw [hlm, if_neg (by simp [hb])]
    rw [hb] at HF0
    by_cases h0 : 0 ≤ s.a
    · have d0 : decide (0 ≤ s.a) = true := decide_eq_true h0
      go_enter Tryz.func56, Tryz.ntmps56
      go_wp2
      go_quiet (fail)
      go_wp2
      go_ret2
      refine ⟨⟨s.a, lead_ret e1 h0, lead_num e1⟩, (HF0.out.below ((Below.refl _ _).drewN _)).1⟩
    · have d0 : decide (0 ≤ s.a) = false := decide_eq_false h0
      go_enter Tryz.func56, Tryz.ntmps56
      go_wp2
      go_quiet (fail)
      go_wp2
      go_ret2
      refine ⟨⟨s.a, lead_ret0 e1 (by omega), lead_num e1⟩, (HF0.out.below ((Below.refl _ _).drewN _)).1⟩
  | true =>
    obtain ⟨I, hI⟩ : ∃ I, Lib.idxOfS ks s.k = I := ⟨_, rfl⟩
    by_cases hk17 : kk = 17
    · have e1 : lead (.mk kk nn uu str ks l) s = if 0 ≤ I ∧ I < (m : Int) then some I.toNat else none := by
        unfold lead; rw [hlm, if_pos hb]; show (if kk = 17 then (if 0 ≤ Lib.idxOfS ks s.k ∧ Lib.idxOfS ks s.k < (m : Int) then some (Lib.idxOfS ks s.k).toNat else none) else none) = _
        rw [if_pos hk17, hI]
      rw [hb] at HF0
      subst hk17
      have HX : Hid (∀ W, Hid (FB w (.int .i64 17) (.int .i64 nn) (.int .u64 uu) (.string str) kv (.slice A m c) s W) → Calls Tryz.prog 86 #[kv, .string s.k] W fun e w' => e = .returned (.int .i64 I) ∧ w' = W) := Lib.hid fun W H => by
        have := indexS_any ks kv s.k W (hks.below H.out.1)
        rw [hI] at this
        exact this
      clear hI hks
      by_cases h0 : 0 ≤ I
      · have d0 : decide (0 ≤ I) = true := decide_eq_true h0
        go_enter Tryz.func56, Tryz.ntmps56
        go_wp2_with (go_at_call 86; (with_reducible refine (HX.out _ HF0).mono ?_); rintro e w1 ⟨rfl, rfl⟩)
        go_quiet (fail)
        go_wp2
        go_ret2
        refine ⟨⟨I, lead_ret e1 h0, lead_num e1⟩, (HF0.out.below ((Below.refl _ _).drewN _)).1⟩
      · have d0 : decide (0 ≤ I) = false := decide_eq_false h0
        go_enter Tryz.func56, Tryz.ntmps56
        go_wp2_with (go_at_call 86; (with_reducible refine (HX.out _ HF0).mono ?_); rintro e w1 ⟨rfl, rfl⟩)
        go_quiet (fail)
        go_wp2
        go_ret2
        refine ⟨⟨I, lead_ret0 e1 (by omega), lead_num e1⟩, (HF0.out.below ((Below.refl _ _).drewN _)).1⟩
    · have e1 : lead (.mk kk nn uu str ks l) s = none := by
        unfold lead; rw [if_pos hb]; exact if_neg hk17
      have hne := neB hk17
      rw [hb] at HF0
      go_enter Tryz.func56, Tryz.ntmps56
      go_wp2
      go_ret2
      rw [e1]
      exact ⟨⟨0, rfl, by simp⟩, HF0.out.1⟩

theorem put6_bx {w : World} {g : Nat} {v0 v1 v2 v3 v4 v5 : Value} (h : Bx w g v0 v1 v2 v3 v4 v5) (a0 a1 a2 a3 a4 a5 : Value) : Bx (put6 w g 0 a0 a1 a2 a3 a4 a5) g a0 a1 a2 a3 a4 a5 :=
  ((((((Blk.put h 0 a0).put 1 a1).put 2 a2).put 3 a3).put 4 a4).put 5 a5)
theorem Two.put0 {w W : World} {v0 v1 v2 v3 v4 v5 u0 u1 u2 u3 u4 u5 : Value} (h : Two w v0 v1 v2 v3 v4 v5 u0 u1 u2 u3 u4 u5 W) (a0 a1 a2 a3 a4 a5 : Value) : Two w a0 a1 a2 a3 a4 a5 u0 u1 u2 u3 u4 u5 (put6 W w.heap.size 0 a0 a1 a2 a3 a4 a5) :=
  ⟨put6_below h.1 _ _ _ _ _ _ _ _ (Nat.le_refl _), by rw [put6_size]; exact h.2.1, put6_bx h.2.2.1 _ _ _ _ _ _, put6_blk h.2.2.2 (by omega) _ _ _ _ _ _⟩
/-- The result box of a node filled with a tree of the call's own. -/
theorem fill_two {w W : World} {v0 v1 v2 v3 v4 v5 u0 u1 u2 u3 u4 u5 a0 a1 a2 a3 a4 a5 : Value} {x : T} {n : Nat} (h : Two w v0 v1 v2 v3 v4 v5 u0 u1 u2 u3 u4 u5 W) (hn : w.heap.size + 2 ≤ n) (ho : NdO (fun b => n ≤ b) W x [a0, a1, a2, a3, a4, a5]) :
    Bx (put6 W (w.heap.size + 1) 0 a0 a1 a2 a3 a4 a5) (w.heap.size + 1) a0 a1 a2 a3 a4 a5 ∧ NdO (fun b => w.heap.size ≤ b) (put6 W (w.heap.size + 1) 0 a0 a1 a2 a3 a4 a5) x [a0, a1, a2, a3, a4, a5] ∧ Below w.heap.size w (put6 W (w.heap.size + 1) 0 a0 a1 a2 a3 a4 a5) :=
  ⟨put6_bx h.2.2.2 _ _ _ _ _ _, NdO.step (fun b hb _ => ⟨put6_other _ _ _ _ _ _ _ _ _ _ (by omega), by omega⟩) _ _ ho, put6_below h.1 _ _ _ _ _ _ _ _ (by omega)⟩
/-- What a call that hands back a tree of its own or an error leaves. -/
def GE (w : World) (r : Option T) (E : Int) (e : Ending) (w' : World) : Prop :=
  (match r with
    | none => e = .returned (.tuple #[.agg #[.int .i64 0, .int .i64 0, .int .u64 0, .string ⟨#[]⟩, .slice none 0 0, .slice none 0 0], .int .i64 E])
    | some x => ∃ cs', e = .returned (.tuple #[.agg cs'.toArray, .int .i64 0]) ∧ NdO (fun b => w.heap.size ≤ b) w' x cs') ∧ Below w.heap.size w w'
theorem GE.no {w w' : World} {r : Option T} {E : Int} (h : r = none) (hb : Below w.heap.size w w') : GE w r E (.returned (.tuple #[.agg #[.int .i64 0, .int .i64 0, .int .u64 0, .string ⟨#[]⟩, .slice none 0 0, .slice none 0 0], .int .i64 E])) w' := by subst h; exact ⟨rfl, hb⟩
theorem GE.yes {w w' : World} {r : Option T} {E : Int} {x : T} {cs : List Value} (h : r = some x) (ho : NdO (fun b => w.heap.size ≤ b) w' x cs) (hb : Below w.heap.size w w') : GE w r E (.returned (.tuple #[.agg cs.toArray, .int .i64 0])) w' := by subst h; exact ⟨⟨cs, rfl, ho⟩, hb⟩
theorem getT_none {t t' : T} {ps : List Stp} {j : Nat} {x : Stp} (h : getT t ps = getT t' (ps.drop j)) (hx : ps[j]? = some x) (hl : lead t' x = none) : getT t ps = none := by
  have hj := (List.getElem?_eq_some_iff.1 hx)
  rw [h, List.drop_eq_getElem_cons hj.1, hj.2]
  unfold getT
  rw [hl]
theorem getT_some {t t' c : T} {ps : List Stp} {j i : Nat} {x : Stp} (h : getT t ps = getT t' (ps.drop j)) (hx : ps[j]? = some x) (hl : lead t' x = some i) (hc : t'.l[i]? = some c) : getT t ps = getT c (ps.drop (j + 1)) := by
  have hj := (List.getElem?_eq_some_iff.1 hx)
  rw [h, List.drop_eq_getElem_cons hj.1, hj.2]
  rw [getT, hl]
  simp only [hc]
theorem sm_kid {t c : T} {i : Nat} (h : sm 1000 1000 t) (hc : t.l[i]? = some c) : sm 1000 1000 c := by
  obtain ⟨_, _, _, _, _, _⟩ := t
  exact smL_at h.2.2.2 hc
theorem sz_kid {t c : T} {i N : Nat} (h : sz t ≤ N) (hc : t.l[i]? = some c) : sz c ≤ N := by
  obtain ⟨_, _, _, _, _, l⟩ := t
  have := sz_le_of hc
  simp only [sz, T.l] at *
  omega
theorem kids_len {t : T} {N : Nat} (h : sz t ≤ N) : t.l.length ≤ N := by
  obtain ⟨_, _, _, _, _, l⟩ := t
  have := len_le_szL l
  simp only [sz, T.l] at *
  omega
theorem keys_len {t : T} (h : sm 1000 1000 t) : t.ks.length ≤ 100000 := by
  obtain ⟨_, _, _, _, _, _⟩ := t
  have := h.2.1
  simp only [T.ks]
  omega
/-- The six cells of a child. -/
theorem Nd.kid {w wr : World} {t c : T} {i : Nat} {v0 v1 v2 v3 v4 v5 : Value} (h : Nd w t [v0, v1, v2, v3, v4, v5]) (hb : Below w.heap.size w wr) (hc : t.l[i]? = some c) :
    ∃ b off q, v5 = .slice (some ⟨b, off, none⟩) t.l.length q ∧ b < w.heap.size ∧ ∃ u0 u1 u2 u3 u4 u5, Six wr b (off + i * 6) u0 u1 u2 u3 u4 u5 ∧ Nd wr c [u0, u1, u2, u3, u4, u5] := by
  obtain ⟨kk, nn, uu, s, ks, l⟩ := t
  obtain ⟨_, _, kv, A, m, q, e, _, hl, _, _, hL⟩ := h
  simp only [List.cons.injEq, and_true] at e
  obtain ⟨-, -, -, -, -, rfl⟩ := e
  have hi := (List.getElem?_eq_some_iff.1 hc).1
  simp only [T.l] at hc hi ⊢
  obtain ⟨b, off, rfl, hbw, hN⟩ := hL (by omega)
  obtain ⟨u0, u1, u2, u3, u4, u5, h6, hn⟩ := hN.six' hb hbw hc
  exact ⟨b, off, q, by rw [hl], hbw, u0, u1, u2, u3, u4, u5, h6, hn⟩

set_option maxRecDepth 100000 in
set_option maxHeartbeats 1000000 in
theorem get_any (t : T) (cs : List Value) (ps : List Stp) (v : Value) (w : World) (hnd : Nd w t cs) (hp : RdP w v ps) (hsz : sz t ≤ 100000) (hsm : sm 1000 1000 t) (hpl : ps.length ≤ 100000) :
    Calls Tryz.prog 22 #[.agg cs.toArray, v] w (GE w (getT t ps) 80) := by
  obtain ⟨A, n, c, rfl, hn, hnc, hc, hs, hA⟩ := hp.at
  obtain ⟨k0, i0, n0, s0, A1, m1, c1, A2, m2, c2, rfl⟩ := hnd.shape
  have hT0 := Two.start w (.int .i64 k0) (.int .i64 i0) (.int .u64 n0) (.string s0) (.slice A1 m1 c1) (.slice A2 m2 c2) (.int .i64 0) (.int .i64 0) (.int .u64 0) (.string ⟨#[]⟩) (.slice none 0 0) (.slice none 0 0)
  have HT0 := Lib.hid hT0
  have HND := Lib.hid hnd
  have HSM := Lib.hid hsm
  go_enter Tryz.func22, Tryz.ntmps22
  go_wp2
  go_loopw [12] (fun i wr => ∃ (j : Nat) (t' : T) (k n0 u : Int) (s : ByteArray) (A1 : Option Addr) (m1 c1 : Nat) (A2 : Option Addr) (m2 c2 : Nat), j ≤ n ∧ i = .int .i64 (j : Int) ∧ sz t' ≤ 100000 ∧ Hid (sm 1000 1000 t') ∧ Hid (getT t ps = getT t' (ps.drop j)) ∧ Hid (Nd w t' [.int .i64 k, .int .i64 n0, .int .u64 u, .string s, .slice A1 m1 c1, .slice A2 m2 c2]) ∧ Hid (Two w (.int .i64 k) (.int .i64 n0) (.int .u64 u) (.string s) (.slice A1 m1 c1) (.slice A2 m2 c2) (.int .i64 0) (.int .i64 0) (.int .u64 0) (.string ⟨#[]⟩) (.slice none 0 0) (.slice none 0 0) wr)) (fun i _ => n - (intOf i).toNat)
  case atStart => exact ⟨0, t, _, _, _, _, _, _, _, _, _, _, Nat.zero_le _, rfl, hsz, HSM, Lib.hid rfl, HND, HT0⟩
  case round =>
    obtain ⟨j, t', k, n1, u, s, B1, p1, q1, B2, p2, q2, hj, rfl, hsz', HSM', HG, HN, HT⟩ := hrel
    obtain ⟨a0, a1, a2, a3, a4, a5⟩ := HT.out.2.2.1.all
    obtain ⟨b0, b1, b2, b3, b4, b5⟩ := HT.out.2.2.2.all
    by_cases hlt : j < n
    · obtain ⟨x, hx⟩ : ∃ x, ps[j]? = some x := ⟨_, List.getElem?_eq_getElem (by omega)⟩
      obtain ⟨bb, off, rfl, hbw, hc1⟩ := hA (by omega)
      obtain ⟨x0, x1, x2⟩ := hc1 wr HT.out.1 j x hx
      have hTa := HT.out.below ((Below.refl _ wr).alloc (Nat.le_refl _) (.cells #[.string x.k, .int .i64 x.a, .bool x.b] 51))
      have HTa := Lib.hid hTa
      have HF := Lib.hid (follow_any t' _ x (wr.alloc (.cells #[.string x.k, .int .i64 x.a, .bool x.b] 51)) (HN.out.bel hTa.1) (by exact kids_len hsz') (keys_len HSM'.out))
      obtain ⟨e0, e1, e2, e3, e4, e5⟩ := hTa.2.2.1.all
      clear hTa
      cases hld : lead t' x with
      | none =>
        rw [hld] at HF
        have HGN := Lib.hid (getT_none HG.out hx hld)
        clear hx hld hc1 hA hp hnd hT0
        go_wp2_with (go_at_call 56; (with_reducible refine HF.out.mono ?_); rintro e w2 ⟨⟨ii, rfl, -⟩, hb2⟩; have HT2 := Lib.hid (HTa.out.below hb2); obtain ⟨d0, d1, d2, d3, d4, d5⟩ := HT2.out.2.2.2.all; have g9 := HT2.out.2.2.2.frozen; clear hb2)
        change bodyPost Tryz.prog Tryz.f22 (GE w (getT t ps) 80) .ret _ _
        refine ret_six2 (p := 4) (q := 5) (g := w.heap.size + 1) (v := .int .i64 80) (by rfl) (by rfl) (by rfl) (put6_bx HT2.out.2.2.2 _ _ _ _ _ _) (by rfl) ?_
        exact GE.no HGN.out (put6_below HT2.out.1 _ _ _ _ _ _ _ _ (by omega))
      | some i =>
        obtain ⟨c', hc'⟩ : ∃ c', t'.l[i]? = some c' := ⟨_, List.getElem?_eq_getElem (lead_lt hld)⟩
        have HGN := Lib.hid (getT_some HG.out hx hld hc')
        have hil := lead_lt hld
        obtain ⟨b9, o9, q9, e9, hb9, z0, z1, z2, z3, z4, z5, h6, hnk⟩ := HN.out.kid (Below.refl _ _) hc'
        injection e9 with e91 e92 e93
        subst e91 e92 e93
        rw [hld] at HF
        have HNK := Lib.hid hnk
        have H6 := Lib.hid h6
        have HSZ := Lib.hid (sz_kid hsz' hc')
        have HSK := Lib.hid (sm_kid HSM'.out hc')
        obtain ⟨k8, i8, u8, s8, C1', m1', d1', C2', m2', d2', g0, g1, g2, g3, g4, g5⟩ := hnk.shape6
        subst g0 g1 g2 g3 g4 g5
        have hil2 : (i : Int) < (t'.l.length : Int) := by omega
        clear hx hld hc1 hA hp hnd hT0 hnk h6 hc'
        go_wp2_with (go_at_call 56; (with_reducible refine HF.out.mono ?_); rintro e w2 ⟨⟨ii, rfl, hi⟩, hb2⟩; have hi2 := hi i rfl; subst hi2; have HT2 := Lib.hid (HTa.out.below hb2); obtain ⟨d0, d1, d2, d3, d4, d5⟩ := HT2.out.2.2.1.all; have g9 := HT2.out.2.2.1.frozen; obtain ⟨y0, y1, y2, y3, y4, y5⟩ := H6.out.below HT2.out.1 hb9; clear hb2 hi)
        exact ⟨⟨j + 1, c', k8, i8, u8, s8, C1', m1', d1', C2', m2', d2', by omega, by simp, HSZ.out, HSK, HGN, HNK, Lib.hid (Two.put0 HT2.out _ _ _ _ _ _)⟩, by simp [intOf]; omega⟩
    · obtain rfl : j = n := by omega
      have HCP := Lib.hid (copy_any (dp t') t' _ wr (Nat.le_refl _) hsz' HSM'.out (HN.out.bel HT.out.1))
      have hg : getT t ps = some t' := by rw [HG.out, List.drop_of_length_le (by omega)]; rfl
      have HGG := Lib.hid hg
      clear hg hA hp hnd hT0
      go_wp2_with (go_at_call 57; (with_reducible refine HCP.out.mono ?_); rintro e w2 ⟨⟨cs', rfl, hno⟩, hb2⟩; have HT2 := Lib.hid (HT.out.below hb2); obtain ⟨d0, d1, d2, d3, d4, d5⟩ := HT2.out.2.2.2.all; have g9 := HT2.out.2.2.2.frozen; have HNO := Lib.hid hno; obtain ⟨k8, i8, u8, s8, C1', m1', d1', C2', m2', d2', rfl⟩ := hno.shape6; clear hno hb2)
      have HFI := Lib.hid (fill_two HT2.out (HT.out.2.1) HNO.out)
      change bodyPost Tryz.prog Tryz.f22 (GE w (getT t ps) 80) .ret _ _
      refine ret_six2 (p := 4) (q := 5) (g := w.heap.size + 1) (v := .int .i64 0) (by rfl) (by rfl) (by rfl) HFI.out.1 (by rfl) ?_
      exact GE.yes HGG.out HFI.out.2.1 HFI.out.2.2
end Go.Proofs.YtjnfilbdokppiaaGreatDoor
namespace Go.Proofs.YtjnfilbdokppiaaGreatDoor
open Go.RowKit

theorem NdX.split {w : World} : ∀ (a b : List T) (xs : List Value), NdX w (a ++ b) xs → ∃ ys zs, xs = ys ++ zs ∧ NdX w a ys ∧ NdX w b zs
  | [], b, xs, h => ⟨[], xs, rfl, rfl, h⟩
  | t :: a, b, xs, h => by
    obtain ⟨cs, ys, rfl, h1, h2⟩ := h
    obtain ⟨y2, z2, rfl, h3, h4⟩ := NdX.split a b ys h2
    exact ⟨cs ++ y2, z2, by simp, ⟨cs, y2, rfl, h1, h3⟩, h4⟩
theorem NdX.join {w : World} : ∀ (a b : List T) (ys zs : List Value), NdX w a ys → NdX w b zs → NdX w (a ++ b) (ys ++ zs)
  | [], b, ys, zs, h, h2 => by obtain rfl : ys = [] := h; exact h2
  | t :: a, b, ys, zs, h, h2 => by
    obtain ⟨cs, y2, rfl, h1, h3⟩ := h
    exact ⟨cs, y2 ++ zs, by simp, h1, NdX.join a b y2 zs h3 h2⟩
theorem NdX.below {w w' : World} (hb : Below w.heap.size w w') : ∀ (l : List T) (xs : List Value), NdX w l xs → NdX w' l xs
  | [], _, h => h
  | t :: l, _, h => by
    obtain ⟨cs, ys, rfl, h1, h2⟩ := h
    exact ⟨cs, ys, rfl, h1.bel hb, NdX.below hb l ys h2⟩
theorem NdX.ndlP {w : World} {g : Nat} : ∀ (l : List T) (xs : List Value) (off : Nat), NdX w l xs → (∀ j, j < l.length * 6 → w.cell? ⟨g, off + j, none⟩ = xs[j]?) → NdL w g l off
  | [], _, _, _, _ => trivial
  | t :: l, _, off, h, hc => by
    obtain ⟨cs, ys, rfl, h1, h2⟩ := h
    have h6 := h1.len
    refine ⟨⟨cs, fun i hi => ?_, h1⟩, NdX.ndlP l ys (off + 6) h2 fun j hj => ?_⟩
    · rw [hc i (by simp; omega), List.getElem?_append_left (by omega)]
    · rw [Nat.add_assoc, hc (6 + j) (by simp; omega), List.getElem?_append_right (by omega), h6, Nat.add_sub_cancel_left]
/-- The row of a node's children, of which one is to be replaced. -/
theorem NdX.pick {w : World} {l : List T} {xs : List Value} {i : Nat} {t : T} (h : NdX w l xs) (ht : l[i]? = some t) :
    ∃ ys b0 b1 b2 b3 b4 b5 zs, xs = ys ++ ([b0, b1, b2, b3, b4, b5] ++ zs) ∧ ys.length = i * 6 ∧ NdX w (l.take i) ys ∧ Nd w t [b0, b1, b2, b3, b4, b5] ∧ NdX w (l.drop (i + 1)) zs := by
  have hi : i < l.length := (List.getElem?_eq_some_iff.1 ht).1
  have e : l = l.take i ++ l.drop i := (List.take_append_drop i l).symm
  rw [e] at h
  obtain ⟨ys, zs', rfl, h1, h2⟩ := NdX.split _ _ _ h
  obtain ⟨cs, zs, rfl, h3, h4⟩ := h2.drop ht
  have hl := h3.len
  match cs, hl with
  | [b0, b1, b2, b3, b4, b5], _ =>
    exact ⟨ys, b0, b1, b2, b3, b4, b5, zs, rfl, by rw [h1.len, List.length_take, Nat.min_eq_left (by omega)], h1, h3, h4⟩
theorem set_split {α : Type} {l : List α} {i : Nat} {x : α} (hi : i < l.length) : l.set i x = l.take i ++ (x :: l.drop (i + 1)) := List.set_eq_take_append_cons_drop.trans (by rw [if_pos hi])
end Go.Proofs.YtjnfilbdokppiaaGreatDoor
namespace Go.Proofs.YtjnfilbdokppiaaGreatDoor
open Go.RowKit

/-- A tree that stays a tree as long as old memory and the memory of the call stay. -/
def RK (w0 : World) (lo : Nat) (w' : World) (x : T) (cs : List Value) : Prop :=
  ∀ W, Below w0.heap.size w0 W → (∀ b, lo ≤ b → b < w'.heap.size → W.heap[b]? = w'.heap[b]?) → w'.heap.size ≤ W.heap.size → Nd W x cs
/-- What replace leaves: a tree that may lie in old memory, or false. -/
def RE (w0 w : World) (r : Option T) (e : Ending) (w' : World) : Prop :=
  (match r with
    | none => e = .returned (.tuple #[.agg #[.int .i64 0, .int .i64 0, .int .u64 0, .string ⟨#[]⟩, .slice none 0 0, .slice none 0 0], .bool false])
    | some x => ∃ cs', e = .returned (.tuple #[.agg cs'.toArray, .bool true]) ∧ RK w0 w.heap.size w' x cs') ∧ Below w.heap.size w w'
theorem RE.no {w0 w w' : World} {r : Option T} (h : r = none) (hb : Below w.heap.size w w') : RE w0 w r (.returned (.tuple #[.agg #[.int .i64 0, .int .i64 0, .int .u64 0, .string ⟨#[]⟩, .slice none 0 0, .slice none 0 0], .bool false])) w' := by subst h; exact ⟨rfl, hb⟩
theorem RE.yes {w0 w w' : World} {r : Option T} {x : T} {cs : List Value} (h : r = some x) (ho : RK w0 w.heap.size w' x cs) (hb : Below w.heap.size w w') : RE w0 w r (.returned (.tuple #[.agg cs.toArray, .bool true])) w' := by subst h; exact ⟨⟨cs, rfl, ho⟩, hb⟩
/-- Three boxes of nodes. -/
structure Tr (w : World) (v0 v1 v2 v3 v4 v5 u0 u1 u2 u3 u4 u5 z0 z1 z2 z3 z4 z5 : Value) (W : World) : Prop where
  bl : Below w.heap.size w W
  sz : w.heap.size + 3 ≤ W.heap.size
  b0 : Bx W w.heap.size v0 v1 v2 v3 v4 v5
  b1 : Bx W (w.heap.size + 1) u0 u1 u2 u3 u4 u5
  b2 : Bx W (w.heap.size + 1 + 1) z0 z1 z2 z3 z4 z5
theorem Tr.start (w : World) (v0 v1 v2 v3 v4 v5 u0 u1 u2 u3 u4 u5 z0 z1 z2 z3 z4 z5 : Value) : Tr w v0 v1 v2 v3 v4 v5 u0 u1 u2 u3 u4 u5 z0 z1 z2 z3 z4 z5
    (((w.alloc (.cells #[v0, v1, v2, v3, v4, v5] 38)).alloc (.cells #[u0, u1, u2, u3, u4, u5] 38)).alloc (.cells #[z0, z1, z2, z3, z4, z5] 38)) := by
  have h := Two.start w v0 v1 v2 v3 v4 v5 u0 u1 u2 u3 u4 u5
  refine ⟨h.1.alloc (by simp; omega) _, by simp, h.2.2.1.alloc _, h.2.2.2.alloc _, ?_⟩
  have := Blk.new ((w.alloc (.cells #[v0, v1, v2, v3, v4, v5] 38)).alloc (.cells #[u0, u1, u2, u3, u4, u5] 38)) 38 #[z0, z1, z2, z3, z4, z5]
  rwa [World.size_alloc, World.size_alloc] at this
theorem Tr.below {w W W2 : World} {v0 v1 v2 v3 v4 v5 u0 u1 u2 u3 u4 u5 z0 z1 z2 z3 z4 z5 : Value} (h : Tr w v0 v1 v2 v3 v4 v5 u0 u1 u2 u3 u4 u5 z0 z1 z2 z3 z4 z5 W) (hb : Below W.heap.size W W2) : Tr w v0 v1 v2 v3 v4 v5 u0 u1 u2 u3 u4 u5 z0 z1 z2 z3 z4 z5 W2 := by
  have := hb.size
  have := h.sz
  exact ⟨h.bl.trans (hb.mono (by omega)), by omega, h.b0.below hb (by omega), h.b1.below hb (by omega), h.b2.below hb (by omega)⟩
theorem Tr.put {w W : World} {v0 v1 v2 v3 v4 v5 u0 u1 u2 u3 u4 u5 z0 z1 z2 z3 z4 z5 : Value} (h : Tr w v0 v1 v2 v3 v4 v5 u0 u1 u2 u3 u4 u5 z0 z1 z2 z3 z4 z5 W) {g : Nat} (o : Nat) (hg : w.heap.size + 3 ≤ g) (a0 a1 a2 a3 a4 a5 : Value) : Tr w v0 v1 v2 v3 v4 v5 u0 u1 u2 u3 u4 u5 z0 z1 z2 z3 z4 z5 (put6 W g o a0 a1 a2 a3 a4 a5) :=
  ⟨put6_below h.bl _ _ _ _ _ _ _ _ (by omega), by rw [put6_size]; exact h.sz, put6_blk h.b0 (by omega) _ _ _ _ _ _, put6_blk h.b1 (by omega) _ _ _ _ _ _, put6_blk h.b2 (by omega) _ _ _ _ _ _⟩
theorem Tr.set5 {w W : World} {v0 v1 v2 v3 v4 v5 u0 u1 u2 u3 u4 u5 z0 z1 z2 z3 z4 z5 : Value} (h : Tr w v0 v1 v2 v3 v4 v5 u0 u1 u2 u3 u4 u5 z0 z1 z2 z3 z4 z5 W) (a : Value) : Tr w v0 v1 v2 v3 v4 a u0 u1 u2 u3 u4 u5 z0 z1 z2 z3 z4 z5 (W.setCell ⟨w.heap.size, 5, none⟩ a) :=
  ⟨h.bl.setCell (p := ⟨w.heap.size, 5, none⟩) (Nat.le_refl _) _, by rw [size_set]; exact h.sz, h.b0.set5 a, Blk.setOther h.b1 _ (by omega), Blk.setOther h.b2 _ (by omega)⟩
/-- The row of a node's children. -/
theorem Nd.row {w : World} {t : T} {v0 v1 v2 v3 v4 : Value} {b off m q : Nat} (h : Nd w t [v0, v1, v2, v3, v4, .slice (some ⟨b, off, none⟩) m q]) (hm : 0 < m) : t.l.length = m ∧ b < w.heap.size ∧ ∃ xs, xs.length = m * 6 ∧ (∀ j u, xs[j]? = some u → w.cell? ⟨b, off + j, none⟩ = some u) ∧ NdX w t.l xs ∧ (∀ u ∈ xs, u.oneCell' = true) := by
  obtain ⟨kk, nn, uu, s, ks, l⟩ := t
  obtain ⟨_, _, kv, A, m', q', e, _, hl, _, _, hL⟩ := h
  simp only [List.cons.injEq, and_true] at e
  obtain ⟨-, -, -, -, -, e⟩ := e
  injection e with e1 e2 e3
  subst e1 e2 e3
  obtain ⟨b', off', e, hb, hN⟩ := hL hm
  injection e with e; injection e with e1 e2
  subst e1 e2
  obtain ⟨xs, h1, h2, h3, h4⟩ := NdL.flat l off hN
  exact ⟨hl, hb, xs, by rw [h1, hl], h2, h3, h4⟩
/-- Six cells of a row of the call's own, to be written over. -/
theorem row_six {U : Nat → Prop} {w : World} {g m d i : Nat} {ys zs : List Value} {b0 b1 b2 b3 b4 b5 : Value} (h : Ow U w 38 6 (.slice (some ⟨g, 0, none⟩) m d) m (ys ++ ([b0, b1, b2, b3, b4, b5] ++ zs))) (hy : ys.length = i * 6) :
    (w.cell? ⟨g, i * 6, none⟩ = some b0 ∧ w.cell? ⟨g, i * 6 + 1, none⟩ = some b1 ∧ w.cell? ⟨g, i * 6 + 2, none⟩ = some b2 ∧ w.cell? ⟨g, i * 6 + 3, none⟩ = some b3 ∧ w.cell? ⟨g, i * 6 + 4, none⟩ = some b4 ∧ w.cell? ⟨g, i * 6 + 5, none⟩ = some b5) ∧ ∀ j, w.frozen? ⟨g, j, none⟩ = false := by
  have hl : (ys ++ ([b0, b1, b2, b3, b4, b5] ++ zs)).length = m * 6 := h.1.1
  obtain ⟨_, _, e, _, _, hc⟩ := h.cells
  cases e
  simp only [List.length_append, List.length_cons, List.length_nil] at hl
  obtain ⟨g', e, _, _, hcell⟩ := hc (by omega)
  cases e
  have hx : ∀ k, k < 6 → w.cell? ⟨g, i * 6 + k, none⟩ = [b0, b1, b2, b3, b4, b5][k]? := fun k hk => by
    rw [hcell (i * 6 + k) (by omega), List.getElem?_append_right (by omega), List.getElem?_append_left (by simp; omega)]
    congr 1
    omega
  exact ⟨⟨hx 0 (by omega), hx 1 (by omega), hx 2 (by omega), hx 3 (by omega), hx 4 (by omega), hx 5 (by omega)⟩, fun j => h.1.frozenAt j⟩
theorem Nd.swap {w W : World} {t : T} {v0 v1 v2 v3 v4 v5 : Value} (h : Nd w t [v0, v1, v2, v3, v4, v5]) (hb : Below w.heap.size w W) {L : List T} {xs : List Value} {U : Nat → Prop} {g d m : Nat} (hL : L.length = m) (hO : Ow U W 38 6 (.slice (some ⟨g, 0, none⟩) m d) m xs) (hX : NdX W L xs) :
    Nd W (.mk t.k t.n t.u t.s t.ks L) [v0, v1, v2, v3, v4, .slice (some ⟨g, 0, none⟩) m d] := by
  obtain ⟨kk, nn, uu, s, ks, l⟩ := t
  obtain ⟨hr, hs, kv, A, m', q', e, hk, hl, _, _, _⟩ := h
  simp only [List.cons.injEq, and_true] at e
  obtain ⟨rfl, rfl, rfl, rfl, rfl, rfl⟩ := e
  obtain ⟨_, _, e, h1, h2, hc⟩ := hO.cells
  cases e
  refine ⟨hr, hs, _, _, _, _, rfl, hk.below hb, hL, h1, h2, fun hm => ?_⟩
  obtain ⟨g', e, hg, _, hcell⟩ := hc hm
  cases e
  exact ⟨g, 0, rfl, hg, hX.ndlP _ _ _ fun j hj => by rw [Nat.zero_add]; exact hcell j (by omega)⟩
theorem NdX.swap {w : World} {l : List T} {i : Nat} {x : T} {ys cs zs : List Value} (hi : i < l.length) (h1 : NdX w (l.take i) ys) (hx : Nd w x cs) (h2 : NdX w (l.drop (i + 1)) zs) : NdX w (l.set i x) (ys ++ (cs ++ zs)) := by
  rw [set_split hi]
  exact NdX.join _ _ _ _ h1 ⟨cs, zs, rfl, hx, h2⟩
theorem setT_none {t y : T} {x : Stp} {ps : List Stp} (hl : lead t x = none) : setT t (x :: ps) y = none := by unfold setT; rw [hl]
theorem setT_none2 {t c y : T} {x : Stp} {ps : List Stp} {i : Nat} (hl : lead t x = some i) (hc : t.l[i]? = some c) (hr : setT c ps y = none) : setT t (x :: ps) y = none := by rw [setT, hl]; simp only [hc, hr]
theorem setT_some {t c c' y : T} {x : Stp} {ps : List Stp} {i : Nat} (hl : lead t x = some i) (hc : t.l[i]? = some c) (hr : setT c ps y = some c') : setT t (x :: ps) y = some (.mk t.k t.n t.u t.s t.ks (t.l.set i c')) := by rw [setT, hl]; simp only [hc, hr]
/-- The rest of a path. -/
theorem RdP.tail {w : World} {b off n c : Nat} {x : Stp} {ps : List Stp} (h : RdP w (.slice (some ⟨b, off, none⟩) n c) (x :: ps)) : RdP w (.slice (if c = 1 then some ⟨b, off, none⟩ else some ⟨b, off + 3, none⟩) (n - 1) (c - 1)) ps := by
  obtain ⟨A, n', c', e, h1, h2, h3, h4, h5⟩ := h
  injection e with e1 e2 e3
  subst e1 e2 e3
  simp only [List.length_cons] at h1
  refine ⟨_, _, _, rfl, by omega, by omega, by omega, fun s hs => h4 s (by simp [hs]), fun hn => ?_⟩
  rw [if_neg (by omega)]
  obtain ⟨b', off', e, hb, hc⟩ := h5 (by omega)
  injection e with e; injection e with e1 e2
  subst e1 e2
  refine ⟨_, _, rfl, hb, fun j s hs => ?_⟩
  have := hc (j + 1) s (by simpa using hs)
  rwa [show off + (j + 1) * 3 = off + 3 + j * 3 by omega] at this

set_option maxRecDepth 100000 in
set_option maxHeartbeats 1000000 in
theorem replace_any (w0 : World) (y : T) (ys : List Value) (hy : Nd w0 y ys) : ∀ (ps : List Stp) (t : T) (cs : List Value) (v : Value) (w : World), Below w0.heap.size w0 w → Nd w0 t cs → RdP w0 v ps → sz t ≤ 100000 → sm 1000 1000 t → ps.length ≤ 100000 →
    Calls Tryz.prog 61 #[.agg cs.toArray, v, .agg ys.toArray] w (RE w0 w (setT t ps y)) := by
  intro ps
  induction ps with
  | nil =>
    intro t cs v w hb0 hnd hp hsz hsm hpl
    have hB : ∀ W, Below w.heap.size w W → Below w0.heap.size w0 W := fun W h => hb0.trans (h.mono hb0.size)
    obtain ⟨A, n, c, rfl, hn, hnc, hc, hs, hA⟩ := hp.at
    obtain rfl : n = 0 := by simpa using hn.symm
    obtain ⟨k0, i0, n0, s0, A1, m1, c1, A2, m2, c2, rfl⟩ := hnd.shape
    obtain ⟨k1, i1, n1, s1, B1, p1, q1, B2, p2, q2, rfl⟩ := hy.shape
    have HT := Lib.hid (Tr.start w (.int .i64 k0) (.int .i64 i0) (.int .u64 n0) (.string s0) (.slice A1 m1 c1) (.slice A2 m2 c2) (.int .i64 k1) (.int .i64 i1) (.int .u64 n1) (.string s1) (.slice B1 p1 q1) (.slice B2 p2 q2) (.int .i64 k1) (.int .i64 i1) (.int .u64 n1) (.string s1) (.slice B1 p1 q1) (.slice B2 p2 q2))
    go_enter Tryz.func61, Tryz.ntmps61
    go_wp2
    refine ret_six2 (p := 6) (q := 7) (g := w.heap.size + 1 + 1) (v := .bool true) (by rfl) (by rfl) (by rfl) HT.out.b2 (by rfl) ?_
    exact RE.yes rfl (fun W h _ _ => hy.bel h) HT.out.bl
  | cons x ps ih =>
    intro t cs v w hb0 hnd hp hsz hsm hpl
    have hB : ∀ W, Below w.heap.size w W → Below w0.heap.size w0 W := fun W h => hb0.trans (h.mono hb0.size)
    obtain ⟨A, n, c, rfl, hn, hnc, hc, hs, hA⟩ := hp.at
    have hn0 : 0 < n := by simp at hn; omega
    have hn1 : ((n : Int) == 0) = false := by simp; omega
    obtain ⟨k0, i0, n0, s0, A1, m1, c1, A2, m2, c2, rfl⟩ := hnd.shape
    obtain ⟨k1, i1, n1, s1, B1, p1, q1, B2, p2, q2, rfl⟩ := hy.shape
    have hT0 := Tr.start w (.int .i64 k0) (.int .i64 i0) (.int .u64 n0) (.string s0) (.slice A1 m1 c1) (.slice A2 m2 c2) (.int .i64 k1) (.int .i64 i1) (.int .u64 n1) (.string s1) (.slice B1 p1 q1) (.slice B2 p2 q2) (.int .i64 0) (.int .i64 0) (.int .u64 0) (.string ⟨#[]⟩) (.slice none 0 0) (.slice none 0 0)
    obtain ⟨bb, off, rfl, hbw, hc1⟩ := hA hn0
    have hall : ∀ W, Hid (Tr w (.int .i64 k0) (.int .i64 i0) (.int .u64 n0) (.string s0) (.slice A1 m1 c1) (.slice A2 m2 c2) (.int .i64 k1) (.int .i64 i1) (.int .u64 n1) (.string s1) (.slice B1 p1 q1) (.slice B2 p2 q2) (.int .i64 0) (.int .i64 0) (.int .u64 0) (.string ⟨#[]⟩) (.slice none 0 0) (.slice none 0 0) W) → Hid (Tr w (.int .i64 k0) (.int .i64 i0) (.int .u64 n0) (.string s0) (.slice A1 m1 c1) (.slice A2 m2 c2) (.int .i64 k1) (.int .i64 i1) (.int .u64 n1) (.string s1) (.slice B1 p1 q1) (.slice B2 p2 q2) (.int .i64 0) (.int .i64 0) (.int .u64 0) (.string ⟨#[]⟩) (.slice none 0 0) (.slice none 0 0) W) ∧ W.cell? ⟨w.heap.size, 0, none⟩ = some (.int .i64 k0) ∧ W.cell? ⟨w.heap.size, 1, none⟩ = some (.int .i64 i0) ∧ W.cell? ⟨w.heap.size, 2, none⟩ = some (.int .u64 n0) ∧ W.cell? ⟨w.heap.size, 3, none⟩ = some (.string s0) ∧ W.cell? ⟨w.heap.size, 4, none⟩ = some (.slice A1 m1 c1) ∧ W.cell? ⟨w.heap.size, 5, none⟩ = some (.slice A2 m2 c2) ∧ W.cell? ⟨bb, off, none⟩ = some (.string x.k) ∧ W.cell? ⟨bb, off + 1, none⟩ = some (.int .i64 x.a) ∧ W.cell? ⟨bb, off + 2, none⟩ = some (.bool x.b) := by
      intro W H
      have hx3 := hc1 _ (hB _ H.out.bl) 0 x (by simp)
      rw [Nat.zero_mul, Nat.add_zero] at hx3
      obtain ⟨a0, a1, a2, a3, a4, a5⟩ := H.out.b0.all
      exact ⟨H, a0, a1, a2, a3, a4, a5, hx3.1, hx3.2.1, hx3.2.2⟩
    have HF0 : Hid (∀ W, Hid (Tr w (.int .i64 k0) (.int .i64 i0) (.int .u64 n0) (.string s0) (.slice A1 m1 c1) (.slice A2 m2 c2) (.int .i64 k1) (.int .i64 i1) (.int .u64 n1) (.string s1) (.slice B1 p1 q1) (.slice B2 p2 q2) (.int .i64 0) (.int .i64 0) (.int .u64 0) (.string ⟨#[]⟩) (.slice none 0 0) (.slice none 0 0) W) → Calls Tryz.prog 56 #[.agg #[.int .i64 k0, .int .i64 i0, .int .u64 n0, .string s0, .slice A1 m1 c1, .slice A2 m2 c2], .agg #[.string x.k, .int .i64 x.a, .bool x.b]] W fun e w' => (∃ i : Int, e = .returned (.tuple #[.int .i64 i, .bool (lead t x).isSome]) ∧ ∀ n, lead t x = some n → i = (n : Int)) ∧ Hid (Tr w (.int .i64 k0) (.int .i64 i0) (.int .u64 n0) (.string s0) (.slice A1 m1 c1) (.slice A2 m2 c2) (.int .i64 k1) (.int .i64 i1) (.int .u64 n1) (.string s1) (.slice B1 p1 q1) (.slice B2 p2 q2) (.int .i64 0) (.int .i64 0) (.int .u64 0) (.string ⟨#[]⟩) (.slice none 0 0) (.slice none 0 0) w')) :=
      Lib.hid fun W H => (follow_any t _ x _ (hnd.bel (hB _ H.out.bl)) (kids_len hsz) (keys_len hsm)).mono fun e w' h => ⟨h.1, Lib.hid (H.out.below h.2)⟩
    have HT0 := Lib.hid hT0
    have HTd := Lib.hid (HT0.out.below (Below.refl _ _).drew)
    have hn2 : (0 : Int) < (n : Int) := by omega
    obtain ⟨_, a0, a1, a2, a3, a4, a5, x0, x1, x2⟩ := hall _ HT0
    clear hT0
    cases hld : lead t x with
    | none =>
      rw [hld] at HF0
      have HSN := Lib.hid (setT_none (ps := ps) (y := y) hld)
      clear hld hA hc1 hp hnd ih
      go_enter Tryz.func61, Tryz.ntmps61
      go_wp2_with fail
      go_region_held3 (fun W => Hid (Tr w (.int .i64 k0) (.int .i64 i0) (.int .u64 n0) (.string s0) (.slice A1 m1 c1) (.slice A2 m2 c2) (.int .i64 k1) (.int .i64 i1) (.int .u64 n1) (.string s1) (.slice B1 p1 q1) (.slice B2 p2 q2) (.int .i64 0) (.int .i64 0) (.int .u64 0) (.string ⟨#[]⟩) (.slice none 0 0) (.slice none 0 0) W) ∧ W.cell? ⟨w.heap.size, 0, none⟩ = some (.int .i64 k0) ∧ W.cell? ⟨w.heap.size, 1, none⟩ = some (.int .i64 i0) ∧ W.cell? ⟨w.heap.size, 2, none⟩ = some (.int .u64 n0) ∧ W.cell? ⟨w.heap.size, 3, none⟩ = some (.string s0) ∧ W.cell? ⟨w.heap.size, 4, none⟩ = some (.slice A1 m1 c1) ∧ W.cell? ⟨w.heap.size, 5, none⟩ = some (.slice A2 m2 c2) ∧ W.cell? ⟨bb, off, none⟩ = some (.string x.k) ∧ W.cell? ⟨bb, off + 1, none⟩ = some (.int .i64 x.a) ∧ W.cell? ⟨bb, off + 2, none⟩ = some (.bool x.b)) (exact hall _ (by assumption))
        (first | (go_at_call 56; (with_reducible refine (HF0.out _ (by assumption)).mono ?_); rintro e w2 ⟨⟨ii, rfl, -⟩, HT2⟩; obtain ⟨d0, d1, d2, d3, d4, d5⟩ := HT2.out.b2.all; have g9 := HT2.out.b2.frozen))
      go_wp2_with fail
      change bodyPost Tryz.prog Tryz.f61 (RE w0 w _) .ret _ _
      refine ret_six2 (p := 6) (q := 7) (g := w.heap.size + 1 + 1) (v := .bool false) (by rfl) (by rfl) (by rfl) (put6_bx HT2.out.b2 _ _ _ _ _ _) (by rfl) ?_
      exact RE.no HSN.out (put6_below HT2.out.bl _ _ _ _ _ _ _ _ (by omega))
    | some i =>
      rw [hld] at HF0
      obtain ⟨c', hc'⟩ : ∃ c', t.l[i]? = some c' := ⟨_, List.getElem?_eq_getElem (lead_lt hld)⟩
      have hil := lead_lt hld
      obtain ⟨b9, o9, q9, e9, hb9, z0, z1, z2, z3, z4, z5, h6, hnk⟩ := hnd.kid (Below.refl _ _) hc'
      injection e9 with e91 e92 e93
      subst e91 e92 e93
      have H6 := Lib.hid h6
      obtain ⟨k8, i8, u8, s8, C1', m1', d1', C2', m2', d2', g0, g1, g2, g3, g4, g5⟩ := hnk.shape6
      subst g0 g1 g2 g3 g4 g5
      have hil2 : (i : Int) < (t.l.length : Int) := by omega
      obtain ⟨TA, hTA⟩ : ∃ TA, (if c = 1 then (some ⟨bb, off, none⟩ : Option Addr) else some ⟨bb, off + 3, none⟩) = TA := ⟨_, rfl⟩
      have htl := RdP.tail hp
      rw [hTA] at htl
      have HTA := Lib.hid hTA
      clear hTA
      have hall2 : ∀ W, Hid (Tr w (.int .i64 k0) (.int .i64 i0) (.int .u64 n0) (.string s0) (.slice A1 m1 c1) (.slice (some ⟨b9, o9, none⟩) t.l.length c2) (.int .i64 k1) (.int .i64 i1) (.int .u64 n1) (.string s1) (.slice B1 p1 q1) (.slice B2 p2 q2) (.int .i64 0) (.int .i64 0) (.int .u64 0) (.string ⟨#[]⟩) (.slice none 0 0) (.slice none 0 0) W) → Hid (Tr w (.int .i64 k0) (.int .i64 i0) (.int .u64 n0) (.string s0) (.slice A1 m1 c1) (.slice (some ⟨b9, o9, none⟩) t.l.length c2) (.int .i64 k1) (.int .i64 i1) (.int .u64 n1) (.string s1) (.slice B1 p1 q1) (.slice B2 p2 q2) (.int .i64 0) (.int .i64 0) (.int .u64 0) (.string ⟨#[]⟩) (.slice none 0 0) (.slice none 0 0) W) ∧ W.cell? ⟨w.heap.size, 5, none⟩ = some (.slice (some ⟨b9, o9, none⟩) t.l.length c2) ∧ W.cell? ⟨w.heap.size + 1, 0, none⟩ = some (.int .i64 k1) ∧ W.cell? ⟨w.heap.size + 1, 1, none⟩ = some (.int .i64 i1) ∧ W.cell? ⟨w.heap.size + 1, 2, none⟩ = some (.int .u64 n1) ∧ W.cell? ⟨w.heap.size + 1, 3, none⟩ = some (.string s1) ∧ W.cell? ⟨w.heap.size + 1, 4, none⟩ = some (.slice B1 p1 q1) ∧ W.cell? ⟨w.heap.size + 1, 5, none⟩ = some (.slice B2 p2 q2) ∧ W.cell? ⟨b9, o9 + i * 6, none⟩ = some (.int .i64 k8) ∧ W.cell? ⟨b9, o9 + i * 6 + 1, none⟩ = some (.int .i64 i8) ∧ W.cell? ⟨b9, o9 + i * 6 + 2, none⟩ = some (.int .u64 u8) ∧ W.cell? ⟨b9, o9 + i * 6 + 3, none⟩ = some (.string s8) ∧ W.cell? ⟨b9, o9 + i * 6 + 4, none⟩ = some (.slice C1' m1' d1') ∧ W.cell? ⟨b9, o9 + i * 6 + 5, none⟩ = some (.slice C2' m2' d2') := by
        intro W H
        obtain ⟨d0, d1, d2, d3, d4, d5⟩ := H.out.b0.all
        obtain ⟨f0, f1, f2, f3, f4, f5⟩ := H.out.b1.all
        obtain ⟨y0, y1, y2, y3, y4, y5⟩ := h6.below (hB _ H.out.bl) hb9
        exact ⟨H, d5, f0, f1, f2, f3, f4, f5, y0, y1, y2, y3, y4, y5⟩
      have HIH : Hid (∀ W, Hid (Tr w (.int .i64 k0) (.int .i64 i0) (.int .u64 n0) (.string s0) (.slice A1 m1 c1) (.slice (some ⟨b9, o9, none⟩) t.l.length c2) (.int .i64 k1) (.int .i64 i1) (.int .u64 n1) (.string s1) (.slice B1 p1 q1) (.slice B2 p2 q2) (.int .i64 0) (.int .i64 0) (.int .u64 0) (.string ⟨#[]⟩) (.slice none 0 0) (.slice none 0 0) W) → Calls Tryz.prog 61 #[.agg #[.int .i64 k8, .int .i64 i8, .int .u64 u8, .string s8, .slice C1' m1' d1', .slice C2' m2' d2'], .slice TA (n - 1) (c - 1), .agg #[.int .i64 k1, .int .i64 i1, .int .u64 n1, .string s1, .slice B1 p1 q1, .slice B2 p2 q2]] W fun e w' => RE w0 W (setT c' ps y) e w' ∧ Hid (Tr w (.int .i64 k0) (.int .i64 i0) (.int .u64 n0) (.string s0) (.slice A1 m1 c1) (.slice (some ⟨b9, o9, none⟩) t.l.length c2) (.int .i64 k1) (.int .i64 i1) (.int .u64 n1) (.string s1) (.slice B1 p1 q1) (.slice B2 p2 q2) (.int .i64 0) (.int .i64 0) (.int .u64 0) (.string ⟨#[]⟩) (.slice none 0 0) (.slice none 0 0) w')) :=
        Lib.hid fun W H => (ih c' _ _ W (hB _ H.out.bl) hnk htl (sz_kid hsz hc') (sm_kid hsm hc') (by simp at hpl; omega)).mono fun e w' h => ⟨h, Lib.hid (H.out.below h.2)⟩
      obtain ⟨-, -, xs, hxl, hxc, hxX, hx1⟩ := hnd.row (by omega)
      have hm5 : t.l.length ≤ 100000 := kids_len hsz
      have HCL : Hid (∀ W, Below w.heap.size w W → Calls Tryz.prog 89 #[.slice (some ⟨b9, o9, none⟩) t.l.length c2] W fun e w' => ∃ g d, e = .returned (.slice (some ⟨g, 0, none⟩) t.l.length d) ∧ Hid (Ow (fun b => W.heap.size ≤ b) w' 38 6 (.slice (some ⟨g, 0, none⟩) t.l.length d) t.l.length xs) ∧ Hid (Below W.heap.size W w')) :=
        Lib.hid fun W hb' => (nodesClone_any _ _ c2 xs W hxl hx1 hm5 (fun _ => ⟨b9, o9, rfl, Nat.lt_of_lt_of_le hb9 (hB _ hb').size, fun j u hj => ((hB _ hb').cell (p := ⟨b9, o9 + j, none⟩) hb9).trans (hxc j u hj)⟩)).mono fun e w' h => by
          obtain ⟨v', rfl, ho, hb⟩ := h
          obtain ⟨A', d', rfl, _, _, hA'⟩ := ho.cells
          obtain ⟨g, rfl, _⟩ := hA' (by omega)
          exact ⟨g, d', rfl, Lib.hid ho, Lib.hid hb⟩
      obtain ⟨yy, r0, r1, r2, r3, r4, r5, zz, rfl, hyl, hXy, hXc, hXz⟩ := hxX.pick hc'
      have HXY := Lib.hid hXy
      have HXZ := Lib.hid hXz
      have HND := Lib.hid hnd
      have HLD := Lib.hid hld
      have HC' := Lib.hid hc'
      clear hld hA hc1 hp hnd ih h6 hnk hc' htl hxX hxc hx1 hXy hXc hXz
      go_enter Tryz.func61, Tryz.ntmps61
      go_wp2_with fail
      go_region_held3 (fun W => Hid (Tr w (.int .i64 k0) (.int .i64 i0) (.int .u64 n0) (.string s0) (.slice A1 m1 c1) (.slice (some ⟨b9, o9, none⟩) t.l.length c2) (.int .i64 k1) (.int .i64 i1) (.int .u64 n1) (.string s1) (.slice B1 p1 q1) (.slice B2 p2 q2) (.int .i64 0) (.int .i64 0) (.int .u64 0) (.string ⟨#[]⟩) (.slice none 0 0) (.slice none 0 0) W) ∧ W.cell? ⟨w.heap.size, 0, none⟩ = some (.int .i64 k0) ∧ W.cell? ⟨w.heap.size, 1, none⟩ = some (.int .i64 i0) ∧ W.cell? ⟨w.heap.size, 2, none⟩ = some (.int .u64 n0) ∧ W.cell? ⟨w.heap.size, 3, none⟩ = some (.string s0) ∧ W.cell? ⟨w.heap.size, 4, none⟩ = some (.slice A1 m1 c1) ∧ W.cell? ⟨w.heap.size, 5, none⟩ = some (.slice (some ⟨b9, o9, none⟩) t.l.length c2) ∧ W.cell? ⟨bb, off, none⟩ = some (.string x.k) ∧ W.cell? ⟨bb, off + 1, none⟩ = some (.int .i64 x.a) ∧ W.cell? ⟨bb, off + 2, none⟩ = some (.bool x.b)) (exact hall _ (by assumption))
        (first | (go_at_call 56; (with_reducible refine (HF0.out _ (by assumption)).mono ?_); rintro e w2 ⟨⟨ii, rfl, hi⟩, HT2⟩; have hi2 := hi i rfl; subst hi2; obtain ⟨d0, d1, d2, d3, d4, d5⟩ := HT2.out.b0.all; obtain ⟨f0, f1, f2, f3, f4, f5⟩ := HT2.out.b1.all; obtain ⟨y0, y1, y2, y3, y4, y5⟩ := H6.out.below (hB _ HT2.out.bl) hb9))
      have g8 : Hid (∀ W o, Hid (Tr w (.int .i64 k0) (.int .i64 i0) (.int .u64 n0) (.string s0) (.slice A1 m1 c1) (.slice (some ⟨b9, o9, none⟩) t.l.length c2) (.int .i64 k1) (.int .i64 i1) (.int .u64 n1) (.string s1) (.slice B1 p1 q1) (.slice B2 p2 q2) (.int .i64 0) (.int .i64 0) (.int .u64 0) (.string ⟨#[]⟩) (.slice none 0 0) (.slice none 0 0) W) → Hid (Tr w (.int .i64 k0) (.int .i64 i0) (.int .u64 n0) (.string s0) (.slice A1 m1 c1) (.slice (some ⟨b9, o9, none⟩) t.l.length c2) (.int .i64 k1) (.int .i64 i1) (.int .u64 n1) (.string s1) (.slice B1 p1 q1) (.slice B2 p2 q2) (.int .i64 0) (.int .i64 0) (.int .u64 0) (.string ⟨#[]⟩) (.slice none 0 0) (.slice none 0 0) (W.alloc o))) := Lib.hid fun W o H => Lib.hid (H.out.below ((Below.refl _ W).alloc (Nat.le_refl _) o))
      have hset : ∀ (W : World) (o : Nat) (a0 a1 a2 a3 a4 a5 : Value), Hid (Tr w (.int .i64 k0) (.int .i64 i0) (.int .u64 n0) (.string s0) (.slice A1 m1 c1) (.slice (some ⟨b9, o9, none⟩) t.l.length c2) (.int .i64 k1) (.int .i64 i1) (.int .u64 n1) (.string s1) (.slice B1 p1 q1) (.slice B2 p2 q2) (.int .i64 0) (.int .i64 0) (.int .u64 0) (.string ⟨#[]⟩) (.slice none 0 0) (.slice none 0 0) W) → Hid (w.heap.size + 3 ≤ o) → Hid (Tr w (.int .i64 k0) (.int .i64 i0) (.int .u64 n0) (.string s0) (.slice A1 m1 c1) (.slice (some ⟨b9, o9, none⟩) t.l.length c2) (.int .i64 k1) (.int .i64 i1) (.int .u64 n1) (.string s1) (.slice B1 p1 q1) (.slice B2 p2 q2) (.int .i64 0) (.int .i64 0) (.int .u64 0) (.string ⟨#[]⟩) (.slice none 0 0) (.slice none 0 0) ((((((W.setCell ⟨o, 0, none⟩ a0).setCell ⟨o, 1, none⟩ a1).setCell ⟨o, 2, none⟩ a2).setCell ⟨o, 3, none⟩ a3).setCell ⟨o, 4, none⟩ a4).setCell ⟨o, 5, none⟩ a5)) :=
        fun W o a0 a1 a2 a3 a4 a5 H ho => Lib.hid (H.out.put 0 ho.out a0 a1 a2 a3 a4 a5)
      have HL2 : Hid (w.heap.size + 3 ≤ w2.heap.size) := Lib.hid HT2.out.sz
      have hj1 : (1 : Int) ≤ (n : Int) := by omega
      have HTd2 := Lib.hid (HT2.out.below (Below.refl _ _).drew)
      have HTa2 := g8.out w2 (.cells #[.int .i64 0, .int .i64 0, .int .u64 0, .string ⟨#[]⟩, .slice none 0 0, .slice none 0 0] 38) HT2
      have HTad2 := Lib.hid (HTa2.out.below (Below.refl _ _).drew)
      obtain ⟨_, r5, r6, r7, r8, r9, r10, r11, r12, r13, r14, r15, r16, r17⟩ := hall2 _ HT2
      clear hall HF0 HT0 HTd a0 a1 a2 a3 a4 a5 x0 x1 x2 d0 d1 d2 d3 d4 d5 f0 f1 f2 f3 f4 f5 y0 y1 y2 y3 y4 y5
      cases hst : setT c' ps y with
      | none =>
        rw [hst] at HIH
        have HSN := Lib.hid (setT_none2 (ps := ps) (y := y) HLD.out HC'.out hst)
        clear hst
        go_wp2_with fail
        go_region_held3 (fun W => Hid (Tr w (.int .i64 k0) (.int .i64 i0) (.int .u64 n0) (.string s0) (.slice A1 m1 c1) (.slice (some ⟨b9, o9, none⟩) t.l.length c2) (.int .i64 k1) (.int .i64 i1) (.int .u64 n1) (.string s1) (.slice B1 p1 q1) (.slice B2 p2 q2) (.int .i64 0) (.int .i64 0) (.int .u64 0) (.string ⟨#[]⟩) (.slice none 0 0) (.slice none 0 0) W) ∧ W.cell? ⟨w.heap.size, 5, none⟩ = some (.slice (some ⟨b9, o9, none⟩) t.l.length c2) ∧ W.cell? ⟨w.heap.size + 1, 0, none⟩ = some (.int .i64 k1) ∧ W.cell? ⟨w.heap.size + 1, 1, none⟩ = some (.int .i64 i1) ∧ W.cell? ⟨w.heap.size + 1, 2, none⟩ = some (.int .u64 n1) ∧ W.cell? ⟨w.heap.size + 1, 3, none⟩ = some (.string s1) ∧ W.cell? ⟨w.heap.size + 1, 4, none⟩ = some (.slice B1 p1 q1) ∧ W.cell? ⟨w.heap.size + 1, 5, none⟩ = some (.slice B2 p2 q2) ∧ W.cell? ⟨b9, o9 + i * 6, none⟩ = some (.int .i64 k8) ∧ W.cell? ⟨b9, o9 + i * 6 + 1, none⟩ = some (.int .i64 i8) ∧ W.cell? ⟨b9, o9 + i * 6 + 2, none⟩ = some (.int .u64 u8) ∧ W.cell? ⟨b9, o9 + i * 6 + 3, none⟩ = some (.string s8) ∧ W.cell? ⟨b9, o9 + i * 6 + 4, none⟩ = some (.slice C1' m1' d1') ∧ W.cell? ⟨b9, o9 + i * 6 + 5, none⟩ = some (.slice C2' m2' d2')) (with_reducible exact hall2 _ (by first | assumption | exact HTad2 | exact g8.out _ _ (by assumption) | exact hset _ _ _ _ _ _ _ _ (by assumption) (by assumption)))
          (first | (go_at_call 61; rw [HTA.out]; (with_reducible refine (HIH.out _ (by first | assumption | exact HTa2 | exact HTad2)).mono ?_); rintro e w4 ⟨⟨rfl, hb4⟩, HT4⟩; have HL4 := Lib.hid HT4.out.sz; (first | (have HO4 := Lib.hid (born_drew hb4); obtain ⟨⟨p0, p1, p2, p3, p4, p5⟩, fr0, fr1, fr2, fr3, fr4, fr5⟩ := Bx.both HO4.out) | skip); clear hb4))
        · have HT5 := Lib.hid (HT4.out.below ((Below.refl _ w4).alloc (Nat.le_refl _) (.cells #[.int .i64 0, .int .i64 0, .int .u64 0, .string ⟨#[]⟩, .slice none 0 0, .slice none 0 0] 38)))
          obtain ⟨⟨d0, d1, d2, d3, d4, d5⟩, e0, e1, e2, e3, e4, e5⟩ := Bx.both HT5.out.b2
          go_wp2_with fail
          change bodyPost Tryz.prog Tryz.f61 (RE w0 w _) .ret _ _
          refine ret_six2 (p := 6) (q := 7) (g := w.heap.size + 1 + 1) (v := .bool false) (by rfl) (by rfl) (by rfl) (put6_bx HT5.out.b2 _ _ _ _ _ _) (by rfl) ?_
          exact RE.no HSN.out (put6_below HT5.out.bl _ _ _ _ _ _ _ _ (by omega))
        · have HT5 := hset w4 w2.heap.size (.int .i64 0) (.int .i64 0) (.int .u64 0) (.string ⟨#[]⟩) (.slice none 0 0) (.slice none 0 0) HT4 HL2
          obtain ⟨⟨d0, d1, d2, d3, d4, d5⟩, e0, e1, e2, e3, e4, e5⟩ := Bx.both HT5.out.b2
          go_wp2_with fail
          change bodyPost Tryz.prog Tryz.f61 (RE w0 w _) .ret _ _
          refine ret_six2 (p := 6) (q := 7) (g := w.heap.size + 1 + 1) (v := .bool false) (by rfl) (by rfl) (by rfl) (put6_bx HT5.out.b2 _ _ _ _ _ _) (by rfl) ?_
          exact RE.no HSN.out (put6_below HT5.out.bl _ _ _ _ _ _ _ _ (by omega))
      | some x9 =>
        rw [hst] at HIH
        have HSS := Lib.hid (setT_some (ps := ps) (y := y) HLD.out HC'.out hst)
        clear hst
        go_wp2_with fail
        go_region_held3 (fun W => Hid (Tr w (.int .i64 k0) (.int .i64 i0) (.int .u64 n0) (.string s0) (.slice A1 m1 c1) (.slice (some ⟨b9, o9, none⟩) t.l.length c2) (.int .i64 k1) (.int .i64 i1) (.int .u64 n1) (.string s1) (.slice B1 p1 q1) (.slice B2 p2 q2) (.int .i64 0) (.int .i64 0) (.int .u64 0) (.string ⟨#[]⟩) (.slice none 0 0) (.slice none 0 0) W) ∧ W.cell? ⟨w.heap.size, 5, none⟩ = some (.slice (some ⟨b9, o9, none⟩) t.l.length c2) ∧ W.cell? ⟨w.heap.size + 1, 0, none⟩ = some (.int .i64 k1) ∧ W.cell? ⟨w.heap.size + 1, 1, none⟩ = some (.int .i64 i1) ∧ W.cell? ⟨w.heap.size + 1, 2, none⟩ = some (.int .u64 n1) ∧ W.cell? ⟨w.heap.size + 1, 3, none⟩ = some (.string s1) ∧ W.cell? ⟨w.heap.size + 1, 4, none⟩ = some (.slice B1 p1 q1) ∧ W.cell? ⟨w.heap.size + 1, 5, none⟩ = some (.slice B2 p2 q2) ∧ W.cell? ⟨b9, o9 + i * 6, none⟩ = some (.int .i64 k8) ∧ W.cell? ⟨b9, o9 + i * 6 + 1, none⟩ = some (.int .i64 i8) ∧ W.cell? ⟨b9, o9 + i * 6 + 2, none⟩ = some (.int .u64 u8) ∧ W.cell? ⟨b9, o9 + i * 6 + 3, none⟩ = some (.string s8) ∧ W.cell? ⟨b9, o9 + i * 6 + 4, none⟩ = some (.slice C1' m1' d1') ∧ W.cell? ⟨b9, o9 + i * 6 + 5, none⟩ = some (.slice C2' m2' d2')) (with_reducible exact hall2 _ (by first | assumption | exact HTad2 | exact g8.out _ _ (by assumption) | exact hset _ _ _ _ _ _ _ _ (by assumption) (by assumption)))
          (first | (go_at_call 61; rw [HTA.out]; (with_reducible refine (HIH.out _ (by first | assumption | exact HTa2 | exact HTad2)).mono ?_); rintro e w4 ⟨⟨⟨cs', rfl, hrk⟩, hb4⟩, HT4⟩; obtain ⟨k5, i5, u5, s5, E1, e1, l1, E2, e2, l2, rfl⟩ := (hrk w4 (hB _ HT4.out.bl) (fun b _ _ => rfl) (Nat.le_refl _)).shape; have HNO := Lib.hid hrk; clear hrk; have HL4 := Lib.hid HT4.out.sz; (first | (have HO4 := Lib.hid (born_drew hb4); obtain ⟨⟨p0, p1, p2, p3, p4, p5⟩, fr0, fr1, fr2, fr3, fr4, fr5⟩ := Bx.both HO4.out) | skip); clear hb4))
        · have HT5 := Lib.hid (HT4.out.below ((Below.refl _ w4).alloc (Nat.le_refl _) (.cells #[.int .i64 k5, .int .i64 i5, .int .u64 u5, .string s5, .slice E1 e1 l1, .slice E2 e2 l2] 38)))
          have HC5 : Hid (Bx (w4.alloc (.cells #[.int .i64 k5, .int .i64 i5, .int .u64 u5, .string s5, .slice E1 e1 l1, .slice E2 e2 l2] 38)) w4.heap.size (.int .i64 k5) (.int .i64 i5) (.int .u64 u5) (.string s5) (.slice E1 e1 l1) (.slice E2 e2 l2)) := Lib.hid (Blk.new _ _ _)
          have HK5 : Hid (RK w0 w2.heap.size (w4.alloc (.cells #[.int .i64 k5, .int .i64 i5, .int .u64 u5, .string s5, .slice E1 e1 l1, .slice E2 e2 l2] 38)) x9 [.int .i64 k5, .int .i64 i5, .int .u64 u5, .string s5, .slice E1 e1 l1, .slice E2 e2 l2]) := Lib.hid fun W h1 h2 h3 => HNO.out W h1 (fun b h4 h5 => (h2 b h4 (by rw [World.size_alloc]; omega)).trans (Below.heap_alloc _ _ _ h5)) (by rw [World.size_alloc] at h3; omega)
          have HG5 : Hid (w.heap.size + 3 ≤ w4.heap.size) := HL4
          have HLO : Hid (w.heap.size + 3 ≤ w2.heap.size) := HL2
          obtain ⟨W5, hW5⟩ : ∃ W5, w4.alloc (.cells #[.int .i64 k5, .int .i64 i5, .int .u64 u5, .string s5, .slice E1 e1 l1, .slice E2 e2 l2] 38) = W5 := ⟨_, rfl⟩
          obtain ⟨cb, hcb⟩ : ∃ cb, w4.heap.size = cb := ⟨_, rfl⟩
          rw [hW5] at HT5 HC5 HK5
          rw [hcb] at HC5 HG5
          simp only [hW5, hcb]
          clear hW5 hcb HT4 HL4 HNO
          obtain ⟨d0, d1, d2, d3, d4, d5⟩ := HT5.out.b0.all
          obtain ⟨f0, f1, f2, f3, f4, f5⟩ := HC5.out.all
          have hBW := HT5.out.bl
          have HOS := Lib.hid (HT5.out.sz)
          go_wp2_with fail
          (with_reducible refine (HCL.out _ hBW).mono ?_)
          rintro e w6 ⟨g, dd, rfl, HO6, HB6⟩
          have HT6 := Lib.hid (HT5.out.below HB6.out)
          have HC6 := Lib.hid (Blk.below HC5.out HB6.out HC5.out.lt)
          obtain ⟨m0, m1, m2', m3, m4, m5⟩ := HT6.out.b0.all
          have g9 := HT6.out.b0.frozen
          have hT7 := HT6.out.set5 (.slice (some ⟨g, 0, none⟩) t.l.length dd)
          have hC7 := Blk.setOther (g := w.heap.size) (i := 5) HC6.out (.slice (some ⟨g, 0, none⟩) t.l.length dd) (by have := HG5.out; omega)
          have hgb : W5.heap.size ≤ g := HO6.out.2 g rfl
          have HGB := Lib.hid hgb
          have hw67 : ∀ b, b < W5.heap.size → b ≠ w.heap.size → (w6.setCell ⟨w.heap.size, 5, none⟩ (.slice (some ⟨g, 0, none⟩) t.l.length dd)).heap[b]? = W5.heap[b]? := fun b h1 h2 => (heap_set_other _ _ _ _ _ h2).trans (HB6.out.block b h1)
          have hw67s : W5.heap.size ≤ (w6.setCell ⟨w.heap.size, 5, none⟩ (.slice (some ⟨g, 0, none⟩) t.l.length dd)).heap.size := by rw [size_set]; exact HB6.out.size
          have H67 := Lib.hid (And.intro hw67 hw67s)
          clear hw67 hw67s
          have hO7 := Ow.setOther (i := 5) HO6.out (.slice (some ⟨g, 0, none⟩) t.l.length dd) (g := w.heap.size) (fun b hb => (by have := HOS.out; omega))
          go_upto_region 10 with fail
          obtain ⟨W7, hW7⟩ : ∃ W7, w6.setCell ⟨w.heap.size, 5, none⟩ (.slice (some ⟨g, 0, none⟩) t.l.length dd) = W7 := ⟨_, rfl⟩
          rw [hW7] at hT7 hC7 hO7 H67
          rw [hW7]
          have HT7 := Lib.hid hT7
          have HC7 := Lib.hid hC7
          have HO7 := Lib.hid hO7
          obtain ⟨n0', n1', n2', n3', n4', n5'⟩ := Bx.all hC7
          have hrs := row_six hO7 hyl
          obtain ⟨⟨q0', q1', q2', q3', q4', q5'⟩, fz⟩ := hrs
          have z0' := fz (i * 6)
          have z1' := fz (i * 6 + 1)
          have z2' := fz (i * 6 + 2)
          have z3' := fz (i * 6 + 3)
          have z4' := fz (i * 6 + 4)
          have z5' := fz (i * 6 + 5)
          have hg1 : w.heap.size + 3 ≤ g := by have := HOS.out; omega
          clear fz hgb m0 m1 m2' m3 m4 m5 d0 d1 d2 d3 d4 d5 f0 f1 f2 f3 f4 f5 hT7 hC7 hO7 hW7 g9
          obtain ⟨m0, m1, m2', m3, m4, m5⟩ := HT7.out.b0.all
          go_upto_region 11 with fail
          have HT8 := Lib.hid (HT7.out.put (i * 6) hg1 (.int .i64 k5) (.int .i64 i5) (.int .u64 u5) (.string s5) (.slice E1 e1 l1) (.slice E2 e2 l2))
          have hO8 := put6_ow HO7.out hyl (.int .i64 k5) (.int .i64 i5) (.int .u64 u5) (.string s5) (.slice E1 e1 l1) (.slice E2 e2 l2)
          rw [List.append_assoc] at hO8
          have HO8 := Lib.hid hO8
          obtain ⟨W8, hW8⟩ : ∃ W8, put6 W7 g (i * 6) (.int .i64 k5) (.int .i64 i5) (.int .u64 u5) (.string s5) (.slice E1 e1 l1) (.slice E2 e2 l2) = W8 := ⟨_, rfl⟩
          have hw8 : ∀ b, b ≠ g → (put6 W7 g (i * 6) (.int .i64 k5) (.int .i64 i5) (.int .u64 u5) (.string s5) (.slice E1 e1 l1) (.slice E2 e2 l2)).heap[b]? = W7.heap[b]? := fun b hb => put6_other _ _ _ _ _ _ _ _ _ _ hb
          have hw8s : (put6 W7 g (i * 6) (.int .i64 k5) (.int .i64 i5) (.int .u64 u5) (.string s5) (.slice E1 e1 l1) (.slice E2 e2 l2)).heap.size = W7.heap.size := put6_size _ _ _ _ _ _ _ _ _
          rw [hW8] at HT8 HO8 hw8 hw8s
          have H8 := Lib.hid (And.intro hw8 hw8s)
          clear hw8 hw8s
          unfold put6 at hW8
          rw [hW8]
          clear hO8 q0' q1' q2' q3' q4' q5' z0' z1' z2' z3' z4' z5' n0' n1' n2' n3' n4' n5' m0 m1 m2' m3 m4 m5
          obtain ⟨m0, m1, m2', m3, m4, m5⟩ := HT8.out.b0.all
          obtain ⟨⟨d0, d1, d2, d3, d4, d5⟩, ee0, ee1, ee2, ee3, ee4, ee5⟩ := Bx.both HT8.out.b2
          go_wp2_with fail
          change bodyPost Tryz.prog Tryz.f61 (RE w0 w _) .ret _ _
          refine ret_six2 (p := 6) (q := 7) (g := w.heap.size + 1 + 1) (v := .bool true) (by rfl) (by rfl) (by rfl) (put6_bx HT8.out.b2 _ _ _ _ _ _) (by rfl) ?_
          have hH8 := HO8.out
          have hsz5 := HT5.out.sz
          have hLO := HLO.out
          refine RE.yes HSS.out (fun W h1 h2 h3 => ?_) (put6_below HT8.out.bl _ _ _ _ _ _ _ _ (by omega))
          simp only [World.size_setCell] at h2 h3
          have hk : ∀ b, w.heap.size + 3 ≤ b → b < W8.heap.size → W.heap[b]? = W8.heap[b]? := fun b hb1 hb2 => (h2 b (by omega) hb2).trans (put6_other _ _ _ _ _ _ _ _ _ _ (by omega))
          have hN9 : Nd W x9 [.int .i64 k5, .int .i64 i5, .int .u64 u5, .string s5, .slice E1 e1 l1, .slice E2 e2 l2] := HK5.out W h1 (fun b hb1 hb2 => by
            have e1 := H8.out.2
            have e2 := H67.out.2
            have e3 := HGB.out
            rw [hk b (by omega) (by omega), H8.out.1 b (by omega), H67.out.1 b hb2 (by omega)]) (by have e1 := H8.out.2; have e2 := H67.out.2; omega)
          exact Nd.swap HND.out h1 (by rw [List.length_set]) (hH8.step (U' := fun _ => True) fun b hb hb2 => ⟨hk b (by have e3 : W5.heap.size ≤ b := hb; have := HT5.out.sz; omega) hb2, trivial⟩) (NdX.swap hil (NdX.below h1 _ _ HXY.out) hN9 (NdX.below h1 _ _ HXZ.out))
        · have HT5 := hset w4 w2.heap.size (.int .i64 k5) (.int .i64 i5) (.int .u64 u5) (.string s5) (.slice E1 e1 l1) (.slice E2 e2 l2) HT4 HL2
          have HC5 : Hid (Bx (put6 w4 w2.heap.size 0 (.int .i64 k5) (.int .i64 i5) (.int .u64 u5) (.string s5) (.slice E1 e1 l1) (.slice E2 e2 l2)) w2.heap.size (.int .i64 k5) (.int .i64 i5) (.int .u64 u5) (.string s5) (.slice E1 e1 l1) (.slice E2 e2 l2)) := Lib.hid (put6_bx HO4.out _ _ _ _ _ _)
          have HK5 : Hid (RK w0 (w2.heap.size + 1) (put6 w4 w2.heap.size 0 (.int .i64 k5) (.int .i64 i5) (.int .u64 u5) (.string s5) (.slice E1 e1 l1) (.slice E2 e2 l2)) x9 [.int .i64 k5, .int .i64 i5, .int .u64 u5, .string s5, .slice E1 e1 l1, .slice E2 e2 l2]) := Lib.hid fun W h1 h2 h3 => HNO.out W h1 (fun b h4 h5 => (h2 b (by simpa using h4) (by rw [put6_size]; exact h5)).trans (put6_other _ _ _ _ _ _ _ _ _ _ (by have : w2.heap.size + 1 ≤ b := (by simpa using h4); omega))) (by rw [put6_size] at h3; exact h3)
          have HG5 : Hid (w.heap.size + 3 ≤ w2.heap.size) := HL2
          have HLO : Hid (w.heap.size + 3 ≤ w2.heap.size + 1) := Lib.hid (Nat.le_succ_of_le HL2.out)
          obtain ⟨W5, hW5⟩ : ∃ W5, put6 w4 w2.heap.size 0 (.int .i64 k5) (.int .i64 i5) (.int .u64 u5) (.string s5) (.slice E1 e1 l1) (.slice E2 e2 l2) = W5 := ⟨_, rfl⟩
          obtain ⟨cb, hcb⟩ : ∃ cb, w2.heap.size = cb := ⟨_, rfl⟩
          have HT5' : Hid (Tr w _ _ _ _ _ _ _ _ _ _ _ _ _ _ _ _ _ _ (put6 w4 w2.heap.size 0 (.int .i64 k5) (.int .i64 i5) (.int .u64 u5) (.string s5) (.slice E1 e1 l1) (.slice E2 e2 l2))) := HT5
          rw [hW5] at HT5' HC5 HK5
          rw [hcb] at HC5 HG5 
          unfold put6 at hW5
          simp only [hW5]
          simp only [hcb]
          clear hW5 HT4 HL4 HNO HT5 HO4 p0 p1 p2 p3 p4 p5 fr0 fr1 fr2 fr3 fr4 fr5
          have HT5 := HT5'
          clear HT5'
          obtain ⟨d0, d1, d2, d3, d4, d5⟩ := HT5.out.b0.all
          obtain ⟨f0, f1, f2, f3, f4, f5⟩ := HC5.out.all
          have hBW := HT5.out.bl
          have HOS := Lib.hid (HT5.out.sz)
          go_wp2_with fail
          (with_reducible refine (HCL.out _ hBW).mono ?_)
          rintro e w6 ⟨g, dd, rfl, HO6, HB6⟩
          have HT6 := Lib.hid (HT5.out.below HB6.out)
          have HC6 := Lib.hid (Blk.below HC5.out HB6.out HC5.out.lt)
          obtain ⟨m0, m1, m2', m3, m4, m5⟩ := HT6.out.b0.all
          have g9 := HT6.out.b0.frozen
          have hT7 := HT6.out.set5 (.slice (some ⟨g, 0, none⟩) t.l.length dd)
          have hC7 := Blk.setOther (g := w.heap.size) (i := 5) HC6.out (.slice (some ⟨g, 0, none⟩) t.l.length dd) (by have := HG5.out; omega)
          have hgb : W5.heap.size ≤ g := HO6.out.2 g rfl
          have HGB := Lib.hid hgb
          have hw67 : ∀ b, b < W5.heap.size → b ≠ w.heap.size → (w6.setCell ⟨w.heap.size, 5, none⟩ (.slice (some ⟨g, 0, none⟩) t.l.length dd)).heap[b]? = W5.heap[b]? := fun b h1 h2 => (heap_set_other _ _ _ _ _ h2).trans (HB6.out.block b h1)
          have hw67s : W5.heap.size ≤ (w6.setCell ⟨w.heap.size, 5, none⟩ (.slice (some ⟨g, 0, none⟩) t.l.length dd)).heap.size := by rw [size_set]; exact HB6.out.size
          have H67 := Lib.hid (And.intro hw67 hw67s)
          clear hw67 hw67s
          have hO7 := Ow.setOther (i := 5) HO6.out (.slice (some ⟨g, 0, none⟩) t.l.length dd) (g := w.heap.size) (fun b hb => (by have := HOS.out; omega))
          go_upto_region 10 with fail
          obtain ⟨W7, hW7⟩ : ∃ W7, w6.setCell ⟨w.heap.size, 5, none⟩ (.slice (some ⟨g, 0, none⟩) t.l.length dd) = W7 := ⟨_, rfl⟩
          rw [hW7] at hT7 hC7 hO7 H67
          rw [hW7]
          have HT7 := Lib.hid hT7
          have HC7 := Lib.hid hC7
          have HO7 := Lib.hid hO7
          obtain ⟨n0', n1', n2', n3', n4', n5'⟩ := Bx.all hC7
          have hrs := row_six hO7 hyl
          obtain ⟨⟨q0', q1', q2', q3', q4', q5'⟩, fz⟩ := hrs
          have z0' := fz (i * 6)
          have z1' := fz (i * 6 + 1)
          have z2' := fz (i * 6 + 2)
          have z3' := fz (i * 6 + 3)
          have z4' := fz (i * 6 + 4)
          have z5' := fz (i * 6 + 5)
          have hg1 : w.heap.size + 3 ≤ g := by have := HOS.out; omega
          clear fz hgb m0 m1 m2' m3 m4 m5 d0 d1 d2 d3 d4 d5 f0 f1 f2 f3 f4 f5 hT7 hC7 hO7 hW7 g9
          obtain ⟨m0, m1, m2', m3, m4, m5⟩ := HT7.out.b0.all
          go_upto_region 11 with fail
          have HT8 := Lib.hid (HT7.out.put (i * 6) hg1 (.int .i64 k5) (.int .i64 i5) (.int .u64 u5) (.string s5) (.slice E1 e1 l1) (.slice E2 e2 l2))
          have hO8 := put6_ow HO7.out hyl (.int .i64 k5) (.int .i64 i5) (.int .u64 u5) (.string s5) (.slice E1 e1 l1) (.slice E2 e2 l2)
          rw [List.append_assoc] at hO8
          have HO8 := Lib.hid hO8
          obtain ⟨W8, hW8⟩ : ∃ W8, put6 W7 g (i * 6) (.int .i64 k5) (.int .i64 i5) (.int .u64 u5) (.string s5) (.slice E1 e1 l1) (.slice E2 e2 l2) = W8 := ⟨_, rfl⟩
          have hw8 : ∀ b, b ≠ g → (put6 W7 g (i * 6) (.int .i64 k5) (.int .i64 i5) (.int .u64 u5) (.string s5) (.slice E1 e1 l1) (.slice E2 e2 l2)).heap[b]? = W7.heap[b]? := fun b hb => put6_other _ _ _ _ _ _ _ _ _ _ hb
          have hw8s : (put6 W7 g (i * 6) (.int .i64 k5) (.int .i64 i5) (.int .u64 u5) (.string s5) (.slice E1 e1 l1) (.slice E2 e2 l2)).heap.size = W7.heap.size := put6_size _ _ _ _ _ _ _ _ _
          rw [hW8] at HT8 HO8 hw8 hw8s
          have H8 := Lib.hid (And.intro hw8 hw8s)
          clear hw8 hw8s
          unfold put6 at hW8
          rw [hW8]
          clear hO8 q0' q1' q2' q3' q4' q5' z0' z1' z2' z3' z4' z5' n0' n1' n2' n3' n4' n5' m0 m1 m2' m3 m4 m5
          obtain ⟨m0, m1, m2', m3, m4, m5⟩ := HT8.out.b0.all
          obtain ⟨⟨d0, d1, d2, d3, d4, d5⟩, ee0, ee1, ee2, ee3, ee4, ee5⟩ := Bx.both HT8.out.b2
          go_wp2_with fail
          change bodyPost Tryz.prog Tryz.f61 (RE w0 w _) .ret _ _
          refine ret_six2 (p := 6) (q := 7) (g := w.heap.size + 1 + 1) (v := .bool true) (by rfl) (by rfl) (by rfl) (put6_bx HT8.out.b2 _ _ _ _ _ _) (by rfl) ?_
          have hH8 := HO8.out
          have hsz5 := HT5.out.sz
          have hLO := HLO.out
          refine RE.yes HSS.out (fun W h1 h2 h3 => ?_) (put6_below HT8.out.bl _ _ _ _ _ _ _ _ (by omega))
          simp only [World.size_setCell] at h2 h3
          have hk : ∀ b, w.heap.size + 3 ≤ b → b < W8.heap.size → W.heap[b]? = W8.heap[b]? := fun b hb1 hb2 => (h2 b (by omega) hb2).trans (put6_other _ _ _ _ _ _ _ _ _ _ (by omega))
          have hN9 : Nd W x9 [.int .i64 k5, .int .i64 i5, .int .u64 u5, .string s5, .slice E1 e1 l1, .slice E2 e2 l2] := HK5.out W h1 (fun b hb1 hb2 => by
            have e1 := H8.out.2
            have e2 := H67.out.2
            have e3 := HGB.out
            rw [hk b (by omega) (by omega), H8.out.1 b (by omega), H67.out.1 b hb2 (by omega)]) (by have e1 := H8.out.2; have e2 := H67.out.2; omega)
          exact Nd.swap HND.out h1 (by rw [List.length_set]) (hH8.step (U' := fun _ => True) fun b hb hb2 => ⟨hk b (by have e3 : W5.heap.size ≤ b := hb; have := HT5.out.sz; omega) hb2, trivial⟩) (NdX.swap hil (NdX.below h1 _ _ HXY.out) hN9 (NdX.below h1 _ _ HXZ.out))
end Go.Proofs.YtjnfilbdokppiaaGreatDoor
