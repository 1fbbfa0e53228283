/-
  What is proved here: a contract of tree.visit and of the iterator that tree.nodes hands back: each node with its level, in preorder, whatever the loop's body does to its own memory; no condition but those that each fact states.
-/
import Derived.Test.YtnplkamkeadlgaaDoorEqN
import Derived.RangeFuncNested
import Derived.RangeFuncBound
import Derived.RangeFuncCalls
import Derived.RangeFuncLeaves
import Derived.Shelf.Abstract
import Derived.Shelf.RegionOpen
import Derived.OwnWalkIn
import Derived.TacticsInMore
import Derived.LoopNIn
import Derived.LoopIn
namespace Go.Proofs.YtnplkamkeadlgaaDoor
open Go.RowKit Go.Shelf
attribute [local go_sem] Oper.semAt_some

theorem room_of_none {F : Fence} (hd : F.depth = none) (k : Nat) : F.room k := fun d h => by rw [hd] at h; cases h
theorem roundIn_anyDepth {F : Fence} (hd : F.depth = none) {m m' : Nat} {P : Program} {l : Nat} {f : FuncId} {tmps : Array Value} {assign body : Code} {w : World} {R : Ending → World → Prop}
    (h : RoundIn F m P l f tmps assign body w R) : RoundIn F m' P l f tmps assign body w R := ⟨h.1, fun c cs _ => h.2 c cs (room_of_none hd _)⟩
theorem yieldAt_anyDepth {F : Fence} (hd : F.depth = none) {m : Nat} (m' : Nat) {P : Program} {l : Nat} {args : Array Value} {W : World} {R : Ending → World → Prop} (h : YieldAt F m P l args W R) : YieldAt F m' P l args W R := by
  obtain ⟨fn, tmps, assign, body, hy, hR⟩ := h
  exact ⟨fn, tmps, assign, body, hy, roundIn_anyDepth hd hR⟩

mutual
/-- The nodes of a tree with their levels, in preorder. -/
def preT : T → Nat → List (Nat × T)
  | .mk k n u s ks l, b => (b, .mk k n u s ks l) :: preL l (b + 1)
def preL : List T → Nat → List (Nat × T)
  | [], _ => []
  | t :: ts, b => preT t b ++ preL ts b
end
mutual
theorem preT_length : ∀ (t : T) (b : Nat), (preT t b).length = sz t
  | .mk k n u s ks l, b => by simp only [preT, List.length_cons, preL_length l (b + 1), sz]; omega
theorem preL_length : ∀ (l : List T) (b : Nat), (preL l b).length = szL l
  | [], b => rfl
  | t :: ts, b => by simp only [preL, List.length_append, preT_length t b, preL_length ts b, szL]
end
theorem preL_app : ∀ (a c : List T) (b : Nat), preL (a ++ c) b = preL a b ++ preL c b
  | [], c, b => rfl
  | t :: ts, c, b => by simp only [List.cons_append, preL, preL_app ts c b, List.append_assoc]
theorem preL_take {l : List T} {j : Nat} {t : T} (h : l[j]? = some t) (b : Nat) : preL (l.take (j + 1)) b = preL (l.take j) b ++ preT t b := by
  rw [List.take_add_one, h, preL_app]
  simp [preL]
theorem preL_pre (l : List T) (j b : Nat) : preL (l.take j) b <+: preL l b := by
  have := preL_app (l.take j) (l.drop j) b
  rw [List.take_append_drop] at this
  exact ⟨_, this.symm⟩

/-- What a round is handed: a node of a tree that lies in w, with its level. -/
structure Ev (w : World) (Q : T → Prop) where
  lv : Nat
  t : T
  v0 : Value
  v1 : Value
  v2 : Value
  v3 : Value
  v4 : Value
  v5 : Value
  nd : Nd w t [v0, v1, v2, v3, v4, v5]
  low : lv < 1000000
  ok : Q t
def Ev.enc {w : World} {Q : T → Prop} (x : Ev w Q) : Array Value := #[.int .i64 (x.lv : Int), .agg #[x.v0, x.v1, x.v2, x.v3, x.v4, x.v5]]
def Ev.pl {w : World} {Q : T → Prop} (x : Ev w Q) : Nat × T := (x.lv, x.t)

/-- What a round keeps: what lay ahead of the call, and every row of cells that was laid since the loop began. -/
def Kp (n₀ n₁ : Nat) (W W' : World) : Prop := Below n₀ W W' ∧ ∀ k, n₁ ≤ k → ∀ o, W.heap[k]? = some o → o.isCells = true → W'.heap[k]? = some o
theorem Kp.refl (n₀ n₁ : Nat) (W : World) : Kp n₀ n₁ W W := ⟨Below.refl _ _, fun _ _ _ h _ => h⟩
theorem Kp.trans {n₀ n₁ : Nat} {A B C : World} (h : Kp n₀ n₁ A B) (k : Kp n₀ n₁ B C) : Kp n₀ n₁ A C := ⟨h.1.trans k.1, fun i hi o ho hc => k.2 i hi o (h.2 i hi o ho hc) hc⟩
theorem Kp.alloc {n₀ n₁ : Nat} {A B : World} (h : Kp n₀ n₁ A B) (o : Obj) (hn : n₀ ≤ B.heap.size) : Kp n₀ n₁ A (B.alloc o) :=
  h.trans ⟨(Below.refl _ _).alloc hn o, fun k _ _ hx _ => (Below.heap_alloc B o k (Array.getElem?_eq_some_iff.1 hx).1).trans hx⟩
theorem Kp.of_below {n₀ n₁ : Nat} {A B : World} (h : Below A.heap.size A B) (hn : n₀ ≤ A.heap.size) : Kp n₀ n₁ A B :=
  ⟨h.mono hn, fun k _ _ hx _ => (h.block k (Array.getElem?_eq_some_iff.1 hx).1).trans hx⟩
theorem Kp.blk {n₀ n₁ : Nat} {A B : World} (h : Kp n₀ n₁ A B) {g : Nat} {t : TypeId} {cs : Array Value} (hb : Blk A g t cs) (hg : n₁ ≤ g) : Blk B g t cs := h.2 g hg _ hb rfl
theorem kp_b {n₀ n₁ : Nat} {w : World} (hn : n₀ ≤ w.heap.size) (W : World) (l : Nat) (o o' : Obj) (hl : w.heap.size ≤ l) (h : W.heap[l]? = some o) (hc : o.isCells = false) (hw : o.isWalk = false) : Kp n₀ n₁ W (W.putObj l o') :=
  ⟨belowK_b hn W l o o' hl h hc hw, fun k _ _ hx hx' => by
    refine (World.putObj_heap_other ?_).trans hx
    intro e
    subst e
    rw [h] at hx
    cases hx
    rw [hc] at hx'
    cases hx'⟩

theorem wrap_small (x : Nat) (h : x < 2000000) : IntKind.i64.wrap (x : Int) = (x : Int) := by
  rw [IntKind.wrap_i64]
  omega

theorem Nd.shape {w : World} {t : T} {cs : List Value} (h : Nd w t cs) : ∃ (k n u : Int) (s : ByteArray) (A1 : Option Addr) (m1 c1 : Nat) (A2 : Option Addr) (m2 c2 : Nat), cs = [.int .i64 k, .int .i64 n, .int .u64 u, .string s, .slice A1 m1 c1, .slice A2 m2 c2] := by
  rcases t with ⟨k, n, u, s, ks, l⟩
  obtain ⟨_, _, kv, A, m, c, rfl, ⟨A1, m1, c1, rfl, _⟩, _⟩ := h
  exact ⟨k, n, u, s, A1, m1, c1, A, m, c, rfl⟩
theorem Nd.shape6 {w : World} {t : T} {v0 v1 v2 v3 v4 v5 : Value} (h : Nd w t [v0, v1, v2, v3, v4, v5]) : ∃ (k n u : Int) (s : ByteArray) (A1 : Option Addr) (m1 c1 : Nat) (A2 : Option Addr) (m2 c2 : Nat), v0 = .int .i64 k ∧ v1 = .int .i64 n ∧ v2 = .int .u64 u ∧ v3 = .string s ∧ v4 = .slice A1 m1 c1 ∧ v5 = .slice A2 m2 c2 := by
  obtain ⟨k, n, u, s, A1, m1, c1, A2, m2, c2, e⟩ := h.shape
  simp only [List.cons.injEq, and_true] at e
  exact ⟨k, n, u, s, A1, m1, c1, A2, m2, c2, e⟩

set_option maxRecDepth 100000 in
set_option maxHeartbeats 4000000 in
/-- tree.visit: by induction on the depth. -/
theorem visit_in (F : Fence) (hd : F.depth = none) (hf : ∀ f, F.fn f) (hro : F.round = none) (w : World) (Q : T → Prop) (hQ : ∀ t, Q t → ∀ c ∈ t.l, Q c) (l n₁ N B : Nat) (hn₁ : n₁ ≤ B) (hwn : w.heap.size ≤ n₁) (J Jx : List (Ev w Q) → World → Prop) (hJ : AbidesFrom B J)
    (hY : ∀ m pre (x : Ev w Q) W, J pre W → pre.length < N → YieldAt F m Tryd.prog l x.enc W fun e W' =>
      (e = .returned (.bool true) ∧ J (pre ++ [x]) W' ∧ Kp w.heap.size n₁ W W') ∨ (e = .returned (.bool false) ∧ Jx (pre ++ [x]) W')) (k : Nat) :
    ∀ (t : T) (v0 v1 v2 v3 v4 v5 : Value) (n b : Nat) (pre : List (Ev w Q)) (W : World), Q t → dp t ≤ k → sz t ≤ 100000 → b + dp t < 1000000 → Nd w t [v0, v1, v2, v3, v4, v5] → Below w.heap.size w W → B ≤ W.heap.size → J pre W → pre.length + sz t ≤ N →
      CallsIn F n Tryd.prog 64 #[.agg #[v0, v1, v2, v3, v4, v5], .int .i64 (b : Int), .func (.yield l) #[] #[]] W fun e W' =>
        (e = .returned (.bool true) ∧ (∃ q, q.map Ev.pl = preT t b ∧ J (pre ++ q) W') ∧ Kp w.heap.size n₁ W W') ∨ (e = .returned (.bool false) ∧ ∃ q, q.map Ev.pl <+: preT t b ∧ Jx (pre ++ q) W') := by
  have hdd : ∀ k : Nat, (F.depth.isSome = true → 1 ≤ k) := fun k h => by rw [hd] at h; cases h
  induction k with
  | zero => intro t _ _ _ _ _ _ _ _ _ _ _ h; exact absurd h (by have := dp_pos t; omega)
  | succ k ih =>
    rintro ⟨kk, nn, uu, s, ks, L⟩ v0 v1 v2 v3 v4 v5 n b pre W hq0 hk hsz hbl hnd hbw hBW hJ0 hN
    simp only [dp] at hk hbl
    simp only [sz] at hsz hN
    have hnd' := hnd
    obtain ⟨hr, hs, kv, A, m, c, hcs, hks, hl, hm, hmm, hL⟩ := hnd'
    simp only [List.cons.injEq, and_true] at hcs
    obtain ⟨rfl, rfl, rfl, rfl, rfl, rfl⟩ := hcs
    have hmx : m ≤ 100000 := by have := len_le_szL L; omega
    have hJ1 : J pre (W.alloc (.cells #[.int .i64 kk, .int .i64 nn, .int .u64 uu, .string s, v4, .slice A m c] 31)) := hJ pre _ _ none hJ0 (World.grownBy_alloc W _ none) (fun r e => by cases e)
    have hBx := Lib.hid (Blk.new W 31 #[.int .i64 kk, .int .i64 nn, .int .u64 uu, .string s, v4, .slice A m c])
    obtain ⟨fn, tmps, assign, body, hy, hR⟩ := hY (n - 1) pre ⟨b, .mk kk nn uu s ks L, _, _, _, _, _, _, hnd, by omega, hq0⟩ _ hJ1 (by omega)
    simp only [Ev.enc] at hy hR
    refine callsIn_of_wp Tryd.func64 rfl (hf _) ?_ hro
    simp only [Tryd.ntmps64, List.size_toArray, List.length_cons, List.length_nil, Nat.reduceAdd, Nat.reduceSub, Array.replicate_succ, Array.replicate_zero, List.push_toArray, List.append_toArray, List.nil_append, List.cons_append]
    gi_wp2_with fail
    refine hR.mono ?_
    clear hR hy
    rintro e W2 (⟨rfl, hJ2, hk2⟩ | ⟨rfl, hx2⟩)
    · have hK0 : Kp w.heap.size n₁ W W2 := ((Kp.refl _ _ W).alloc _ (Nat.le_trans hwn (Nat.le_trans hn₁ hBW))).trans hk2
      have hB2 : Blk W2 W.heap.size 31 #[.int .i64 kk, .int .i64 nn, .int .u64 uu, .string s, v4, .slice A m c] := hk2.blk hBx.out (by omega)
      have c5 := hB2.cell 5
      simp only [List.getElem?_toArray, List.getElem?_cons_succ, List.getElem?_cons_zero] at c5
      have HK0 := Lib.hid hK0
      have HSZ : Hid (∀ X, Kp w.heap.size n₁ W X → W.heap.size ≤ X.heap.size) := Lib.hid fun X h => h.1.size
      clear hK0 hk2 hB2
      have HJ2 : Hid (∃ q : List (Ev w Q), q.map Ev.pl = (b, T.mk kk nn uu s ks L) :: preL (L.take 0) (b + 1) ∧ J (pre ++ q) W2) := Lib.hid ⟨[⟨b, .mk kk nn uu s ks L, _, _, _, _, _, _, hnd, by omega, hq0⟩], by simp [Ev.pl, preL], hJ2⟩
      clear hJ2 hJ1
      gi_wp2_with fail
      gi_loopw [17] (fun i wr => ∃ j : Nat, j ≤ m ∧ i = .int .i64 (j : Int) ∧ Hid (∃ q : List (Ev w Q), q.map Ev.pl = (b, T.mk kk nn uu s ks L) :: preL (L.take j) (b + 1) ∧ J (pre ++ q) wr) ∧ Hid (Kp w.heap.size n₁ W wr)) (fun i _ => m - (intOf i).toNat)
      case atStart => exact ⟨0, Nat.zero_le _, rfl, HJ2, HK0⟩
      case round =>
        obtain ⟨j, hj, rfl, HJ, HK⟩ := hrel
        by_cases hjm : j < m
        · obtain ⟨bb, off, rfl, hbb, hNL⟩ := hL (by omega)
          obtain ⟨t0, ht0⟩ : ∃ t0, L[j]? = some t0 := ⟨_, List.getElem?_eq_getElem (by omega)⟩
          obtain ⟨u0, u1, u2, u3, u4, u5, hS, hn0⟩ := hNL.six' (Below.refl _ _) hbb ht0
          obtain ⟨d0, d1, d2, d3, d4, d5⟩ := hS.below (hbw.trans HK.out.1) hbb
          clear hS
          have hle := sz_le_of ht0
          have hdl := dp_le_of ht0
          obtain ⟨k0, i0, n0, s0, A1, m1, c1, A2, m2, c2, rfl, rfl, rfl, rfl, rfl, rfl⟩ := hn0.shape6
          obtain ⟨q, hq, hJq⟩ := HJ.out
          have hql : q.length = 1 + szL (L.take j) := by
            have := congrArg List.length hq
            simpa [preL_length, Nat.add_comm] using this
          have hsz0 : w.heap.size ≤ wr.heap.size := (hbw.trans HK.out.1).size
          have hszW : W.heap.size ≤ wr.heap.size := HSZ.out _ HK.out
          have hal : Kp w.heap.size n₁ W (wr.alloc (.cells #[.int .i64 k0, .int .i64 i0, .int .u64 n0, .string s0, .slice A1 m1 c1, .slice A2 m2 c2] 31)) := HK.out.alloc _ hsz0
          have ihj := Lib.hid ((ih t0 _ _ _ _ _ _ (n - 1) (b + 1) (pre ++ q) (wr.alloc (.cells #[.int .i64 k0, .int .i64 i0, .int .u64 n0, .string s0, .slice A1 m1 c1, .slice A2 m2 c2] 31)) (hQ _ hq0 t0 (List.mem_of_getElem? ht0)) (by omega) (by omega) (by omega)
            hn0 (hbw.trans hal.1) (by simp; omega) (hJ _ _ _ none hJq (World.grownBy_alloc wr _ none) (fun r e => by cases e)) (by simp only [List.length_append]; omega)).mono
            (R' := fun e W' => (e = .returned (.bool true) ∧ Hid (∃ q : List (Ev w Q), q.map Ev.pl = (b, T.mk kk nn uu s ks L) :: preL (L.take (j + 1)) (b + 1) ∧ J (pre ++ q) W') ∧ Hid (Kp w.heap.size n₁ W W')) ∨
              (e = .returned (.bool false) ∧ ∃ q : List (Ev w Q), q.map Ev.pl <+: preT (T.mk kk nn uu s ks L) b ∧ Jx (pre ++ q) W'))
            (fun e W' h => by
              rcases h with ⟨h1, ⟨q2, h2, h3⟩, h4⟩ | ⟨h1, q2, h2, h3⟩
              · exact .inl ⟨h1, Lib.hid ⟨q ++ q2, by rw [List.map_append, hq, h2, preL_take ht0]; simp, by rw [← List.append_assoc]; exact h3⟩, Lib.hid (hal.trans h4)⟩
              · refine .inr ⟨h1, q ++ q2, ?_, by rw [← List.append_assoc]; exact h3⟩
                rw [List.map_append, hq]
                have h5 := preL_pre L (j + 1) (b + 1)
                rw [preL_take ht0] at h5
                simp only [preT, List.cons_append]
                refine List.cons_prefix_cons.2 ⟨rfl, List.IsPrefix.trans ?_ h5⟩
                exact (List.prefix_append_right_inj _).2 h2))
          have hbb2 : (b : Int) + 1 = ((b + 1 : Nat) : Int) := by omega
          have hwr : IntKind.i64.wrap ((b : Int) + 1) = ((b + 1 : Nat) : Int) := by rw [hbb2]; exact wrap_small _ (by omega)
          obtain ⟨b1, hb1⟩ : ∃ b1, b + 1 = b1 := ⟨_, rfl⟩
          rw [hb1] at ihj hbb2 hwr
          clear hJq hq HJ HK hal hL ht0 hNL hn0
          gi_wp2_with ((try refine ⟨hdd _, ?_⟩); gi_at_call 64; refine ihj.out.mono ?_; clear ihj; rintro e W3 (⟨rfl, HJ3, HK3⟩ | ⟨rfl, hx3⟩))
          · go_roundw
            case rel => exact ⟨j + 1, by omega, by simp, by rw [hb1]; exact HJ3, HK3⟩
            case measure => simp [intOf]; omega
          · go_ret
            exact .inr ⟨rfl, hx3⟩
        · gi_wp2_with fail
          go_ret
          obtain rfl : j = m := by omega
          rw [List.take_of_length_le (by omega)] at HJ
          exact .inl ⟨rfl, by simpa only [preT] using HJ.out, HK.out⟩
    · gi_wp2_with fail
      go_ret
      refine .inr ⟨rfl, _, ?_, hx2⟩
      simp only [List.map_cons, List.map_nil, Ev.pl, preT]
      exact List.cons_prefix_cons.2 ⟨rfl, List.nil_prefix⟩

set_option maxRecDepth 100000 in
set_option maxHeartbeats 2000000 in
/-- What tree.nodes hands back: the iterator's own body. -/
theorem nodes1_in (F : Fence) (hd : F.depth = none) (hf : ∀ f, F.fn f) (hro : F.round = none) (n : Nat) (w : World) (Q : T → Prop) (hQ : ∀ t, Q t → ∀ c ∈ t.l, Q c) (l n₁ N B Bt : Nat) (hn₁ : n₁ ≤ B) (hwn : w.heap.size ≤ n₁) (J Jx : List (Ev w Q) → World → Prop) (hJ : AbidesFrom B J)
    (hY : ∀ m pre (x : Ev w Q) W, J pre W → pre.length < N → YieldAt F m Tryd.prog l x.enc W fun e W' =>
      (e = .returned (.bool true) ∧ J (pre ++ [x]) W' ∧ Kp w.heap.size n₁ W W') ∨ (e = .returned (.bool false) ∧ Jx (pre ++ [x]) W'))
    (t : T) (v0 v1 v2 v3 v4 v5 : Value) (W : World) (hq0 : Q t) (hsz : sz t ≤ 100000) (hnd : Nd w t [v0, v1, v2, v3, v4, v5]) (hbw : Below w.heap.size w W) (hBW : B ≤ W.heap.size) (hJ0 : J [] W) (hN : sz t ≤ N) (hbox : Bx W Bt v0 v1 v2 v3 v4 v5) :
      CallsIn F n Tryd.prog 63 #[.func (.yield l) #[] #[], .pointer (some ⟨Bt, 0, none⟩)] W fun e W' => (∃ v, e = .returned v) ∧
        ((∃ q, q.map Ev.pl = preT t 0 ∧ J q W') ∨ (∃ q, q.map Ev.pl <+: preT t 0 ∧ Jx q W')) := by
  have hdd : ∀ k : Nat, (F.depth.isSome = true → 1 ≤ k) := fun k h => by rw [hd] at h; cases h
  have hdp := dp_le_sz t
  have hp := visit_in F hd hf hro w Q hQ l n₁ N B hn₁ hwn J Jx hJ hY (dp t) t v0 v1 v2 v3 v4 v5 (n - 1) 0 [] W hq0 (Nat.le_refl _) hsz (by omega) hnd hbw hBW hJ0 (by simpa using hN)
  obtain ⟨c0, c1, c2, c3, c4, c5⟩ := hbox.all
  refine callsIn_of_wp Tryd.func63 rfl (hf _) ?_ hro
  simp only [Tryd.ntmps63, List.size_toArray, List.length_cons, List.length_nil, Nat.reduceAdd, Nat.reduceSub, Array.replicate_succ, Array.replicate_zero, List.push_toArray, List.append_toArray, List.nil_append, List.cons_append]
  gi_wp2_with ((try refine ⟨hdd _, ?_⟩); gi_at_call 64; refine hp.mono ?_; clear hp; rintro e W1 (⟨rfl, hq, _⟩ | ⟨rfl, hx⟩))
  · go_end0
    exact ⟨⟨_, rfl⟩, .inl (by simpa using hq)⟩
  · go_end0
    exact ⟨⟨_, rfl⟩, .inr (by simpa using hx)⟩

set_option maxHeartbeats 1000000 in
/-- tree.nodes: the node is boxed; the function value captures the box. -/
theorem nodes_in (F : Fence) (hf : ∀ f, F.fn f) (hro : F.round = none) (n : Nat) (v0 v1 v2 v3 v4 v5 : Value) (w : World) :
    CallsIn F n Tryd.prog 48 #[.agg #[v0, v1, v2, v3, v4, v5]] w fun e w' => e = .returned (.func (.func 63) #[] #[.pointer (some ⟨w.heap.size, 0, none⟩)]) ∧ w' = w.alloc (.cells #[v0, v1, v2, v3, v4, v5] 31) := by
  refine callsIn_of_wp Tryd.func48 rfl (hf _) ?_ hro
  simp only [Tryd.ntmps48, List.size_toArray, List.length_cons, List.length_nil, Nat.reduceAdd, Nat.reduceSub, Array.replicate_succ, Array.replicate_zero, List.push_toArray, List.append_toArray, List.nil_append, List.cons_append]
  gi_wp2_with fail
  go_ret
  exact ⟨rfl, rfl⟩

/-- What tree.nodes hands back gives the nodes with their levels, in preorder, or a first part of them. -/
theorem nodes_stops (F : Fence) (hd : F.depth = none) (hf : ∀ f, F.fn f) (hro : F.round = none) (n : Nat) (w w0 : World) (Q : T → Prop) (hQ : ∀ t, Q t → ∀ c ∈ t.l, Q c) (Bt : Nat) (t : T) (v0 v1 v2 v3 v4 v5 : Value) (hq0 : Q t) (hsz : sz t ≤ 100000) (hnd : Nd w t [v0, v1, v2, v3, v4, v5]) (hb : Below w.heap.size w w0) (hbox : Bx w0 Bt v0 v1 v2 v3 v4 v5) :
    SeqStopsK F n Tryd.prog 63 #[.pointer (some ⟨Bt, 0, none⟩)] (Ev.enc (w := w) (Q := Q)) (Kp w.heap.size w0.heap.size) (fun ys => ys.map Ev.pl = preT t 0) (fun pre => pre.map Ev.pl <+: preT t 0) (sz t) w0 := by
  intro l J Jx W hW hJ _ hY h0
  exact nodes1_in F hd hf hro n w Q hQ l w0.heap.size (sz t) W.heap.size Bt hW.size hb.size J Jx hJ (fun m pre x W1 hj hl => yieldAt_anyDepth hd m (hY pre x W1 hj hl)) t v0 v1 v2 v3 v4 v5 W hq0 hsz hnd (hb.trans (hW.mono hb.size)) (Nat.le_refl _) h0 (Nat.le_refl _) (hbox.below hW hbox.lt)
end Go.Proofs.YtnplkamkeadlgaaDoor
