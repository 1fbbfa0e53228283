/-
  What is proved here: pools of a law, each with a row of its own, and rows of strings beside them; contracts of all functions over it; no condition but those that each fact states.
-/
import Derived.Test.YtoenigbfcbillaaRefL
namespace Go.Proofs.Ytoenigbfcbillaa
open Go.RowKit

/-- Two rows lie in other blocks. -/
def Ap (a b : Value) : Prop := ∀ k, a.ownBlock = some k → b.ownBlock ≠ some k
theorem Ap.symm {a b : Value} (h : Ap a b) : Ap b a := fun k hk he => h k he hk
/-- A pool: its box, which of the two, its entries. -/
abbrev Ob := Nat × Bool × List E
abbrev RowS := Value × List ByteArray
/-- The pools L of the call's own, and rows R of strings beside them. -/
def Fm (w0 : World) (L : List Ob) (R : List RowS) (w : World) : Prop :=
  (∃ V : Nat → Value, (∀ o ∈ L, Pk w0.heap.size w o.1 o.2.1 (V o.1) o.2.2) ∧ L.Pairwise (fun a b => a.1 ≠ b.1 ∧ Ap (V a.1) (V b.1)) ∧ ∀ r ∈ R, OS w w0.heap.size r.1 r.2) ∧ Below w0.heap.size w0 w
theorem te_ty (k l : Bool) : te k ≠ ty l := by cases k <;> cases l <;> decide
theorem st_ty (k : Bool) : (9 : TypeId) ≠ ty k := by cases k <;> decide
theorem st_te (k : Bool) : (9 : TypeId) ≠ te k := by cases k <;> decide
theorem rows_ne {w : World} {B1 B2 s1 s2 n1 n2 : Nat} {e1 e2 : TypeId} {v1 v2 : Value} {x1 x2 : List Value} (h1 : w.ownsRow B1 e1 s1 v1 n1 x1) (h2 : w.ownsRow B2 e2 s2 v2 n2 x2) (hne : e1 ≠ e2) : Ap v1 v2 := by
  intro k hk1 hk2
  rcases h1.2 with ⟨rfl, _⟩ | ⟨g1, c1, cur1, rfl, _, hh1, _⟩
  · simp [Value.ownBlock] at hk1
  · rcases h2.2 with ⟨rfl, _⟩ | ⟨g2, c2, cur2, rfl, _, hh2, _⟩
    · simp [Value.ownBlock] at hk2
    · have e1' : g1 = k := by simpa [Value.ownBlock] using hk1
      have e2' : g2 = k := by simpa [Value.ownBlock] using hk2
      subst e1'; subst e2'
      rw [hh1] at hh2
      injection hh2 with hh2
      injection hh2 with _ h3
      exact hne h3
theorem OS.below {w w' : World} {B : Nat} {v : Value} {ks : List ByteArray} (h : OS w B v ks) (hb : Below w.heap.size w w') : OS w' B v ks := ⟨own_belN h.1 hb, h.2⟩
theorem OS.mono {w : World} {B B' : Nat} {v : Value} {ks : List ByteArray} (h : OS w B v ks) (hB : B' ≤ B) : OS w B' v ks := ⟨own_mono h.1 hB, h.2⟩
section
variable {w0 w w' : World} {p : Nat} {k : Bool} {xs ys : List E} {L : List Ob} {R : List RowS}
theorem Fm.below (h : Fm w0 L R w) (hb : Below w.heap.size w w') : Fm w0 L R w' := by
  obtain ⟨⟨V, h1, h2, h3⟩, h0⟩ := h
  exact ⟨⟨V, fun o ho => (h1 o ho).below hb, h2, fun r hr => (h3 r hr).below hb⟩, h0.trans (hb.mono h0.size)⟩
theorem Fm.drewN (h : Fm w0 L R w) (n : Nat) : Fm w0 L R (w.drewN n) := h.below ⟨rfl, rfl, rfl, Nat.le_refl _, fun _ _ => rfl⟩
theorem Fm.sub {R' : List RowS} (h : Fm w0 L R w) (hs : ∀ r ∈ R', r ∈ R) : Fm w0 L R' w := by
  obtain ⟨⟨V, h1, h2, h3⟩, h0⟩ := h
  exact ⟨⟨V, h1, h2, fun r hr => h3 r (hs r hr)⟩, h0⟩
theorem Fm.perm {L' : List Ob} (h : Fm w0 L R w) (hp : L.Perm L') : Fm w0 L' R w := by
  obtain ⟨⟨V, h1, h2, h3⟩, h0⟩ := h
  exact ⟨⟨V, fun o ho => h1 o (hp.mem_iff.2 ho), hp.pairwise h2 (fun {_ _} hab => ⟨fun e => hab.1 e.symm, hab.2.symm⟩), h3⟩, h0⟩
theorem Fm.swap {a b : Ob} (h : Fm w0 (a :: b :: L) R w) : Fm w0 (b :: a :: L) R w := h.perm (List.Perm.swap b a L)
theorem Fm.tail {a : Ob} (h : Fm w0 (a :: L) R w) : Fm w0 L R w := by
  obtain ⟨⟨V, h1, h2, h3⟩, h0⟩ := h
  exact ⟨⟨V, fun o ho => h1 o (List.mem_cons_of_mem _ ho), (List.pairwise_cons.1 h2).2, h3⟩, h0⟩
theorem Fm.rd {a : Value} {zs : List ByteArray} (h : Fm w0 L R w) (hr : (a, zs) ∈ R) : RdS w a zs := by
  obtain ⟨⟨V, h1, h2, h3⟩, h0⟩ := h
  exact (h3 _ hr).rd
theorem Fm.own {a : Value} {zs : List ByteArray} (h : Fm w0 L R w) (hr : (a, zs) ∈ R) : OS w w0.heap.size a zs := by
  obtain ⟨⟨V, h1, h2, h3⟩, h0⟩ := h
  exact h3 _ hr
theorem Fm.row {a : Value} {zs : List ByteArray} (h : Fm w0 L R w) (hb : Below w.heap.size w w') (ho : OS w' w.heap.size a zs) : Fm w0 L ((a, zs) :: R) w' := by
  have hs := h.2.size
  obtain ⟨⟨V, h1, h2, h3⟩, h0⟩ := h.below hb
  refine ⟨⟨V, h1, h2, fun r hr => ?_⟩, h0⟩
  rcases List.mem_cons.1 hr with rfl | hr
  · exact ho.mono hs
  · exact h3 r hr
theorem Fm.fst (h : Fm w0 ((p, k, xs) :: L) R w) : ∃ v, Pk w0.heap.size w p k v xs := by
  obtain ⟨⟨V, h1, _⟩, _⟩ := h
  exact ⟨V p, h1 _ (List.mem_cons_self ..)⟩
theorem Fm.call {r : Value} {xs' : List E} {f : FuncId} {args : Array Value} (h : Fm w0 ((p, k, xs) :: L) R w) (hc : ∀ v, Pk w0.heap.size w p k v xs → Calls Try.prog f args w (SP w0.heap.size w p k v xs' r)) :
    Calls Try.prog f args w fun e w' => e = .returned r ∧ Fm w0 ((p, k, xs') :: L) R w' := by
  obtain ⟨⟨V, h1, h2, h3⟩, h0⟩ := h
  have hp : Pk w0.heap.size w p k (V p) xs := h1 _ (List.mem_cons_self ..)
  refine (hc _ hp).mono ?_
  rintro e w' ⟨v', rfl, hs, hch⟩
  obtain ⟨g1, g2⟩ := List.pairwise_cons.1 h2
  have hV : ∀ o ∈ L, (fun i => if i = p then v' else V i) o.1 = V o.1 := fun o ho => if_neg (fun e => (g1 o ho).1 e.symm)
  refine ⟨rfl, ⟨fun i => if i = p then v' else V i, fun o ho => ?_, List.pairwise_cons.2 ⟨fun o ho => ⟨(g1 o ho).1, ?_⟩, ?_⟩, fun r hr => ?_⟩, Ch.to_below h0 hch h0.size hp.low (fun i hi => (hp.own.lt i hi).1)⟩
  · rcases List.mem_cons.1 ho with rfl | ho
    · simpa using hs
    · rw [hV o ho]
      have ho1 := h1 o (List.mem_cons_of_mem _ ho)
      refine ho1.keep hch.size fun i hi hor => hch.block i hi ?_ ?_
      · rcases hor with rfl | hv
        · exact fun e => (g1 o ho).1 e.symm
        · rintro rfl; exact hp.box.ne_row ho1.own (te_ty _ _) hv
      · rcases hor with rfl | hv
        · exact ho1.box.ne_row hp.own (te_ty _ _)
        · exact fun he => (g1 o ho).2 i he hv
  · have ho1 := h1 o (List.mem_cons_of_mem _ ho)
    rw [hV o ho]
    have : (fun i => if i = p then v' else V i) (p, k, xs').1 = v' := if_pos rfl
    rw [this]
    intro i hi he
    rcases hch.row i hi with e | e
    · exact (g1 o ho).2 i e he
    · have := ho1.row_lt i he; omega
  · refine List.Pairwise.imp_of_mem (fun {a b} ha hb hab => ?_) g2
    rw [hV a ha, hV b hb]; exact hab
  · have hr1 := h3 r hr
    refine ⟨own_keepB hr1.1 fun i hi hv => hch.block i hi ?_ ?_, hr1.2⟩
    · rintro rfl; exact hp.box.ne_row hr1.1 (st_ty k) hv
    · exact fun he => rows_ne hr1.1 hp.own (st_te k) i hv he
theorem Fm.start (h : Below w0.heap.size w0 w) : Fm w0 [] [] w := ⟨⟨fun _ => .slice none 0 0, by simp, List.Pairwise.nil, by simp⟩, h⟩
theorem Fm.new (h : Fm w0 L R w) (k : Bool) : Fm w0 ((w.heap.size, k, []) :: L) R (w.alloc (.cells (bc k (.slice none 0 0)) (ty k))) := by
  have hb := al0 w (.cells (bc k (.slice none 0 0)) (ty k))
  have hs := h.2.size
  obtain ⟨⟨V, h1, h2, h3⟩, h0⟩ := h
  have hV : ∀ o ∈ L, (fun i => if i = w.heap.size then Value.slice none 0 0 else V i) o.1 = V o.1 := fun o ho => if_neg (Nat.ne_of_lt (h1 o ho).box.lt)
  refine ⟨⟨fun i => if i = w.heap.size then .slice none 0 0 else V i, fun o ho => ?_, List.pairwise_cons.2 ⟨fun o ho => ⟨(Nat.ne_of_lt (h1 o ho).box.lt).symm, ?_⟩, ?_⟩, fun r hr => (h3 r hr).below hb⟩, h0.trans (hb.mono h0.size)⟩
  · rcases List.mem_cons.1 ho with rfl | ho
    · have := (Pk.new w k).mono hs
      simpa using this
    · rw [hV o ho]; exact (h1 o ho).below hb
  · have : (fun i => if i = w.heap.size then Value.slice none 0 0 else V i) (w.heap.size, k, ([] : List E)).1 = .slice none 0 0 := if_pos rfl
    rw [this]
    intro i hi
    simp [Value.ownBlock] at hi
  · refine List.Pairwise.imp_of_mem (fun {a b} ha hb hab => ?_) h2
    rw [hV a ha, hV b hb]; exact hab
/-! The functions over it. -/
theorem new_F (h : Fm w0 L R w) : Calls Try.prog 9 #[] w fun e w' => ∃ p, e = .returned (.pointer (some ⟨p, 0, none⟩)) ∧ Fm w0 ((p, true, []) :: L) R w' :=
  (new_any w).mono fun _ _ ⟨h1, h2⟩ => ⟨_, h1, h2 ▸ h.new true⟩
theorem rNew_F (h : Fm w0 L R w) : Calls Try.prog 10 #[] w fun e w' => ∃ p, e = .returned (.pointer (some ⟨p, 0, none⟩)) ∧ Fm w0 ((p, false, []) :: L) R w' :=
  (rNew_any w).mono fun _ _ ⟨h1, h2⟩ => ⟨_, h1, h2 ▸ h.new false⟩
theorem put_F (h : Fm w0 ((p, true, xs) :: L) R w) (s : ByteArray) (n : Int) (hl : xs.length ≤ 99) (hs : s.size ≤ 1000) :
    Calls Try.prog 14 #[.pointer (some ⟨p, 0, none⟩), .string s, .int .i64 n] w fun e w' => e = .returned (.int .i64 (putE xs s n)) ∧ Fm w0 ((p, true, put true xs s n) :: L) R w' :=
  h.call fun _ hv => put_any hv s n hl hs
theorem rPut_F (h : Fm w0 ((p, false, xs) :: L) R w) (s : ByteArray) (n : Int) (hl : xs.length ≤ 99) (hs : s.size ≤ 1000) :
    Calls Try.prog 15 #[.pointer (some ⟨p, 0, none⟩), .string s, .int .i64 n] w fun e w' => e = .returned (.int .i64 (putE xs s n)) ∧ Fm w0 ((p, false, put false xs s n) :: L) R w' :=
  h.call fun _ hv => rPut_any hv s n hl hs
theorem get_F (h : Fm w0 ((p, true, xs) :: L) R w) (s : ByteArray) : Calls Try.prog 12 #[.pointer (some ⟨p, 0, none⟩), .string s] w fun e w' => e = .returned (.tuple #[.int .i64 (gtN xs s), .bool (has xs s)]) ∧ Fm w0 ((p, true, xs) :: L) R w' := by
  obtain ⟨v, hv⟩ := h.fst
  exact (get_any hv s).mono fun _ _ ⟨h1, h2⟩ => ⟨h1, h.below h2⟩
theorem rGet_F (h : Fm w0 ((p, false, xs) :: L) R w) (s : ByteArray) : Calls Try.prog 13 #[.pointer (some ⟨p, 0, none⟩), .string s] w fun e w' => e = .returned (.tuple #[.int .i64 (gtN xs s), .bool (has xs s)]) ∧ Fm w0 ((p, false, xs) :: L) R w' := by
  obtain ⟨v, hv⟩ := h.fst
  exact (rGet_any hv s).mono fun _ _ ⟨h1, h2⟩ => ⟨h1, h2 ▸ h⟩
theorem len_F (h : Fm w0 ((p, true, xs) :: L) R w) : Calls Try.prog 17 #[.pointer (some ⟨p, 0, none⟩)] w fun e w' => e = .returned (.int .i64 (xs.length : Int)) ∧ w = w' := by
  obtain ⟨v, hv⟩ := h.fst
  exact len_any hv
theorem OS.slice {w : World} {B : Nat} {u : Value} {ks : List ByteArray} (h : OS w B u ks) : ∃ A c, u = .slice A ks.length c ∧ ks.length ≤ c ∧ c ≤ maxLen := own_len h.1
theorem list_F (h : Fm w0 ((p, true, xs) :: L) R w) : Calls Try.prog 16 #[.pointer (some ⟨p, 0, none⟩)] w fun e w' => ∃ A c, e = .returned (.slice A xs.length c) ∧ xs.length ≤ c ∧ c ≤ maxLen ∧ Fm w0 ((p, true, xs) :: L) ((.slice A xs.length c, xs.map E.k) :: R) w' := by
  obtain ⟨v, hv⟩ := h.fst
  refine (list_any hv).mono ?_
  rintro e w' ⟨u, rfl, ho, hb⟩
  obtain ⟨A, c, rfl, h1, h2⟩ := ho.slice
  rw [List.length_map] at h1 ho
  refine ⟨A, c, by rw [List.length_map], h1, h2, h.row hb ho⟩
theorem rList_F (h : Fm w0 ((p, false, xs) :: L) R w) (hr : Rel ys xs) : Calls Try.prog 19 #[.pointer (some ⟨p, 0, none⟩)] w fun e w' => ∃ A n c, e = .returned (.slice A n c) ∧ Fm w0 ((p, false, xs) :: L) ((.slice A n c, ys.map E.k) :: R) w' := by
  obtain ⟨v, hv⟩ := h.fst
  refine (rList_any hv ((hr.2.map E.k).nodup_iff.1 hr.1.nodup)).mono ?_
  rintro e w' ⟨u, ks, rfl, ho, ⟨h1, h2⟩, hb⟩
  obtain rfl : ks = ys.map E.k := keys_eq h1 hr.1.keys (h2.trans (hr.2.map E.k).symm)
  obtain ⟨A, c, rfl, -, -⟩ := ho.slice
  exact ⟨A, _, c, rfl, h.row hb ho⟩
theorem eq_F {a b : Value} {zs zt : List ByteArray} (h : Fm w0 L R w) (ha : RdS w a zs) (hb : RdS w b zt) (hl : zs.length ≤ 1000) : Calls Try.prog 18 #[a, b] w fun e w' => e = .returned (.bool (decide (zs = zt))) ∧ Fm w0 L R w' :=
  (eqTexts_any zs zt a b w ha hb hl).mono fun _ _ ⟨h1, h2⟩ => ⟨h1, h.below h2⟩
theorem gets_F (h : Fm w0 ((p, true, xs) :: L) R w) (s : ByteArray) (n : Int) (b : Bool) : Calls Try.prog 22 #[.pointer (some ⟨p, 0, none⟩), .string s, .int .i64 n, .bool b] w fun e w' => e = .returned (.bool (decide (gtN xs s = n) && (has xs s == b))) ∧ Fm w0 ((p, true, xs) :: L) R w' := by
  have HG := Lib.hid (get_F h s)
  obtain ⟨g, hg⟩ : ∃ g, gtN xs s = g := ⟨_, rfl⟩
  obtain ⟨β, hβ⟩ : ∃ β, has xs s = β := ⟨_, rfl⟩
  rw [hg, hβ] at HG ⊢
  clear h hg hβ
  by_cases he : g = n
  · subst he
    have e1 : decide (g = g) = true := by simp
    rw [e1, Bool.true_and]
    clear e1
    cases β <;> cases b
    all_goals
      go_enter Try.func22, Try.ntmps22
      go_wp2_with (go_at_call 12; (with_reducible refine HG.out.mono ?_); rintro e w1 ⟨rfl, hs⟩; have HS := Lib.hid hs; clear hs)
      go_ret
      exact ⟨rfl, HS.out⟩
  · rw [decide_eq_false he, Bool.false_and]
    have hd : (g == n) = false := by simpa using he
    clear he
    go_enter Try.func22, Try.ntmps22
    go_wp2_with (go_at_call 12; (with_reducible refine HG.out.mono ?_); rintro e w1 ⟨rfl, hs⟩; have HS := Lib.hid hs; clear hs)
    go_ret
    exact ⟨rfl, HS.out⟩
end
end Go.Proofs.Ytoenigbfcbillaa
