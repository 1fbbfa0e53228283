/-
  What is proved here: where the steps of a valid tree lead; paths of one and two steps that a call lays down; conditions: those that each fact states.
-/
import Derived.Test.YtjnfilbdokppiaaGreatDoorPap
import Derived.Test.YtjnfilbdokppiaaGreatDoorRefCk
namespace Go.Proofs.YtjnfilbdokppiaaGreatDoor
open Go.RowKit

theorem keysE_nodup : ∀ (ks done : List ByteArray), keysE done ks = 0 → ks.Nodup ∧ ∀ k ∈ ks, k ∉ done
  | [], _, _ => ⟨List.nodup_nil, fun k h => by cases h⟩
  | k :: ks, done, h => by
    unfold keysE at h
    by_cases h1 : hasZ k = true
    · rw [if_pos h1] at h; omega
    rw [if_neg h1] at h
    by_cases h2 : (done.any fun d => d.data.toList == k.data.toList) = true
    · rw [if_pos h2] at h; omega
    rw [if_neg h2] at h
    obtain ⟨i1, i2⟩ := keysE_nodup ks _ h
    have hd : k ∉ done := fun hm => h2 (List.any_eq_true.2 ⟨k, hm, by simp⟩)
    refine ⟨List.nodup_cons.2 ⟨fun hm => i2 k hm (by simp), i1⟩, fun x hx => ?_⟩
    rcases List.mem_cons.1 hx with rfl | hx
    · exact hd
    · exact fun hm => i2 x hx (by simp [hm])
theorem okT_map {k n u : Int} {s : ByteArray} {ks : List ByteArray} {l : List T} (h : okT (.mk k n u s ks l)) (hk : k = 17) : ks.length = l.length ∧ ks.Nodup := by
  have h1 := h.1
  unfold ownE at h1
  by_cases hs : suchT (.mk k n u s ks l) = false
  · rw [if_pos hs] at h1; omega
  rw [if_neg hs] at h1
  have h5 : ¬ ((T.mk k n u s ks l).k = 5 ∧ hasZ (T.mk k n u s ks l).s = true) := by
    rintro ⟨h, _⟩
    have : k = 5 := h
    omega
  rw [if_neg h5] at h1
  refine ⟨?_, (keysE_nodup ks [] h1).1⟩
  have hs' : suchT (.mk k n u s ks l) = true := by simpa using hs
  unfold suchT at hs'
  simp only [Bool.and_eq_true] at hs'
  have h6 := hs'.1.1.2
  rw [hk] at h6
  simpa using h6

def stA (n : Nat) : Stp := ⟨⟨#[]⟩, (n : Int), false⟩
def stK (k : ByteArray) : Stp := ⟨k, 0, true⟩
theorem lead_at {t : T} {i : Nat} (h : i < t.l.length) : lead t (stA i) = some i := by
  unfold lead stA
  simp only [Bool.false_eq_true, if_false]
  rw [if_pos ⟨by omega, by omega⟩]
  rfl
theorem lead_end (t : T) : lead t (stA t.l.length) = none := by
  unfold lead stA
  simp only [Bool.false_eq_true, if_false]
  rw [if_neg (by omega)]
theorem getR_at {t c : T} {i : Nat} (h : t.l[i]? = some c) : getR t [stA i] = (c, 0) := by
  unfold getR
  rw [getT, lead_at (List.getElem?_eq_some_iff.1 h).1]
  simp only [h]
  rfl
theorem getR_at2 {t c d : T} {i k : Nat} (h : t.l[i]? = some c) (h2 : c.l[k]? = some d) : getR t [stA i, stA k] = (d, 0) := by
  unfold getR
  rw [getT, lead_at (List.getElem?_eq_some_iff.1 h).1]
  simp only [h]
  rw [getT, lead_at (List.getElem?_eq_some_iff.1 h2).1]
  simp only [h2]
  rfl
theorem getR_end (t : T) : getR t [stA t.l.length] = (T0, 80) := by
  unfold getR
  rw [getT, lead_end]
theorem getR_no {t : T} (h : ¬ t.k = 17) (k : ByteArray) : getR t [stK k] = (T0, 80) := by
  have : lead t (stK k) = none := by unfold lead stK; rw [if_pos rfl, if_neg h]
  unfold getR
  rw [getT, this]
theorem getR_by {t c : T} {i : Nat} {k : ByteArray} (h17 : t.k = 17) (hn : t.ks.Nodup) (hk : t.ks[i]? = some k) (h : t.l[i]? = some c) : getR t [stK k] = (c, 0) := by
  have hi : Lib.idxOfS t.ks k = (i : Int) := idx_at hk (fun j hj e => by
    have hil := (List.getElem?_eq_some_iff.1 hk).1
    have hjl : j < t.ks.length := by omega
    have h1 : t.ks[j]? = some k := by rw [← e]; simp [List.getD, hjl]
    have := (List.getElem?_inj hjl hn).1 (h1.trans hk.symm)
    omega)
  have hl := (List.getElem?_eq_some_iff.1 h).1
  have : lead t (stK k) = some i := by
    unfold lead stK
    rw [if_pos rfl, if_pos h17]
    simp only [hi]
    rw [if_pos ⟨by omega, by omega⟩]
    rfl
  unfold getR
  rw [getT, this]
  simp only [h]
  rfl
theorem okR_at {n : Nat} (h : n ≤ 1000000) : okR (stA n) := ⟨Nat.zero_le _, by show -9223372036854775808 ≤ (n : Int); omega, by show (n : Int) ≤ 9223372036854775807; omega⟩
theorem okR_by {k : ByteArray} (h : k.size ≤ maxLen) : okR (stK k) := ⟨h, by show (-9223372036854775808 : Int) ≤ 0; decide, by show (0 : Int) ≤ 9223372036854775807; decide⟩

theorem Nd.len5 {w : World} {t : T} {v0 v1 v2 v3 v4 : Value} {A : Option Addr} {m q : Nat} (h : Nd w t [v0, v1, v2, v3, v4, .slice A m q]) : m = t.l.length := by
  obtain ⟨kk, nn, uu, s, ks, l⟩ := t
  obtain ⟨_, _, kv, A', m', q', e, _, hl, _, _, _⟩ := h
  simp only [List.cons.injEq, and_true] at e
  obtain ⟨-, -, -, -, -, e⟩ := e
  injection e with e1 e2 e3
  rw [e2]
  exact hl.symm
/-! Paths that a call lays down. -/
theorem AP.lit {A W : World} (h : Below A.heap.size A W) (x : Stp) : AP A [x] (.slice (some ⟨W.heap.size, 0, none⟩) 1 1) (W.alloc (.cells #[.string x.k, .int .i64 x.a, .bool x.b] 51)) :=
  ⟨tr h (al0 W _), World.ownsRow_lit (e := 51) (size := 3) W #[.string x.k, .int .i64 x.a, .bool x.b] 1 h.size (by unfold maxLen; omega) rfl⟩
theorem AP.lit2 {A W : World} (h : Below A.heap.size A W) (x y : Stp) : AP A [x, y] (.slice (some ⟨W.heap.size, 0, none⟩) 2 2) (W.alloc (.cells #[.string x.k, .int .i64 x.a, .bool x.b, .string y.k, .int .i64 y.a, .bool y.b] 51)) :=
  ⟨tr h (al0 W _), World.ownsRow_lit (e := 51) (size := 3) W #[.string x.k, .int .i64 x.a, .bool x.b, .string y.k, .int .i64 y.a, .bool y.b] 2 h.size (by unfold maxLen; omega) rfl⟩
theorem APZ.lita {A W : World} {p : Nat} (h : Below A.heap.size A W) (hp : A.heap.size ≤ p) (hB : Bx W p (.int .i64 0) (.int .i64 0) (.int .u64 0) (.string ⟨#[]⟩) (.slice none 0 0) (.slice none 0 0)) (x : Stp) : APZ A [x] (.slice (some ⟨W.heap.size, 0, none⟩) 1 1) p (W.alloc (.cells #[.string x.k, .int .i64 x.a, .bool x.b] 51)) :=
  ⟨AP.lit h x, hp, hB.alloc _, fun e => by have := Option.some.inj e; have := hB.lt; simp at *; omega⟩
theorem APZ.litb {A W : World} (h : Below A.heap.size A W) (x : Stp) : APZ A [x] (.slice (some ⟨W.heap.size + 1, 0, none⟩) 1 1) W.heap.size ((W.alloc (.cells #[.int .i64 0, .int .i64 0, .int .u64 0, .string ⟨#[]⟩, .slice none 0 0, .slice none 0 0] 38)).alloc (.cells #[.string x.k, .int .i64 x.a, .bool x.b] 51)) := by
  have h2 := APZ.lita (W := W.alloc (.cells #[.int .i64 0, .int .i64 0, .int .u64 0, .string ⟨#[]⟩, .slice none 0 0, .slice none 0 0] 38)) (tr h (al0 W _)) h.size (Blk.new _ _ _) x
  rw [World.size_alloc] at h2
  exact h2
theorem APZ.litc {A W : World} (h : Below A.heap.size A W) (x : Stp) : APZ A [x] (.slice (some ⟨W.heap.size, 0, none⟩) 1 1) (W.heap.size + 1) ((W.alloc (.cells #[.string x.k, .int .i64 x.a, .bool x.b] 51)).alloc (.cells #[.int .i64 0, .int .i64 0, .int .u64 0, .string ⟨#[]⟩, .slice none 0 0, .slice none 0 0] 38)) := by
  have h2 := (AP.lit h x).alloc
  rw [World.size_alloc] at h2
  exact h2
/-- leads, where Get is known. -/
theorem leads_S {A : World} (hL : LP A.heap.size A) (t y : T) (cs ys : List Value) (E : Int) (v : Value) (ps : List Stp) (hx : getR t ps = (y, E)) (W : World) (hb : Below A.heap.size A W) (hnd : Nd W t cs) (hy : Nd W y ys) (hp : RdP W v ps) (h1 : sz t ≤ 100000) (h2 : sm 1000 1000 t) (h3 : ps.length ≤ 100000) :
    Calls Tryz.prog 32 #[.agg cs.toArray, .agg ys.toArray, .int .i64 E, v] W fun e w' => e = .returned (.bool true) ∧ Hid (Below W.heap.size W w') := by
  refine (leads_any t y cs ys E v ps W (hL.keep hb) hnd hy hp h1 h2 h3).mono ?_
  rintro e w' ⟨⟨β, rfl, hβ⟩, hs⟩
  rw [hx] at hβ
  rw [hβ.2 ⟨rfl, rfl⟩]
  exact ⟨rfl, Lib.hid hs.bl⟩
end Go.Proofs.YtjnfilbdokppiaaGreatDoor
