/-
  What is proved here: a vector of numbers: what Check says of it, and how the law lays it; no condition but those that each fact states.
-/
import Derived.Test.YtpcbkocimkdecaaDoorExB
namespace Go.Proofs.YtpcbkocimkdecaaDoor
open Go.RowKit

def numI (i : Nat) : T := numT (i : Int)
def FL (n : Nat) : T := vecT ((List.range n).map numI)
theorem preL_num (l : List Nat) (b : Nat) : preL (l.map numI) b = l.map fun i => (b, numI i) := by
  induction l with
  | nil => rfl
  | cons x xs ih =>
    show preT (numI x) b ++ preL (xs.map numI) b = _
    rw [ih]
    rfl
theorem pre_FL (n : Nat) : preT (FL n) 0 = (0, FL n) :: (List.range n).map fun i => (1, numI i) := by
  show (0, FL n) :: preL ((List.range n).map numI) 1 = _
  rw [preL_num]
theorem szL_num (l : List Nat) : szL (l.map numI) = l.length := by
  induction l with
  | nil => rfl
  | cons x xs ih =>
    show 1 + szL (xs.map numI) = _
    rw [ih, List.length_cons]; omega
theorem sz_FL (n : Nat) : sz (FL n) = n + 1 := by
  show 1 + szL ((List.range n).map numI) = n + 1
  rw [szL_num, List.length_range]; omega
theorem sm_FL (n : Nat) : sm 1000 1000 (FL n) := by
  refine ⟨Nat.zero_le _, Nat.zero_le _, fun x hx => by simp at hx, smL_of fun t ht => ?_⟩
  obtain ⟨i, _, rfl⟩ := List.mem_map.1 ht
  exact ⟨Nat.zero_le _, Nat.zero_le _, fun x hx => by simp at hx, trivial⟩
theorem such_num (i : Nat) : suchT (numI i) = true := by
  simp [suchT, numI, numT] <;> rfl
theorem such_FL (n : Nat) : suchT (FL n) = true := by
  simp [suchT, FL, vecT, partK] <;> rfl
theorem step_lo {k : Nat} {x : Nat × T} (hk : k + 1 ≤ 4096) (hl : x.1 ≤ 1) (hs : suchT x.2 = true) (he : keyE x.2 = 0) : stepE k x = 0 := by
  unfold stepE
  rw [if_neg (by omega), if_neg (by omega), if_neg (by rw [hs]; simp), he]
theorem step_hi {x : Nat × T} : stepE 4096 x = 5 := by
  unfold stepE
  rw [if_pos (by omega)]
theorem mem_pre {n i : Nat} {x : Nat × T} (h : (preT (FL n) 0)[i]? = some x) : x.1 ≤ 1 ∧ suchT x.2 = true ∧ keyE x.2 = 0 := by
  rw [pre_FL] at h
  cases i with
  | zero => simp at h; subst h; exact ⟨Nat.zero_le _, such_FL n, rfl⟩
  | succ i =>
    simp only [List.getElem?_cons_succ, List.getElem?_map] at h
    obtain ⟨k, _, rfl⟩ := Option.map_eq_some_iff.1 h
    exact ⟨Nat.le_refl _, such_num k, rfl⟩
theorem chk_lo {n : Nat} (h : n < 4096) : chk (FL n) = 0 := by
  refine chkL_all _ 0 fun i x hx => ?_
  have hm := mem_pre hx
  have hi := (List.getElem?_eq_some_iff.1 hx).1
  rw [preT_length, sz_FL] at hi
  exact step_lo (by omega) hm.1 hm.2.1 hm.2.2
theorem chk_hi {n : Nat} (h : 4096 ≤ n) : chk (FL n) = 5 := by
  have hl : (preT (FL n) 0).length = n + 1 := by rw [preT_length, sz_FL]
  obtain ⟨x, hx⟩ : ∃ x, (preT (FL n) 0)[4096]? = some x := ⟨_, List.getElem?_eq_getElem (by omega)⟩
  have hx' := List.getElem?_eq_some_iff.1 hx
  have e : preT (FL n) 0 = (preT (FL n) 0).take 4096 ++ x :: (preT (FL n) 0).drop 4097 := by
    rw [← hx'.2, List.getElem_cons_drop, List.take_append_drop]
  have hq : ((preT (FL n) 0).take 4096).length = 4096 := by rw [List.length_take]; omega
  have h1 : ∀ i y, ((preT (FL n) 0).take 4096)[i]? = some y → stepE (0 + i) y = 0 := fun i y hy => by
    have hi := (List.getElem?_eq_some_iff.1 hy).1
    rw [List.getElem?_take] at hy
    rw [hq] at hi
    rw [if_pos hi] at hy
    have hm := mem_pre hy
    exact step_lo (by omega) hm.1 hm.2.1 hm.2.2
  have h2 : stepE (0 + ((preT (FL n) 0).take 4096).length) x = 5 := by rw [Nat.zero_add, hq, step_hi]
  unfold chk
  rw [e, chkL_hit _ x _ 0 h1 (by rw [h2]; omega), h2]

def NC (i : Nat) : List Value := [.int .i64 3, .int .i64 (i : Int), .int .u64 0, .string ⟨#[]⟩, .slice none 0 0, .slice none 0 0]
def NY (j : Nat) : List Value := (List.range j).flatMap NC
theorem NY_succ (j : Nat) : NY (j + 1) = NY j ++ NC j := by unfold NY; rw [List.range_succ, List.flatMap_append]; simp
theorem NY_len : ∀ j, (NY j).length = j * 6
  | 0 => rfl
  | j + 1 => by rw [NY_succ, List.length_append, NY_len j]; simp [NC]; omega
/-- Between two rounds of the loop. -/
structure NR (w : World) (g tb n j : Nat) (zs : List Value) (wr : World) : Prop where
  bl : Below w.heap.size w wr
  hg : w.heap.size ≤ g
  ne : tb ≠ g
  bx : Bx wr tb (.int .i64 10) (.int .i64 0) (.int .u64 0) (.string ⟨#[]⟩) (.slice none 0 0) (.slice (some ⟨g, 0, none⟩) n n)
  ow : Ow (fun _ => True) wr 26 6 (.slice (some ⟨g, 0, none⟩) n n) n (NY j ++ zs)
theorem NR.below {w wr w2 : World} {g tb n j : Nat} {zs : List Value} (h : NR w g tb n j zs wr) (hb : Below wr.heap.size wr w2) : NR w g tb n j zs w2 :=
  ⟨h.bl.trans (hb.mono h.bl.size), h.hg, h.ne, Blk.below h.bx hb (Blk.lt h.bx), h.ow.step fun b _ hl => ⟨hb.block b hl, trivial⟩⟩
theorem NR.put {w wr : World} {g tb n j : Nat} {zs : List Value} {b0 b1 b2 b3 b4 b5 : Value} (h : NR w g tb n j ([b0, b1, b2, b3, b4, b5] ++ zs) wr) :
    NR w g tb n (j + 1) zs (put6 wr g (j * 6) (.int .i64 3) (.int .i64 (j : Int)) (.int .u64 0) (.string ⟨#[]⟩) (.slice none 0 0) (.slice none 0 0)) := by
  refine ⟨put6_below h.bl _ _ _ _ _ _ _ _ h.hg, h.hg, h.ne, put6_blk h.bx h.ne _ _ _ _ _ _, ?_⟩
  rw [NY_succ]
  exact put6_ow h.ow (NY_len j) _ _ _ _ _ _
theorem ndol_num (w : World) : ∀ n, n ≤ 5000 → NdOL (fun _ => True) w ((List.range n).map numI) (NY n)
  | 0, _ => rfl
  | n + 1, h => by
    rw [List.range_succ, List.map_append, NY_succ]
    refine NdOL.app ?_ (ndol_num w n (by omega))
    exact ⟨rng_num n (by omega) (by omega), Nat.zero_le _, fun x hx => by simp at hx, _, _, [], rfl, ⟨⟨rfl, .inl ⟨rfl, rfl⟩⟩, fun g hg => by cases hg⟩, ⟨⟨rfl, .inl ⟨rfl, rfl⟩⟩, fun g hg => by cases hg⟩, rfl⟩
theorem NR.nd {w wr : World} {g tb n : Nat} (h : NR w g tb n n [] wr) (hn : n ≤ 5000) : Nd wr (FL n) [.int .i64 10, .int .i64 0, .int .u64 0, .string ⟨#[]⟩, .slice none 0 0, .slice (some ⟨g, 0, none⟩) n n] := by
  have hO := h.ow
  rw [List.append_nil] at hO
  exact NdO.nd _ _ (ndo_vec (by rw [List.length_map, List.length_range]; exact hO) (ndol_num wr n hn))
end Go.Proofs.YtpcbkocimkdecaaDoor
