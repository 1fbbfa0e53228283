/-
  What is proved here: plain facts of pools: an increasing list of entries, the place of a string in it, what Put and Get do, for the program's list and for the reference's; no program in this text; no condition but those that each fact states.
-/
import Derived.Test.YtoenigbfcbillaaEnt
namespace Go.Proofs.Ytoenigbfcbillaa
open Go.RowKit

def has (l : List E) (k : ByteArray) : Bool := l.any fun e => decide (e.k = k)
def gtN (l : List E) (k : ByteArray) : Int := ((l.find? fun e => decide (e.k = k)).map E.n).getD 0
def Srt (l : List E) : Prop := l.Pairwise fun a b => lt a.k b.k = true
/-- How many entries at the head of the list are less than a string. -/
def pos : List E → ByteArray → Nat
  | [], _ => 0
  | e :: l, k => if lt e.k k = true then pos l k + 1 else 0
def ins (l : List E) (k : ByteArray) (n : Int) : List E := l.take (pos l k) ++ ⟨k, n⟩ :: l.drop (pos l k)
def inN (n : Int) : Bool := decide (0 ≤ n) && decide (n ≤ 9007199254740991)
def putE (l : List E) (k : ByteArray) (n : Int) : Int := if inN n = true then (if has l k = true then 71 else 0) else 2
/-- What Put leaves: in the program's list (true) the entry stands at its place, in the reference's at the end. -/
def put (b : Bool) (l : List E) (k : ByteArray) (n : Int) : List E := if inN n = true then (if has l k = true then l else (if b = true then ins l k n else l ++ [⟨k, n⟩])) else l

theorem pos_le : ∀ (l : List E) (k : ByteArray), pos l k ≤ l.length
  | [], _ => Nat.le_refl _
  | e :: l, k => by
    unfold pos
    split
    · have := pos_le l k; simp; exact this
    · exact Nat.zero_le _
theorem pos_lt : ∀ (l : List E) (k : ByteArray) (j : Nat) (e : E), j < pos l k → l[j]? = some e → lt e.k k = true
  | [], _, _, _, h, _ => by simp [pos] at h
  | a :: l, k, j, e, h, he => by
    unfold pos at h
    split at h
    · rename_i ha
      match j, he with
      | 0, he => obtain rfl : a = e := by simpa using he
                 exact ha
      | j + 1, he => exact pos_lt l k j e (by omega) (by simpa using he)
    · omega
theorem pos_ge : ∀ (l : List E) (k : ByteArray) (j : Nat) (e : E), Srt l → pos l k ≤ j → l[j]? = some e → lt e.k k = false
  | [], _, _, _, _, _, he => by simp at he
  | a :: l, k, j, e, hs, h, he => by
    obtain ⟨h1, h2⟩ := List.pairwise_cons.1 hs
    unfold pos at h
    split at h
    · match j, he with
      | 0, _ => omega
      | j + 1, he => exact pos_ge l k j e h2 (by omega) (by simpa using he)
    · rename_i ha
      match j, he with
      | 0, he => obtain rfl : a = e := by simpa using he
                 simpa using ha
      | j + 1, he =>
        have hl := h1 e (List.mem_of_getElem? (by simpa using he))
        cases hc : lt e.k k with
        | false => rfl
        | true => exact absurd (lt_trans hl hc) ha
theorem pos_eq : ∀ (l : List E) (k : ByteArray) (p : Nat), p ≤ l.length → (∀ j e, j < p → l[j]? = some e → lt e.k k = true) → (∀ j e, p ≤ j → l[j]? = some e → lt e.k k = false) → p = pos l k
  | [], k, p, h, _, _ => by simp at h; simp [pos, h]
  | a :: l, k, p, h, h1, h2 => by
    match p, h, h1, h2 with
    | 0, _, _, h2 =>
      have := h2 0 a (Nat.le_refl _) rfl
      unfold pos
      rw [if_neg (by rw [this]; simp)]
    | p + 1, h, h1, h2 =>
      unfold pos
      rw [if_pos (h1 0 a (by omega) rfl), ← pos_eq l k p (by simpa using h) (fun j e hj he => h1 (j + 1) e (by omega) (by simpa using he)) (fun j e hj he => h2 (j + 1) e (by omega) (by simpa using he))]
theorem has_iff {l : List E} {k : ByteArray} : has l k = true ↔ ∃ e ∈ l, e.k = k := by simp [has]
theorem has_false {l : List E} {k : ByteArray} (h : has l k = false) : ∀ e ∈ l, e.k ≠ k := fun e he hk => by
  have := has_iff.2 ⟨e, he, hk⟩
  rw [h] at this; cases this
/-- A string that the list has stands at its place. -/
theorem pos_has {l : List E} {k : ByteArray} (hs : Srt l) (h : has l k = true) : ∃ e, l[pos l k]? = some e ∧ e.k = k := by
  obtain ⟨e, he, hk⟩ := has_iff.1 h
  obtain ⟨j, hj, rfl⟩ := List.getElem_of_mem he
  have hje := List.getElem?_eq_getElem hj
  have h1 : pos l k ≤ j := by
    rcases Nat.lt_or_ge j (pos l k) with hlt | hge
    · have := pos_lt l k j _ hlt hje
      rw [hk, lt_irrefl] at this; cases this
    · exact hge
  by_cases hjp : j = pos l k
  · exact ⟨l[j], by rw [← hjp]; exact hje, hk⟩
  · have hp : pos l k < l.length := by omega
    have h2 := List.pairwise_iff_getElem.1 hs (pos l k) j hp hj (by omega)
    have h3 := pos_ge l k (pos l k) _ hs (Nat.le_refl _) (List.getElem?_eq_getElem hp)
    rw [hk, h3] at h2
    cases h2
theorem has_at {l : List E} {k : ByteArray} {j : Nat} {e : E} (h : l[j]? = some e) (hk : e.k = k) : has l k = true := has_iff.2 ⟨e, List.mem_of_getElem? h, hk⟩
theorem Srt.nodup {l : List E} (h : Srt l) : (l.map E.k).Nodup := by
  rw [List.nodup_iff_pairwise_ne, List.pairwise_map]
  refine h.imp fun {a b} hab he => ?_
  rw [he, lt_irrefl] at hab; cases hab
theorem gtN_mem : ∀ (l : List E) (e : E), (l.map E.k).Nodup → e ∈ l → gtN l e.k = e.n
  | [], _, _, h => by cases h
  | a :: l, e, hn, h => by
    rw [List.map_cons, List.nodup_cons] at hn
    by_cases hk : a.k = e.k
    · have : a = e := by
        rcases List.mem_cons.1 h with rfl | h
        · rfl
        · exact absurd (List.mem_map.2 ⟨e, h, hk.symm⟩) hn.1
      subst this
      simp [gtN]
    · have hm : e ∈ l := by
        rcases List.mem_cons.1 h with rfl | h
        · exact absurd rfl hk
        · exact h
      have := gtN_mem l e hn.2 hm
      unfold gtN at this ⊢
      rw [List.find?_cons, decide_eq_false hk]
      exact this
theorem gtN_none {l : List E} {k : ByteArray} (h : has l k = false) : gtN l k = 0 := by
  have : (l.find? fun e => decide (e.k = k)) = none := by
    rw [List.find?_eq_none]
    intro e he
    simpa using has_false h e he
  unfold gtN
  rw [this]; rfl
theorem mem_ins {l : List E} {k : ByteArray} {n : Int} {e : E} : e ∈ ins l k n ↔ e = ⟨k, n⟩ ∨ e ∈ l := by
  unfold ins
  rw [List.mem_append, List.mem_cons]
  constructor
  · rintro (h | h | h)
    · exact .inr (List.mem_of_mem_take h)
    · exact .inl h
    · exact .inr (List.mem_of_mem_drop h)
  · rintro (h | h)
    · exact .inr (.inl h)
    · rw [← List.take_append_drop (pos l k) l] at h
      rcases List.mem_append.1 h with h | h
      · exact .inl h
      · exact .inr (.inr h)
theorem ins_perm (l : List E) (k : ByteArray) (n : Int) : (ins l k n).Perm (⟨k, n⟩ :: l) := by
  unfold ins
  refine List.perm_middle.trans ?_
  rw [List.take_append_drop]
theorem ins_length (l : List E) (k : ByteArray) (n : Int) : (ins l k n).length = l.length + 1 := by rw [(ins_perm l k n).length_eq]; rfl
theorem ins_srt {l : List E} {k : ByteArray} {n : Int} (hs : Srt l) (h : has l k = false) : Srt (ins l k n) := by
  have hq : Srt (l.take (pos l k) ++ l.drop (pos l k)) := by rw [List.take_append_drop]; exact hs
  obtain ⟨p1, p2, p3⟩ := List.pairwise_append.1 hq
  have ht : ∀ a ∈ l.take (pos l k), lt a.k k = true := by
    intro a ha
    obtain ⟨j, hj, rfl⟩ := List.getElem_of_mem ha
    rw [List.length_take] at hj
    rw [List.getElem_take]
    exact pos_lt l k j _ (by omega) (List.getElem?_eq_getElem (by omega))
  have hd : ∀ b ∈ l.drop (pos l k), lt k b.k = true := by
    intro b hb
    obtain ⟨j, hj, rfl⟩ := List.getElem_of_mem hb
    rw [List.length_drop] at hj
    rw [List.getElem_drop]
    have h1 := pos_ge l k (pos l k + j) _ hs (by omega) (List.getElem?_eq_getElem (by omega))
    have h2 := has_false h _ (List.getElem_mem (l := l) (n := pos l k + j) (by omega))
    rcases lt_tri (l[pos l k + j]'(by omega)).k k with e | ⟨e, _⟩ | ⟨e, _⟩
    · exact absurd e h2
    · rw [e] at h1; cases h1
    · exact e
  refine List.pairwise_append.2 ⟨p1, List.pairwise_cons.2 ⟨hd, p2⟩, ?_⟩
  intro a ha b hb
  rcases List.mem_cons.1 hb with rfl | hb
  · exact ht a ha
  · exact p3 a ha b hb

/-- The program's list beside the reference's. -/
def Rel (xs ys : List E) : Prop := Srt xs ∧ xs.Perm ys
theorem Rel.nil : Rel [] [] := ⟨List.Pairwise.nil, List.Perm.refl _⟩
theorem Rel.has {xs ys : List E} (h : Rel xs ys) (k : ByteArray) : has xs k = has ys k := by
  have : (Go.Proofs.Ytoenigbfcbillaa.has xs k = true) ↔ (Go.Proofs.Ytoenigbfcbillaa.has ys k = true) := by
    rw [has_iff, has_iff]
    exact ⟨fun ⟨e, he, hk⟩ => ⟨e, h.2.mem_iff.1 he, hk⟩, fun ⟨e, he, hk⟩ => ⟨e, h.2.mem_iff.2 he, hk⟩⟩
  cases h1 : Go.Proofs.Ytoenigbfcbillaa.has xs k <;> cases h2 : Go.Proofs.Ytoenigbfcbillaa.has ys k <;> simp_all
theorem Rel.gtN {xs ys : List E} (h : Rel xs ys) (k : ByteArray) : gtN xs k = gtN ys k := by
  cases hk : Go.Proofs.Ytoenigbfcbillaa.has xs k with
  | false => rw [gtN_none hk, gtN_none (by rw [← h.has]; exact hk)]
  | true =>
    obtain ⟨e, he, rfl⟩ := has_iff.1 hk
    rw [gtN_mem xs e h.1.nodup he, gtN_mem ys e ((h.2.map E.k).nodup_iff.1 h.1.nodup) (h.2.mem_iff.1 he)]
theorem Rel.putE {xs ys : List E} (h : Rel xs ys) (k : ByteArray) (n : Int) : putE xs k n = putE ys k n := by
  unfold Go.Proofs.Ytoenigbfcbillaa.putE
  rw [h.has]
theorem Rel.put {xs ys : List E} (h : Rel xs ys) (k : ByteArray) (n : Int) : Rel (put true xs k n) (put false ys k n) := by
  unfold Go.Proofs.Ytoenigbfcbillaa.put
  by_cases hn : inN n = true
  · rw [if_pos hn, if_pos hn, ← h.has]
    by_cases hk : Go.Proofs.Ytoenigbfcbillaa.has xs k = true
    · rw [if_pos hk, if_pos hk]; exact h
    · rw [if_neg hk, if_neg hk, if_pos rfl, if_neg (by simp)]
      refine ⟨ins_srt h.1 (by simpa using hk), (ins_perm xs k n).trans ?_⟩
      exact (List.Perm.cons _ h.2).trans (List.perm_append_singleton _ _).symm
  · rw [if_neg hn, if_neg hn]; exact h
theorem Rel.length {xs ys : List E} (h : Rel xs ys) : xs.length = ys.length := h.2.length_eq
/-- Two increasing lists of the same strings are one. -/
theorem keys_eq {a b : List ByteArray} (ha : a.Pairwise fun x y => lt x y = true) (hb : b.Pairwise fun x y => lt x y = true) (hp : a.Perm b) : a = b := by
  refine List.Perm.eq_of_pairwise ?_ ha hb hp
  intro x y _ _ h1 h2
  have := lt_trans h1 h2
  rw [lt_irrefl] at this
  cases this
theorem Srt.keys {l : List E} (h : Srt l) : (l.map E.k).Pairwise fun x y => lt x y = true := by rw [List.pairwise_map]; exact h
theorem put_srt {l : List E} (h : Srt l) (k : ByteArray) (n : Int) : Srt (put true l k n) := by
  unfold put
  by_cases hn : inN n = true
  · rw [if_pos hn]
    by_cases hk : has l k = true
    · rw [if_pos hk]; exact h
    · rw [if_neg hk, if_pos rfl]; exact ins_srt h (by simpa using hk)
  · rw [if_neg hn]; exact h
theorem put_length (b : Bool) (l : List E) (k : ByteArray) (n : Int) : (put b l k n).length ≤ l.length + 1 := by
  unfold put
  split
  · split
    · omega
    · split
      · rw [ins_length]; omega
      · simp
  · omega
theorem put_mem {b : Bool} {l : List E} {k : ByteArray} {n : Int} {e : E} (h : e ∈ put b l k n) : e = ⟨k, n⟩ ∨ e ∈ l := by
  unfold put at h
  split at h
  · split at h
    · exact .inr h
    · split at h
      · exact mem_ins.1 h
      · rcases List.mem_append.1 h with h | h
        · exact .inr h
        · exact .inl (by simpa using h)
  · exact .inr h
end Go.Proofs.Ytoenigbfcbillaa
