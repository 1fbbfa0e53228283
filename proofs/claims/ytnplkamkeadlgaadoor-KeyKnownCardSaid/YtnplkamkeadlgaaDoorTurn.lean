/-
  What is proved here: a tree whose maps are rotated has the same sorted tree; no program in this text; condition: in every map as many keys as children.
-/
import Derived.Test.YtnplkamkeadlgaaDoorSrtF
namespace Go.Proofs.YtnplkamkeadlgaaDoor
open Go.RowKit Go.Sort

def rotN (b n i : Nat) : Nat := (i + b) % n
theorem rotN_lt {b n i : Nat} (h : 0 < n) : rotN b n i < n := Nat.mod_lt _ h
theorem rot_inv {b n i : Nat} (h : i < n) : rotN (n - b % n) n (rotN b n i) = i := by
  unfold rotN
  have hb : b % n < n := Nat.mod_lt _ (by omega)
  rw [Nat.mod_add_mod]
  have e : i + b + (n - b % n) = i + n * (b / n) + n := by
    have := Nat.div_add_mod b n
    omega
  rw [e, Nat.add_mod_right, Nat.add_mul_mod_self_left, Nat.mod_eq_of_lt h]
theorem rot_inv' {b n i : Nat} (h : i < n) : rotN b n (rotN (n - b % n) n i) = i := by
  unfold rotN
  have hb : b % n < n := Nat.mod_lt _ (by omega)
  rw [Nat.mod_add_mod]
  have e : i + (n - b % n) + b = i + n * (b / n) + n := by
    have := Nat.div_add_mod b n
    omega
  rw [e, Nat.add_mod_right, Nat.add_mul_mod_self_left, Nat.mod_eq_of_lt h]
theorem rot_nodup (b n : Nat) : ((List.range n).map (rotN b n)).Nodup := by
  rw [List.nodup_iff_pairwise_ne, List.pairwise_map]
  have h := List.nodup_range (n := n)
  rw [List.nodup_iff_pairwise_ne] at h
  refine List.Pairwise.imp_of_mem ?_ h
  intro x y hx hy hne e
  have h1 := rot_inv (b := b) (List.mem_range.1 hx)
  have h2 := rot_inv (b := b) (List.mem_range.1 hy)
  rw [e, h2] at h1
  exact hne h1.symm
theorem rot_perm (b n : Nat) : ((List.range n).map (rotN b n)).Perm (List.range n) := by
  refine (List.perm_ext_iff_of_nodup (rot_nodup b n) List.nodup_range).2 fun x => ?_
  rw [List.mem_map, List.mem_range]
  constructor
  · rintro ⟨i, hi, rfl⟩
    exact rotN_lt (by have := List.mem_range.1 hi; omega)
  · intro hx
    exact ⟨rotN (n - b % n) n x, List.mem_range.2 (rotN_lt (by omega)), rot_inv' hx⟩
def rot {α : Type} (b : Nat) (d : α) (l : List α) : List α := (List.range l.length).map fun i => l.getD (rotN b l.length i) d
theorem rot_len {α : Type} (b : Nat) (d : α) (l : List α) : (rot b d l).length = l.length := by unfold rot; simp
theorem rot_get {α : Type} {b : Nat} {d : α} {l : List α} {i : Nat} (h : i < l.length) : (rot b d l).getD i d = l.getD (rotN b l.length i) d := by
  unfold rot
  rw [List.getD_eq_getElem?_getD, List.getElem?_map, List.getElem?_range h]
  rfl
theorem rot_list {α : Type} (b : Nat) (d : α) (l : List α) : (rot b d l).Perm l := by
  have h := pick_perm (l := l) (d := d) (q := (List.range l.length).map (rotN b l.length)) (rot_perm b l.length)
  rw [List.map_map] at h
  exact h
def Tz : T := .mk 0 0 0 ⟨#[]⟩ [] []
mutual
def turnT (b : Nat) : T → T
  | .mk k n u s ks l => if k = 17 ∧ ks.length = l.length then .mk k n u s (rot b ⟨#[]⟩ ks) (rot b Tz (turnL b l)) else .mk k n u s [] (turnL b l)
def turnL (b : Nat) : List T → List T
  | [] => []
  | t :: ts => turnT b t :: turnL b ts
end
theorem turnL_len (b : Nat) : ∀ l : List T, (turnL b l).length = l.length
  | [] => rfl
  | t :: ts => by unfold turnL; simp [turnL_len b ts]
theorem srtL_of : ∀ {l l' : List T}, l.length = l'.length → (∀ i, i < l.length → Srt (l.getD i Tz) (l'.getD i Tz)) → SrtL l l'
  | [], [], _, _ => rfl
  | [], _ :: _, h, _ => by simp at h
  | _ :: _, [], h, _ => by simp at h
  | t :: ts, t' :: ts', h, hs => ⟨t', ts', rfl, hs 0 (by simp), srtL_of (by simpa using h) fun i hi => hs (i + 1) (by simpa using hi)⟩
theorem srtL_at : ∀ {l l' : List T}, SrtL l l' → ∀ i, i < l.length → Srt (l.getD i Tz) (l'.getD i Tz)
  | [], _, _, i, h => by simp at h
  | t :: ts, _, hs, i, hi => by
    obtain ⟨t', ts', rfl, h1, h2⟩ := hs
    cases i with
    | zero => exact h1
    | succ i => exact srtL_at h2 i (by simpa using hi)
theorem sq_rot {ks : List ByteArray} {q : List Nat} (b : Nat) (h : SQ ks q ks.length) : SQ (rot b ⟨#[]⟩ ks) (q.map (rotN (ks.length - b % ks.length) ks.length)) ks.length ∧
    (q.map (rotN (ks.length - b % ks.length) ks.length)).map (ky (rot b ⟨#[]⟩ ks)) = q.map (ky ks) := by
  have hk : ∀ j, j < ks.length → ky (rot b ⟨#[]⟩ ks) (rotN (ks.length - b % ks.length) ks.length j) = ky ks j := by
    intro j hj
    unfold ky
    rw [rot_get (rotN_lt (by omega)), rot_inv' hj]
  have hq : ∀ j ∈ q, j < ks.length := fun j hj => List.mem_range.1 (h.perm.mem_iff.1 hj)
  refine ⟨⟨(h.perm.map _).trans (rot_perm _ _), ?_⟩, ?_⟩
  · rw [List.pairwise_map]
    refine List.Pairwise.imp_of_mem ?_ h.inc
    intro x y hx hy hxy
    rw [hk x (hq x hx), hk y (hq y hy)]
    exact hxy
  · rw [List.map_map]
    exact List.map_congr_left fun j hj => hk j (hq j hj)
mutual
theorem Srt.turn (b : Nat) : ∀ {t a : T}, okT t → Srt t a → Srt (turnT b t) a
  | .mk k n u s ks l, a, ho, h => by
    obtain ⟨l', h1, h2⟩ := h
    have ih := SrtL.turn b ho.2 h1
    rcases h2 with ⟨hk, rfl⟩ | ⟨hk, q, hq, rfl⟩
    · have hks := ok_keys ho.1 hk
      subst hks
      unfold turnT
      rw [if_neg (fun h => hk h.1)]
      exact ⟨l', ih, .inl ⟨hk, rfl⟩⟩
    · have hm := (okT_mpT (t := .mk k n u s ks l) ho).1 hk
      have hl' : l'.length = ks.length := by rw [h1.length, hm.1]
      unfold turnT
      rw [if_pos ⟨hk, hm.1⟩]
      obtain ⟨g1, g2⟩ := sq_rot b hq
      refine ⟨rot b Tz l', ?_, .inr ⟨hk, q.map (rotN (ks.length - b % ks.length) ks.length), by rw [rot_len]; exact g1, ?_⟩⟩
      · refine srtL_of (by rw [rot_len, rot_len, turnL_len, h1.length]) fun i hi => ?_
        rw [rot_len, turnL_len] at hi
        rw [rot_get (by rw [turnL_len]; exact hi), rot_get (by rw [h1.length]; exact hi), turnL_len, h1.length]
        exact srtL_at ih _ (by rw [turnL_len]; exact rotN_lt (by omega))
      · rw [g2, List.map_map]
        congr 1
        refine List.map_congr_left fun j hj => ?_
        have hjl : j < ks.length := List.mem_range.1 (hq.perm.mem_iff.1 hj)
        show l'.getD j Tz = (rot b Tz l').getD _ Tz
        rw [rot_get (by rw [hl']; exact rotN_lt (by omega)), hl', rot_inv' hjl]
theorem SrtL.turn (b : Nat) : ∀ {l l' : List T}, okL l → SrtL l l' → SrtL (turnL b l) l'
  | [], _, _, h => h
  | t :: ts, _, ho, h => by
    obtain ⟨t', ts', rfl, h1, h2⟩ := h
    exact ⟨t', ts', rfl, Srt.turn b ho.1 h1, SrtL.turn b ho.2 h2⟩
end
end Go.Proofs.YtnplkamkeadlgaaDoor
