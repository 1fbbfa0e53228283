/-
  What is proved here: a sorted tree has as many nodes as the tree, its strings and lists are no longer, and the keys of its maps increase; condition: a valid tree.
-/
import Derived.Test.YtnplkamkeadlgaaDoorSorted
namespace Go.Proofs.YtnplkamkeadlgaaDoor
open Go.RowKit Go.Sort

theorem range_getD {α : Type} (l : List α) (d : α) : (List.range l.length).map (fun i => l.getD i d) = l := by
  apply List.ext_getElem
  · simp
  · intro i h1 h2
    rw [List.getElem_map, List.getElem_range, List.getD_eq_getElem?_getD, List.getElem?_eq_getElem h2]
    rfl
theorem pick_perm {α : Type} {l : List α} {d : α} {q : List Nat} (hq : q.Perm (List.range l.length)) : (q.map fun i => l.getD i d).Perm l := by
  have h := hq.map fun i => l.getD i d
  rw [range_getD] at h
  exact h
theorem szL_perm {a b : List T} (h : a.Perm b) : szL a = szL b := by
  induction h with
  | nil => rfl
  | cons x _ ih => unfold szL; rw [ih]
  | swap x y l => unfold szL szL; omega
  | trans _ _ i1 i2 => rw [i1, i2]
theorem ky_perm {ks : List ByteArray} {q : List Nat} (hq : q.Perm (List.range ks.length)) : (q.map (ky ks)).Perm ks := by
  show (q.map fun i => ks.getD i ⟨#[]⟩).Perm ks
  exact pick_perm hq
mutual
def incT : T → Prop
  | .mk _ _ _ _ ks l => Incr ks ∧ incL l
def incL : List T → Prop
  | [] => True
  | t :: ts => incT t ∧ incL ts
end
theorem incL_of : ∀ {l : List T}, (∀ t ∈ l, incT t) → incL l
  | [], _ => trivial
  | t :: ts, h => ⟨h t (by simp), incL_of fun x hx => h x (by simp [hx])⟩
theorem incL_mem : ∀ {l : List T}, incL l → ∀ t ∈ l, incT t
  | t :: ts, h, x, hx => by
    rcases List.mem_cons.1 hx with rfl | hx
    · exact h.1
    · exact incL_mem h.2 x hx
theorem incT_sub (t : T) (h : incT t) : ∀ c ∈ t.l, incT c := by
  cases t
  exact incL_mem h.2
theorem ok_keys {k n u : Int} {s : ByteArray} {ks : List ByteArray} {l : List T} (h : ownE (.mk k n u s ks l) = 0) (hk : k ≠ 17) : ks = [] := by
  unfold ownE at h
  by_cases hs : suchT (.mk k n u s ks l) = false
  · rw [if_pos hs] at h; omega
  have hs' : suchT (.mk k n u s ks l) = true := by simpa using hs
  unfold suchT at hs'
  simp only [Bool.and_eq_true] at hs'
  have h6 := hs'.1.1.1.1.1.2
  simpa [hk] using h6
mutual
theorem Srt.sz : ∀ {t t' : T}, mpT t → Srt t t' → sz t' = sz t
  | .mk k n u s ks l, t', hm, h => by
    obtain ⟨l', h1, h2⟩ := h
    have hl := SrtL.sz hm.2 h1
    rcases h2 with ⟨_, rfl⟩ | ⟨hk, q, hq, rfl⟩
    · show 1 + szL l' = 1 + szL l
      rw [hl]
    · have hn : l'.length = ks.length := by rw [h1.length, (hm.1 hk).1]
      show 1 + szL _ = 1 + szL l
      rw [szL_perm (pick_perm (by rw [hn]; exact hq.perm)), hl]
theorem SrtL.sz : ∀ {l l' : List T}, mpL l → SrtL l l' → szL l' = szL l
  | [], _, _, h => by obtain rfl : _ = [] := h; rfl
  | t :: ts, _, hm, h => by
    obtain ⟨t', ts', rfl, h1, h2⟩ := h
    unfold szL
    rw [Srt.sz hm.1 h1, SrtL.sz hm.2 h2]
end
mutual
theorem Srt.sm : ∀ {t t' : T}, mpT t → Go.Proofs.YtnplkamkeadlgaaDoor.sm 1000 1000 t → Srt t t' → Go.Proofs.YtnplkamkeadlgaaDoor.sm 1000 1000 t'
  | .mk k n u s ks l, t', hm, hs, h => by
    obtain ⟨l', h1, h2⟩ := h
    have hl := SrtL.sm hm.2 hs.2.2.2 h1
    rcases h2 with ⟨_, rfl⟩ | ⟨hk, q, hq, rfl⟩
    · exact ⟨hs.1, hs.2.1, hs.2.2.1, hl⟩
    · have hn : l'.length = ks.length := by rw [h1.length, (hm.1 hk).1]
      have hp := ky_perm hq.perm
      have hp2 := pick_perm (q := q) (l := l') (d := (.mk 0 0 0 ⟨#[]⟩ [] [] : T)) (by rw [hn]; exact hq.perm)
      exact ⟨hs.1, by rw [hp.length_eq]; exact hs.2.1, fun x hx => hs.2.2.1 x (hp.mem_iff.1 hx), smL_of fun x hx => smL_mem hl x (hp2.mem_iff.1 hx)⟩
theorem SrtL.sm : ∀ {l l' : List T}, mpL l → smL 1000 1000 l → SrtL l l' → smL 1000 1000 l'
  | [], _, _, _, h => by obtain rfl : _ = [] := h; trivial
  | t :: ts, _, hm, hs, h => by
    obtain ⟨t', ts', rfl, h1, h2⟩ := h
    exact ⟨Srt.sm hm.1 hs.1 h1, SrtL.sm hm.2 hs.2 h2⟩
end
mutual
theorem Srt.inc : ∀ {t t' : T}, okT t → Srt t t' → incT t'
  | .mk k n u s ks l, t', ho, h => by
    obtain ⟨l', h1, h2⟩ := h
    have hl := SrtL.inc ho.2 h1
    rcases h2 with ⟨hk, rfl⟩ | ⟨hk, q, hq, rfl⟩
    · refine ⟨?_, hl⟩
      rw [ok_keys ho.1 hk]
      intro i j _ h
      simp at h
    · have hm := (okT_mpT (t := .mk k n u s ks l) ho).1 hk
      have hn : l'.length = ks.length := by rw [h1.length, hm.1]
      have hp2 := pick_perm (q := q) (l := l') (d := (.mk 0 0 0 ⟨#[]⟩ [] [] : T)) (by rw [hn]; exact hq.perm)
      exact ⟨hq.incr, incL_of fun x hx => incL_mem hl x (hp2.mem_iff.1 hx)⟩
theorem SrtL.inc : ∀ {l l' : List T}, okL l → SrtL l l' → incL l'
  | [], _, _, h => by obtain rfl : _ = [] := h; trivial
  | t :: ts, _, ho, h => by
    obtain ⟨t', ts', rfl, h1, h2⟩ := h
    exact ⟨Srt.inc ho.1 h1, SrtL.inc ho.2 h2⟩
end
end Go.Proofs.YtnplkamkeadlgaaDoor
