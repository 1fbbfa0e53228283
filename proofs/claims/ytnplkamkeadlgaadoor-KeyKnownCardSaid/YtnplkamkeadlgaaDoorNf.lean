/-
  What is proved here: the normal form of a sorted tree as a function on plain trees: it is valid, its own normal form, as large and as deep as the tree, holds only few kinds, and goes node by node; no program in this text; condition: a valid tree.
-/
import Derived.Test.YtnplkamkeadlgaaDoorPm
namespace Go.Proofs.YtnplkamkeadlgaaDoor
open Go.RowKit Go.Sort

def eS : ByteArray := ⟨#[]⟩
mutual
def nfT : T → T
  | .mk k n u s ks l => if k = 4 ∨ k = 9 then (if u ≤ 9223372036854775807 then .mk 3 u 0 eS [] [] else .mk 4 0 u eS [] []) else if k = 8 then .mk 3 n 0 eS [] [] else if k = 5 then .mk 6 0 0 s [] [] else
      if 11 ≤ k ∧ k ≤ 16 then .mk 10 0 0 eS [] (nfL l) else .mk k n u s ks (nfL l)
def nfL : List T → List T
  | [] => []
  | t :: ts => nfT t :: nfL ts
end
theorem nfL_map : ∀ l : List T, nfL l = l.map nfT
  | [] => rfl
  | t :: ts => by unfold nfL; rw [nfL_map ts]; rfl
theorem nfL_len (l : List T) : (nfL l).length = l.length := by rw [nfL_map]; simp
theorem nf_uint {k n u : Int} {s : ByteArray} {ks : List ByteArray} {l : List T} (h : k = 4 ∨ k = 9) : nfT (.mk k n u s ks l) = if u ≤ 9223372036854775807 then .mk 3 u 0 eS [] [] else .mk 4 0 u eS [] [] := by
  unfold nfT; rw [if_pos h]
theorem nf_int {n u : Int} {s : ByteArray} {ks : List ByteArray} {l : List T} : nfT (.mk 8 n u s ks l) = .mk 3 n 0 eS [] [] := by
  unfold nfT; rw [if_neg (by omega), if_pos rfl]
theorem nf_key {n u : Int} {s : ByteArray} {ks : List ByteArray} {l : List T} : nfT (.mk 5 n u s ks l) = .mk 6 0 0 s [] [] := by
  unfold nfT; rw [if_neg (by omega), if_neg (by omega), if_pos rfl]
theorem nf_vec {k n u : Int} {s : ByteArray} {ks : List ByteArray} {l : List T} (h : 11 ≤ k ∧ k ≤ 16) : nfT (.mk k n u s ks l) = .mk 10 0 0 eS [] (nfL l) := by
  unfold nfT; rw [if_neg (by omega), if_neg (by omega), if_neg (by omega), if_pos h]
theorem nf_else {k n u : Int} {s : ByteArray} {ks : List ByteArray} {l : List T} (h4 : ¬ (k = 4 ∨ k = 9)) (h8 : k ≠ 8) (h5 : k ≠ 5) (h : ¬ (11 ≤ k ∧ k ≤ 16)) : nfT (.mk k n u s ks l) = .mk k n u s ks (nfL l) := by
  unfold nfT; rw [if_neg h4, if_neg h8, if_neg h5, if_neg h]
theorem nf_cases (k : Int) : (k = 4 ∨ k = 9) ∨ k = 8 ∨ k = 5 ∨ (11 ≤ k ∧ k ≤ 16) ∨ (¬ (k = 4 ∨ k = 9) ∧ k ≠ 8 ∧ k ≠ 5 ∧ ¬ (11 ≤ k ∧ k ≤ 16)) := by omega
/-- What a valid node is, kind by kind. -/
theorem such_facts {k n u : Int} {s : ByteArray} {ks : List ByteArray} {l : List T} (h : suchT (.mk k n u s ks l) = true) :
    1 ≤ k ∧ k ≤ 17 ∧ (¬ (k = 2 ∨ k = 3 ∨ k = 8) → n = 0) ∧ (¬ (k = 4 ∨ k = 9) → u = 0) ∧ (¬ (k = 5 ∨ k = 6 ∨ k = 7) → s = eS) ∧ (k ≠ 17 → ks = []) ∧ (k ≤ 9 → l = []) ∧ (k = 17 → ks.length = l.length) := by
  unfold suchT at h
  simp only [Bool.and_eq_true, Bool.or_eq_true, decide_eq_true_eq, Bool.not_eq_true'] at h
  obtain ⟨⟨⟨⟨⟨⟨⟨⟨⟨⟨h1, h2⟩, h3⟩, h4⟩, h5⟩, h6⟩, h7⟩, -⟩, h9⟩, -⟩, -⟩ := h
  refine ⟨h1, h2, fun h => h3.resolve_left h, fun h => h4.resolve_left h, fun h => ?_, fun h => ?_, fun h => ?_, fun h => ?_⟩
  · have := h5.resolve_left h
    have e : s.data.toList = [] := List.eq_nil_of_length_eq_zero (show s.data.toList.length = 0 by rw [Array.length_toList]; exact this)
    exact ba_ext (by rw [e]; rfl)
  · exact List.eq_nil_of_length_eq_zero (h6.resolve_left h)
  · refine List.eq_nil_of_length_eq_zero (h7.resolve_left ?_)
    simp; omega
  · rcases h9 with h9 | h9
    · simp [h] at h9
    · exact h9
mutual
theorem nf_idem : ∀ t : T, nfT (nfT t) = nfT t
  | .mk k n u s ks l => by
    have ih := nfL_idem l
    rcases nf_cases k with h | rfl | rfl | h | ⟨h1, h2, h3, h4⟩
    · rw [nf_uint h]
      by_cases hu : u ≤ 9223372036854775807
      · rw [if_pos hu, nf_else (by omega) (by omega) (by omega) (by omega)]; rfl
      · rw [if_neg hu, nf_uint (.inl rfl), if_neg hu]
    · rw [nf_int, nf_else (by omega) (by omega) (by omega) (by omega)]; rfl
    · rw [nf_key, nf_else (by omega) (by omega) (by omega) (by omega)]; rfl
    · rw [nf_vec h, nf_else (by omega) (by omega) (by omega) (by omega), ih]
    · rw [nf_else h1 h2 h3 h4, nf_else h1 h2 h3 h4, ih]
theorem nfL_idem : ∀ l : List T, nfL (nfL l) = nfL l
  | [] => rfl
  | t :: ts => by
    show nfT (nfT t) :: nfL (nfL ts) = nfT t :: nfL ts
    rw [nf_idem t, nfL_idem ts]
end
mutual
theorem nf_sz : ∀ {t : T}, okT t → sz (nfT t) = sz t
  | .mk k n u s ks l, ho => by
    have ih := nfL_sz ho.2
    obtain ⟨f1, f2, f3, f4, f5, f6, f7, f8⟩ := such_facts (ownE_zero.1 ho.1).1
    rcases nf_cases k with h | rfl | rfl | h | ⟨h1, h2, h3, h4⟩
    · rw [nf_uint h, f7 (by omega)]
      by_cases hu : u ≤ 9223372036854775807
      · rw [if_pos hu]; rfl
      · rw [if_neg hu]; rfl
    · rw [nf_int, f7 (by omega)]; rfl
    · rw [nf_key, f7 (by omega)]; rfl
    · rw [nf_vec h]; show 1 + szL (nfL l) = 1 + szL l; rw [ih]
    · rw [nf_else h1 h2 h3 h4]; show 1 + szL (nfL l) = 1 + szL l; rw [ih]
theorem nfL_sz : ∀ {l : List T}, okL l → szL (nfL l) = szL l
  | [], _ => rfl
  | t :: ts, ho => by unfold nfL szL; rw [nf_sz ho.1, nfL_sz ho.2]
end
mutual
theorem nf_dp : ∀ {t : T}, okT t → dp (nfT t) = dp t
  | .mk k n u s ks l, ho => by
    have ih := nfL_dp ho.2
    obtain ⟨f1, f2, f3, f4, f5, f6, f7, f8⟩ := such_facts (ownE_zero.1 ho.1).1
    rcases nf_cases k with h | rfl | rfl | h | ⟨h1, h2, h3, h4⟩
    · rw [nf_uint h, f7 (by omega)]
      by_cases hu : u ≤ 9223372036854775807
      · rw [if_pos hu]; rfl
      · rw [if_neg hu]; rfl
    · rw [nf_int, f7 (by omega)]; rfl
    · rw [nf_key, f7 (by omega)]; rfl
    · rw [nf_vec h]; show 1 + dpL (nfL l) = 1 + dpL l; rw [ih]
    · rw [nf_else h1 h2 h3 h4]; show 1 + dpL (nfL l) = 1 + dpL l; rw [ih]
theorem nfL_dp : ∀ {l : List T}, okL l → dpL (nfL l) = dpL l
  | [], _ => rfl
  | t :: ts, ho => by unfold nfL dpL; rw [nf_dp ho.1, nfL_dp ho.2]
end
theorem ok_leaf {k n u : Int} {s : ByteArray} (h : ownE (.mk k n u s [] []) = 0) : okT (.mk k n u s [] []) := ⟨h, trivial⟩
theorem own3 (n : Int) : ownE (.mk 3 n 0 eS [] []) = 0 := ownE_zero.2 ⟨by simp [suchT, eS, partK, ByteArray.size], by simp, rfl⟩
theorem own4 (u : Int) : ownE (.mk 4 0 u eS [] []) = 0 := ownE_zero.2 ⟨by simp [suchT, eS, partK, ByteArray.size], by simp, rfl⟩
theorem own6 (s : ByteArray) : ownE (.mk 6 0 0 s [] []) = 0 := ownE_zero.2 ⟨by simp [suchT, partK], by simp, rfl⟩
theorem own10 (l : List T) : ownE (.mk 10 0 0 eS [] l) = 0 := ownE_zero.2 ⟨by simp [suchT, eS, partK, ByteArray.size], by simp, rfl⟩
mutual
theorem nf_ok : ∀ {t : T}, okT t → okT (nfT t)
  | .mk k n u s ks l, ho => by
    have ih := nfL_ok ho.2
    obtain ⟨f1, f2, f3, f4, f5, f6, f7, f8⟩ := such_facts (ownE_zero.1 ho.1).1
    rcases nf_cases k with h | rfl | rfl | h | ⟨h1, h2, h3, h4⟩
    · rw [nf_uint h]
      by_cases hu : u ≤ 9223372036854775807
      · rw [if_pos hu]; exact ok_leaf (own3 u)
      · rw [if_neg hu]; exact ok_leaf (own4 u)
    · rw [nf_int]; exact ok_leaf (own3 n)
    · rw [nf_key]; exact ok_leaf (own6 s)
    · rw [nf_vec h]; exact ⟨own10 _, ih⟩
    · rw [nf_else h1 h2 h3 h4]
      by_cases hk : k ≤ 9
      · have hl := f7 hk
        subst hl
        exact ho
      · refine ⟨ownE_perm (List.Perm.refl _) (nfL_len l) (.inl ?_) ho.1, ih⟩
        rcases (show k = 10 ∨ k = 17 by omega) with rfl | rfl <;> decide
theorem nfL_ok : ∀ {l : List T}, okL l → okL (nfL l)
  | [], _ => trivial
  | _ :: _, ho => ⟨nf_ok ho.1, nfL_ok ho.2⟩
end
theorem nf_chk {t : T} (hc : chk t = 0) : chk (nfT t) = 0 := by
  obtain ⟨h1, h2, h3⟩ := (chk_zero t).1 hc
  exact (chk_zero _).2 ⟨nf_ok h1, by rw [nf_dp h1]; exact h2, by rw [nf_sz h1]; exact h3⟩
mutual
theorem nf_sm : ∀ {t : T}, sm 1000 1000 t → sm 1000 1000 (nfT t)
  | .mk k n u s ks l, ho => by
    have ih := nfL_sm ho.2.2.2
    have e0 : ∀ k n u : Int, ∀ l : List T, smL 1000 1000 l → sm 1000 1000 (.mk k n u eS [] l) := fun k n u l hl => ⟨by decide, by simp, by simp, hl⟩
    rcases nf_cases k with h | rfl | rfl | h | ⟨h1, h2, h3, h4⟩
    · rw [nf_uint h]
      by_cases hu : u ≤ 9223372036854775807
      · rw [if_pos hu]; exact e0 _ _ _ _ trivial
      · rw [if_neg hu]; exact e0 _ _ _ _ trivial
    · rw [nf_int]; exact e0 _ _ _ _ trivial
    · rw [nf_key]; exact ⟨ho.1, by simp, by simp, trivial⟩
    · rw [nf_vec h]; exact e0 _ _ _ _ ih
    · rw [nf_else h1 h2 h3 h4]; exact ⟨ho.1, ho.2.1, ho.2.2.1, ih⟩
theorem nfL_sm : ∀ {l : List T}, smL 1000 1000 l → smL 1000 1000 (nfL l)
  | [], _ => trivial
  | _ :: _, ho => ⟨nf_sm ho.1, nfL_sm ho.2⟩
end
theorem nf_qq {t : T} (h : okT t) (hq : QQ t) : QQ (nfT t) := ⟨by rw [nf_sz h]; exact hq.1, nf_sm hq.2⟩
mutual
theorem srt_self : ∀ {t : T}, mpT t → incT t → Srt t t
  | .mk k n u s ks l, hm, hi => by
    refine ⟨l, srtL_self (srt_selfL hm.2 hi.2), ?_⟩
    by_cases hk : k = 17
    · refine .inr ⟨hk, List.range ks.length, sq_range hi.1, ?_⟩
      have hl := (hm.1 hk).1
      have e1 : (List.range ks.length).map (ky ks) = ks := range_getD ks ⟨#[]⟩
      have e2 : (List.range ks.length).map (fun i => l.getD i (.mk 0 0 0 ⟨#[]⟩ [] [] : T)) = l := by rw [hl]; exact range_getD _ _
      rw [e1, e2]
    · exact .inl ⟨hk, rfl⟩
theorem srt_selfL : ∀ {l : List T}, mpL l → incL l → ∀ t ∈ l, Srt t t
  | [], _, _ => by simp
  | t :: ts, hm, hi => by
    intro x hx
    rcases List.mem_cons.1 hx with e | hx
    · rw [e]; exact srt_self hm.1 hi.1
    · exact srt_selfL hm.2 hi.2 x hx
end
theorem incr_nil : Incr [] := fun i j _ h => by simp at h
mutual
theorem nf_inc : ∀ {t : T}, incT t → incT (nfT t)
  | .mk k n u s ks l, hi => by
    have ih := nfL_inc hi.2
    rcases nf_cases k with h | rfl | rfl | h | ⟨h1, h2, h3, h4⟩
    · rw [nf_uint h]
      by_cases hu : u ≤ 9223372036854775807
      · rw [if_pos hu]; exact ⟨incr_nil, trivial⟩
      · rw [if_neg hu]; exact ⟨incr_nil, trivial⟩
    · rw [nf_int]; exact ⟨incr_nil, trivial⟩
    · rw [nf_key]; exact ⟨incr_nil, trivial⟩
    · rw [nf_vec h]; exact ⟨incr_nil, ih⟩
    · rw [nf_else h1 h2 h3 h4]; exact ⟨hi.1, ih⟩
theorem nfL_inc : ∀ {l : List T}, incL l → incL (nfL l)
  | [], _ => trivial
  | _ :: _, hi => ⟨nf_inc hi.1, nfL_inc hi.2⟩
end
/-- The sorted tree of a normal form is itself. -/
theorem nf_srt {t : T} (ho : okT t) (hi : incT t) : Srt (nfT t) (nfT t) := srt_self (okT_mpT (nf_ok ho)) (nf_inc hi)
mutual
theorem nf_at : ∀ {t : T} (i : Nat), okT t → atT (nfT t) i = (atT t i).map nfT
  | .mk k n u s ks l, i, ho => by
    obtain ⟨f1, f2, f3, f4, f5, f6, f7, f8⟩ := such_facts (ownE_zero.1 ho.1).1
    by_cases h0 : i = 0
    · subst h0
      have e : ∀ t : T, atT t 0 = some t := fun t => by cases t; unfold atT; rw [if_pos rfl]
      rw [e, e]; rfl
    · have e : ∀ (k n u : Int) (s : ByteArray) (ks : List ByteArray) (l : List T), atT (.mk k n u s ks l) i = atL l (i - 1) := fun k n u s ks l => by unfold atT; rw [if_neg h0]
      have ih := nfL_at (i - 1) ho.2
      rw [e]
      rcases nf_cases k with h | rfl | rfl | h | ⟨h1, h2, h3, h4⟩
      · rw [nf_uint h, f7 (by omega)]
        by_cases hu : u ≤ 9223372036854775807
        · rw [if_pos hu, e]; rfl
        · rw [if_neg hu, e]; rfl
      · rw [nf_int, f7 (by omega), e]; rfl
      · rw [nf_key, f7 (by omega), e]; rfl
      · rw [nf_vec h, e, ih]
      · rw [nf_else h1 h2 h3 h4, e, ih]
theorem nfL_at : ∀ {l : List T} (i : Nat), okL l → atL (nfL l) i = (atL l i).map nfT
  | [], _, _ => rfl
  | t :: ts, i, ho => by
    unfold nfL atL
    rw [nf_sz ho.1]
    by_cases h : i < sz t
    · rw [if_pos h, if_pos h]; exact nf_at i ho.1
    · rw [if_neg h, if_neg h]; exact nfL_at _ ho.2
end
mutual
def nkT : T → Prop
  | .mk k _ u _ _ l => (k = 1 ∨ k = 2 ∨ k = 3 ∨ k = 6 ∨ k = 7 ∨ k = 10 ∨ k = 17 ∨ (k = 4 ∧ 9223372036854775808 ≤ u)) ∧ nkL l
def nkL : List T → Prop
  | [] => True
  | t :: ts => nkT t ∧ nkL ts
end
theorem nkL_mem : ∀ {l : List T}, nkL l → ∀ t ∈ l, nkT t
  | t :: ts, h, x, hx => by
    rcases List.mem_cons.1 hx with rfl | hx
    · exact h.1
    · exact nkL_mem h.2 x hx
theorem nkT_sub (t : T) (h : nkT t) : ∀ c ∈ t.l, nkT c := by
  cases t
  exact nkL_mem h.2
mutual
theorem nf_nk : ∀ {t : T}, okT t → nkT (nfT t)
  | .mk k n u s ks l, ho => by
    have ih := nfL_nk ho.2
    obtain ⟨f1, f2, f3, f4, f5, f6, f7, f8⟩ := such_facts (ownE_zero.1 ho.1).1
    rcases nf_cases k with h | rfl | rfl | h | ⟨h1, h2, h3, h4⟩
    · rw [nf_uint h]
      by_cases hu : u ≤ 9223372036854775807
      · rw [if_pos hu]; exact ⟨by omega, trivial⟩
      · rw [if_neg hu]; exact ⟨by omega, trivial⟩
    · rw [nf_int]; exact ⟨by omega, trivial⟩
    · rw [nf_key]; exact ⟨by omega, trivial⟩
    · rw [nf_vec h]; exact ⟨by omega, ih⟩
    · rw [nf_else h1 h2 h3 h4]; exact ⟨by omega, ih⟩
theorem nfL_nk : ∀ {l : List T}, okL l → nkL (nfL l)
  | [], _ => trivial
  | _ :: _, ho => ⟨nf_nk ho.1, nfL_nk ho.2⟩
end
theorem okT_at {t x : T} {i : Nat} (h : okT t) (ha : atT t i = some x) : okT x := (at_ok t i x h ha).1
theorem incT_at {t x : T} {i : Nat} (h : incT t) (ha : atT t i = some x) : incT x := atT_her incT incT_sub t i x h ha
theorem nkT_at {t x : T} {i : Nat} (h : nkT t) (ha : atT t i = some x) : nkT x := atT_her nkT nkT_sub t i x h ha
end Go.Proofs.YtnplkamkeadlgaaDoor
