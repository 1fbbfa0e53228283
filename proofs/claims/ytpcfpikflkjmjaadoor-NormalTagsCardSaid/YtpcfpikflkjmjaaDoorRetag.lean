/-
  What is proved here: a tree whose kinds are changed as the law's 'retagged' changes them: it is valid, and its sorted tree has the same normal form; no program in this text; condition: a valid tree.
-/
import Derived.Test.YtpcfpikflkjmjaaDoorNf
namespace Go.Proofs.YtpcfpikflkjmjaaDoor
open Go.RowKit Go.Sort

mutual
def rtT (b : Nat) : T → T
  | .mk k n u s ks l => if (k = 3 ∨ k = 8) ∧ b % 3 = 1 ∧ 0 ≤ n then .mk 4 0 n eS [] [] else if k = 3 ∧ b % 3 = 2 then .mk 8 n 0 eS [] [] else if k = 4 ∧ b % 3 = 1 then .mk 9 0 u eS [] [] else
      if k = 5 ∧ b % 2 = 0 then .mk 6 0 0 s [] [] else if 10 < k ∧ k < 17 then .mk 10 n u s ks (rtL b 0 l) else .mk k n u s ks (rtL b 0 l)
def rtL (b i : Nat) : List T → List T
  | [] => []
  | t :: ts => rtT (b / 2 + i) t :: rtL b (i + 1) ts
end
theorem rtL_len (b : Nat) : ∀ (i : Nat) (l : List T), (rtL b i l).length = l.length
  | _, [] => rfl
  | i, t :: ts => by unfold rtL; simp [rtL_len b (i + 1) ts]
theorem rtL_get (b : Nat) : ∀ (l : List T) (i j : Nat), (rtL b i l)[j]? = (l[j]?).map (rtT (b / 2 + (i + j)))
  | [], i, j => by simp [rtL]
  | t :: ts, i, 0 => by unfold rtL; simp
  | t :: ts, i, j + 1 => by
    unfold rtL
    rw [List.getElem?_cons_succ, List.getElem?_cons_succ, rtL_get b ts (i + 1) j]
    congr 2
    omega
/-- The five cases of a leaf, and the others. -/
theorem rt_hi {b : Nat} {k n u : Int} {s : ByteArray} {ks : List ByteArray} {l : List T} (h : 10 ≤ k) : rtT b (.mk k n u s ks l) = .mk (if 10 < k ∧ k < 17 then 10 else k) n u s ks (rtL b 0 l) := by
  unfold rtT
  rw [if_neg (by omega), if_neg (by omega), if_neg (by omega), if_neg (by omega)]
  by_cases hk : 10 < k ∧ k < 17
  · rw [if_pos hk, if_pos hk]
  · rw [if_neg hk, if_neg hk]
/-- What becomes of a leaf. -/
theorem rt_leaf {b : Nat} {k n u : Int} {s : ByteArray} {ks : List ByteArray} {l : List T} (ho : okT (.mk k n u s ks l)) (hk : k ≤ 9) :
    ∃ k' n' u' s', rtT b (.mk k n u s ks l) = .mk k' n' u' s' [] [] ∧ k' ≤ 9 ∧ ownE (.mk k' n' u' s' [] []) = 0 ∧ (n ≤ 9223372036854775807 → nfT (.mk k' n' u' s' [] []) = nfT (.mk k n u s ks l)) ∧ (s.size ≤ 1000 → s'.size ≤ 1000) := by
  obtain ⟨f1, f2, f3, f4, f5, f6, f7, f8⟩ := such_facts (ownE_zero.1 ho.1).1
  have hl := f7 hk
  have hks := f6 (by omega)
  subst hl hks
  have o9 : ownE (.mk 9 0 u eS [] []) = 0 := ownE_zero.2 ⟨by simp [suchT, eS, partK, ByteArray.size], by simp, rfl⟩
  have o8 : ownE (.mk 8 n 0 eS [] []) = 0 := ownE_zero.2 ⟨by simp [suchT, eS, partK, ByteArray.size], by simp, rfl⟩
  unfold rtT
  by_cases h1 : (k = 3 ∨ k = 8) ∧ b % 3 = 1 ∧ 0 ≤ n
  · rw [if_pos h1]
    refine ⟨4, 0, n, eS, rfl, by omega, own4 n, fun hn => ?_, fun _ => by decide⟩
    rw [nf_uint (.inl rfl), if_pos hn]
    rcases h1.1 with rfl | rfl
    · rw [nf_else (by omega) (by omega) (by omega) (by omega), f4 (by omega), f5 (by omega)]; rfl
    · rw [nf_int]
  rw [if_neg h1]
  by_cases h2 : k = 3 ∧ b % 3 = 2
  · rw [if_pos h2]
    refine ⟨8, n, 0, eS, rfl, by omega, o8, fun _ => ?_, fun _ => by decide⟩
    obtain ⟨rfl, _⟩ := h2
    rw [nf_int, nf_else (by omega) (by omega) (by omega) (by omega), f4 (by omega), f5 (by omega)]; rfl
  rw [if_neg h2]
  by_cases h3 : k = 4 ∧ b % 3 = 1
  · rw [if_pos h3]
    refine ⟨9, 0, u, eS, rfl, by omega, o9, fun _ => ?_, fun _ => by decide⟩
    obtain ⟨rfl, _⟩ := h3
    rw [nf_uint (.inr rfl), nf_uint (.inl rfl)]
  rw [if_neg h3]
  by_cases h4 : k = 5 ∧ b % 2 = 0
  · rw [if_pos h4]
    refine ⟨6, 0, 0, s, rfl, by omega, own6 s, fun _ => ?_, fun h => h⟩
    obtain ⟨rfl, _⟩ := h4
    rw [nf_key, nf_else (by omega) (by omega) (by omega) (by omega)]; rfl
  rw [if_neg h4, if_neg (by omega)]
  exact ⟨k, n, u, s, rfl, hk, ho.1, fun _ => rfl, fun h => h⟩
mutual
theorem rt_ok (b : Nat) : ∀ {t : T}, okT t → okT (rtT b t) ∧ sz (rtT b t) = sz t ∧ dp (rtT b t) = dp t
  | .mk k n u s ks l, ho => by
    have ih := rtL_ok b 0 ho.2
    obtain ⟨f1, f2, f3, f4, f5, f6, f7, f8⟩ := such_facts (ownE_zero.1 ho.1).1
    by_cases hk : k ≤ 9
    · obtain ⟨k', n', u', s', e, h1, h2, _⟩ := rt_leaf (b := b) ho hk
      rw [e, f7 hk]
      exact ⟨ok_leaf h2, rfl, rfl⟩
    · rw [rt_hi (by omega)]
      refine ⟨⟨?_, ih.1⟩, ?_, ?_⟩
      · by_cases hm : 10 < k ∧ k < 17
        · rw [if_pos hm, f3 (by omega), f4 (by omega), f5 (by omega), f6 (by omega)]
          exact own10 _
        · rw [if_neg hm]
          refine ownE_perm (List.Perm.refl _) (rtL_len b 0 l) (.inl ?_) ho.1
          rcases (show k = 10 ∨ k = 17 by omega) with rfl | rfl <;> decide
      · show 1 + szL (rtL b 0 l) = 1 + szL l
        rw [ih.2.1]
      · show 1 + dpL (rtL b 0 l) = 1 + dpL l
        rw [ih.2.2]
theorem rtL_ok (b : Nat) : ∀ (i : Nat) {l : List T}, okL l → okL (rtL b i l) ∧ szL (rtL b i l) = szL l ∧ dpL (rtL b i l) = dpL l
  | _, [], _ => ⟨trivial, rfl, rfl⟩
  | i, t :: ts, ho => by
    obtain ⟨h1, h2, h3⟩ := rt_ok (b / 2 + i) ho.1
    obtain ⟨g1, g2, g3⟩ := rtL_ok b (i + 1) ho.2
    unfold rtL
    refine ⟨⟨h1, g1⟩, ?_, ?_⟩
    · unfold szL; rw [h2, g2]
    · unfold dpL; rw [h3, g3]
end
mutual
theorem rt_sm (b : Nat) : ∀ {t : T}, okT t → sm 1000 1000 t → sm 1000 1000 (rtT b t)
  | .mk k n u s ks l, ho, hs => by
    have ih := rtL_sm b 0 ho.2 hs.2.2.2
    by_cases hk : k ≤ 9
    · obtain ⟨k', n', u', s', e, _, _, _, h3⟩ := rt_leaf (b := b) ho hk
      rw [e]
      exact ⟨h3 hs.1, by simp, by simp, trivial⟩
    · rw [rt_hi (by omega)]
      exact ⟨hs.1, hs.2.1, hs.2.2.1, ih⟩
theorem rtL_sm (b : Nat) : ∀ (i : Nat) {l : List T}, okL l → smL 1000 1000 l → smL 1000 1000 (rtL b i l)
  | _, [], _, _ => trivial
  | i, _ :: _, ho, hs => ⟨rt_sm (b / 2 + i) ho.1 hs.1, rtL_sm b (i + 1) ho.2 hs.2⟩
end
theorem rt_chk (b : Nat) {t : T} (hc : chk t = 0) : chk (rtT b t) = 0 := by
  obtain ⟨h1, h2, h3⟩ := (chk_zero t).1 hc
  obtain ⟨g1, g2, g3⟩ := rt_ok b h1
  exact (chk_zero _).2 ⟨g1, by rw [g3]; exact h2, by rw [g2]; exact h3⟩
theorem rt_qq (b : Nat) {t : T} (h : okT t) (hq : QQ t) : QQ (rtT b t) := ⟨by rw [(rt_ok b h).2.1]; exact hq.1, rt_sm b h hq.2⟩
mutual
def rgT : T → Prop
  | .mk _ n _ _ _ l => n ≤ 9223372036854775807 ∧ rgL l
def rgL : List T → Prop
  | [] => True
  | t :: ts => rgT t ∧ rgL ts
end
mutual
theorem Nd.rg {w : World} : ∀ {t : T} {cs : List Value}, Nd w t cs → rgT t
  | .mk k n u s ks l, cs, h => by
    obtain ⟨hr, hs, kv, A, m, c, rfl, hk, h1, h2, h3, h4⟩ := h
    refine ⟨hr.2.2.2.1, ?_⟩
    rcases Nat.eq_zero_or_pos m with h0 | h0
    · obtain rfl : l = [] := List.eq_nil_of_length_eq_zero (by omega)
      trivial
    · obtain ⟨b, off, rfl, hlt, hL⟩ := h4 h0
      exact NdL.rg hL
theorem NdL.rg {w : World} {b : Nat} : ∀ {l : List T} {off : Nat}, NdL w b l off → rgL l
  | [], _, _ => trivial
  | t :: ts, off, h => by
    obtain ⟨⟨cs, hc, hn⟩, hr⟩ := h
    exact ⟨Nd.rg hn, NdL.rg hr⟩
end
theorem nfL_getD {l l2 : List T} (h : nfL l2 = nfL l) (q : List Nat) : nfL (q.map fun i => l2.getD i (.mk 0 0 0 ⟨#[]⟩ [] [] : T)) = nfL (q.map fun i => l.getD i (.mk 0 0 0 ⟨#[]⟩ [] [] : T)) := by
  rw [nfL_map, nfL_map, List.map_map, List.map_map]
  refine List.map_congr_left fun i _ => ?_
  show nfT (l2.getD i _) = nfT (l.getD i _)
  rw [nfL_map, nfL_map] at h
  have hi : (l2.map nfT)[i]? = (l.map nfT)[i]? := by rw [h]
  rw [List.getElem?_map, List.getElem?_map] at hi
  rw [List.getD_eq_getElem?_getD, List.getD_eq_getElem?_getD]
  cases h1 : l2[i]? <;> cases h2 : l[i]? <;> rw [h1, h2] at hi <;> simp at hi ⊢
  exact hi
mutual
theorem rt_nf (b : Nat) : ∀ {t t' : T}, okT t → rgT t → Srt t t' → ∃ t2, Srt (rtT b t) t2 ∧ nfT t2 = nfT t'
  | .mk k n u s ks l, t', ho, hg, h => by
    obtain ⟨l', h1, h2⟩ := h
    obtain ⟨f1, f2, f3, f4, f5, f6, f7, f8⟩ := such_facts (ownE_zero.1 ho.1).1
    by_cases hk : k ≤ 9
    · rcases h2 with ⟨_, rfl⟩ | ⟨h17, _⟩
      · obtain ⟨k', n', u', s', e, g1, g2, g3, _⟩ := rt_leaf (b := b) ho hk
        have hl := f7 hk
        subst hl
        obtain rfl : l' = [] := h1
        exact ⟨.mk k' n' u' s' [] [], by rw [e]; exact ⟨[], rfl, .inl ⟨by omega, rfl⟩⟩, g3 hg.1⟩
      · omega
    · obtain ⟨l2, i1, i2⟩ := rtL_nf b 0 ho.2 hg.2 h1
      rw [rt_hi (by omega)]
      rcases h2 with ⟨h17, rfl⟩ | ⟨rfl, q, hq, rfl⟩
      · refine ⟨_, ⟨l2, i1, .inl ⟨by split <;> omega, rfl⟩⟩, ?_⟩
        by_cases hm : 10 < k ∧ k < 17
        · rw [if_pos hm, nf_vec (by omega : 11 ≤ k ∧ k ≤ 16), nf_else (by omega) (by omega) (by omega) (by omega), i2, f3 (by omega), f4 (by omega), f5 (by omega), f6 (by omega)]
        · rw [if_neg hm, nf_else (by omega) (by omega) (by omega) (by omega), nf_else (by omega) (by omega) (by omega) (by omega), i2]
      · rw [if_neg (by omega)]
        refine ⟨_, ⟨l2, i1, .inr ⟨rfl, q, hq, rfl⟩⟩, ?_⟩
        rw [nf_else (by omega) (by omega) (by omega) (by omega), nf_else (by omega) (by omega) (by omega) (by omega), nfL_getD i2]
theorem rtL_nf (b : Nat) : ∀ (i : Nat) {l l' : List T}, okL l → rgL l → SrtL l l' → ∃ l2, SrtL (rtL b i l) l2 ∧ nfL l2 = nfL l'
  | _, [], _, _, _, h => by obtain rfl : _ = [] := h; exact ⟨[], rfl, rfl⟩
  | i, t :: ts, _, ho, hg, h => by
    obtain ⟨t', ts', rfl, h1, h2⟩ := h
    obtain ⟨x, g1, g2⟩ := rt_nf (b / 2 + i) ho.1 hg.1 h1
    obtain ⟨y, g3, g4⟩ := rtL_nf b (i + 1) ho.2 hg.2 h2
    refine ⟨x :: y, ⟨x, y, rfl, g1, g3⟩, ?_⟩
    unfold nfL
    rw [g2, g4]
end
end Go.Proofs.YtpcfpikflkjmjaaDoor
