/-
  What is proved here: trees that differ only in the order of the entries of maps have the same size and depth and are valid together; a sorted tree is its own sorted tree; no program in this text; condition: a valid tree.
-/
import Derived.Test.YtnplkamkeadlgaaDoorTurn
namespace Go.Proofs.YtnplkamkeadlgaaDoor
open Go.RowKit Go.Sort

mutual
def Pm : T → T → Prop
  | .mk k n u s ks l, t' => ∃ ks' l1 l', PmL l l1 ∧ t' = .mk k n u s ks' l' ∧ ks'.Perm ks ∧ l'.Perm l1 ∧ (k ≠ 17 → l' = l1)
def PmL : List T → List T → Prop
  | [], l' => l' = []
  | t :: ts, l' => ∃ t' ts', l' = t' :: ts' ∧ Pm t t' ∧ PmL ts ts'
end
theorem PmL.len : ∀ {l l' : List T}, PmL l l' → l'.length = l.length
  | [], _, h => by obtain rfl : _ = [] := h; rfl
  | t :: ts, _, h => by
    obtain ⟨t', ts', rfl, _, h2⟩ := h
    simp [PmL.len h2]
theorem Pm.kind : ∀ {t t' : T}, Pm t t' → t'.k = t.k
  | .mk k n u s ks l, t', h => by
    obtain ⟨ks', l1, l', h1, rfl, _⟩ := h
    rfl
theorem PmL.kinds : ∀ {l l' : List T}, PmL l l' → l'.map T.k = l.map T.k
  | [], _, h => by obtain rfl : _ = [] := h; rfl
  | t :: ts, _, h => by
    obtain ⟨t', ts', rfl, h1, h2⟩ := h
    simp [PmL.kinds h2, h1.kind]
theorem dpL_perm {a b : List T} (h : a.Perm b) : dpL a = dpL b := by
  induction h with
  | nil => rfl
  | cons x _ ih => unfold dpL; rw [ih]
  | swap x y l => unfold dpL dpL; omega
  | trans _ _ i1 i2 => rw [i1, i2]
theorem okL_mem : ∀ {l : List T}, okL l ↔ ∀ t ∈ l, okT t
  | [] => by simp [okL]
  | t :: ts => by
    unfold okL
    rw [okL_mem (l := ts)]
    simp
theorem ba_ext {a b : ByteArray} (h : a.data.toList = b.data.toList) : a = b := by
  cases a
  cases b
  congr
  exact Array.toList_inj.1 h
theorem any_done {done : List ByteArray} {k : ByteArray} : (done.any fun d => d.data.toList == k.data.toList) = true ↔ k ∈ done := by
  rw [List.any_eq_true]
  constructor
  · rintro ⟨d, hd, he⟩
    have e : d = k := ba_ext (by simpa using he)
    rw [← e]
    exact hd
  · exact fun h => ⟨k, h, by simp⟩
theorem keysE_zero : ∀ (ks done : List ByteArray), keysE done ks = 0 ↔ ks.Nodup ∧ (∀ k ∈ ks, k ∉ done) ∧ ∀ k ∈ ks, hasZ k = false
  | [], done => by simp [keysE]
  | k :: ks, done => by
    unfold keysE
    by_cases hz : hasZ k = true
    · rw [if_pos hz]
      simp [hz]
    rw [if_neg hz]
    have hz' : hasZ k = false := by simpa using hz
    by_cases hm : (done.any fun d => d.data.toList == k.data.toList) = true
    · rw [if_pos hm]
      constructor
      · intro h; omega
      · rintro ⟨_, h, _⟩
        exact absurd (any_done.1 hm) (h k (by simp))
    · rw [if_neg hm, keysE_zero ks _]
      have hd : k ∉ done := fun h => hm (any_done.2 h)
      constructor
      · rintro ⟨h1, h2, h3⟩
        refine ⟨List.nodup_cons.2 ⟨fun hk => h2 k hk (by simp), h1⟩, fun x hx => ?_, fun x hx => ?_⟩
        · rcases List.mem_cons.1 hx with rfl | hx
          · exact hd
          · exact fun h => h2 x hx (by simp [h])
        · rcases List.mem_cons.1 hx with rfl | hx
          · exact hz'
          · exact h3 x hx
      · rintro ⟨h1, h2, h3⟩
        have h1' := List.nodup_cons.1 h1
        refine ⟨h1'.2, fun x hx => ?_, fun x hx => h3 x (by simp [hx])⟩
        intro h
        rcases List.mem_append.1 h with h | h
        · exact h2 x (by simp [hx]) h
        · obtain rfl : x = k := by simpa using h
          exact h1'.1 hx
theorem such_eq {k n u : Int} {s : ByteArray} {ks ks' : List ByteArray} {l l' : List T} (hk : ks'.length = ks.length) (hl : l'.length = l.length) (hm : partK k ≤ 0 ∨ l'.map T.k = l.map T.k) :
    suchT (.mk k n u s ks' l') = suchT (.mk k n u s ks l) := by
  have ha : (decide (partK k ≤ 0) || l'.all fun t => decide (t.k = partK k)) = (decide (partK k ≤ 0) || l.all fun t => decide (t.k = partK k)) := by
    rcases hm with h | h
    · simp [h]
    · have e : ∀ l : List T, (l.all fun t => decide (t.k = partK k)) = (l.map T.k).all fun x => decide (x = partK k) := fun l => by rw [List.all_map]; rfl
      rw [e, e, h]
  simp only [suchT]
  rw [hk, hl, ha]
theorem ownE_zero {k n u : Int} {s : ByteArray} {ks : List ByteArray} {l : List T} : ownE (.mk k n u s ks l) = 0 ↔ suchT (.mk k n u s ks l) = true ∧ ¬ (k = 5 ∧ hasZ s = true) ∧ keysE [] ks = 0 := by
  unfold ownE
  by_cases hs : suchT (.mk k n u s ks l) = false
  · rw [if_pos hs, hs]; simp
  rw [if_neg hs]
  have hs' : suchT (.mk k n u s ks l) = true := by simpa using hs
  show (if k = 5 ∧ hasZ s = true then 70 else keysE [] ks) = 0 ↔ _
  by_cases h5 : k = 5 ∧ hasZ s = true
  · rw [if_pos h5]; simp [h5]
  · rw [if_neg h5, hs']; simp [h5]
theorem ownE_perm {k n u : Int} {s : ByteArray} {ks ks' : List ByteArray} {l l' : List T} (hk : ks'.Perm ks) (hl : l'.length = l.length) (hm : partK k ≤ 0 ∨ l'.map T.k = l.map T.k) (h : ownE (.mk k n u s ks l) = 0) : ownE (.mk k n u s ks' l') = 0 := by
  rw [ownE_zero] at h ⊢
  refine ⟨(such_eq hk.length_eq hl hm).trans h.1, h.2.1, ?_⟩
  have h3 := (keysE_zero _ _).1 h.2.2
  exact (keysE_zero _ _).2 ⟨hk.nodup_iff.2 h3.1, fun x hx => h3.2.1 x (hk.mem_iff.1 hx), fun x hx => h3.2.2 x (hk.mem_iff.1 hx)⟩
mutual
theorem Pm.sz : ∀ {t t' : T}, Pm t t' → Go.Proofs.YtnplkamkeadlgaaDoor.sz t' = Go.Proofs.YtnplkamkeadlgaaDoor.sz t
  | .mk k n u s ks l, t', h => by
    obtain ⟨ks', l1, l', h1, rfl, h2, h3, h4⟩ := h
    show 1 + szL l' = 1 + szL l
    rw [szL_perm h3, PmL.sz h1]
theorem PmL.sz : ∀ {l l' : List T}, PmL l l' → szL l' = szL l
  | [], _, h => by obtain rfl : _ = [] := h; rfl
  | t :: ts, _, h => by
    obtain ⟨t', ts', rfl, h1, h2⟩ := h
    unfold szL
    rw [Pm.sz h1, PmL.sz h2]
end
mutual
theorem Pm.dp : ∀ {t t' : T}, Pm t t' → Go.Proofs.YtnplkamkeadlgaaDoor.dp t' = Go.Proofs.YtnplkamkeadlgaaDoor.dp t
  | .mk k n u s ks l, t', h => by
    obtain ⟨ks', l1, l', h1, rfl, h2, h3, h4⟩ := h
    show 1 + dpL l' = 1 + dpL l
    rw [dpL_perm h3, PmL.dp h1]
theorem PmL.dp : ∀ {l l' : List T}, PmL l l' → dpL l' = dpL l
  | [], _, h => by obtain rfl : _ = [] := h; rfl
  | t :: ts, _, h => by
    obtain ⟨t', ts', rfl, h1, h2⟩ := h
    unfold dpL
    rw [Pm.dp h1, PmL.dp h2]
end
mutual
theorem Pm.sm : ∀ {t t' : T}, Go.Proofs.YtnplkamkeadlgaaDoor.sm 1000 1000 t → Pm t t' → Go.Proofs.YtnplkamkeadlgaaDoor.sm 1000 1000 t'
  | .mk k n u s ks l, t', hs, h => by
    obtain ⟨ks', l1, l', h1, rfl, h2, h3, h4⟩ := h
    have hl := PmL.sm hs.2.2.2 h1
    exact ⟨hs.1, by rw [h2.length_eq]; exact hs.2.1, fun x hx => hs.2.2.1 x (h2.mem_iff.1 hx), smL_of fun x hx => smL_mem hl x (h3.mem_iff.1 hx)⟩
theorem PmL.sm : ∀ {l l' : List T}, smL 1000 1000 l → PmL l l' → smL 1000 1000 l'
  | [], _, _, h => by obtain rfl : _ = [] := h; trivial
  | t :: ts, _, hs, h => by
    obtain ⟨t', ts', rfl, h1, h2⟩ := h
    exact ⟨Pm.sm hs.1 h1, PmL.sm hs.2 h2⟩
end
mutual
theorem Pm.ok : ∀ {t t' : T}, okT t → Pm t t' → okT t'
  | .mk k n u s ks l, t', ho, h => by
    obtain ⟨ks', l1, l', h1, rfl, h2, h3, h4⟩ := h
    have hl := PmL.ok ho.2 h1
    refine ⟨ownE_perm h2 (by rw [h3.length_eq, h1.len]) ?_ ho.1, okL_mem.2 fun x hx => okL_mem.1 hl x (h3.mem_iff.1 hx)⟩
    by_cases hk : k = 17
    · exact .inl (by rw [hk]; decide)
    · rw [h4 hk]
      exact .inr h1.kinds
theorem PmL.ok : ∀ {l l' : List T}, okL l → PmL l l' → okL l'
  | [], _, _, h => by obtain rfl : _ = [] := h; trivial
  | t :: ts, _, ho, h => by
    obtain ⟨t', ts', rfl, h1, h2⟩ := h
    exact ⟨Pm.ok ho.1 h1, PmL.ok ho.2 h2⟩
end
theorem Pm.chk {t t' : T} (h : Pm t t') (hc : Go.Proofs.YtnplkamkeadlgaaDoor.chk t = 0) : Go.Proofs.YtnplkamkeadlgaaDoor.chk t' = 0 := by
  obtain ⟨h1, h2, h3⟩ := (chk_zero t).1 hc
  exact (chk_zero t').2 ⟨h.ok h1, by rw [h.dp]; exact h2, by rw [h.sz]; exact h3⟩
theorem Pm.qq {t t' : T} (h : Pm t t') (hq : QQ t) : QQ t' := ⟨by rw [h.sz]; exact hq.1, h.sm hq.2⟩
mutual
theorem Srt.pm : ∀ {t t' : T}, mpT t → Srt t t' → Pm t t'
  | .mk k n u s ks l, t', hm, h => by
    obtain ⟨l', h1, h2⟩ := h
    have hp := SrtL.pm hm.2 h1
    rcases h2 with ⟨hk, rfl⟩ | ⟨hk, q, hq, rfl⟩
    · exact ⟨ks, l', l', hp, rfl, List.Perm.refl _, List.Perm.refl _, fun _ => rfl⟩
    · have hn : l'.length = ks.length := by rw [h1.length, (hm.1 hk).1]
      exact ⟨_, l', _, hp, rfl, ky_perm hq.perm, pick_perm (by rw [hn]; exact hq.perm), fun h => absurd hk h⟩
theorem SrtL.pm : ∀ {l l' : List T}, mpL l → SrtL l l' → PmL l l'
  | [], _, _, h => h
  | t :: ts, _, hm, h => by
    obtain ⟨t', ts', rfl, h1, h2⟩ := h
    exact ⟨t', ts', rfl, Srt.pm hm.1 h1, SrtL.pm hm.2 h2⟩
end
mutual
theorem turn_pm (b : Nat) : ∀ {t : T}, okT t → Pm t (turnT b t)
  | .mk k n u s ks l, ho => by
    have hp := turnL_pm b ho.2
    unfold turnT
    by_cases hk : k = 17 ∧ ks.length = l.length
    · rw [if_pos hk]
      exact ⟨_, turnL b l, _, hp, rfl, rot_list _ _ _, rot_list _ _ _, fun h => absurd hk.1 h⟩
    · rw [if_neg hk]
      have h17 : k ≠ 17 := fun h => hk ⟨h, ((okT_mpT (t := .mk k n u s ks l) ho).1 h).1⟩
      have hks := ok_keys ho.1 h17
      subst hks
      exact ⟨[], turnL b l, turnL b l, hp, rfl, List.Perm.refl _, List.Perm.refl _, fun _ => rfl⟩
theorem turnL_pm (b : Nat) : ∀ {l : List T}, okL l → PmL l (turnL b l)
  | [], _ => rfl
  | t :: ts, ho => ⟨turnT b t, turnL b ts, rfl, turn_pm b ho.1, turnL_pm b ho.2⟩
end
theorem srtL_self : ∀ {l : List T}, (∀ t ∈ l, Srt t t) → SrtL l l
  | [], _ => rfl
  | t :: ts, h => ⟨t, ts, rfl, h t (by simp), srtL_self fun x hx => h x (by simp [hx])⟩
theorem sq_range {U : List ByteArray} (h : Incr U) : SQ U (List.range U.length) U.length := by
  refine ⟨List.Perm.refl _, ?_⟩
  rw [List.pairwise_iff_getElem]
  intro i j hi hj hij
  rw [List.getElem_range, List.getElem_range]
  exact h i j hij (by simpa using hj)
mutual
theorem Srt.idem : ∀ {t t' : T}, mpT t → Srt t t' → Srt t' t'
  | .mk k n u s ks l, t', hm, h => by
    obtain ⟨l', h1, h2⟩ := h
    have hl := SrtL.idem hm.2 h1
    rcases h2 with ⟨hk, rfl⟩ | ⟨hk, q, hq, rfl⟩
    · exact ⟨l', srtL_self hl, .inl ⟨hk, rfl⟩⟩
    · have hn : l'.length = ks.length := by rw [h1.length, (hm.1 hk).1]
      have hp := pick_perm (q := q) (l := l') (d := (.mk 0 0 0 ⟨#[]⟩ [] [] : T)) (by rw [hn]; exact hq.perm)
      have hlen : (q.map (ky ks)).length = (q.map fun i => l'.getD i (.mk 0 0 0 ⟨#[]⟩ [] [] : T)).length := by simp
      refine ⟨_, srtL_self fun x hx => hl x (hp.mem_iff.1 hx), .inr ⟨hk, List.range (q.map (ky ks)).length, sq_range hq.incr, ?_⟩⟩
      have e1 : (List.range (q.map (ky ks)).length).map (ky (q.map (ky ks))) = q.map (ky ks) := range_getD (q.map (ky ks)) ⟨#[]⟩
      have e2 : ((List.range (q.map (ky ks)).length).map fun i => (q.map fun i => l'.getD i (.mk 0 0 0 ⟨#[]⟩ [] [] : T)).getD i (.mk 0 0 0 ⟨#[]⟩ [] [])) = q.map fun i => l'.getD i (.mk 0 0 0 ⟨#[]⟩ [] [] : T) := by
        rw [hlen]; exact range_getD _ _
      rw [e1, e2]
theorem SrtL.idem : ∀ {l l' : List T}, mpL l → SrtL l l' → ∀ t ∈ l', Srt t t
  | [], _, _, h => by obtain rfl : _ = [] := h; simp
  | t :: ts, _, hm, h => by
    obtain ⟨t', ts', rfl, h1, h2⟩ := h
    intro x hx
    rcases List.mem_cons.1 hx with rfl | hx
    · exact Srt.idem hm.1 h1
    · exact SrtL.idem hm.2 h2 x hx
end
end Go.Proofs.YtnplkamkeadlgaaDoor
