/-
  What is proved here: plain facts: the width for a list is the greatest of the widths of its length, its keys and its values, and grows with the list; no program in this text; no condition but those that each fact states.
-/
import Derived.Test.YtaeboneddndfkaaDoorFLstW
namespace Go.Proofs.YtaeboneddndfkaaDoor
open Go.RowKit Tg

/-- The greatest of a number and the widths of a list's values from the place i on. -/
def wantL (at' : Int) : List V3 → Int → Int → Int
  | [], _, acc => acc
  | v :: l, i, acc => wantL at' l (i + 1) (max acc (oneV v at' i))
/-- A value that some width will do for. -/
def okW (at' : Int) (v : V3) : Prop := (inl v.t = true ∧ v.w ≤ 8) ∨ (inl v.t = false ∧ v.n ≤ at')
theorem okW.fit {at' : Int} {v : V3} (h : okW at' v) (i : Int) : fitV v at' i 8 = true := by
  unfold fitV
  rcases h with ⟨h1, h2⟩ | ⟨h1, h2⟩
  · rw [if_pos h1]; simpa using h2
  · rw [if_neg (by rw [h1]; decide)]; exact fitN_8 h2
theorem fitL_8 {at' : Int} : ∀ {l : List V3} {i : Int}, (∀ v ∈ l, okW at' v) → fitL l at' i 8 = true
  | [], _, _ => rfl
  | v :: l, i, h => by
    rw [fitL, (h v (List.mem_cons_self ..)).fit, fitL_8 fun x hx => h x (List.mem_cons_of_mem _ hx)]; rfl
theorem Mono.both {f g : Int → Bool} (hf : Mono f) (hg : Mono g) : Mono (fun w => f w && g w) := hf.and hg
theorem wantL_eq {at' : Int} (h0 : 0 ≤ at' ∧ at' ≤ 1073741824) : ∀ (l : List V3) (i : Int) (f : Int → Bool), Mono f → f 8 = true → 0 ≤ i → i + l.length ≤ 1073741824 → (∀ v ∈ l, okW at' v) →
    pick (fun w => f w && fitL l at' i w) = wantL at' l i (pick f)
  | [], i, f, _, _, _, _, _ => by
    rw [wantL]; congr 1; funext w; simp [fitL]
  | v :: l, i, f, hf, h8, hi, hn, hl => by
    have hv := hl v (List.mem_cons_self ..)
    rw [List.length_cons] at hn
    have e1 : oneV v at' i = pick (fitV v at' i) := by unfold oneV; rw [if_pos ⟨okA_iff.2 h0, okA_iff.2 ⟨hi, by omega⟩⟩]
    have e2 := pick_and hf (fitV_mono v h0.1 hi) h8 (hv.fit i)
    have := wantL_eq h0 l (i + 1) (fun w => f w && fitV v at' i w) (hf.and (fitV_mono v h0.1 hi)) (by show (f 8 && fitV v at' i 8) = true; rw [h8, hv.fit]; rfl) (by omega) (by omega) (fun x hx => hl x (List.mem_cons_of_mem _ hx))
    rw [wantL, e1, ← e2, ← this]
    congr 1; funext w; rw [fitL, Bool.and_assoc]
theorem pick_len {n : Int} (_ : 0 ≤ n) (h1 : n ≤ 1048576) : pick (lenF n) = byt n := by
  unfold pick lenF lim
  rcases byt_cases n with ⟨a, e⟩ | ⟨a, b, e⟩ | ⟨a, b, e⟩ | ⟨a, e⟩
  · rw [e]; simp [show n < 256 by omega]
  · rw [e]; simp [show ¬ n < 256 by omega, show n < 65536 by omega]
  · rw [e]; simp [show ¬ n < 256 by omega, show ¬ n < 65536 by omega, show n < 4294967296 by omega]
  · omega
/-- What comes before the values. -/
def headW (at' ahead : Int) (keys : V3) (n : Int) : Int := if ahead = 0 then 1 else if ahead = 1 then byt n else max (byt n) (oneV keys at' 0)
theorem pick_ext {f g : Int → Bool} (h : ∀ w, f w = g w) : pick f = pick g := by rw [funext h]
theorem allV_want {at' ahead : Int} {keys : V3} {l : List V3} (h0 : 0 ≤ at' ∧ at' ≤ 1073741824) (hh : ahead = 0 ∨ ahead = 1 ∨ ahead = 3) (hk : okW at' keys) (hn : l.length ≤ 100000) (hl : ∀ v ∈ l, okW at' v) :
    allV at' ahead keys l = wantL at' l ahead (headW at' ahead keys l.length) := by
  unfold allV
  rw [if_pos ⟨okA_iff.2 h0, okH_iff.2 hh, by omega⟩]
  have hm1 := lenF_mono (l.length : Int)
  have hm2 := fitV_mono keys h0.1 (Int.le_refl 0)
  have h8 : lenF (l.length : Int) 8 = true := by unfold lenF; simp
  have e1 : oneV keys at' 0 = pick (fitV keys at' 0) := by unfold oneV; rw [if_pos ⟨okA_iff.2 h0, by decide⟩]
  rcases hh with rfl | rfl | rfl
  · have := wantL_eq h0 l 0 (fun _ => true) Mono.true rfl (Int.le_refl 0) (by omega) hl
    rw [show headW at' 0 keys l.length = pick (fun _ => true) by unfold headW pick; simp, ← this]
    exact pick_ext fun w => by unfold allF; simp
  · have := wantL_eq h0 l 1 (lenF (l.length : Int)) hm1 h8 (by omega) (by omega) hl
    rw [show headW at' 1 keys l.length = byt l.length by unfold headW; simp, ← pick_len (by omega) (by omega), ← this]
    exact pick_ext fun w => by unfold allF; simp
  · have := wantL_eq h0 l 3 (fun w => lenF (l.length : Int) w && fitV keys at' 0 w) (hm1.and hm2) (by show (lenF (l.length : Int) 8 && fitV keys at' 0 8) = true; rw [h8, hk.fit]; rfl) (by omega) (by omega) hl
    rw [show headW at' 3 keys l.length = max (byt l.length) (oneV keys at' 0) by unfold headW; simp, ← pick_len (by omega) (by omega), e1, ← pick_and hm1 hm2 h8 (hk.fit 0), ← this]
    exact pick_ext fun w => by unfold allF; simp
theorem valV_ok (a : Int) {at' : Int} (h0 : 1 ≤ at' ∧ at' ≤ 4000000) : okW at' (valV a at') ∧ okV (valV a at') := by
  have hm := mod_b a h0.1
  rcases valV_cases a at' with ⟨_, e⟩ | ⟨_, e⟩ | ⟨_, e⟩ | ⟨_, e⟩ | ⟨_, _, e⟩ <;> rw [e]
  · exact ⟨.inl (by decide), okN 1 (by omega) (by omega)⟩
  · exact ⟨.inl (by decide), okN 2 (by omega) (by omega)⟩
  · exact ⟨.inl (by decide), okN 4 (by omega) (by omega)⟩
  · exact ⟨.inl (by decide), okN 8 (by omega) (by omega)⟩
  · exact ⟨.inr ⟨by show inl 5 = false; decide, by show a % at' ≤ at'; omega⟩, okT _ (by omega) (by omega)⟩
theorem okW_text {n at' : Int} (h : n ≤ at') : okW at' ⟨5, 1, n⟩ := .inr ⟨by show inl 5 = false; decide, h⟩
/-- A longer list needs no lesser width. -/
theorem allV_more {at' ahead : Int} {keys : V3} {l m : List V3} (h0 : 0 ≤ at' ∧ at' ≤ 1073741824) (hh : ahead = 0 ∨ ahead = 1 ∨ ahead = 3) (hk : okW at' keys) (hn : (l ++ m).length ≤ 100000) (hl : ∀ v ∈ l ++ m, okW at' v) :
    allV at' ahead keys l ≤ allV at' ahead keys (l ++ m) := by
  have hn2 : l.length + m.length ≤ 100000 := by simpa using hn
  unfold allV
  rw [if_pos ⟨okA_iff.2 h0, okH_iff.2 hh, by omega⟩, if_pos ⟨okA_iff.2 h0, okH_iff.2 hh, by omega⟩]
  have h8 : allF at' ahead keys (l ++ m) 8 = true := by
    unfold allF
    rw [fitL_8 hl, hk.fit]
    simp [lenF]
  refine pick_le (fun w hw => ?_) h8
  unfold allF at hw ⊢
  rw [fitL_app] at hw
  simp only [Bool.and_eq_true, Bool.or_eq_true] at hw ⊢
  refine ⟨⟨hw.1.1.imp id fun h => ?_, hw.1.2⟩, hw.2.1⟩
  unfold lenF at h ⊢
  simp only [Bool.or_eq_true, decide_eq_true_eq, List.length_append] at h ⊢
  exact h.imp id fun h => by omega
end Go.Proofs.YtaeboneddndfkaaDoor
