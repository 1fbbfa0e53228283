/-
  What is proved here: plain facts of the widths at which values fit the elements of a vector: the least of them, that a value which fits also fits at every greater width, and what that gives for lists; no program in this text; no condition but those that each fact states.
-/
import Derived.Test.YtaeboneddndfkaaDoorMath
import Derived.Test.YtaeboneddndfkaaDoorVal
namespace Go.Proofs.YtaeboneddndfkaaDoor
open Tg

/-- What fits below a width. -/
def lim (w : Int) : Int := if w = 1 then 256 else if w = 2 then 65536 else if w = 4 then 4294967296 else 18446744073709551616
/-- The least multiple of w that is not less than a. -/
def upT (a w : Int) : Int := (a + w - 1) / w * w
def ofs (n at' idx w : Int) : Int := upT at' w + idx * w - n
def fitN (n at' idx w : Int) : Bool := decide (n ≤ at') && (decide (w = 8) || decide (ofs n at' idx w < lim w))
def fitV (v : V3) (at' idx w : Int) : Bool := if inl v.t = true then decide (v.w ≤ w) else fitN v.n at' idx w
/-- The first width that will do, or 0. -/
def pick (f : Int → Bool) : Int := if f 1 = true then 1 else if f 2 = true then 2 else if f 4 = true then 4 else if f 8 = true then 8 else 0
def okA (x : Int) : Bool := decide (0 ≤ x) && decide (x ≤ 1073741824)
def oneV (v : V3) (at' idx : Int) : Int := if okA at' = true ∧ okA idx = true then pick (fitV v at' idx) else 0
def fitL : List V3 → Int → Int → Int → Bool
  | [], _, _, _ => true
  | v :: l, at', i, w => fitV v at' i w && fitL l at' (i + 1) w
def lenF (n w : Int) : Bool := decide (w = 8) || decide (n < lim w)
def allF (at' ahead : Int) (keys : V3) (l : List V3) (w : Int) : Bool := ((decide (ahead ≤ 0) || lenF (l.length : Int) w) && (!decide (ahead = 3) || fitV keys at' 0 w)) && fitL l at' ahead w
def okH (h : Int) : Bool := decide (h = 0) || decide (h = 1) || decide (h = 3)
def allV (at' ahead : Int) (keys : V3) (l : List V3) : Int := if okA at' = true ∧ okH ahead = true ∧ l.length ≤ 1048576 then pick (allF at' ahead keys l) else 0

theorem upT_eq (a : Int) : upT a 1 = a ∧ upT a 2 = (a + 1) / 2 * 2 ∧ upT a 4 = (a + 3) / 4 * 4 ∧ upT a 8 = (a + 7) / 8 * 8 := by
  unfold upT
  refine ⟨by omega, by omega, by omega, by omega⟩
/-- Fits at a width, then at the next. -/
theorem fitN_up {n at' idx : Int} (_ : 0 ≤ at') (hi : 0 ≤ idx) : (fitN n at' idx 1 = true → fitN n at' idx 2 = true) ∧ (fitN n at' idx 2 = true → fitN n at' idx 4 = true) ∧ (fitN n at' idx 4 = true → fitN n at' idx 8 = true) := by
  obtain ⟨e1, e2, e4, e8⟩ := upT_eq at'
  unfold fitN ofs lim
  rw [e1, e2, e4]
  simp only [Bool.and_eq_true, Bool.or_eq_true, decide_eq_true_eq]
  refine ⟨fun ⟨h1, h2⟩ => ⟨h1, ?_⟩, fun ⟨h1, h2⟩ => ⟨h1, ?_⟩, fun ⟨h1, _⟩ => ⟨h1, .inl (by first | rfl | trivial)⟩⟩
  · rcases h2 with h2 | h2
    · omega
    · right
      simp at h2 ⊢
      omega
  · rcases h2 with h2 | h2
    · omega
    · right
      simp at h2 ⊢
      omega
structure Mono (f : Int → Bool) : Prop where
  a : f 1 = true → f 2 = true
  b : f 2 = true → f 4 = true
  c : f 4 = true → f 8 = true
theorem fitV_mono (v : V3) {at' idx : Int} (ha : 0 ≤ at') (hi : 0 ≤ idx) : Mono (fitV v at' idx) := by
  obtain ⟨h1, h2, h3⟩ := fitN_up (n := v.n) ha hi
  unfold fitV
  by_cases ht : inl v.t = true
  · constructor <;> (simp only [ht, if_true, decide_eq_true_eq]; omega)
  · constructor <;> (simp only [ht]; simpa using by assumption)
theorem Mono.and {f g : Int → Bool} (hf : Mono f) (hg : Mono g) : Mono (fun w => f w && g w) := by
  constructor
  · intro h; rw [Bool.and_eq_true] at h ⊢; exact ⟨hf.a h.1, hg.a h.2⟩
  · intro h; rw [Bool.and_eq_true] at h ⊢; exact ⟨hf.b h.1, hg.b h.2⟩
  · intro h; rw [Bool.and_eq_true] at h ⊢; exact ⟨hf.c h.1, hg.c h.2⟩
theorem Mono.true : Mono (fun _ => Bool.true) := ⟨fun _ => rfl, fun _ => rfl, fun _ => rfl⟩
theorem lenF_mono (n : Int) : Mono (lenF n) := by
  unfold lenF lim
  constructor <;> (simp only [Bool.or_eq_true, decide_eq_true_eq]; intro h; simp at h ⊢; try omega)
theorem fitL_mono : ∀ (l : List V3) {at' i : Int}, 0 ≤ at' → 0 ≤ i → Mono (fitL l at' i)
  | [], _, _, _, _ => Mono.true
  | v :: l, at', i, ha, hi => (fitV_mono v ha hi).and (fitL_mono l ha (by omega))
theorem pick_cases (f : Int → Bool) : (f 1 = true ∧ pick f = 1) ∨ (f 1 = false ∧ f 2 = true ∧ pick f = 2) ∨ (f 1 = false ∧ f 2 = false ∧ f 4 = true ∧ pick f = 4) ∨ (f 1 = false ∧ f 2 = false ∧ f 4 = false ∧ f 8 = true ∧ pick f = 8) ∨ (f 1 = false ∧ f 2 = false ∧ f 4 = false ∧ f 8 = false ∧ pick f = 0) := by
  unfold pick
  cases h1 : f 1 <;> cases h2 : f 2 <;> cases h4 : f 4 <;> cases h8 : f 8 <;> simp
/-- The first width of a rule that stays true is told by the rule. -/
theorem pick_and {f g : Int → Bool} (hf : Mono f) (hg : Mono g) (h8 : f 8 = true) (g8 : g 8 = true) : pick (fun w => f w && g w) = max (pick f) (pick g) := by
  have a := hf.a; have b := hf.b; have c := hf.c
  have a' := hg.a; have b' := hg.b; have c' := hg.c
  unfold pick
  cases h1 : f 1 <;> cases h2 : f 2 <;> cases h4 : f 4 <;> cases k1 : g 1 <;> cases k2 : g 2 <;> cases k4 : g 4 <;> simp_all <;> decide
theorem pick_le {f g : Int → Bool} (h : ∀ w, f w = true → g w = true) (h8 : f 8 = true) : pick g ≤ pick f := by
  have h1 := h 1; have h2 := h 2; have h4 := h 4; have h88 := h 8 h8
  unfold pick
  cases f1 : f 1 <;> cases f2 : f 2 <;> cases f4 : f 4 <;> cases g1 : g 1 <;> cases g2 : g 2 <;> cases g4 : g 4 <;> simp_all
theorem pick_pos {f : Int → Bool} (h8 : f 8 = true) : 1 ≤ pick f ∧ pick f ≤ 8 := by
  rcases pick_cases f with ⟨_, h⟩ | ⟨_, _, h⟩ | ⟨_, _, _, h⟩ | ⟨_, _, _, _, h⟩ | ⟨_, _, _, h, _⟩
  · omega
  · omega
  · omega
  · omega
  · rw [h8] at h; cases h
theorem fitL_app : ∀ (l m : List V3) (at' i w : Int), fitL (l ++ m) at' i w = (fitL l at' i w && fitL m at' (i + l.length) w)
  | [], m, at', i, w => by simp [fitL]
  | v :: l, m, at', i, w => by
    rw [List.cons_append, fitL, fitL, fitL_app l m, Bool.and_assoc]
    congr 3
    simp; omega
end Go.Proofs.YtaeboneddndfkaaDoor
