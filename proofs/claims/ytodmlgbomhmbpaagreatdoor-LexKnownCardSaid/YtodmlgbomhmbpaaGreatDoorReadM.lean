/-
  What is proved here: contracts of the reader's methods readItem, readEscape, readFirst, readSecond: each takes the reader from one state to that of the machine; conditions: the library's two tables hold what is laid, and those that each fact states.
-/
import Derived.Test.YtodmlgbomhmbpaaGreatDoorRead
namespace Go.Proofs.YtodmlgbomhmbpaaGreatDoor
open Go.RowKit Ut Go.Lib

theorem full_ascii {l : List UInt8} (h : full l = false) (hn : 0 < l.length) : 128 ≤ (l.getD 0 0).toNat := by
  rcases Nat.lt_or_ge (l.getD 0 0).toNat 128 with h1 | h1
  · exfalso
    unfold full fullN at h
    have : firstT (l.getD 0 0).toNat = 240 := by unfold firstT; rw [if_pos h1]
    rw [decide_eq_true hn, this, decide_eq_true (show 240 % 8 ≤ l.length by omega)] at h
    cases h
  · exact h1
theorem full_size {l : List UInt8} (h : full l = false) (hn : 0 < l.length) : l.length < firstT (l.getD 0 0).toNat % 8 := by
  rcases Nat.lt_or_ge l.length (firstT (l.getD 0 0).toNat % 8) with h1 | h1
  · exact h1
  · exfalso
    unfold full fullN at h
    rw [decide_eq_true hn, decide_eq_true h1] at h
    cases h
/-- The bytes of an incomplete encoding, or none. -/
def Inc (l : List UInt8) : Prop := l = [] ∨ (0 < l.length ∧ full l = false)
theorem Inc.len {l : List UInt8} (h : Inc l) : l.length ≤ 3 := by
  rcases h with rfl | ⟨_, h⟩
  · simp
  · exact full_len h
theorem Inc.a {l : List UInt8} (h : Inc l) (c : UInt8) : ((l ++ [c]).getD 0 0).toNat < 128 → (l ++ [c]).length = 1 := by
  rcases h with rfl | ⟨h0, h⟩
  · intro _; rfl
  · intro hlt
    exfalso
    have := full_ascii h h0
    rw [List.getD_eq_getElem?_getD, List.getElem?_append_left h0, ← List.getD_eq_getElem?_getD] at hlt
    omega
theorem Inc.x {l : List UInt8} (h : Inc l) (c : UInt8) : 1 < firstT ((l ++ [c]).getD 0 0).toNat % 8 → (l ++ [c]).length ≤ firstT ((l ++ [c]).getD 0 0).toNat % 8 := by
  rcases h with rfl | ⟨h0, h⟩
  · intro h1; show 1 ≤ _; exact Nat.le_of_lt h1
  · intro _
    have := full_size h h0
    rw [List.getD_eq_getElem?_getD, List.getElem?_append_left h0, ← List.getD_eq_getElem?_getD, List.length_append]
    exact this

theorem readEncoding_any (w : World) (B R : Nat) (q : Q) (c : UInt8) (h : RS w B R q) (hT : TB B w) (hp : Inc q.part) (hl : q.text.length ≤ 900000) :
    Calls Tryz.prog 74 #[.pointer (some ⟨R, 0, none⟩), .int .u8 (c.toNat : Int)] w (Got w B R (encS q c)) := by
  unfold encS
  cases hf : full (q.part ++ [c]) with
  | false => rw [if_pos rfl]; exact readEncoding_no w B R q c h hT hp.len hf
  | true =>
    rw [if_neg (by decide)]
    cases hv : val (q.part ++ [c]) with
    | false => rw [if_pos rfl]; exact readEncoding_bad w B R q c h hT hp.len hf hv (hp.a c) (hp.x c)
    | true => rw [if_neg (by decide)]; exact readEncoding_yes w B R q c h hT hp.len hf hv (hp.a c) (hp.x c) hl

theorem readItem_any (w : World) (B R : Nat) (q : Q) (c : UInt8) (h : RS w B R q) (hT : TB B w) (hp : q.part = []) (hl : q.text.length ≤ 900000) :
    Calls Tryz.prog 73 #[.pointer (some ⟨R, 0, none⟩), .int .u8 (c.toNat : Int)] w (Got w B R (itemS q c)) := by
  have h0 := h.c0
  have hf := h.fz 0
  have HR := Lib.hid h
  have HT := Lib.hid hT
  have HP := Lib.hid hp
  clear h hT hp
  have hlt := c.toNat_lt
  obtain ⟨x, hx⟩ : ∃ x, c.toNat = x := ⟨_, rfl⟩
  unfold itemS
  rw [hx] at hlt ⊢
  by_cases h34 : x = 34
  · rw [if_pos h34]
    subst h34
    clear hx
    go_enter Tryz.func73, Tryz.ntmps73
    go_wp2
    go_ret
    exact ⟨rfl, fun _ => HR.out.st 8, (Below.refl _ _).setCell HR.out.rb _⟩
  rw [if_neg h34]
  have i34 : ((x : Int) == 34) = false := by simp; omega
  by_cases h92 : x = 92
  · rw [if_pos h92]
    subst h92
    clear hx i34 h34
    go_enter Tryz.func73, Tryz.ntmps73
    go_wp2
    go_ret
    exact ⟨rfl, fun _ => HR.out.st 3, (Below.refl _ _).setCell HR.out.rb _⟩
  rw [if_neg h92]
  have i92 : ((x : Int) == 92) = false := by simp; omega
  by_cases h32 : x < 32
  · rw [if_pos h32]
    clear hx h34 h92
    go_enter Tryz.func73, Tryz.ntmps73
    go_wp2
    go_ret
    exact ⟨rfl, (fun h => by simp at h), Below.refl _ _⟩
  · rw [if_neg h32]
    have hRS2 := HR.out.st 2
    have hB2 : Below B w (w.setCell ⟨R, 0, none⟩ (.int .i64 2)) := (Below.refl _ _).setCell HR.out.rb _
    have C := readEncoding_any (w.setCell ⟨R, 0, none⟩ (.int .i64 2)) B R { q with st := 2 } c hRS2 (HT.out.below hB2) (Or.inl HP.out) hl
    rw [hx] at C
    have HC := Lib.hid C
    have HB := Lib.hid hB2
    clear C hRS2 hB2 hx h34 h92
    go_enter Tryz.func73, Tryz.ntmps73
    go_wp2_with (go_at_call 74; refine HC.out.mono ?_; rintro e w1 ⟨rfl, hg, hb⟩; have HG := Lib.hid hg; have HB1 := Lib.hid hb; clear hg hb)
    go_ret
    exact ⟨rfl, HG.out, HB.out.trans HB1.out⟩
end Go.Proofs.YtodmlgbomhmbpaaGreatDoor
