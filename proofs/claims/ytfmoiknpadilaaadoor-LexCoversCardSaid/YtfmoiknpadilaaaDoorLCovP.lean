/-
  What is proved here: plain facts of a text's tokens: they follow one another, with white space alone between them; no program in this text; no condition but those that each fact states.
-/
import Derived.Test.YtfmoiknpadilaaaDoorLOwn
import Derived.Test.YtfmoiknpadilaaaDoorLAllW
namespace Go.Proofs.YtfmoiknpadilaaaDoor
namespace Lx
open Ut Go.Lib

def ws (l : List UInt8) : Prop := ∀ c ∈ l, isin wsL c = true
/-- The tokens from an offset on, as the law tells them. -/
def Cov (l : List UInt8) : Nat → List TK → Prop
  | k, [] => k ≤ l.length ∧ ws (l.drop k)
  | k, t :: ts => k ≤ t.f ∧ t.f < t.t ∧ t.t ≤ l.length ∧ ws ((l.drop k).take (t.f - k)) ∧ 1 ≤ t.k ∧ t.k ≤ 12 ∧
    tok (32 :: 10 :: (l.drop t.f).take (t.t - t.f)) 0 = ⟨t.k, 2, 2 + (t.t - t.f), t.N, t.U, t.x, 0⟩ ∧ Cov l t.t ts
theorem ws_cnt (l : List UInt8) : ws (l.take (cnt wsL l)) := fun c hc => cnt_mem wsL l c hc
theorem toks_cov (l : List UInt8) : ∀ (n k : Nat), k ≤ l.length → l.length < n + k → (toks l n k).2.2 = 0 → Cov l k (toks l n k).1 ∧ (toks l n k).2.1 = 0
  | 0, k, hk, hn, _ => by omega
  | n + 1, k, hk, hn, h0 => by
    have hc := cnt_le wsL (l.drop k)
    rw [List.length_drop] at hc
    rw [toks_succ] at h0 ⊢
    by_cases he : (tok l k).e = 0
    · rw [if_neg (fun h => h he)] at h0 ⊢
      by_cases hz : (tok l k).k = 0
      · rw [if_pos hz]
        refine ⟨⟨hk, ?_⟩, rfl⟩
        have hall : cnt wsL (l.drop k) = (l.drop k).length := by
          rw [List.length_drop]
          rcases Nat.lt_or_ge (k + cnt wsL (l.drop k)) l.length with h1 | h1
          · exfalso
            have ht : tok l k = tokR (k + cnt wsL (l.drop k)) (rd (l.drop (k + cnt wsL (l.drop k)))) := by unfold tok; rw [if_neg (by omega)]
            cases hd : l.drop (k + cnt wsL (l.drop k)) with
            | nil =>
              have := congrArg List.length hd
              rw [List.length_drop, List.length_nil] at this
              omega
            | cons c r =>
              rw [hd] at ht
              have he2 : (rd (c :: r)).e = 0 := by
                rcases Nat.eq_zero_or_pos (rd (c :: r)).e with h2 | h2
                · exact h2
                · rw [ht] at he
                  unfold tokR at he
                  rw [if_neg (by omega)] at he
                  exact he
              have h3 := (rd_own c r he2).2.2.1
              rw [ht] at hz
              unfold tokR at hz
              rw [if_pos he2] at hz
              have hz2 : (rd (c :: r)).k = 0 := hz
              omega
          · omega
        have := ws_cnt (l.drop k)
        rwa [hall, List.take_length] at this
      · rw [if_neg hz] at h0 ⊢
        obtain ⟨c, r, hd, hf, he2, ht⟩ := tok_there l k he hz
        obtain ⟨h1, h2, h3, h4, h5⟩ := rd_own c r he2
        have hlen := congrArg List.length hd
        rw [List.length_drop] at hlen
        have ht2 : (tok l k).t = (tok l k).f + (rd (c :: r)).n := by rw [ht]
        have h00 : (toks l n (tok l k).t).2.2 = 0 := by
          unfold pre at h0
          by_cases hx : (toks l n (tok l k).t).2.2 = 0
          · exact hx
          · rw [if_pos hx] at h0; exact absurd h0 hx
        have ih := toks_cov l n (tok l k).t (by omega) (by omega) h00
        unfold pre
        rw [if_neg (fun h => h h00)]
        refine ⟨⟨by omega, by omega, by omega, ?_, ?_, ?_, ?_, ih.1⟩, rfl⟩
        · rw [hf, show k + cnt wsL (l.drop k) - k = cnt wsL (l.drop k) by omega]
          exact ws_cnt _
        · rw [ht]; exact h3
        · rw [ht]; exact h4
        · have := own_next c r he2
          rw [hd, ht2, show (tok l k).f + (rd (c :: r)).n - (tok l k).f = (rd (c :: r)).n by omega, this, ht]
    · rw [if_pos he] at h0
      exact absurd h0 he
theorem alls_cov (l : List UInt8) (h : (alls l).2.2 = 0) : Cov l 0 (alls l).1 ∧ (alls l).2.1 = 0 := toks_cov l (l.length + 1) 0 (Nat.zero_le _) (by omega) h
theorem alls_bad (l : List UInt8) (h : (alls l).2.2 ≠ 0) : (alls l).1 = [] ∧ (alls l).2.1 ≤ l.length := by
  have : ∀ (n k : Nat), k ≤ l.length → (toks l n k).2.2 ≠ 0 → (toks l n k).1 = [] ∧ (toks l n k).2.1 ≤ l.length := by
    intro n
    induction n with
    | zero => intro k _ h; exact absurd rfl h
    | succ n ih =>
      intro k hk h
      rw [toks_succ] at h ⊢
      rcases tok_facts l hk with ⟨h1, h2, _⟩ | ⟨h1, h2, h3, h4, h5, h6⟩ | ⟨h1, h2, _⟩
      · rw [if_neg (fun h => h h1), if_pos h2] at h; exact absurd rfl h
      · rw [if_neg (fun h => h h1), if_neg (by omega)] at h ⊢
        unfold pre at h ⊢
        by_cases hx : (toks l n (tok l k).t).2.2 = 0
        · rw [if_neg (fun h => h hx)] at h; exact absurd rfl h
        · rw [if_pos hx]
          exact ⟨rfl, (ih _ h6 hx).2⟩
      · rw [if_pos h1]
        exact ⟨rfl, h2⟩
  exact this _ _ (Nat.zero_le _) h
end Lx
end Go.Proofs.YtfmoiknpadilaaaDoor
