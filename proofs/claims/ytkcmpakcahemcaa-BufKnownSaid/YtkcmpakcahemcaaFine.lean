/-
  What is proved here: the contract of fine, as a plain function; conditions: the numbers are in the range of their types, and the contents are not longer than 60000 bytes.
-/
import Derived.Test.YtkcmpakcahemcaaWorks
import Derived.StillTailTactics
namespace Go.Proofs.Ytkcmpakcahemcaa
open Go.RowKit Le

/-- The width that fine and BufNums select. -/
def w4 (W : Int) : Int := if W % 4 = 0 then 1 else if W % 4 = 1 then 2 else if W % 4 = 2 then 4 else 8
theorem w4_isW (W : Int) : isW (w4 W) = true := by
  unfold w4
  split
  · rfl
  · split
    · rfl
    · split <;> rfl
theorem four (W : Int) : (W % 4 = 0 ∧ w4 W = 1) ∨ (W % 4 = 1 ∧ w4 W = 2) ∨ (W % 4 = 2 ∧ w4 W = 4) ∨ (W % 4 = 3 ∧ w4 W = 8) := by
  unfold w4
  have h : W % 4 = 0 ∨ W % 4 = 1 ∨ W % 4 = 2 ∨ W % 4 = 3 := by omega
  rcases h with h | h | h | h <;> simp [h]
def fineS (m : Nat) (s : St) (K W N U : Int) (S : ByteArray) : St :=
  if K % 5 = 0 then algS m s (w4 W) else if K % 5 = 1 then numS m s 8 U else if K % 5 = 3 then cutS s (N % ((s.1.length : Int) + 1)) else addS m s (shL S)

section
variable {B p m : Nat} {v : Value} {xs : List UInt8} {er : Int} {w : World}
set_option maxRecDepth 20000 in
theorem fine3_any (h : Bf B w p m v xs er) (hx : xs.length ≤ 60000) (K W N : Int) (U : Nat) (S : ByteArray) (hK : -9223372036854775808 ≤ K) (hK2 : K ≤ 9223372036854775807) (hW : -9223372036854775808 ≤ W) (hW2 : W ≤ 9223372036854775807) (hN : -9223372036854775808 ≤ N) (hN2 : N ≤ 9223372036854775807) (h5 : K % 5 = 3) :
    Calls Try.prog 20 #[.pointer (some ⟨p, 0, none⟩), .agg (doV K W N (U : Int) S)] w (BS B w p m v (cutS (xs, er) (N % ((xs.length : Int) + 1)))) := by
  have HBR := Lib.hid fun W1 => bring_any K 5 W1 hK hK2 (by omega) (by omega)
  have HB4 := Lib.hid fun W1 => bring_any W 4 W1 hW hW2 (by omega) (by omega)
  rw [h5] at HBR
  have hal : ∀ o, Below w.heap.size w (w.alloc o) := fun o => (Below.refl _ _).alloc (Nat.le_refl _) o
  obtain ⟨l, hl⟩ : ∃ l, l = xs.length := ⟨_, rfl⟩
  have HBN : Hid (∀ W1, Calls Try.prog 21 #[.int .i64 N, .int .i64 ((l : Int) + 1)] W1 fun e w' => e = .returned (.int .i64 (N % ((l : Int) + 1))) ∧ w' = W1) := Lib.hid fun W1 => (bring_any N ((l : Int) + 1) W1 hN hN2 (by omega) (by omega)).mono fun _ _ ⟨h1, h2⟩ => ⟨h1, h2.symm⟩
  have HLEN : Hid (∀ o, Calls Try.prog 16 #[.pointer (some ⟨p, 0, none⟩)] (w.alloc o).drew fun e w' => e = .returned (.int .i64 (l : Int)) ∧ w' = (w.alloc o).drew) := Lib.hid fun o => by rw [hl]; exact (len_any (h.below ((hal o).drew))).mono fun _ _ ⟨h1, h2⟩ => ⟨h1, h2.symm⟩
  have HC : Hid (∀ o, Calls Try.prog 22 #[.pointer (some ⟨p, 0, none⟩), .int .i64 (N % ((l : Int) + 1))] (w.alloc o).drew (BS B w p m v (cutS (xs, er) (N % ((l : Int) + 1))))) := Lib.hid fun o => (cut_any (h.below ((hal o).drew)) _).mono fun e w' hh => BP.below ((hal o).drew) hh
  have hs5 : IntKind.i64.wrap ((l : Int) + 1) = (l : Int) + 1 := IntWalk.i64_in _ ⟨by omega, by omega⟩
  rw [← hl]
  obtain ⟨s, hs⟩ : ∃ s, cutS (xs, er) (N % ((l : Int) + 1)) = s := ⟨_, rfl⟩
  rw [hs] at HC ⊢
  obtain ⟨a, ha⟩ : ∃ a, N % ((l : Int) + 1) = a := ⟨_, rfl⟩
  rw [ha] at HC HBN
  have b4 := four W
  obtain ⟨f, hf⟩ : ∃ f, W % 4 = f := ⟨_, rfl⟩
  rw [hf] at HB4 b4
  have hf0 : f = 0 ∨ f = 1 ∨ f = 2 ∨ f = 3 := by omega
  unfold doV
  clear h hl hs ha b4 hf
  rcases hf0 with rfl | rfl | rfl | rfl
  all_goals
    go_enter Try.func20, Try.ntmps20
    go_wp2_with (first
      | (go_at_call 21; (with_reducible refine (HBR.out _).mono ?_); rintro e w1 ⟨rfl, rfl⟩)
      | (go_at_call 21; (with_reducible refine (HB4.out _).mono ?_); rintro e w1 ⟨rfl, rfl⟩))
    have HL := HLEN.out (.cells #[.int .i64 K, .int .i64 W, .int .i64 N, .int .u64 (U : Int), .string S] 30)
    have HQ := HC.out (.cells #[.int .i64 K, .int .i64 W, .int .i64 N, .int .u64 (U : Int), .string S] 30)
    have hc2 : (w.alloc (.cells #[.int .i64 K, .int .i64 W, .int .i64 N, .int .u64 (U : Int), .string S] 30)).cell? ⟨w.heap.size, 2, none⟩ = some (.int .i64 N) := by rw [World.cell?_alloc_new]; rfl
    obtain ⟨X, hX⟩ : ∃ X, w.alloc (.cells #[.int .i64 K, .int .i64 W, .int .i64 N, .int .u64 (U : Int), .string S] 30) = X := ⟨_, rfl⟩
    rw [hX] at HL HQ hc2 ⊢
    clear hX HC HLEN
    go_still_tail 7, (by kernel_rfl)
    still_call HL
    still_step
    try rw [hs5]
    still_call (HBN.out _)
    refine wpStill_nil ?_
    change wpList _ _ _ _ _ X.drew
    go_wp2_with (go_at_call 22; refine HQ.mono ?_; rintro e w3 ⟨v', rfl, hbf, hch⟩; have HB3 := Lib.hid hbf; have HC3 := Lib.hid hch; clear hbf hch)
    go_end0
    exact ⟨_, rfl, HB3.out, HC3.out⟩
set_option maxRecDepth 20000 in
theorem fine0_any (h : Bf B w p m v xs er) (K W N : Int) (U : Nat) (S : ByteArray) (hK : -9223372036854775808 ≤ K) (hK2 : K ≤ 9223372036854775807) (hW : -9223372036854775808 ≤ W) (hW2 : W ≤ 9223372036854775807) (h5 : K % 5 = 0) :
    Calls Try.prog 20 #[.pointer (some ⟨p, 0, none⟩), .agg (doV K W N (U : Int) S)] w (BS B w p m v (algS m (xs, er) (w4 W))) := by
  have HBR := Lib.hid fun W1 => bring_any K 5 W1 hK hK2 (by omega) (by omega)
  have HB4 := Lib.hid fun W1 => bring_any W 4 W1 hW hW2 (by omega) (by omega)
  have hal : ∀ o, Below w.heap.size w (w.alloc o) := fun o => (Below.refl _ _).alloc (Nat.le_refl _) o
  have HC : Hid (∀ o, Calls Try.prog 25 #[.pointer (some ⟨p, 0, none⟩), .int .i64 (w4 W)] (w.alloc o) (BS B w p m v (algS m (xs, er) (w4 W)))) := Lib.hid fun o => (align_any (h.below (hal o)) _).mono fun e w' hh => BP.below (hal o) hh
  rw [h5] at HBR
  obtain ⟨s, hs⟩ : ∃ s, algS m (xs, er) (w4 W) = s := ⟨_, rfl⟩
  rw [hs] at HC ⊢
  have b4 := four W
  obtain ⟨f, hf⟩ : ∃ f, W % 4 = f := ⟨_, rfl⟩
  obtain ⟨x, hx⟩ : ∃ x, w4 W = x := ⟨_, rfl⟩
  rw [hf, hx] at b4
  rw [hf] at HB4
  try rw [hx] at HC
  have b5 : (f = 0 ∧ x = 1) ∨ (f = 1 ∧ x = 2) ∨ (f = 2 ∧ x = 4) ∨ (f = 3 ∧ x = 8) := b4
  unfold doV
  clear h hs b4 hf hx
  rcases b5 with ⟨rfl, rfl⟩ | ⟨rfl, rfl⟩ | ⟨rfl, rfl⟩ | ⟨rfl, rfl⟩
  all_goals
    go_enter Try.func20, Try.ntmps20
    go_wp2_with (first
      | (go_at_call 21; (with_reducible refine (HBR.out _).mono ?_); rintro e w1 ⟨rfl, rfl⟩)
      | (go_at_call 21; (with_reducible refine (HB4.out _).mono ?_); rintro e w1 ⟨rfl, rfl⟩)
      | (go_at_call 25; (with_reducible refine (HC.out _).mono ?_); rintro e w3 ⟨v', rfl, hbf, hch⟩; have HB3 := Lib.hid hbf; have HC3 := Lib.hid hch; clear hbf hch))
    go_end0
    exact ⟨_, rfl, HB3.out, HC3.out⟩
set_option maxRecDepth 20000 in
theorem fine1_any (h : Bf B w p m v xs er) (K W N : Int) (U : Nat) (S : ByteArray) (hK : -9223372036854775808 ≤ K) (hK2 : K ≤ 9223372036854775807) (hW : -9223372036854775808 ≤ W) (hW2 : W ≤ 9223372036854775807) (h5 : K % 5 = 1) :
    Calls Try.prog 20 #[.pointer (some ⟨p, 0, none⟩), .agg (doV K W N (U : Int) S)] w (BS B w p m v (numS m (xs, er) 8 (U : Int))) := by
  have HBR := Lib.hid fun W1 => bring_any K 5 W1 hK hK2 (by omega) (by omega)
  have HB4 := Lib.hid fun W1 => bring_any W 4 W1 hW hW2 (by omega) (by omega)
  have hal : ∀ o, Below w.heap.size w (w.alloc o) := fun o => (Below.refl _ _).alloc (Nat.le_refl _) o
  have HC : Hid (∀ o, Calls Try.prog 26 #[.pointer (some ⟨p, 0, none⟩), .int .i64 8, .int .u64 (U : Int)] (w.alloc o) (BS B w p m v (numS m (xs, er) 8 (U : Int)))) := Lib.hid fun o => (num_any (h.below (hal o)) 8 U).mono fun e w' hh => BP.below (hal o) hh
  rw [h5] at HBR
  obtain ⟨s, hs⟩ : ∃ s, numS m (xs, er) 8 (U : Int) = s := ⟨_, rfl⟩
  rw [hs] at HC ⊢
  have b4 := four W
  obtain ⟨f, hf⟩ : ∃ f, W % 4 = f := ⟨_, rfl⟩
  obtain ⟨x, hx⟩ : ∃ x, w4 W = x := ⟨_, rfl⟩
  rw [hf, hx] at b4
  rw [hf] at HB4
  try rw [hx] at HC
  have b5 : (f = 0 ∧ x = 1) ∨ (f = 1 ∧ x = 2) ∨ (f = 2 ∧ x = 4) ∨ (f = 3 ∧ x = 8) := b4
  unfold doV
  clear h hs b4 hf hx
  rcases b5 with ⟨rfl, rfl⟩ | ⟨rfl, rfl⟩ | ⟨rfl, rfl⟩ | ⟨rfl, rfl⟩
  all_goals
    go_enter Try.func20, Try.ntmps20
    go_wp2_with (first
      | (go_at_call 21; (with_reducible refine (HBR.out _).mono ?_); rintro e w1 ⟨rfl, rfl⟩)
      | (go_at_call 21; (with_reducible refine (HB4.out _).mono ?_); rintro e w1 ⟨rfl, rfl⟩)
      | (go_at_call 26; (with_reducible refine (HC.out _).mono ?_); rintro e w3 ⟨v', rfl, hbf, hch⟩; have HB3 := Lib.hid hbf; have HC3 := Lib.hid hch; clear hbf hch))
    go_end0
    exact ⟨_, rfl, HB3.out, HC3.out⟩
set_option maxRecDepth 20000 in
theorem fine2_any (h : Bf B w p m v xs er) (K W N : Int) (U : Nat) (S : ByteArray) (hK : -9223372036854775808 ≤ K) (hK2 : K ≤ 9223372036854775807) (hW : -9223372036854775808 ≤ W) (hW2 : W ≤ 9223372036854775807) (hS : S.size ≤ 9223372036854775807) (h5 : K % 5 = 2 ∨ K % 5 = 4) :
    Calls Try.prog 20 #[.pointer (some ⟨p, 0, none⟩), .agg (doV K W N (U : Int) S)] w (BS B w p m v (addS m (xs, er) (shL S))) := by
  have HBR := Lib.hid fun W1 => bring_any K 5 W1 hK hK2 (by omega) (by omega)
  have HB4 := Lib.hid fun W1 => bring_any W 4 W1 hW hW2 (by omega) (by omega)
  have hal : ∀ o, Below w.heap.size w (w.alloc o) := fun o => (Below.refl _ _).alloc (Nat.le_refl _) o
  have HSH : Hid (∀ W1, Calls Try.prog 24 #[.string S, .int .i64 40] W1 fun e w' => e = .returned (.string (str (shL S))) ∧ W1 = w') := Lib.hid fun W1 => short_any S 40 W1 hS
  have HC : Hid (∀ o g, g = w.heap.size + 1 → Calls Try.prog 23 #[.pointer (some ⟨p, 0, none⟩), .slice (some ⟨g, 0, none⟩) 1 1] ((w.alloc o).alloc (.cells #[.string (str (shL S))] 9)) (BS B w p m v (addS m (xs, er) (shL S)))) :=
    Lib.hid fun o g hg => by
      have hg' : g = (w.alloc o).heap.size := by rw [hg]; simp
      subst hg'
      exact (text_any (L := [str (shL S)]) (h.below ((hal o).alloc (hal o).size _)) (SX.new rfl (Nat.lt_of_lt_of_le h.box.lt (hal o).size) (fun k hk => Nat.lt_of_lt_of_le (h.row_lt k hk) (hal o).size) rfl) (by simp) (by rw [cat_one]; have := shL_le S; show (shL S).length ≤ _; omega)).mono fun e w' hh => by
        rw [cat_one] at hh
        exact BP.below ((hal o).alloc (hal o).size _) hh
  obtain ⟨s, hs⟩ : ∃ s, addS m (xs, er) (shL S) = s := ⟨_, rfl⟩
  rw [hs] at HC ⊢
  have b4 := four W
  obtain ⟨f, hf⟩ : ∃ f, W % 4 = f := ⟨_, rfl⟩
  obtain ⟨x, hx⟩ : ∃ x, w4 W = x := ⟨_, rfl⟩
  rw [hf, hx] at b4
  rw [hf] at HB4
  try rw [hx] at HC
  have b5 : (f = 0 ∧ x = 1) ∨ (f = 1 ∧ x = 2) ∨ (f = 2 ∧ x = 4) ∨ (f = 3 ∧ x = 8) := b4
  unfold doV
  clear h hs b4 hf hx
  obtain ⟨d, hd⟩ : ∃ d, K % 5 = d := ⟨_, rfl⟩
  rw [hd] at HBR h5
  clear hd
  rcases h5 with rfl | rfl
  all_goals
    rcases b5 with ⟨rfl, rfl⟩ | ⟨rfl, rfl⟩ | ⟨rfl, rfl⟩ | ⟨rfl, rfl⟩
    all_goals
      go_enter Try.func20, Try.ntmps20
      go_wp2_with (first
        | (go_at_call 21; (with_reducible refine (HBR.out _).mono ?_); rintro e w1 ⟨rfl, rfl⟩)
        | (go_at_call 21; (with_reducible refine (HB4.out _).mono ?_); rintro e w1 ⟨rfl, rfl⟩)
        | (go_at_call 24; (with_reducible refine (HSH.out _).mono ?_); rintro e w1 ⟨rfl, rfl⟩)
        | (go_at_call 23; (with_reducible refine (HC.out _ _ (by simp)).mono ?_); rintro e w3 ⟨v', rfl, hbf, hch⟩; have HB3 := Lib.hid hbf; have HC3 := Lib.hid hch; clear hbf hch))
      go_end0
      exact ⟨_, rfl, HB3.out, HC3.out⟩
theorem fine_any (h : Bf B w p m v xs er) (hx : xs.length ≤ 60000) (K W N : Int) (U : Nat) (S : ByteArray) (hK : -9223372036854775808 ≤ K) (hK2 : K ≤ 9223372036854775807) (hW : -9223372036854775808 ≤ W) (hW2 : W ≤ 9223372036854775807) (hN : -9223372036854775808 ≤ N) (hN2 : N ≤ 9223372036854775807) (hS : S.size ≤ 9223372036854775807) :
    Calls Try.prog 20 #[.pointer (some ⟨p, 0, none⟩), .agg (doV K W N (U : Int) S)] w (BS B w p m v (fineS m (xs, er) K W N (U : Int) S)) := by
  unfold fineS
  by_cases h0 : K % 5 = 0
  · rw [if_pos h0]; exact fine0_any h K W N U S hK hK2 hW hW2 h0
  · rw [if_neg h0]
    by_cases h1 : K % 5 = 1
    · rw [if_pos h1]; exact fine1_any h K W N U S hK hK2 hW hW2 h1
    · rw [if_neg h1]
      by_cases h3 : K % 5 = 3
      · rw [if_pos h3]; exact fine3_any h hx K W N U S hK hK2 hW hW2 hN hN2 h3
      · rw [if_neg h3]; exact fine2_any h K W N U S hK hK2 hW hW2 hS (by omega)
end
end Go.Proofs.Ytkcmpakcahemcaa
