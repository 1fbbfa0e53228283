/-
  What is proved here: what a call that a law of layer 13 selects does, as a plain function, and contracts of does, own, fine, has; conditions: the numbers are in the range of their types.
-/
import Derived.Test.YtkcmpakcahemcaaRef3
namespace Go.Proofs.Ytkcmpakcahemcaa
open Go.RowKit Le

def shL (S : ByteArray) : List UInt8 := S.data.toList.take 40
/-- The call that does and own select. -/
def doS (m : Nat) (s : St) (K W N U : Int) (S : ByteArray) : St :=
  if K % 5 = 0 then algS m s W else if K % 5 = 1 then numS m s W U else if K % 5 = 2 then addS m s (shL S) else if K % 5 = 3 then cutS s N else addS m s (shL S ++ (120 :: shL S))
def doV (K W N U : Int) (S : ByteArray) : Array Value := #[.int .i64 K, .int .i64 W, .int .i64 N, .int .u64 U, .string S]
theorem shL_le (S : ByteArray) : (shL S).length ≤ 40 := by unfold shL; rw [List.length_take]; omega
theorem five (K : Int) : K % 5 = 0 ∨ K % 5 = 1 ∨ K % 5 = 2 ∨ K % 5 = 3 ∨ K % 5 = 4 := by omega

section
variable {B p m : Nat} {v : Value} {xs : List UInt8} {er : Int} {w : World}
theorem BP.below {r : Value} {ys : List UInt8} {e2 : Int} {w1 : World} (hb : Below w.heap.size w w1) {e : Ending} {w' : World} (h : BP B w1 p m v ys e2 r e w') : BP B w p m v ys e2 r e w' := BP.of (Ch.below _ _ hb) h
set_option maxRecDepth 20000 in
theorem does_any (h : Bf B w p m v xs er) (K W N : Int) (U : Nat) (S : ByteArray) (hK : -9223372036854775808 ≤ K) (hK2 : K ≤ 9223372036854775807) (hS : S.size ≤ 9223372036854775807) :
    Calls Try.prog 11 #[.pointer (some ⟨p, 0, none⟩), .agg (doV K W N (U : Int) S)] w (BS B w p m v (doS m (xs, er) K W N (U : Int) S)) := by
  have HBR := fun W1 => bring_any K 5 W1 hK hK2 (by omega) (by omega)
  have HSH : ∀ W1, Calls Try.prog 24 #[.string S, .int .i64 40] W1 fun e w' => e = .returned (.string (str (shL S))) ∧ W1 = w' := fun W1 => short_any S 40 W1 hS
  have hal : ∀ o, Below w.heap.size w (w.alloc o) := fun o => (Below.refl _ _).alloc (Nat.le_refl _) o
  have HSX : ∀ o o' cs L, cs = (List.map Value.string L).toArray → ∀ n, n = L.length → o' = Obj.cells cs 9 → SX ((w.alloc o).alloc o') (.slice (some ⟨(w.alloc o).heap.size, 0, none⟩) n n) L p v := fun o o' cs L hcs n hn ho => by
    subst ho
    exact SX.new hcs (Nat.lt_of_lt_of_le h.box.lt (hal o).size) (fun k hk => Nat.lt_of_lt_of_le (h.row_lt k hk) (hal o).size) hn
  have H1 := Lib.hid HBR
  have H2 := Lib.hid HSH
  have H3 := Lib.hid HSX
  have HH := Lib.hid h
  unfold doV
  rcases five K with h5 | h5 | h5 | h5 | h5
  · have e1 : doS m (xs, er) K W N (U : Int) S = algS m (xs, er) W := by unfold doS; rw [if_pos h5]
    have HC : Hid (∀ o, Calls Try.prog 25 #[.pointer (some ⟨p, 0, none⟩), .int .i64 W] (w.alloc o) (BS B w p m v (algS m (xs, er) W))) := Lib.hid fun o => (align_any (h.below (hal o)) W).mono fun e w' hh => BP.below (hal o) hh
    rw [e1]
    rw [h5] at H1
    obtain ⟨s, hs⟩ : ∃ s, algS m (xs, er) W = s := ⟨_, rfl⟩
    rw [hs] at HC ⊢
    clear h HBR HSH HSX hs e1
    go_enter Try.func11, Try.ntmps11
    go_wp2_with (first
      | (go_at_call 24; refine (H2.out _).mono ?_; rintro e w1 ⟨rfl, rfl⟩)
      | (go_at_call 21; refine (H1.out _).mono ?_; rintro e w1 ⟨rfl, rfl⟩)
      | (go_at_call 25; refine (HC.out _).mono ?_; rintro e w3 ⟨v', rfl, hbf, hch⟩; have HB3 := Lib.hid hbf; have HC3 := Lib.hid hch; clear hbf hch))
    go_end0
    exact ⟨_, rfl, HB3.out, HC3.out⟩
  · have e1 : doS m (xs, er) K W N (U : Int) S = numS m (xs, er) W U := by unfold doS; rw [if_neg (by omega), if_pos h5]
    have HC : Hid (∀ o, Calls Try.prog 26 #[.pointer (some ⟨p, 0, none⟩), .int .i64 W, .int .u64 (U : Int)] (w.alloc o) (BS B w p m v (numS m (xs, er) W U))) := Lib.hid fun o => (num_any (h.below (hal o)) W U).mono fun e w' hh => BP.below (hal o) hh
    rw [e1]
    rw [h5] at H1
    obtain ⟨s, hs⟩ : ∃ s, numS m (xs, er) W (U : Int) = s := ⟨_, rfl⟩
    rw [hs] at HC ⊢
    clear h HBR HSH HSX hs e1
    go_enter Try.func11, Try.ntmps11
    go_wp2_with (first
      | (go_at_call 24; refine (H2.out _).mono ?_; rintro e w1 ⟨rfl, rfl⟩)
      | (go_at_call 21; refine (H1.out _).mono ?_; rintro e w1 ⟨rfl, rfl⟩)
      | (go_at_call 26; refine (HC.out _).mono ?_; rintro e w3 ⟨v', rfl, hbf, hch⟩; have HB3 := Lib.hid hbf; have HC3 := Lib.hid hch; clear hbf hch))
    go_end0
    exact ⟨_, rfl, HB3.out, HC3.out⟩
  · have e1 : doS m (xs, er) K W N (U : Int) S = addS m (xs, er) (shL S) := by unfold doS; rw [if_neg (by omega), if_neg (by omega), if_pos h5]
    have HC : Hid (∀ o g, g = w.heap.size + 1 → Calls Try.prog 23 #[.pointer (some ⟨p, 0, none⟩), .slice (some ⟨g, 0, none⟩) 1 1] ((w.alloc o).alloc (.cells #[.string (str (shL S))] 9)) (BS B w p m v (addS m (xs, er) (shL S)))) :=
      Lib.hid fun o g hg => by
        have hg' : g = (w.alloc o).heap.size := by rw [hg]; simp
        subst hg'
        exact (text_any (L := [str (shL S)]) (h.below ((hal o).alloc (hal o).size _)) (HSX o _ _ _ rfl 1 rfl rfl) (by simp) (by rw [cat_one]; have := shL_le S; show (shL S).length ≤ _; omega)).mono fun e w' hh => by
          rw [cat_one] at hh
          exact BP.below ((hal o).alloc (hal o).size _) hh
    rw [e1]
    rw [h5] at H1
    obtain ⟨s, hs⟩ : ∃ s, addS m (xs, er) (shL S) = s := ⟨_, rfl⟩
    rw [hs] at HC ⊢
    clear h HBR HSH HSX hs e1
    go_enter Try.func11, Try.ntmps11
    go_wp2_with (first
      | (go_at_call 24; refine (H2.out _).mono ?_; rintro e w1 ⟨rfl, rfl⟩)
      | (go_at_call 21; refine (H1.out _).mono ?_; rintro e w1 ⟨rfl, rfl⟩)
      | (go_at_call 23; (with_reducible refine (HC.out _ _ (by simp)).mono ?_); rintro e w3 ⟨v', rfl, hbf, hch⟩; have HB3 := Lib.hid hbf; have HC3 := Lib.hid hch; clear hbf hch))
    go_end0
    exact ⟨_, rfl, HB3.out, HC3.out⟩
  · have e1 : doS m (xs, er) K W N (U : Int) S = cutS (xs, er) N := by unfold doS; rw [if_neg (by omega), if_neg (by omega), if_neg (by omega), if_pos h5]
    have HC : Hid (∀ o, Calls Try.prog 22 #[.pointer (some ⟨p, 0, none⟩), .int .i64 N] (w.alloc o) (BS B w p m v (cutS (xs, er) N))) := Lib.hid fun o => (cut_any (h.below (hal o)) N).mono fun e w' hh => BP.below (hal o) hh
    rw [e1]
    rw [h5] at H1
    obtain ⟨s, hs⟩ : ∃ s, cutS (xs, er) N = s := ⟨_, rfl⟩
    rw [hs] at HC ⊢
    clear h HBR HSH HSX hs e1
    go_enter Try.func11, Try.ntmps11
    go_wp2_with (first
      | (go_at_call 24; refine (H2.out _).mono ?_; rintro e w1 ⟨rfl, rfl⟩)
      | (go_at_call 21; refine (H1.out _).mono ?_; rintro e w1 ⟨rfl, rfl⟩)
      | (go_at_call 22; refine (HC.out _).mono ?_; rintro e w3 ⟨v', rfl, hbf, hch⟩; have HB3 := Lib.hid hbf; have HC3 := Lib.hid hch; clear hbf hch))
    go_end0
    exact ⟨_, rfl, HB3.out, HC3.out⟩
  · have e1 : doS m (xs, er) K W N (U : Int) S = addS m (xs, er) (shL S ++ (120 :: shL S)) := by unfold doS; rw [if_neg (by omega), if_neg (by omega), if_neg (by omega), if_neg (by omega)]
    have e3 : cat [str (shL S), ⟨#[120]⟩, str (shL S)] = shL S ++ (120 :: shL S) := by rw [cat_three]; rfl
    have HC : Hid (∀ o g, g = w.heap.size + 1 → Calls Try.prog 23 #[.pointer (some ⟨p, 0, none⟩), .slice (some ⟨g, 0, none⟩) 3 3] ((w.alloc o).alloc (.cells #[.string (str (shL S)), .string ⟨#[120]⟩, .string (str (shL S))] 9)) (BS B w p m v (addS m (xs, er) (shL S ++ (120 :: shL S))))) :=
      Lib.hid fun o g hg => by
        have hg' : g = (w.alloc o).heap.size := by rw [hg]; simp
        subst hg'
        exact (text_any (L := [str (shL S), ⟨#[120]⟩, str (shL S)]) (h.below ((hal o).alloc (hal o).size _)) (HSX o _ _ _ rfl 3 rfl rfl) (by simp) (by rw [e3]; have := shL_le S; simp; omega)).mono fun e w' hh => by
          rw [e3] at hh
          exact BP.below ((hal o).alloc (hal o).size _) hh
    rw [e1]
    rw [h5] at H1
    obtain ⟨s, hs⟩ : ∃ s, addS m (xs, er) (shL S ++ (120 :: shL S)) = s := ⟨_, rfl⟩
    rw [hs] at HC ⊢
    clear h HBR HSH HSX hs e1 e3
    go_enter Try.func11, Try.ntmps11
    go_wp2_with (first
      | (go_at_call 24; refine (H2.out _).mono ?_; rintro e w1 ⟨rfl, rfl⟩)
      | (go_at_call 21; refine (H1.out _).mono ?_; rintro e w1 ⟨rfl, rfl⟩)
      | (go_at_call 23; (with_reducible refine (HC.out _ _ (by simp)).mono ?_); rintro e w3 ⟨v', rfl, hbf, hch⟩; have HB3 := Lib.hid hbf; have HC3 := Lib.hid hch; clear hbf hch))
    go_end0
    exact ⟨_, rfl, HB3.out, HC3.out⟩
/-- The same over the reference. -/
theorem RP.below {s : St} {w1 : World} (hb : Below w.heap.size w w1) {e : Ending} {w' : World} (h : RP B w1 p m v s e w') : RP B w p m v s e w' := RP.of (Ch.below _ _ hb) h
set_option maxRecDepth 20000 in
theorem own_any (h : Rf B w p m v xs er) (hxl : xs.length ≤ 60000) (K W N : Int) (U : Nat) (S : ByteArray) (hK : -9223372036854775808 ≤ K) (hK2 : K ≤ 9223372036854775807) (hS : S.size ≤ 9223372036854775807) (hU : (U : Int) ≤ 18446744073709551615) :
    Calls Try.prog 12 #[.pointer (some ⟨p, 0, none⟩), .agg (doV K W N (U : Int) S)] w (RP B w p m v (doS m (xs, er) K W N (U : Int) S)) := by
  have HBR := fun W1 => bring_any K 5 W1 hK hK2 (by omega) (by omega)
  have HSH : ∀ W1, Calls Try.prog 24 #[.string S, .int .i64 40] W1 fun e w' => e = .returned (.string (str (shL S))) ∧ W1 = w' := fun W1 => short_any S 40 W1 hS
  have hal : ∀ o, Below w.heap.size w (w.alloc o) := fun o => (Below.refl _ _).alloc (Nat.le_refl _) o
  have HSX : ∀ o o' cs L, cs = (List.map Value.string L).toArray → ∀ n, n = L.length → o' = Obj.cells cs 9 → SX ((w.alloc o).alloc o') (.slice (some ⟨(w.alloc o).heap.size, 0, none⟩) n n) L p v := fun o o' cs L hcs n hn ho => by
    subst ho
    exact SX.new hcs (Nat.lt_of_lt_of_le h.box.lt (hal o).size) (fun k hk => Nat.lt_of_lt_of_le (h.row_lt k hk) (hal o).size) hn
  have H1 := Lib.hid HBR
  have H2 := Lib.hid HSH
  have H3 := Lib.hid HSX
  have HH := Lib.hid h
  unfold doV
  rcases five K with h5 | h5 | h5 | h5 | h5
  · have e1 : doS m (xs, er) K W N (U : Int) S = algS m (xs, er) W := by unfold doS; rw [if_pos h5]
    have HC : Hid (∀ o, Calls Try.prog 29 #[.pointer (some ⟨p, 0, none⟩), .int .i64 W] (w.alloc o) (RP B w p m v (algS m (xs, er) W))) := Lib.hid fun o => (rAlign_any (h.below (hal o)) W).mono fun e w' hh => RP.below (hal o) hh
    rw [e1]
    rw [h5] at H1
    obtain ⟨s, hs⟩ : ∃ s, algS m (xs, er) W = s := ⟨_, rfl⟩
    rw [hs] at HC ⊢
    clear h HBR HSH HSX hs e1
    go_enter Try.func12, Try.ntmps12
    go_wp2_with (first
      | (go_at_call 24; refine (H2.out _).mono ?_; rintro e w1 ⟨rfl, rfl⟩)
      | (go_at_call 21; refine (H1.out _).mono ?_; rintro e w1 ⟨rfl, rfl⟩)
      | (go_at_call 29; refine (HC.out _).mono ?_; rintro e w3 ⟨v', rfl, hbf, hch⟩; have HB3 := Lib.hid hbf; have HC3 := Lib.hid hch; clear hbf hch))
    go_end0
    exact ⟨_, rfl, HB3.out, HC3.out⟩
  · have e1 : doS m (xs, er) K W N (U : Int) S = numS m (xs, er) W U := by unfold doS; rw [if_neg (by omega), if_pos h5]
    have HC : Hid (∀ o, Calls Try.prog 30 #[.pointer (some ⟨p, 0, none⟩), .int .i64 W, .int .u64 (U : Int)] (w.alloc o) (RP B w p m v (numS m (xs, er) W U))) := Lib.hid fun o => (rNum_any (h.below (hal o)) W U hU).mono fun e w' hh => RP.below (hal o) hh
    rw [e1]
    rw [h5] at H1
    obtain ⟨s, hs⟩ : ∃ s, numS m (xs, er) W (U : Int) = s := ⟨_, rfl⟩
    rw [hs] at HC ⊢
    clear h HBR HSH HSX hs e1
    go_enter Try.func12, Try.ntmps12
    go_wp2_with (first
      | (go_at_call 24; refine (H2.out _).mono ?_; rintro e w1 ⟨rfl, rfl⟩)
      | (go_at_call 21; refine (H1.out _).mono ?_; rintro e w1 ⟨rfl, rfl⟩)
      | (go_at_call 30; refine (HC.out _).mono ?_; rintro e w3 ⟨v', rfl, hbf, hch⟩; have HB3 := Lib.hid hbf; have HC3 := Lib.hid hch; clear hbf hch))
    go_end0
    exact ⟨_, rfl, HB3.out, HC3.out⟩
  · have e1 : doS m (xs, er) K W N (U : Int) S = addS m (xs, er) (shL S) := by unfold doS; rw [if_neg (by omega), if_neg (by omega), if_pos h5]
    have HC : Hid (∀ o g, g = w.heap.size + 1 → Calls Try.prog 31 #[.pointer (some ⟨p, 0, none⟩), .slice (some ⟨g, 0, none⟩) 1 1] ((w.alloc o).alloc (.cells #[.string (str (shL S))] 9)) (RP B w p m v (addS m (xs, er) (shL S)))) :=
      Lib.hid fun o g hg => by
        have hg' : g = (w.alloc o).heap.size := by rw [hg]; simp
        subst hg'
        exact (rText_any (L := [str (shL S)]) (h.below ((hal o).alloc (hal o).size _)) (HSX o _ _ _ rfl 1 rfl rfl).sr (by simp) (by rw [cat_one]; have := shL_le S; show (shL S).length ≤ _; omega)).mono fun e w' hh => by
          rw [cat_one] at hh
          exact RP.below ((hal o).alloc (hal o).size _) hh
    rw [e1]
    rw [h5] at H1
    obtain ⟨s, hs⟩ : ∃ s, addS m (xs, er) (shL S) = s := ⟨_, rfl⟩
    rw [hs] at HC ⊢
    clear h HBR HSH HSX hs e1
    go_enter Try.func12, Try.ntmps12
    go_wp2_with (first
      | (go_at_call 24; refine (H2.out _).mono ?_; rintro e w1 ⟨rfl, rfl⟩)
      | (go_at_call 21; refine (H1.out _).mono ?_; rintro e w1 ⟨rfl, rfl⟩)
      | (go_at_call 31; (with_reducible refine (HC.out _ _ (by simp)).mono ?_); rintro e w3 ⟨v', rfl, hbf, hch⟩; have HB3 := Lib.hid hbf; have HC3 := Lib.hid hch; clear hbf hch))
    go_end0
    exact ⟨_, rfl, HB3.out, HC3.out⟩
  · have e1 : doS m (xs, er) K W N (U : Int) S = cutS (xs, er) N := by unfold doS; rw [if_neg (by omega), if_neg (by omega), if_neg (by omega), if_pos h5]
    have HC : Hid (∀ o, Calls Try.prog 32 #[.pointer (some ⟨p, 0, none⟩), .int .i64 N] (w.alloc o) (RP B w p m v (cutS (xs, er) N))) := Lib.hid fun o => (rCut_any (h.below (hal o)) hxl N).mono fun e w' hh => RP.below (hal o) hh
    rw [e1]
    rw [h5] at H1
    obtain ⟨s, hs⟩ : ∃ s, cutS (xs, er) N = s := ⟨_, rfl⟩
    rw [hs] at HC ⊢
    clear h HBR HSH HSX hs e1
    go_enter Try.func12, Try.ntmps12
    go_wp2_with (first
      | (go_at_call 24; refine (H2.out _).mono ?_; rintro e w1 ⟨rfl, rfl⟩)
      | (go_at_call 21; refine (H1.out _).mono ?_; rintro e w1 ⟨rfl, rfl⟩)
      | (go_at_call 32; refine (HC.out _).mono ?_; rintro e w3 ⟨v', rfl, hbf, hch⟩; have HB3 := Lib.hid hbf; have HC3 := Lib.hid hch; clear hbf hch))
    go_end0
    exact ⟨_, rfl, HB3.out, HC3.out⟩
  · have e1 : doS m (xs, er) K W N (U : Int) S = addS m (xs, er) (shL S ++ (120 :: shL S)) := by unfold doS; rw [if_neg (by omega), if_neg (by omega), if_neg (by omega), if_neg (by omega)]
    have e3 : cat [str (shL S), ⟨#[120]⟩, str (shL S)] = shL S ++ (120 :: shL S) := by rw [cat_three]; rfl
    have HC : Hid (∀ o g, g = w.heap.size + 1 → Calls Try.prog 31 #[.pointer (some ⟨p, 0, none⟩), .slice (some ⟨g, 0, none⟩) 3 3] ((w.alloc o).alloc (.cells #[.string (str (shL S)), .string ⟨#[120]⟩, .string (str (shL S))] 9)) (RP B w p m v (addS m (xs, er) (shL S ++ (120 :: shL S))))) :=
      Lib.hid fun o g hg => by
        have hg' : g = (w.alloc o).heap.size := by rw [hg]; simp
        subst hg'
        exact (rText_any (L := [str (shL S), ⟨#[120]⟩, str (shL S)]) (h.below ((hal o).alloc (hal o).size _)) (HSX o _ _ _ rfl 3 rfl rfl).sr (by simp) (by rw [e3]; have := shL_le S; simp; omega)).mono fun e w' hh => by
          rw [e3] at hh
          exact RP.below ((hal o).alloc (hal o).size _) hh
    rw [e1]
    rw [h5] at H1
    obtain ⟨s, hs⟩ : ∃ s, addS m (xs, er) (shL S ++ (120 :: shL S)) = s := ⟨_, rfl⟩
    rw [hs] at HC ⊢
    clear h HBR HSH HSX hs e1 e3
    go_enter Try.func12, Try.ntmps12
    go_wp2_with (first
      | (go_at_call 24; refine (H2.out _).mono ?_; rintro e w1 ⟨rfl, rfl⟩)
      | (go_at_call 21; refine (H1.out _).mono ?_; rintro e w1 ⟨rfl, rfl⟩)
      | (go_at_call 31; (with_reducible refine (HC.out _ _ (by simp)).mono ?_); rintro e w3 ⟨v', rfl, hbf, hch⟩; have HB3 := Lib.hid hbf; have HC3 := Lib.hid hch; clear hbf hch))
    go_end0
    exact ⟨_, rfl, HB3.out, HC3.out⟩
end
end Go.Proofs.Ytkcmpakcahemcaa
