/-
  What is proved here: FitNearer returns true; conditions: the contracts of fit.One and fit.All, the table of package tag, and arguments that the form reads.
-/
import Derived.Test.YtaeboneddndfkaaDoorFLstW
namespace Go.Proofs.YtaeboneddndfkaaDoor
open Go.RowKit Tg

theorem near_le {n m a i k : Int} (ha : 0 ≤ a ∧ a ≤ 1073741824) (hi : 0 ≤ i ∧ i ≤ 1073741824) (hk : 0 ≤ k ∧ k ≤ 1073741824) (h : n ≤ m) (hm : m ≤ a) (hik : i ≤ k) :
    oneV ⟨5, 1, m⟩ a i ≤ oneV ⟨5, 1, n⟩ a k := by
  rw [oneV_text ha hi, oneV_text ha hk]
  have h8 := fitN_8 (idx := k) (Int.le_trans h hm)
  have e1 : ∀ w, w = 1 ∨ w = 2 ∨ w = 4 ∨ w = 8 → fitN n a k w = true → fitN m a i w = true := by
    intro w hw hf
    unfold fitN ofs at hf ⊢
    rw [Bool.and_eq_true, Bool.or_eq_true, decide_eq_true_eq, decide_eq_true_eq, decide_eq_true_eq] at hf ⊢
    refine ⟨hm, hf.2.imp id fun h2 => ?_⟩
    rcases hw with rfl | rfl | rfl | rfl <;> omega
  have h1 := e1 1 (by omega); have h2 := e1 2 (by omega); have h4 := e1 4 (by omega); have h88 := e1 8 (by omega) h8
  unfold pick
  cases f1 : fitN n a k 1 <;> cases f2 : fitN n a k 2 <;> cases f4 : fitN n a k 4 <;> cases g1 : fitN m a i 1 <;> cases g2 : fitN m a i 2 <;> cases g4 : fitN m a i 4 <;> simp_all
theorem near_pos {n a k : Int} (ha : 0 ≤ a ∧ a ≤ 1073741824) (hk : 0 ≤ k ∧ k ≤ 1073741824) (h : n ≤ a) : 1 ≤ oneV ⟨5, 1, n⟩ a k ∧ oneV ⟨5, 1, n⟩ a k ≤ 8 := by
  rw [oneV_text ha hk]; exact pick_pos (fitN_8 h)
/-- Between two calls: the two boxes. -/
structure FN (w0 : World) (g : Nat) (a b c d : Int) (W : World) : Prop where
  wl : WL w0 W
  b1 : Bx W g 28 #[.int .i64 a, .int .i64 b]
  b2 : Bx W (g + 1) 28 #[.int .i64 c, .int .i64 d]
section
variable {w0 W W' : World} {g : Nat} {a b c d : Int}
theorem FN.keep (H : FN w0 g a b c d W) (hb : Below W.heap.size W W') : FN w0 g a b c d W' := ⟨H.wl.keep hb, H.b1.below hb H.b1.lt, H.b2.below hb H.b2.lt⟩
theorem FN.all (H : Hid (FN w0 g a b c d W)) : W.cell? ⟨g, 0, none⟩ = some (.int .i64 a) ∧ W.cell? ⟨g, 1, none⟩ = some (.int .i64 b) ∧ W.cell? ⟨g + 1, 0, none⟩ = some (.int .i64 c) ∧ W.cell? ⟨g + 1, 1, none⟩ = some (.int .i64 d) ∧ Hid (FN w0 g a b c d W) :=
  ⟨H.out.b1.cell 0, H.out.b1.cell 1, H.out.b2.cell 0, H.out.b2.cell 1, H⟩
theorem FN.drew (H : Hid (FN w0 g a b c d W)) : Hid (FN w0 g a b c d W.drew) := Lib.hid (H.out.keep (Below.refl _ _).drew)
theorem FN.born (H : WL w0 W) : FN w0 W.heap.size a b c d ((W.alloc (.cells #[.int .i64 a, .int .i64 b] 28)).alloc (.cells #[.int .i64 c, .int .i64 d] 28)) := by
  have h1 := al0 W (.cells #[.int .i64 a, .int .i64 b] 28)
  have h2 := al0 (W.alloc (.cells #[.int .i64 a, .int .i64 b] 28)) (.cells #[.int .i64 c, .int .i64 d] 28)
  have hz : (W.alloc (.cells #[.int .i64 a, .int .i64 b] 28)).heap.size = W.heap.size + 1 := by simp
  refine ⟨(H.keep h1).keep h2, (Bx.new W _ _).below h2 (by omega), ?_⟩
  have := Bx.new (W.alloc (.cells #[.int .i64 a, .int .i64 b] 28)) 28 #[.int .i64 c, .int .i64 d]
  rw [hz] at this
  exact this
end
set_option maxRecDepth 20000 in
set_option maxHeartbeats 1000000 in
theorem fitNearer_walk (H1 : OneOK) (H2 : AllOK) (n0 n1 at0 i0 i1 : Int) (w : World) (bn0 : -9223372036854775808 ≤ n0 ∧ n0 ≤ 9223372036854775807) (bn1 : -9223372036854775808 ≤ n1 ∧ n1 ≤ 9223372036854775807) (ba : -9223372036854775808 ≤ at0 ∧ at0 ≤ 9223372036854775807) (bi0 : -9223372036854775808 ≤ i0 ∧ i0 ≤ 9223372036854775807) (bi1 : -9223372036854775808 ≤ i1 ∧ i1 ≤ 9223372036854775807) (hT : Tab w) :
    Calls Tryd.prog 9 #[.agg #[.int .i64 n0, .int .i64 n1], .int .i64 at0, .agg #[.int .i64 i0, .int .i64 i1]] w fun e w' => e = .returned (.bool true) ∧ Below w.heap.size w w' := by
  have HS := Lib.hid (WL.start hT)
  have HBA : Hid (∀ W, Calls Tryd.prog 17 #[.int .i64 at0, .int .i64 1048576] W fun e w' => e = .returned (.int .i64 (at0 % 1048576)) ∧ W = w') := Lib.hid fun W => bring_any at0 _ W ba.1 ba.2 (by omega) (by omega)
  have HBI : Hid (∀ W, Calls Tryd.prog 17 #[.int .i64 i0, .int .i64 5001] W fun e w' => e = .returned (.int .i64 (i0 % 5001)) ∧ W = w') := Lib.hid fun W => bring_any i0 _ W bi0.1 bi0.2 (by omega) (by omega)
  have HBK : Hid (∀ W, Calls Tryd.prog 17 #[.int .i64 i1, .int .i64 5001] W fun e w' => e = .returned (.int .i64 (i1 % 5001)) ∧ W = w') := Lib.hid fun W => bring_any i1 _ W bi1.1 bi1.2 (by omega) (by omega)
  obtain ⟨a, ha⟩ : ∃ a, at0 % 1048576 = a := ⟨_, rfl⟩
  obtain ⟨i, hi⟩ : ∃ i, i0 % 5001 = i := ⟨_, rfl⟩
  obtain ⟨k, hk⟩ : ∃ k, i1 % 5001 = k := ⟨_, rfl⟩
  have ea : 0 ≤ a ∧ a ≤ 1048576 := by have := mod_b at0 (n := 1048576) (by omega); omega
  have ei : 0 ≤ i ∧ i ≤ 5001 := by have := mod_b i0 (n := 5001) (by omega); omega
  have ek : 0 ≤ k ∧ k ≤ 5001 := by have := mod_b i1 (n := 5001) (by omega); omega
  have HBX : Hid (∀ W, Calls Tryd.prog 17 #[.int .i64 n0, .int .i64 (1 + a)] W fun e w' => e = .returned (.int .i64 (n0 % (1 + a))) ∧ W = w') := Lib.hid fun W => bring_any n0 _ W bn0.1 bn0.2 (by omega) (by omega)
  have HBY : Hid (∀ W, Calls Tryd.prog 17 #[.int .i64 n1, .int .i64 (1 + a)] W fun e w' => e = .returned (.int .i64 (n1 % (1 + a))) ∧ W = w') := Lib.hid fun W => bring_any n1 _ W bn1.1 bn1.2 (by omega) (by omega)
  obtain ⟨x, hx⟩ : ∃ x, n0 % (1 + a) = x := ⟨_, rfl⟩
  obtain ⟨y, hy⟩ : ∃ y, n1 % (1 + a) = y := ⟨_, rfl⟩
  have ex : 0 ≤ x ∧ x ≤ a := by have := mod_b n0 (n := 1 + a) (by omega); omega
  have ey : 0 ≤ y ∧ y ≤ a := by have := mod_b n1 (n := 1 + a) (by omega); omega
  rw [hx] at HBX; rw [hy] at HBY; rw [ha] at HBA; rw [hi] at HBI; rw [hk] at HBK
  clear hx hy ha hi hk bn0 bn1 ba bi0 bi1 hT
  have HW : Hid (∀ W, Hid (WL w W) → Calls Tryd.prog 13 #[] W fun e w' => e = .returned (.bool true) ∧ WL w w') := Lib.hid fun W h => works_L H1 H2 h.out
  have HO : Hid (∀ W n j r, Hid (WL w W) → (0 ≤ n ∧ n ≤ a) → (0 ≤ j ∧ j ≤ 5001) → oneV ⟨5, 1, n⟩ (1 + a) j = r → Calls Tryd.prog 11 #[.agg #[.int .i64 5, .int .i64 1, .int .u64 n], .int .i64 (1 + a), .int .i64 j] W fun e w' => e = .returned (.int .i64 r) ∧ WL w w') := Lib.hid fun W n j r h hn hj hr => onet_L H1 h.out n (1 + a) j (by omega) (by omega) (by omega) hr
  obtain ⟨rf, hrf⟩ : ∃ rf, oneV ⟨5, 1, min x y⟩ (1 + a) (max i k) = rf := ⟨_, rfl⟩
  obtain ⟨rn, hrn⟩ : ∃ rn, oneV ⟨5, 1, max x y⟩ (1 + a) (max i k) = rn := ⟨_, rfl⟩
  obtain ⟨rk, hrk⟩ : ∃ rk, oneV ⟨5, 1, min x y⟩ (1 + a) (min i k) = rk := ⟨_, rfl⟩
  have hle1 : rn ≤ rf := by rw [← hrn, ← hrf]; exact near_le (by omega) (by omega) (by omega) (by omega) (by omega) (by omega)
  have hle2 : rk ≤ rf := by rw [← hrk, ← hrf]; exact near_le (by omega) (by omega) (by omega) (by omega) (by omega) (by omega)
  have hpos : 0 < rf := by rw [← hrf]; have := near_pos (n := min x y) (a := 1 + a) (k := max i k) (by omega) (by omega) (by omega); omega
  have HO1 : Hid (∀ W n j, Hid (WL w W) → n = min x y → j = max i k → Calls Tryd.prog 11 #[.agg #[.int .i64 5, .int .i64 1, .int .u64 n], .int .i64 (1 + a), .int .i64 j] W fun e w' => e = .returned (.int .i64 rf) ∧ WL w w') := Lib.hid fun W n j h hn hj => HO.out W n j _ h (by omega) (by omega) (by rw [hn, hj]; exact hrf)
  have HO2 : Hid (∀ W n j, Hid (WL w W) → n = max x y → j = max i k → Calls Tryd.prog 11 #[.agg #[.int .i64 5, .int .i64 1, .int .u64 n], .int .i64 (1 + a), .int .i64 j] W fun e w' => e = .returned (.int .i64 rn) ∧ WL w w') := Lib.hid fun W n j h hn hj => HO.out W n j _ h (by omega) (by omega) (by rw [hn, hj]; exact hrn)
  have HO3 : Hid (∀ W n j, Hid (WL w W) → n = min x y → j = min i k → Calls Tryd.prog 11 #[.agg #[.int .i64 5, .int .i64 1, .int .u64 n], .int .i64 (1 + a), .int .i64 j] W fun e w' => e = .returned (.int .i64 rk) ∧ WL w w') := Lib.hid fun W n j h hn hj => HO.out W n j _ h (by omega) (by omega) (by rw [hn, hj]; exact hrk)
  clear hrf hrn hrk HO
  have HS0 := Lib.hid (FN.born (a := n0) (b := n1) (c := i0) (d := i1) HS.out)
  clear HS
  go_enter Tryd.func9, Tryd.ntmps9
  go_upto_region 2 with (go_at_call 17; (with_reducible refine (HBA.out _).mono ?_); rintro e w1 ⟨rfl, rfl⟩)
  obtain ⟨w1, hw1⟩ : ∃ w1, (w.alloc (.cells #[.int .i64 n0, .int .i64 n1] 28)).alloc (.cells #[.int .i64 i0, .int .i64 i1] 28) = w1 := ⟨_, rfl⟩
  obtain ⟨g, hg⟩ : ∃ g, w.heap.size = g := ⟨_, rfl⟩
  have hs := HS0.out
  simp only [hw1, hg] at hs ⊢
  have HS1 := Lib.hid hs
  clear hs HS0 hw1 hg
  have HSd := FN.drew HS1
  go_region_held3 (fun W => W.cell? ⟨g, 0, none⟩ = some (.int .i64 n0) ∧ W.cell? ⟨g, 1, none⟩ = some (.int .i64 n1) ∧ W.cell? ⟨g + 1, 0, none⟩ = some (.int .i64 i0) ∧ W.cell? ⟨g + 1, 1, none⟩ = some (.int .i64 i1) ∧ Hid (FN w g n0 n1 i0 i1 W))
    (first | (with_reducible exact FN.all HSd) | (with_reducible exact FN.all (by assumption)))
    (first
      | (go_at_call 17; (with_reducible refine (HBX.out _).mono ?_); rintro e w1 ⟨rfl, rfl⟩)
      | (go_at_call 17; (with_reducible refine (HBY.out _).mono ?_); rintro e w1 ⟨rfl, rfl⟩))
  go_wp2_with fail
  have HSe := FN.drew HSd
  go_region_held3 (fun W => W.cell? ⟨g, 0, none⟩ = some (.int .i64 n0) ∧ W.cell? ⟨g, 1, none⟩ = some (.int .i64 n1) ∧ W.cell? ⟨g + 1, 0, none⟩ = some (.int .i64 i0) ∧ W.cell? ⟨g + 1, 1, none⟩ = some (.int .i64 i1) ∧ Hid (FN w g n0 n1 i0 i1 W))
    (first | (with_reducible exact FN.all HSe) | (with_reducible exact FN.all (by assumption)))
    (first
      | (go_at_call 17; (with_reducible refine (HBI.out _).mono ?_); rintro e w1 ⟨rfl, rfl⟩)
      | (go_at_call 17; (with_reducible refine (HBK.out _).mono ?_); rintro e w1 ⟨rfl, rfl⟩))
  obtain ⟨w2, hw2⟩ : ∃ w2, w1.drew.drew = w2 := ⟨_, rfl⟩
  have HS := Lib.hid HSe.out.wl
  simp only [hw2] at HS ⊢
  clear hw2 HSe HSd HS1
  have hxy : (x < y ∧ ¬ y < x) ∨ (¬ x < y ∧ y < x) ∨ (¬ x < y ∧ ¬ y < x) := by omega
  have hik : (i < k ∧ ¬ k < i) ∨ (¬ i < k ∧ k < i) ∨ (¬ i < k ∧ ¬ k < i) := by omega
  have HW : Hid (∀ W, Hid (WL w W) → Calls Tryd.prog 13 #[] W fun e w' => e = .returned (.bool true) ∧ WL w w') := Lib.hid fun W h => works_L H1 H2 h.out
  rcases hxy with ⟨p1, p2⟩ | ⟨p1, p2⟩ | ⟨p1, p2⟩
  all_goals rcases hik with ⟨q1, q2⟩ | ⟨q1, q2⟩ | ⟨q1, q2⟩
  all_goals
    go_wp2_with (first
      | (go_at_call 18; (with_reducible refine (textt_L HS.out _).mono ?_); rintro e w3 ⟨rfl, hs⟩; have HS := Lib.hid hs; clear hs)
      | (go_at_call 11; (with_reducible refine (HO1.out _ _ _ HS (by omega) (by omega)).mono ?_); rintro e w3 ⟨rfl, hs⟩; have HS := Lib.hid hs; clear hs)
      | (go_at_call 11; (with_reducible refine (HO2.out _ _ _ HS (by omega) (by omega)).mono ?_); rintro e w3 ⟨rfl, hs⟩; have HS := Lib.hid hs; clear hs)
      | (go_at_call 11; (with_reducible refine (HO3.out _ _ _ HS (by omega) (by omega)).mono ?_); rintro e w3 ⟨rfl, hs⟩; have HS := Lib.hid hs; clear hs)
      | (go_at_call 13; (with_reducible refine (HW.out _ HS).mono ?_); rintro e w3 ⟨rfl, hs⟩; have HS := Lib.hid hs; clear hs))
    go_ret
    exact ⟨rfl, HS.out.2⟩
end Go.Proofs.YtaeboneddndfkaaDoor
