/-
  What is proved here: contracts of the functions of the reference of layer 15; conditions: as each says.
-/
import Derived.Test.YtoenigbfcbillaaList
namespace Go.Proofs.Ytoenigbfcbillaa
open Go.RowKit

/-- None of the first j entries has the string. -/
def NF (ys : List E) (k : ByteArray) (j : Nat) : Prop := ∀ i e, i < j → ys[i]? = some e → e.k ≠ k
theorem NF.step {ys : List E} {k : ByteArray} {j : Nat} {e : E} (h : NF ys k j) (he : ys[j]? = some e) (hk : e.k ≠ k) : NF ys k (j + 1) := by
  intro i e' hi he'
  by_cases hij : i = j
  · subst hij; rw [he] at he'; cases he'; exact hk
  · exact h i e' (by omega) he'
theorem gtN_first : ∀ (ys : List E) (k : ByteArray) (j : Nat) (e : E), NF ys k j → ys[j]? = some e → e.k = k → gtN ys k = e.n
  | [], _, _, _, _, h, _ => by simp at h
  | a :: ys, k, 0, e, _, h, hk => by
    obtain rfl : a = e := by simpa using h
    unfold gtN
    rw [List.find?_cons, decide_eq_true hk]
    rfl
  | a :: ys, k, j + 1, e, hn, h, hk => by
    have ha := hn 0 a (by omega) rfl
    have ih := gtN_first ys k j e (fun i e' hi he' => hn (i + 1) e' (by omega) (by simpa using he')) (by simpa using h) hk
    unfold gtN at ih ⊢
    rw [List.find?_cons, decide_eq_false ha]
    exact ih
theorem NF.none {ys : List E} {k : ByteArray} (h : NF ys k ys.length) : has ys k = false := by
  cases hc : has ys k with
  | false => rfl
  | true =>
    obtain ⟨e, he, hk⟩ := has_iff.1 hc
    obtain ⟨j, hj, rfl⟩ := List.getElem_of_mem he
    exact absurd hk (h j _ hj (List.getElem?_eq_getElem hj))
theorem row_someF {w : World} {B : Nat} {v : Value} {xs : List E} (h : OV false w B v xs) (hp : 0 < xs.length) : ∃ g c, v = .slice (some ⟨g, 0, none⟩) xs.length c ∧ xs.length ≤ c ∧ c ≤ maxLen ∧ B ≤ g ∧ g < w.heap.size ∧ ∀ j s, xs[j]? = some s → At2 w g (j * 2) s := by
  obtain ⟨A, c, rfl, h1, h2, h3, h4⟩ := h.at
  cases A with
  | none => have := (h3 rfl).1; rw [this] at hp; simp at hp
  | some a => obtain ⟨g, rfl, q⟩ := h4 a rfl
              exact ⟨g, c, rfl, h1, h2, q⟩
section
variable {B p : Nat} {v : Value} {xs : List E} {w : World}
theorem rGet_any (h : Pk B w p false v xs) (k : ByteArray) : Calls Try.prog 13 #[.pointer (some ⟨p, 0, none⟩), .string k] w fun e w' => e = .returned (.tuple #[.int .i64 (gtN xs k), .bool (has xs k)]) ∧ w = w' := by
  have hf := h.fit
  obtain ⟨A, c, rfl, -⟩ := h.own.at
  have c1 : w.cell? ⟨p, 0, none⟩ = some (.slice A xs.length c) := h.cell
  have HOW := Lib.hid h.own
  obtain ⟨n, hn⟩ : ∃ n, n = xs.length := ⟨_, rfl⟩
  have HN := Lib.hid hn
  rw [← hn] at c1 hf
  clear h hn
  go_enter Try.func13, Try.ntmps13
  go_wp2_with fail
  go_loopw [6] (fun i wr => ∃ j : Nat, j ≤ n ∧ i = .int .i64 (j : Int) ∧ Hid (NF xs k j) ∧ wr = w) (fun i _ => n - (intOf i).toNat)
  case atStart => exact ⟨0, Nat.zero_le _, rfl, Lib.hid (fun i e hi => absurd hi (by omega)), rfl⟩
  case round =>
    obtain ⟨j, hj, rfl, HF, rfl⟩ := hrel
    by_cases hlt : j < n
    · obtain ⟨e, he⟩ : ∃ e, xs[j]? = some e := ⟨_, List.getElem?_eq_getElem (by have := HN.out; omega)⟩
      obtain ⟨g, c', hv, hnc, hcm, hgB, hgl, hcell⟩ := row_someF HOW.out (by have := HN.out; omega)
      obtain ⟨rfl, -, rfl⟩ : A = some ⟨g, 0, none⟩ ∧ True ∧ c = c' := by injection hv with a1 a2 a3; exact ⟨a1, trivial, a3⟩
      obtain ⟨x0, x1⟩ := hcell j e he
      have i1 : (j : Int) < (n : Int) := by omega
      by_cases hk : e.k = k
      · have hT := strEq_true hk
        have H1 := Lib.hid (gtN_first xs k j e HF.out he hk)
        have H2 := Lib.hid (has_at he hk)
        clear he hcell hk hv hnc hcm hgB hgl
        go_wp2_with fail
        go_ret2
        exact ⟨by rw [H1.out, H2.out]; rfl, rfl⟩
      · have hF := strEq_false hk
        have H1 := Lib.hid (HF.out.step he hk)
        clear he hcell hk hv hnc hcm hgB hgl
        go_wp2_with fail
        go_roundw
        case rel => exact ⟨j + 1, by omega, by go_num, H1, by first | rfl | trivial⟩
        case measure => simp [intOf]; omega
    · have H2 : Hid (has xs k = false) := Lib.hid (NF.none (by rw [← HN.out, show n = j by omega]; exact HF.out))
      have H1 := Lib.hid (gtN_none H2.out)
      go_wp2_with fail
      go_ret2
      exact ⟨by rw [H1.out, H2.out]; rfl, rfl⟩
theorem rput_end {B p n0 c0 : Nat} {A0 : Option Addr} {xs : List E} {x : E} {w w1 : World} {o : Obj} {v1 : Value} (hb : Below w.heap.size w (w.alloc o)) (h : Pk B (w.alloc o) p false (.slice A0 xs.length c0) xs) (hn : n0 = xs.length) (hl : xs.length ≤ 99) (hs : x.k.size ≤ 1000)
    (ho : OV false w1 B v1 (xs ++ [x])) (hg : (w.alloc o).grownBy w1 (Value.slice A0 n0 c0).ownBlock) (hr : v1.ownBlock = (Value.slice A0 n0 c0).ownBlock ∨ v1.ownBlock = some (w.alloc o).heap.size) :
    ∃ A1 c1, v1 = .slice A1 (n0 + 1) c1 ∧ (w1.cell? ⟨p, 0, none⟩ = some (.slice A0 n0 c0) ∧ w1.frozen? ⟨p, 0, none⟩ = false) ∧ (Pk B (w1.setCell ⟨p, 0, none⟩ v1) p false v1 (xs ++ [x]) ∧ Ch w (w1.setCell ⟨p, 0, none⟩ v1) p (.slice A0 n0 c0) v1) := by
  subst hn
  have hb1 : Bx w1 p (ty false) (bc false (.slice A0 xs.length c0)) := h.box.same (hg.block p h.box.lt (fun e => h.box.ne_row h.own (ty_ne false) e.symm))
  obtain ⟨r1, r2, r3⟩ := h.add ho hg hr
  obtain ⟨A1, c1, hv, -⟩ := ho.at
  refine ⟨A1, c1, by rw [hv]; simp, ⟨hb1.cell 0, hb1.frozen 0⟩, ⟨r1, r2, h.low, ?_, by simp; omega, fun e he => ?_, by simp⟩, (Ch.below p _ hb).trans r3⟩
  · exact Nat.le_trans h.base r3.size
  · rcases List.mem_append.1 he with he | he
    · exact h.sz e he
    · obtain rfl := List.mem_singleton.1 he; exact hs
theorem rPut_any (h : Pk B w p false v xs) (k : ByteArray) (n : Int) (hl : xs.length ≤ 99) (hs : k.size ≤ 1000) :
    Calls Try.prog 15 #[.pointer (some ⟨p, 0, none⟩), .string k, .int .i64 n] w (SP B w p false v (put false xs k n) (.int .i64 (putE xs k n))) := by
  have HS := Lib.hid h
  rcases inN_cases n with ⟨h0, h2⟩ | ⟨h0, h1, h2⟩ | ⟨h0, h1, h2⟩
  · rw [(put_no h2).1, (put_no (b := true) h2).2]
    clear h
    go_enter Try.func15, Try.ntmps15
    go_wp2_with fail
    go_ret
    exact ⟨_, rfl, HS.out, Ch.refl _ _ _⟩
  · rw [(put_no h2).1, (put_no (b := true) h2).2]
    clear h
    have hd : decide (9007199254740991 < n) = true := by simp; exact h1
    have HH := Lib.hid h1
    clear h1
    go_enter Try.func15, Try.ntmps15
    go_wp2_with fail
    go_ret
    exact ⟨_, rfl, HS.out, Ch.refl _ _ _⟩
  · have hd : decide (9007199254740991 < n) = false := by simp; exact h1
    clear h1
    have HG := Lib.hid (rGet_any h k)
    obtain ⟨gn, hgn⟩ : ∃ gn, gtN xs k = gn := ⟨_, rfl⟩
    rw [hgn] at HG
    cases hk : has xs k with
    | true =>
      rw [(put_had h2 hk).1, (put_had (b := true) h2 hk).2]
      rw [hk] at HG
      clear h hk hgn
      go_enter Try.func15, Try.ntmps15
      go_wp2_with (go_at_call 13; (with_reducible refine HG.out.mono ?_); rintro e w1 ⟨rfl, rfl⟩)
      go_ret
      exact ⟨_, rfl, HS.out, Ch.refl _ _ _⟩
    | false =>
      rw [(put_new h2 hk).1, (put_new (b := true) h2 hk).2, if_neg (by simp)]
      rw [hk] at HG
      obtain ⟨A0, c0, rfl, -⟩ := h.own.at
      have q0 : w.cell? ⟨p, 0, none⟩ = some (.slice A0 xs.length c0) := h.cell
      have f0 : w.frozen? ⟨p, 0, none⟩ = false := h.box.frozen 0
      have hb0 := al0 w (.cells #[.string k, .int .i64 n] 61)
      have HP0 := Lib.hid (h.below hb0)
      have HB0 := Lib.hid hb0
      have HLIT : Hid (At2 (w.alloc (.cells #[.string k, .int .i64 n] 61)) w.heap.size 0 ⟨k, n⟩) := Lib.hid (by
        have hx := Bx.new w 61 #[.string k, .int .i64 n]
        exact ⟨hx.cell 0, hx.cell 1⟩)
      have HL := Lib.hid hl
      have HKS := Lib.hid hs
      clear h hk hgn hb0 hl hs
      obtain ⟨n0, hn0⟩ : ∃ n0, n0 = xs.length := ⟨_, rfl⟩
      have HN := Lib.hid hn0
      rw [← hn0] at q0
      clear hn0
      go_enter Try.func15, Try.ntmps15
      go_wp2_with (first
        | (go_at_call 13; (with_reducible refine HG.out.mono ?_); rintro e w1 ⟨rfl, rfl⟩)
        | (at_builtin; refine wpList_app1 (B := B) (xs := xs) (x := ⟨k, n⟩) (v := .slice A0 n0 c0) false rfl (.tmp 26) (.tmp 30) rfl rfl rfl (by rw [HN.out]; exact HP0.out.own) HLIT.out (by have := HL.out; omega) HP0.out.base ?_; intro v1 w1 ho1 hg1 hl1; obtain ⟨A1, c1, rfl, ⟨q1, f1⟩, he⟩ := rput_end HB0.out HP0.out HN.out HL.out HKS.out ho1 hg1 hl1; have HE := Lib.hid he; clear ho1 hg1 hl1 he))
      go_ret
      obtain ⟨r1, r2⟩ := HE.out
      rw [← HN.out]
      exact ⟨_, rfl, r1, r2⟩
/-- One string is appended to a row of the call's own. -/
theorem app_str {ops : Array Oper} {rest : List Oper} {o : Oper} {a : Act} {Q : Exit → Act → World → Prop} {w : World} {B : Nat} {v : Value} {ks : List ByteArray} {x : ByteArray} (hgd : o.guard = none) (s y : Operand)
    (ho : o.op = .call { callee := .builtin .append, args := #[s, y], argTypes := #[34, 34] }) (hs : a.eval s = v) (hx : a.eval y = .slice (some ⟨w.heap.size, 0, none⟩) 1 1)
    (hown : w.ownsRow B 9 1 v ks.length (ks.map Value.string)) (hl : ks.length ≤ 1000) (hB : B ≤ w.heap.size)
    (h : ∀ v' w', w'.ownsRow B 9 1 v' (ks ++ [x]).length ((ks ++ [x]).map Value.string) → (∀ w0, Below B w0 w → Below B w0 w') → wpList Try.prog ops Q rest (a.put o.dst v') w') :
    wpList Try.prog ops Q (o :: rest) a (w.alloc (.cells #[.string x] 9)) := by
  obtain ⟨i0, hi, hz0, hz1, hz2⟩ := info_parts infoSN
  refine wpList_append_own _ hgd s y 34 ho B 9 i0 (.string ⟨#[]⟩) 1 16 Try.underlying34 hi hz0 hz1 hz2 rfl (by decide) v _ _ hs (hown.alloc _) ⟨w.heap.size, 0, none⟩ 1 1 [.string x] hx rfl (cell_one_new _ _ _) ?q2 ?q3 ?q4 ?q5 ?q6
  case q2 => intro u hu; simp only [List.mem_cons, List.not_mem_nil, or_false] at hu; subst hu; rfl
  case q3 => unfold maxLen; omega
  case q4 => omega
  case q5 => rw [World.size_alloc]; omega
  case q6 =>
    intro v' w3 hown3 hgrow3 _
    refine h v' w3 (by rw [List.length_append, List.map_append]; exact hown3) fun w0 hb0 => ?_
    exact (hb0.alloc hB _).grown hgrow3 (by rw [World.size_alloc]; omega) (fun k hk => (hown.lt k hk).1)
theorem OS.rd {w : World} {B : Nat} {u : Value} {ks : List ByteArray} (h : OS w B u ks) : RdS w u ks := by
  obtain ⟨ho, hs, hl⟩ := h
  rcases ho.2 with ⟨rfl, h0⟩ | ⟨g, cap, cur, rfl, hb, hg, hnc, hcm, hcs, ht⟩
  · obtain rfl : ks = [] := List.eq_nil_of_length_eq_zero h0
    exact ⟨none, 0, 0, rfl, rfl, Nat.le_refl _, Nat.zero_le _, by simp, fun h => absurd h (by omega)⟩
  · refine ⟨_, _, cap, rfl, rfl, hnc, hcm, fun s hs' => Nat.le_trans (hs s hs') (by unfold maxLen; omega), fun _ => ⟨g, 0, rfl, ?_, fun j s hj => ?_⟩⟩
    · exact (ho.lt g rfl).2
    · have hjl := (List.getElem?_eq_some_iff.1 hj).1
      rw [Nat.zero_add]
      exact (ho.cellAt j (by omega)).trans (by simp [hj])
end
end Go.Proofs.Ytoenigbfcbillaa
