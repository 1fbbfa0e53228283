/-
  What is proved here: contracts of the binary search of package pool and of what is built on it; conditions: as each says.
-/
import Derived.Test.YtoenigbfcbillaaPk
namespace Go.Proofs.Ytoenigbfcbillaa
open Go.RowKit

section
variable {B p : Nat} {v : Value} {xs : List E} {w : World}
/-- Between two rounds of the search. -/
structure BS (xs : List E) (k : ByteArray) (i j : Nat) : Prop where
  le : i ≤ j
  jn : j ≤ xs.length
  lo : ∀ m e, m < i → xs[m]? = some e → lt e.k k = true
  hi : ∀ m e, j ≤ m → xs[m]? = some e → lt e.k k = false
theorem BS.up {xs : List E} {k : ByteArray} {i j h : Nat} {e : E} (hs : Srt xs) (b : BS xs k i j) (hh : h < j) (he : xs[h]? = some e) (hl : lt e.k k = true) : BS xs k (h + 1) j := by
  refine ⟨hh, b.jn, fun m e' hm he' => ?_, b.hi⟩
  by_cases hmh : m = h
  · subst hmh; rw [he] at he'; cases he'; exact hl
  · obtain ⟨h1, rfl⟩ := List.getElem?_eq_some_iff.1 he
    obtain ⟨h2, rfl⟩ := List.getElem?_eq_some_iff.1 he'
    exact lt_trans (List.pairwise_iff_getElem.1 hs m h h2 h1 (by omega)) hl
theorem BS.down {xs : List E} {k : ByteArray} {i j h : Nat} {e : E} (hs : Srt xs) (b : BS xs k i j) (hi : i ≤ h) (hh : h < j) (he : xs[h]? = some e) (hl : lt e.k k = false) : BS xs k i h := by
  refine ⟨hi, Nat.le_trans (Nat.le_of_lt hh) b.jn, b.lo, fun m e' hm he' => ?_⟩
  by_cases hmh : m = h
  · subst hmh; rw [he] at he'; cases he'; exact hl
  · obtain ⟨h1, rfl⟩ := List.getElem?_eq_some_iff.1 he
    obtain ⟨h2, rfl⟩ := List.getElem?_eq_some_iff.1 he'
    have h3 := List.pairwise_iff_getElem.1 hs h m h1 h2 (by omega)
    cases hc : lt xs[m].k k with
    | false => rfl
    | true => rw [lt_trans h3 hc] at hl; cases hl
theorem BS.stop {xs : List E} {k : ByteArray} {i : Nat} (b : BS xs k i i) : i = pos xs k := pos_eq xs k i b.jn b.lo b.hi
set_option maxRecDepth 20000 in
theorem search_any (h : Pk B w p true v xs) (w0 : World) (a b : Nat) (k : ByteArray) (hw : Below w.heap.size w w0) (ha : w0.cell? ⟨a, 0, none⟩ = some (.pointer (some ⟨p, 1, none⟩))) (hb : w0.cell? ⟨b, 0, none⟩ = some (.string k)) :
    Calls Try.prog 34 #[.int .i64 (xs.length : Int), .func (.func 35) #[] #[.pointer (some ⟨a, 0, none⟩), .pointer (some ⟨b, 0, none⟩)]] w0 fun e' w' => e' = .returned (.int .i64 (pos xs k : Int)) ∧ ∃ q, w' = w0.drewN q := by
  have hf := h.fit
  have HS := Lib.hid (h.srt rfl)
  have HL : Hid (∀ (j : Nat) (e : E), xs[j]? = some e → ∀ q, Calls Try.prog 35 #[.int .i64 (j : Int), .pointer (some ⟨a, 0, none⟩), .pointer (some ⟨b, 0, none⟩)] (w0.drewN q) fun e' w' => e' = .returned (.bool (!lt e.k k)) ∧ ∃ m, w' = w0.drewN m) :=
    Lib.hid fun j e he q => (less1_any h (w0.drewN q) j a b k e he ⟨hw.os, hw.tape, hw.output, hw.size, hw.block⟩ ha hb).mono fun _ _ ⟨h1, m, h2⟩ => ⟨h1, q + m, by rw [h2, World.drewN_drewN]⟩
  have HB0 : Hid (BS xs k 0 xs.length) := Lib.hid ⟨Nat.zero_le _, Nat.le_refl _, fun m e hm => absurd hm (by omega), fun m e hm he => by rw [List.getElem?_eq_none hm] at he; cases he⟩
  obtain ⟨n, hn⟩ : ∃ n, n = xs.length := ⟨_, rfl⟩
  rw [← hn] at hf HB0 ⊢
  have HN := Lib.hid hn
  clear h hw ha hb hn
  go_enter Try.func34, Try.ntmps34
  go_wp2
  go_loopw [5, 6] (fun x y wr => ∃ i j : Nat, i ≤ j ∧ j ≤ n ∧ x = .int .i64 (i : Int) ∧ y = .int .i64 (j : Int) ∧ Hid (BS xs k i j) ∧ ∃ q, wr = w0.drewN q) (fun x y _ => (intOf y).toNat - (intOf x).toNat)
  case atStart => exact ⟨0, n, Nat.zero_le _, Nat.le_refl _, rfl, rfl, HB0, 0, rfl⟩
  case round =>
    obtain ⟨i, j, hij, hjn, rfl, rfl, HB, q, rfl⟩ := hrel
    by_cases hlt : i < j
    · obtain ⟨m, hm⟩ : ∃ m, m = (i + j) / 2 := ⟨_, rfl⟩
      have hmi : ((i : Int) + (j : Int)) / 2 = (m : Int) := by omega
      have h1 : i ≤ m := by omega
      have h2 : m < j := by omega
      obtain ⟨e, he⟩ : ∃ e, xs[m]? = some e := ⟨_, List.getElem?_eq_getElem (by have := HN.out; omega)⟩
      have hC := HL.out m e he q
      obtain ⟨β, hβ⟩ : ∃ β, lt e.k k = β := ⟨_, rfl⟩
      rw [hβ] at hC
      have HC := Lib.hid hC
      clear hC
      cases β with
      | true =>
        have HB2 := Lib.hid (HB.out.up HS.out h2 he hβ)
        clear he hβ hm
        go_wp2_with (go_at_call 35; (with_reducible refine HC.out.mono ?_); rintro e' w2 ⟨rfl, q2, rfl⟩)
        go_roundw
        case rel => exact ⟨m + 1, j, by omega, hjn, by go_num, rfl, HB2, _, rfl⟩
        case measure => simp [intOf]; omega
      | false =>
        have HB2 := Lib.hid (HB.out.down HS.out h1 h2 he hβ)
        clear he hβ hm
        go_wp2_with (go_at_call 35; (with_reducible refine HC.out.mono ?_); rintro e' w2 ⟨rfl, q2, rfl⟩)
        go_roundw
        case rel => exact ⟨i, m, by omega, by omega, rfl, rfl, HB2, _, rfl⟩
        case measure => simp [intOf]; omega
    · have HP : Hid (i = pos xs k) := Lib.hid (by
        have e : j = i := by omega
        have b := HB.out
        rw [e] at b
        exact b.stop)
      go_wp2_with fail
      go_ret
      exact ⟨by rw [← HP.out]; rfl, _, rfl⟩
theorem place_any (h : Pk B w p true v xs) (k : ByteArray) : Calls Try.prog 27 #[.pointer (some ⟨p, 1, none⟩), .string k] w fun e w' => e = .returned (.int .i64 (pos xs k : Int)) ∧ Below w.heap.size w w' := by
  obtain ⟨A, c, rfl, -⟩ := h.own.at
  obtain ⟨w2, hw2⟩ : ∃ w2, w2 = (w.alloc (.cells #[.pointer (some ⟨p, 1, none⟩)] 65)).alloc (.cells #[.string k] 9) := ⟨_, rfl⟩
  have hb2 : Below w.heap.size w w2 := by rw [hw2]; exact (al0 w _).trans ((al0 _ _).mono (by simp))
  have hc := (h.below hb2).cell
  simp only [fi] at hc
  have c1 : w2.cell? ⟨p, 1, none⟩ = some (.slice A xs.length c) := hc
  have a1 : w2.cell? ⟨w.heap.size, 0, none⟩ = some (.pointer (some ⟨p, 1, none⟩)) := by
    have := (Bx.new w 65 #[.pointer (some ⟨p, 1, none⟩)]).below (al0 _ (.cells #[.string k] 9)) (by simp)
    rw [← hw2] at this
    exact this.cell 0
  have b1 : w2.cell? ⟨w.heap.size + 1, 0, none⟩ = some (.string k) := by
    have := Bx.new (w.alloc (.cells #[.pointer (some ⟨p, 1, none⟩)] 65)) 9 #[.string k]
    rw [← hw2] at this
    simpa using this.cell 0
  have HS := Lib.hid (search_any h w2 w.heap.size (w.heap.size + 1) k hb2 a1 b1)
  have HB := Lib.hid hb2
  clear h hb2 hc
  obtain ⟨n, hn⟩ : ∃ n, n = xs.length := ⟨_, rfl⟩
  rw [← hn] at c1 HS
  clear hn
  go_enter Try.func27, Try.ntmps27
  go_upto_region 1 with fail
  simp only [← hw2]
  clear hw2
  go_wp2_with (go_at_call 34; (with_reducible refine HS.out.mono ?_); rintro e' w3 ⟨rfl, q, rfl⟩)
  go_ret
  exact ⟨rfl, below_drewN HB.out q⟩
theorem row_some (h : OV true w B v xs) (hp : 0 < xs.length) : ∃ g c, v = .slice (some ⟨g, 0, none⟩) xs.length c ∧ xs.length ≤ c ∧ c ≤ maxLen ∧ B ≤ g ∧ g < w.heap.size ∧ ∀ j s, xs[j]? = some s → At2 w g (j * 2) s := by
  obtain ⟨A, c, rfl, h1, h2, h3, h4⟩ := h.at
  cases A with
  | none => have := (h3 rfl).1; rw [this] at hp; simp at hp
  | some a => obtain ⟨g, rfl, q⟩ := h4 a rfl
              exact ⟨g, c, rfl, h1, h2, q⟩
theorem holds_any (h : Pk B w p true v xs) (k : ByteArray) : Calls Try.prog 28 #[.pointer (some ⟨p, 1, none⟩), .int .i64 (pos xs k : Int), .string k] w fun e w' => e = .returned (.bool (has xs k)) ∧ w = w' := by
  have hf := h.fit
  have c1 : w.cell? ⟨p, 1, none⟩ = some v := h.cell
  obtain ⟨i, hi⟩ : ∃ i, pos xs k = i := ⟨_, rfl⟩
  by_cases hlt : i < xs.length
  · obtain ⟨g, c, rfl, hnc, hcm, _, _, hcell⟩ := row_some h.own (by omega)
    obtain ⟨e, he⟩ : ∃ e, xs[i]? = some e := ⟨_, List.getElem?_eq_getElem hlt⟩
    obtain ⟨e0, _⟩ := hcell i e he
    by_cases hk : e.k = k
    · have hT := strEq_true hk
      rw [has_at he hk, hi]
      obtain ⟨n, hn⟩ : ∃ n, n = xs.length := ⟨_, rfl⟩
      rw [← hn] at c1 hlt hf hnc
      clear h hcell he hk hcm hi hn
      have d1 : (i : Int) < (n : Int) := by omega
      go_enter Try.func28, Try.ntmps28
      go_wp2
      go_ret
      exact ⟨rfl, rfl⟩
    · have hF := strEq_false hk
      have hh : has xs k = false := by
        cases hc : has xs k with
        | false => rfl
        | true =>
          obtain ⟨e', h1, h2⟩ := pos_has (h.srt rfl) hc
          rw [hi, he] at h1; cases h1; exact absurd h2 hk
      rw [hh, hi]
      obtain ⟨n, hn⟩ : ∃ n, n = xs.length := ⟨_, rfl⟩
      rw [← hn] at c1 hlt hf hnc
      clear h hcell he hk hcm hi hn hh
      have d1 : (i : Int) < (n : Int) := by omega
      go_enter Try.func28, Try.ntmps28
      go_wp2
      go_ret
      exact ⟨rfl, rfl⟩
  · have hh : has xs k = false := by
      cases hc : has xs k with
      | false => rfl
      | true =>
        obtain ⟨e', h1, h2⟩ := pos_has (h.srt rfl) hc
        have := (List.getElem?_eq_some_iff.1 h1).1
        omega
    obtain ⟨A, c, rfl, -⟩ := h.own.at
    rw [hh, hi]
    obtain ⟨n, hn⟩ : ∃ n, n = xs.length := ⟨_, rfl⟩
    rw [← hn] at c1 hlt hf
    clear h hh hi hn
    have d1 : ¬ (i : Int) < (n : Int) := by omega
    go_enter Try.func28, Try.ntmps28
    go_wp2
    go_ret
    exact ⟨rfl, rfl⟩
theorem number_any (h : Pk B w p true v xs) (k : ByteArray) (hk : has xs k = true) : Calls Try.prog 29 #[.pointer (some ⟨p, 1, none⟩), .int .i64 (pos xs k : Int)] w fun e w' => e = .returned (.int .i64 (gtN xs k)) ∧ w = w' := by
  have hf := h.fit
  have c1 : w.cell? ⟨p, 1, none⟩ = some v := h.cell
  obtain ⟨e, he, hek⟩ := pos_has (h.srt rfl) hk
  have hg : gtN xs k = e.n := by rw [← hek]; exact gtN_mem xs e (h.srt rfl).nodup (List.mem_of_getElem? he)
  have hlt := (List.getElem?_eq_some_iff.1 he).1
  obtain ⟨i, hi⟩ : ∃ i, pos xs k = i := ⟨_, rfl⟩
  rw [hi] at he hlt ⊢
  rw [hg]
  obtain ⟨g, c, rfl, hnc, hcm, _, _, hcell⟩ := row_some h.own (by omega)
  obtain ⟨_, e1⟩ := hcell i e he
  obtain ⟨n, hn⟩ : ∃ n, n = xs.length := ⟨_, rfl⟩
  rw [← hn] at c1 hlt hf hnc
  clear h hcell he hk hcm hi hn hg hek
  have d1 : (i : Int) < (n : Int) := by omega
  have d2 : (0 : Int) ≤ (i : Int) := by omega
  go_enter Try.func29, Try.ntmps29
  go_wp2
  go_ret
  exact ⟨rfl, rfl⟩
theorem get_any (h : Pk B w p true v xs) (k : ByteArray) : Calls Try.prog 12 #[.pointer (some ⟨p, 0, none⟩), .string k] w fun e w' => e = .returned (.tuple #[.int .i64 (gtN xs k), .bool (has xs k)]) ∧ Below w.heap.size w w' := by
  have HE := Lib.hid (exists_any h)
  have HP := Lib.hid (place_any h k)
  have HH : Hid (∀ W, Below w.heap.size w W → Calls Try.prog 28 #[.pointer (some ⟨p, 1, none⟩), .int .i64 (pos xs k : Int), .string k] W fun e w' => e = .returned (.bool (has xs k)) ∧ W = w') := Lib.hid fun W hW => holds_any (h.below hW) k
  have HN : Hid (∀ W, Below w.heap.size w W → has xs k = true → Calls Try.prog 29 #[.pointer (some ⟨p, 1, none⟩), .int .i64 (pos xs k : Int)] W fun e w' => e = .returned (.int .i64 (gtN xs k)) ∧ W = w') := Lib.hid fun W hW hk => number_any (h.below hW) k hk
  have HG : Hid (has xs k = false → gtN xs k = 0) := Lib.hid gtN_none
  obtain ⟨i, hi⟩ : ∃ i, pos xs k = i := ⟨_, rfl⟩
  rw [hi] at HP HH HN
  obtain ⟨β, hβ⟩ : ∃ β, has xs k = β := ⟨_, rfl⟩
  obtain ⟨gn, hgn⟩ : ∃ gn, gtN xs k = gn := ⟨_, rfl⟩
  rw [hβ] at HH HN HG ⊢
  rw [hgn] at HN HG ⊢
  clear h hi hβ hgn
  cases β with
  | false =>
    obtain rfl := HG.out rfl
    go_enter Try.func12, Try.ntmps12
    go_wp2_with (first
      | (go_at_call 26; (with_reducible refine HE.out.mono ?_); rintro e w1 ⟨rfl, rfl⟩)
      | (go_at_call 27; (with_reducible refine HP.out.mono ?_); rintro e w1 ⟨rfl, hb⟩; have HB := Lib.hid hb; clear hb)
      | (go_at_call 28; (with_reducible refine (HH.out _ HB.out).mono ?_); rintro e w2 ⟨rfl, rfl⟩))
    go_ret2
    exact ⟨rfl, HB.out⟩
  | true =>
    have HN2 := Lib.hid fun W (hW : Below w.heap.size w W) => HN.out W hW rfl
    clear HN HG
    go_enter Try.func12, Try.ntmps12
    go_wp2_with (first
      | (go_at_call 26; (with_reducible refine HE.out.mono ?_); rintro e w1 ⟨rfl, rfl⟩)
      | (go_at_call 27; (with_reducible refine HP.out.mono ?_); rintro e w1 ⟨rfl, hb⟩; have HB := Lib.hid hb; clear hb)
      | (go_at_call 28; (with_reducible refine (HH.out _ HB.out).mono ?_); rintro e w2 ⟨rfl, rfl⟩)
      | (go_at_call 29; (with_reducible refine (HN2.out _ HB.out).mono ?_); rintro e w2 ⟨rfl, rfl⟩))
    go_ret2
    exact ⟨rfl, HB.out⟩
end
end Go.Proofs.Ytoenigbfcbillaa
