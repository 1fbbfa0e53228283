/-
  What is proved here: what Align, Num, Text, Cut and Bytes of a buffer do, as plain functions of its capacity, contents and error, and their contracts; conditions: as each says.
-/
import Derived.Test.YtkcmpakcahemcaaOps
namespace Go.Proofs.Ytkcmpakcahemcaa
open Go.RowKit Le

/-- The number of bytes that Align appends. -/
def pad (n : Nat) (x : Int) : Nat := ((x.toNat - n % x.toNat) % x.toNat)
theorem pad_lt {n : Nat} {x : Int} (h : isW x = true) : pad n x < 8 := by
  unfold pad
  rcases isW_iff.1 h with rfl | rfl | rfl | rfl
  · show (1 - n % 1) % 1 < 8; omega
  · show (2 - n % 2) % 2 < 8; omega
  · show (4 - n % 4) % 4 < 8; omega
  · show (8 - n % 8) % 8 < 8; omega
theorem pad_up {n : Nat} {x : Int} (h : isW x = true) (hn : n ≤ 2000000) : Wd.upE (n : Int) x = 0 ∧ Wd.upV (n : Int) x = ((n + pad n x : Nat) : Int) := by
  obtain ⟨h1, h2⟩ := Wd.up_ok (a := (n : Int)) (w := x) h (by omega) (by omega)
  refine ⟨h1, ?_⟩
  rw [h2]
  unfold pad
  rcases isW_iff.1 h with rfl | rfl | rfl | rfl
  · show _ = ((n + (1 - n % 1) % 1 : Nat) : Int); omega
  · show _ = ((n + (2 - n % 2) % 2 : Nat) : Int); omega
  · show _ = ((n + (4 - n % 4) % 4 : Nat) : Int); omega
  · show _ = ((n + (8 - n % 8) % 8 : Nat) : Int); omega

/-- Contents and error of a buffer. -/
abbrev St := List UInt8 × Int
def addS (m : Nat) (s : St) (ys : List UInt8) : St := if s.2 = 0 then (adL m s.1 ys, adE m s.1 ys) else s
def algS (m : Nat) (s : St) (x : Int) : St := if s.2 = 0 then (if isW x = true then (adL m s.1 (List.replicate (pad s.1.length x) 0), adE m s.1 (List.replicate (pad s.1.length x) 0)) else (s.1, 2)) else s
def numS (m : Nat) (s : St) (x u : Int) : St := if s.2 = 0 then (if putE x u = 0 then (adL m s.1 (enc x.toNat u.toNat), adE m s.1 (enc x.toNat u.toNat)) else (s.1, putE x u)) else s
def cutS (s : St) (n : Int) : St := if s.2 = 0 then (if n < 0 ∨ (s.1.length : Int) < n then (s.1, 6) else (s.1.take n.toNat, 0)) else s
theorem addS_err {m : Nat} {xs : List UInt8} {er : Int} {ys : List UInt8} (h : er ≠ 0) : addS m (xs, er) ys = (xs, er) := if_neg h
theorem algS_err {m : Nat} {xs : List UInt8} {er x : Int} (h : er ≠ 0) : algS m (xs, er) x = (xs, er) := if_neg h
theorem numS_err {m : Nat} {xs : List UInt8} {er x u : Int} (h : er ≠ 0) : numS m (xs, er) x u = (xs, er) := if_neg h
theorem cutS_err {xs : List UInt8} {er n : Int} (h : er ≠ 0) : cutS (xs, er) n = (xs, er) := if_neg h

section
variable {B p m : Nat} {v : Value} {xs : List UInt8} {er : Int} {w : World}
/-- A call on the buffer at p takes the state to s. -/
abbrev BS (B : Nat) (w : World) (p m : Nat) (v : Value) (s : St) (e : Ending) (w' : World) : Prop := BP B w p m v s.1 s.2 (.tuple #[]) e w'

theorem cut_any (h : Bf B w p m v xs er) (n : Int) : Calls Try.prog 22 #[.pointer (some ⟨p, 0, none⟩), .int .i64 n] w (BS B w p m v (cutS (xs, er) n)) := by
  by_cases he : er = 0
  · subst he
    have h1 := attC_go h (cutTo_any (n := n) h)
    have h2 : cutS (xs, 0) n = ((if n < 0 ∨ (xs.length : Int) < n then xs else xs.take n.toNat), (if n < 0 ∨ (xs.length : Int) < n then 6 else 0)) := by
      unfold cutS; rw [if_pos rfl]; split <;> rfl
    have h3 : Calls Try.prog 35 #[.pointer (some ⟨p, 0, none⟩), .int .i64 0, .func (.func 36) #[.pointer (some ⟨p, 0, none⟩)] #[], .int .i64 n] w (BS B w p m v (cutS (xs, 0) n)) := by rw [h2]; exact h1
    obtain ⟨s, hs⟩ : ∃ s, cutS (xs, 0) n = s := ⟨_, rfl⟩
    rw [hs] at h3 ⊢
    have H := Lib.hid h3
    clear h1 h2 h h3 hs
    go_enter Try.func22, Try.ntmps22
    go_wp2_with (go_at_call 35; refine H.out.mono ?_; rintro e w3 ⟨v', rfl, hbf, hch⟩; have HBF := Lib.hid hbf; have HCH := Lib.hid hch; clear hbf hch)
    go_end0
    exact ⟨_, rfl, HBF.out, HCH.out⟩
  · rw [cutS_err he]
    have H : Hid (∀ fv sv, Calls Try.prog 35 #[.pointer (some ⟨p, 0, none⟩), .int .i64 0, fv, sv] w (BP B w p m v xs er (.tuple #[]))) := Lib.hid fun fv sv => attI_err h he
    clear h he
    go_enter Try.func22, Try.ntmps22
    go_wp2_with (go_at_call 35; refine (H.out _ _).mono ?_; rintro e w3 ⟨v', rfl, hbf, hch⟩; have HBF := Lib.hid hbf; have HCH := Lib.hid hch; clear hbf hch)
    go_end0
    exact ⟨_, rfl, HBF.out, HCH.out⟩

theorem text_any (h : Bf B w p m v xs er) {sv : Value} {L : List ByteArray} (hs : SX w sv L p v) (hL : L.length ≤ 1000) (hc : (cat L).length ≤ 4000000) :
    Calls Try.prog 23 #[.pointer (some ⟨p, 0, none⟩), sv] w (BS B w p m v (addS m (xs, er) (cat L))) := by
  by_cases he : er = 0
  · subst he
    have h1 := attS_go h (add_any h hs hL hc)
    have h2 : addS m (xs, 0) (cat L) = (adL m xs (cat L), adE m xs (cat L)) := if_pos rfl
    have h3 : Calls Try.prog 37 #[.pointer (some ⟨p, 0, none⟩), .int .i64 0, .func (.func 38) #[.pointer (some ⟨p, 0, none⟩)] #[], sv] w (BS B w p m v (addS m (xs, 0) (cat L))) := by rw [h2]; exact h1
    obtain ⟨s, hss⟩ : ∃ s, addS m (xs, 0) (cat L) = s := ⟨_, rfl⟩
    rw [hss] at h3 ⊢
    have H := Lib.hid h3
    clear h1 h2 h hc hs hL h3 hss
    go_enter Try.func23, Try.ntmps23
    go_wp2_with (go_at_call 37; refine H.out.mono ?_; rintro e w3 ⟨v', rfl, hbf, hch⟩; have HBF := Lib.hid hbf; have HCH := Lib.hid hch; clear hbf hch)
    go_end0
    exact ⟨_, rfl, HBF.out, HCH.out⟩
  · rw [addS_err he]
    have H : Hid (∀ fv sv, Calls Try.prog 37 #[.pointer (some ⟨p, 0, none⟩), .int .i64 0, fv, sv] w (BP B w p m v xs er (.tuple #[]))) := Lib.hid fun fv sv => attS_err h he
    clear h he hs hc hL
    go_enter Try.func23, Try.ntmps23
    go_wp2_with (go_at_call 37; refine (H.out _ _).mono ?_; rintro e w3 ⟨v', rfl, hbf, hch⟩; have HBF := Lib.hid hbf; have HCH := Lib.hid hch; clear hbf hch)
    go_end0
    exact ⟨_, rfl, HBF.out, HCH.out⟩

theorem align_any (h : Bf B w p m v xs er) (x : Int) : Calls Try.prog 25 #[.pointer (some ⟨p, 0, none⟩), .int .i64 x] w (BS B w p m v (algS m (xs, er) x)) := by
  have hxl : xs.length ≤ 1100000 := by have := h.fit; have := h.cap; omega
  have HLEN := Lib.hid (len_any h)
  have H : ∃ e0 tt : Int, (Calls Try.prog 39 #[.int .i64 (xs.length : Int), .int .i64 x] w fun e w' => e = .returned (.tuple #[.int .i64 tt, .int .i64 e0]) ∧ w = w') ∧
      Calls Try.prog 35 #[.pointer (some ⟨p, 0, none⟩), .int .i64 e0, .func (.func 40) #[.pointer (some ⟨p, 0, none⟩)] #[], .int .i64 tt] w (BS B w p m v (algS m (xs, er) x)) := by
    refine ⟨_, _, Wd.up_any _ _ _, ?_⟩
    by_cases he : er = 0
    · subst he
      cases hx : isW x with
      | true =>
        obtain ⟨e1, e2⟩ := pad_up (n := xs.length) hx (by omega)
        rw [e1, e2]
        have := attP_go h (padTo_any h (xs.length + pad xs.length x) (by omega) (by have := pad_lt (n := xs.length) hx; omega))
        rw [Nat.add_sub_cancel_left] at this
        have h2 : algS m (xs, 0) x = (adL m xs (List.replicate (pad xs.length x) 0), adE m xs (List.replicate (pad xs.length x) 0)) := by unfold algS; rw [if_pos rfl, if_pos hx]
        rw [h2]
        exact this
      | false =>
        obtain ⟨e1, e2⟩ := Wd.up_w (a := (xs.length : Int)) (w := x) hx
        rw [e1, e2]
        have h2 : algS m (xs, 0) x = (xs, 2) := by unfold algS; rw [if_pos rfl, if_neg (by simp [hx])]
        rw [h2]
        exact attI_code h (by decide)
    · rw [algS_err he]
      exact attI_err h he
  obtain ⟨e0, tt, hu, ha⟩ := H
  obtain ⟨s, hs⟩ : ∃ s, algS m (xs, er) x = s := ⟨_, rfl⟩
  rw [hs] at ha ⊢
  clear hs
  have HU := Lib.hid hu
  have HA := Lib.hid ha
  clear hu ha h hxl
  obtain ⟨l, hl⟩ : ∃ l, l = xs.length := ⟨_, rfl⟩
  rw [← hl] at HU HLEN
  clear hl
  go_enter Try.func25, Try.ntmps25
  go_wp2_with (first
    | (go_at_call 16; refine HLEN.out.mono ?_; rintro e w1 ⟨rfl, rfl⟩)
    | (go_at_call 39; refine HU.out.mono ?_; rintro e w1 ⟨rfl, rfl⟩)
    | (go_at_call 35; refine HA.out.mono ?_; rintro e w3 ⟨v', rfl, hbf, hch⟩; have HBF := Lib.hid hbf; have HCH := Lib.hid hch; clear hbf hch))
  go_end0
  exact ⟨_, rfl, HBF.out, HCH.out⟩

theorem cells_str (s : ByteArray) : (#[Value.string s] : Array Value) = ([s].map Value.string).toArray := rfl
theorem num_any (h : Bf B w p m v xs er) (x : Int) (u : Nat) : Calls Try.prog 26 #[.pointer (some ⟨p, 0, none⟩), .int .i64 x, .int .u64 (u : Int)] w (BS B w p m v (numS m (xs, er) x (u : Int))) := by
  have HP := put_any (.slice none 0 0) [] x u w (Rd.nil _ _ _) (by simp)
  have hlen8 : (putL [] x (u : Int)).length ≤ 8 := by
    unfold putL
    split
    · rename_i h0
      have : isW x = true := by cases hx : isW x with | true => rfl | false => (unfold putE at h0; rw [if_neg (by simp [hx])] at h0; cases h0)
      have := isW_bd this
      simp [enc_length]; omega
    · simp
  have HATT : ∀ w1, Below w.heap.size w w1 → ∀ sv, SX w1 sv [str (putL [] x (u : Int))] p v → Calls Try.prog 37 #[.pointer (some ⟨p, 0, none⟩), .int .i64 (putE x u), .func (.func 38) #[.pointer (some ⟨p, 0, none⟩)] #[], sv] w1 (BS B w p m v (numS m (xs, er) x (u : Int))) := by
    intro w1 hb sv hsx
    have h2 := h.below hb
    by_cases he : er = 0
    · subst he
      by_cases hp : putE x u = 0
      · have := attS_go h2 (add_any h2 hsx (by simp) (by rw [cat_one]; show (putL [] x (u : Int)).length ≤ _; omega))
        rw [cat_one] at this
        have e1 : putL [] x (u : Int) = enc x.toNat u := by unfold putL; rw [if_pos hp]; simp
        have e2 : numS m (xs, 0) x (u : Int) = (adL m xs (putL [] x (u : Int)), adE m xs (putL [] x (u : Int))) := by unfold numS; rw [if_pos rfl, if_pos hp, e1]; simp
        rw [hp, e2]
        exact this.mono fun e w' hh => BP.of (Ch.below _ _ hb) hh
      · have e2 : numS m (xs, 0) x (u : Int) = (xs, putE x u) := by unfold numS; rw [if_pos rfl, if_neg hp]
        rw [e2]
        exact (attS_code h2 hp).mono fun e w' hh => BP.of (Ch.below _ _ hb) hh
    · rw [numS_err he]
      exact (attS_err h2 he).mono fun e w' hh => BP.of (Ch.below _ _ hb) hh
  obtain ⟨s, hs⟩ : ∃ s, numS m (xs, er) x (u : Int) = s := ⟨_, rfl⟩
  rw [hs] at HATT ⊢
  obtain ⟨e0, he0⟩ : ∃ e0, putE x u = e0 := ⟨_, rfl⟩
  obtain ⟨ys, hys⟩ : ∃ ys, putL [] x (u : Int) = ys := ⟨_, rfl⟩
  rw [he0] at HATT
  rw [he0, hys] at HP
  rw [hys] at HATT
  have HNEW : Hid (∀ w1, Below w.heap.size w w1 → SX (w1.alloc (.cells #[.string (str ys)] 9)) (.slice (some ⟨w1.heap.size, 0, none⟩) 1 1) [str ys] p v) :=
    Lib.hid fun w1 hb => SX.new (cells_str _) (Nat.lt_of_lt_of_le h.box.lt hb.size) (fun k hk => Nat.lt_of_lt_of_le (h.row_lt k hk) hb.size) rfl
  have H1 := Lib.hid HP
  have H2 := Lib.hid HATT
  clear HP HATT hlen8 h hs he0 hys
  go_enter Try.func26, Try.ntmps26
  go_wp2_with (first
    | (go_at_call 41; refine H1.out.mono ?_; rintro e w1 ⟨vp, rfl, hop, hbp⟩; obtain ⟨AP, np, cq, rfl, hrp⟩ := Rd.of_own hop; have hcv := run_str hrp; have HBP := Lib.hid hbp; clear hop hbp hrp)
    | (go_at_call 37; refine (H2.out _ (HBP.out.alloc HBP.out.size _) _ (HNEW.out _ HBP.out)).mono ?_; rintro e w3 ⟨v', rfl, hbf, hch⟩; have HBF := Lib.hid hbf; have HCH := Lib.hid hch; clear hbf hch))
  go_end0
  exact ⟨_, rfl, HBF.out, HCH.out⟩

theorem map_bv (xs : List UInt8) : (xs.map fun b => (b.toNat : Int)).map (Value.int .u8) = bv xs := by simp [bv]
/-- bytes.Clone of the contents. -/
theorem clone_any {A : Option Addr} {c : Nat} (hr : Rds w A xs.length c xs) (hx : xs.length ≤ 2000000) :
    Calls Try.prog 33 #[.slice A xs.length c] w fun e w' => ∃ v', e = .returned v' ∧ w'.ownsRow w.heap.size 5 1 v' xs.length (bv xs) ∧ Below w.heap.size w w' := by
  rcases A with _ | a
  · have h0 : xs = [] := by
      rcases Nat.eq_zero_or_pos xs.length with h | h
      · exact List.eq_nil_of_length_eq_zero h
      · obtain ⟨b, off, he, _⟩ := hr.2.2 h; cases he
    subst h0
    refine (Try.bytes_Clone_nil _ _ w).mono ?_
    rintro e w' ⟨rfl, rfl⟩
    exact ⟨_, rfl, World.ownsRow_nil _ _ _ _, Below.refl _ _⟩
  · have hl : (xs.map fun b => (b.toNat : Int)).length = xs.length := by simp
    refine (Try.bytes_Clone_at a xs.length c (xs.map fun b => (b.toNat : Int)) w hl (by omega) fun i hi => ?_).mono ?_
    · have := hr.cells i (.int .u8 ((xs[i]).toNat : Int)) (bv_at (by simp))
      rw [this]
      simp [List.getD, hi]
    · rintro e w' ⟨v', rfl, ho, _, hb⟩
      rw [map_bv] at ho
      exact ⟨v', rfl, ho, hb⟩

/-- What Bytes answers. -/
def out (s : St) : List UInt8 := if s.2 = 0 then s.1 else []
theorem bytes_any (h : Bf B w p m v xs er) : Calls Try.prog 13 #[.pointer (some ⟨p, 0, none⟩)] w fun e w' =>
    ∃ v', e = .returned (.tuple #[v', .int .i64 er]) ∧ w'.ownsRow w.heap.size 5 1 v' (out (xs, er)).length (bv (out (xs, er))) ∧ Below w.heap.size w w' := by
  have HE := Lib.hid (err_any h)
  by_cases he : er = 0
  · subst he
    have e1 : out (xs, 0) = xs := if_pos rfl
    rw [e1]
    obtain ⟨A, c, rfl, hr⟩ := h.slice
    have c2 : w.cell? ⟨p, 2, none⟩ = some (.slice A xs.length c) := h.box.cell 2
    have HC := Lib.hid (clone_any hr (by have := h.fit; have := h.cap; omega))
    clear h hr e1
    obtain ⟨l, hl⟩ : ∃ l, l = xs.length := ⟨_, rfl⟩
    rw [← hl] at HC c2 ⊢
    clear hl
    go_enter Try.func13, Try.ntmps13
    go_wp2_with (first
      | (go_at_call 17; refine HE.out.mono ?_; rintro e w1 ⟨rfl, rfl⟩)
      | (go_at_call 33; refine HC.out.mono ?_; rintro e w1 ⟨v1, rfl, ho, hb⟩; have HO := Lib.hid ho; have HB := Lib.hid hb; clear ho hb))
    go_ret2
    exact ⟨_, rfl, HO.out, HB.out⟩
  · have e1 : out (xs, er) = [] := if_neg he
    rw [e1]
    have d0 : (er == 0) = false := by simpa using he
    clear h he e1
    go_enter Try.func13, Try.ntmps13
    go_wp2_with (go_at_call 17; refine HE.out.mono ?_; rintro e w1 ⟨rfl, rfl⟩)
    go_ret2
    exact ⟨_, rfl, own_nil _ _, Below.refl _ _⟩
end
end Go.Proofs.Ytkcmpakcahemcaa
