/-
  What is proved here: one buffer, or two, that a law of layer 13 works on, and that works returns true; no condition but those that each fact states.
-/
import Derived.Test.YtkcmpakcahemcaaDo
namespace Go.Proofs.Ytkcmpakcahemcaa
open Go.RowKit Le

/-- One buffer of a law that began in the world w0. -/
def Bu (w0 : World) (p m : Nat) (s : St) (w : World) : Prop := (∃ v, Bf w0.heap.size w p m v s.1 s.2) ∧ Below w0.heap.size w0 w
section
variable {w0 w : World} {p m : Nat} {s : St}
theorem Bu.of {v : Value} (h : Bf w0.heap.size w p m v s.1 s.2) (hb : Below w0.heap.size w0 w) {t : St} {r : Value} {e : Ending} {w' : World} (hh : BP w0.heap.size w p m v t.1 t.2 r e w') : e = .returned r ∧ Bu w0 p m t w' := by
  obtain ⟨v', h1, h2, h3⟩ := hh
  exact ⟨h1, ⟨v', h2⟩, Ch.to_below hb h3 hb.size h.low (fun k hk => (h.own.lt k hk).1)⟩
theorem Bu.below {w' : World} (h : Bu w0 p m s w) (hb : Below w.heap.size w w') : Bu w0 p m s w' := by
  obtain ⟨⟨v, hv⟩, h0⟩ := h
  exact ⟨⟨v, hv.below hb⟩, h0.trans (hb.mono h0.size)⟩
theorem new_U (hb : Below w0.heap.size w0 w) (t : Int) : Calls Try.prog 9 #[.int .i64 t] w fun e w' => ∃ p, e = .returned (.pointer (some ⟨p, 0, none⟩)) ∧ Bu w0 p (cp t) ([], 0) w' := by
  refine (new_any t w).mono ?_
  rintro e w' ⟨rfl, rfl⟩
  exact ⟨_, rfl, ⟨_, (Bf.new w (cp t) (cp_le t)).mono hb.size⟩, hb.alloc hb.size _⟩
theorem align_U (h : Bu w0 p m s w) (x : Int) : Calls Try.prog 25 #[.pointer (some ⟨p, 0, none⟩), .int .i64 x] w fun e w' => e = .returned (.tuple #[]) ∧ Bu w0 p m (algS m s x) w' := by
  obtain ⟨⟨v, hv⟩, hb⟩ := h
  exact (align_any hv x).mono fun e w' hh => Bu.of hv hb hh
theorem num_U (h : Bu w0 p m s w) (x : Int) (u : Nat) : Calls Try.prog 26 #[.pointer (some ⟨p, 0, none⟩), .int .i64 x, .int .u64 (u : Int)] w fun e w' => e = .returned (.tuple #[]) ∧ Bu w0 p m (numS m s x (u : Int)) w' := by
  obtain ⟨⟨v, hv⟩, hb⟩ := h
  exact (num_any hv x u).mono fun e w' hh => Bu.of hv hb hh
theorem cut_U (h : Bu w0 p m s w) (n : Int) : Calls Try.prog 22 #[.pointer (some ⟨p, 0, none⟩), .int .i64 n] w fun e w' => e = .returned (.tuple #[]) ∧ Bu w0 p m (cutS s n) w' := by
  obtain ⟨⟨v, hv⟩, hb⟩ := h
  exact (cut_any hv n).mono fun e w' hh => Bu.of hv hb hh
theorem text_U (h : Bu w0 p m s w) {cs : Array Value} {g n : Nat} (L : List ByteArray) (hcs : cs = (L.map Value.string).toArray) (hg : g = w.heap.size) (hn : n = L.length) (hL : L.length ≤ 1000) (hc : (cat L).length ≤ 4000000) :
    Calls Try.prog 23 #[.pointer (some ⟨p, 0, none⟩), .slice (some ⟨g, 0, none⟩) n n] (w.alloc (.cells cs 9)) fun e w' => e = .returned (.tuple #[]) ∧ Bu w0 p m (addS m s (cat L)) w' := by
  subst hg
  obtain ⟨⟨v, hv⟩, hb⟩ := h
  have hal := (Below.refl _ w).alloc (Nat.le_refl _) (.cells cs 9)
  exact (text_any (hv.below hal) (SX.new hcs hv.box.lt hv.row_lt hn) hL hc).mono fun e w' hh => Bu.of (hv.below hal) (hb.trans (hal.mono hb.size)) hh
theorem text1_U (h : Bu w0 p m s w) {a : ByteArray} {g : Nat} (hg : g = w.heap.size) (hc : a.size ≤ 4000000) :
    Calls Try.prog 23 #[.pointer (some ⟨p, 0, none⟩), .slice (some ⟨g, 0, none⟩) 1 1] (w.alloc (.cells #[.string a] 9)) fun e w' => e = .returned (.tuple #[]) ∧ Bu w0 p m (addS m s a.data.toList) w' := by
  have := text_U h (cs := #[.string a]) [a] rfl hg rfl (by simp) (by rw [cat_one, ← size_dt]; exact hc)
  rwa [cat_one] at this
theorem len_U (h : Bu w0 p m s w) : Calls Try.prog 16 #[.pointer (some ⟨p, 0, none⟩)] w fun e w' => e = .returned (.int .i64 (s.1.length : Int)) ∧ w = w' := by
  obtain ⟨⟨v, hv⟩, hb⟩ := h
  exact len_any hv
theorem err_U (h : Bu w0 p m s w) : Calls Try.prog 17 #[.pointer (some ⟨p, 0, none⟩)] w fun e w' => e = .returned (.int .i64 s.2) ∧ w = w' := by
  obtain ⟨⟨v, hv⟩, hb⟩ := h
  exact err_any hv
theorem bytes_U (h : Bu w0 p m s w) : Calls Try.prog 13 #[.pointer (some ⟨p, 0, none⟩)] w fun e w' => ∃ v' n, e = .returned (.tuple #[v', .int .i64 s.2]) ∧ w'.ownsRow w.heap.size 5 1 v' n (bv (out s)) ∧ Below w.heap.size w w' := by
  obtain ⟨⟨v, hv⟩, hb⟩ := h
  exact (bytes_any hv).mono fun e w' ⟨v', h1, h2, h3⟩ => ⟨v', _, h1, h2, h3⟩
theorem str_refl (xs : List UInt8) : ((str xs).toList == (str xs).toList) = true := by simp
theorem has_U (h : Bu w0 p m s w) (want : List UInt8) (e0 : Int) (h1 : out s = want) (h2 : s.2 = e0) :
    Calls Try.prog 27 #[.pointer (some ⟨p, 0, none⟩), .int .i64 e0, .string (str want)] w fun e w' => e = .returned (.bool true) ∧ Below w.heap.size w w' := by
  subst h1; subst h2
  have HB := Lib.hid (bytes_U h)
  have HE : Hid (∀ w1, Below w.heap.size w w1 → Calls Try.prog 17 #[.pointer (some ⟨p, 0, none⟩)] w1 fun e w' => e = .returned (.int .i64 s.2) ∧ w1 = w') := Lib.hid fun w1 hb => err_U (h.below hb)
  have hst := str_refl (out s)
  obtain ⟨er, her⟩ : ∃ er, er = s.2 := ⟨_, rfl⟩
  obtain ⟨ys, hys⟩ : ∃ ys, ys = out s := ⟨_, rfl⟩
  rw [← her, ← hys] at HB
  rw [← her] at HE
  rw [← hys] at hst
  rw [← her, ← hys]
  clear h her hys
  go_enter Try.func27, Try.ntmps27
  go_wp2_with (first
    | (go_at_call 13; refine HB.out.mono ?_; rintro e w1 ⟨v', n, rfl, ho, hb⟩; obtain ⟨A, n1, c1, rfl, hr⟩ := Rd.of_own ho; have hcv := run_str hr; have HB1 := Lib.hid hb; clear ho hb hr)
    | (go_at_call 17; refine (HE.out _ HB1.out).mono ?_; rintro e w2 ⟨rfl, rfl⟩))
  go_ret
  exact ⟨rfl, HB1.out⟩
end

/-- Two buffers. -/
def Bu2 (w0 : World) (p m : Nat) (s : St) (q n : Nat) (t : St) (w : World) : Prop :=
  (∃ v u, Bf w0.heap.size w p m v s.1 s.2 ∧ Bf w0.heap.size w q n u t.1 t.2 ∧ p ≠ q ∧ (∀ k, v.ownBlock = some k → u.ownBlock ≠ some k)) ∧ Below w0.heap.size w0 w
section
variable {w0 w : World} {p m q n : Nat} {s t : St}
/-- The other buffer stays. -/
theorem Bf.other {B B' : Nat} {w w' : World} {p m q n : Nat} {v v' u : Value} {xs ys xs' : List UInt8} {e e' f : Int} (h : Bf B w p m v xs e) (k : Bf B' w q n u ys f) (hpq : p ≠ q) (hr : ∀ k, v.ownBlock = some k → u.ownBlock ≠ some k)
    (h' : Bf B w' p m v' xs' e') (hc : Ch w w' p v v') : Bf B' w' q n u ys f ∧ ∀ k, v'.ownBlock = some k → u.ownBlock ≠ some k := by
  refine ⟨k.keep hc.size fun i hi hor => hc.block i hi ?_ ?_, fun i hi he => ?_⟩
  · rcases hor with rfl | hu
    · exact fun he => hpq he.symm
    · rintro rfl
      exact h.box.ne_row k.own (by decide) hu
  · rcases hor with rfl | hu
    · exact k.box.ne_row h.own (by decide)
    · exact fun he => hr i he hu
  · rcases hc.row i hi with h1 | h1
    · exact hr i h1 he
    · have := k.row_lt i he; omega
theorem Bu2.left (h : Bu2 w0 p m s q n t w) : Bu w0 p m s w := by
  obtain ⟨⟨v, u, h1, _⟩, hb⟩ := h
  exact ⟨⟨v, h1⟩, hb⟩
theorem Bu2.right (h : Bu2 w0 p m s q n t w) : Bu w0 q n t w := by
  obtain ⟨⟨v, u, _, h1, _⟩, hb⟩ := h
  exact ⟨⟨u, h1⟩, hb⟩
theorem Bu2.below {w' : World} (h : Bu2 w0 p m s q n t w) (hb : Below w.heap.size w w') : Bu2 w0 p m s q n t w' := by
  obtain ⟨⟨v, u, h1, h2, h3⟩, h0⟩ := h
  exact ⟨⟨v, u, h1.below hb, h2.below hb, h3⟩, h0.trans (hb.mono h0.size)⟩
/-- A call on the first, or on the second. -/
theorem Bu2.on1 (h : Bu2 w0 p m s q n t w) {r : Value} {s' : St} {f : FuncId} {args : Array Value} (hc : ∀ v, Bf w0.heap.size w p m v s.1 s.2 → Calls Try.prog f args w (BP w0.heap.size w p m v s'.1 s'.2 r)) :
    Calls Try.prog f args w fun e w' => e = .returned r ∧ Bu2 w0 p m s' q n t w' := by
  obtain ⟨⟨v, u, h1, h2, h3, h4⟩, h0⟩ := h
  refine (hc v h1).mono ?_
  rintro e w' ⟨v', rfl, hb, hch⟩
  obtain ⟨k1, k2⟩ := h1.other h2 h3 h4 hb hch
  exact ⟨rfl, ⟨v', u, hb, k1, h3, k2⟩, Ch.to_below h0 hch h0.size h1.low (fun k hk => (h1.own.lt k hk).1)⟩
theorem Bu2.on2 (h : Bu2 w0 p m s q n t w) {r : Value} {t' : St} {f : FuncId} {args : Array Value} (hc : ∀ v, Bf w0.heap.size w q n v t.1 t.2 → Calls Try.prog f args w (BP w0.heap.size w q n v t'.1 t'.2 r)) :
    Calls Try.prog f args w fun e w' => e = .returned r ∧ Bu2 w0 p m s q n t' w' := by
  obtain ⟨⟨v, u, h1, h2, h3, h4⟩, h0⟩ := h
  refine (hc u h2).mono ?_
  rintro e w' ⟨u', rfl, hb, hch⟩
  obtain ⟨k1, k2⟩ := h2.other h1 (fun he => h3 he.symm) (fun k hk he => h4 k he hk) hb hch
  exact ⟨rfl, ⟨v, u', k1, hb, h3, fun k hk he => k2 k he hk⟩, Ch.to_below h0 hch h0.size h2.low (fun k hk => (h2.own.lt k hk).1)⟩
/-- A second buffer is made. -/
theorem new_U2 (h : Bu w0 p m s w) (x : Int) : Calls Try.prog 9 #[.int .i64 x] w fun e w' => ∃ q, e = .returned (.pointer (some ⟨q, 0, none⟩)) ∧ Bu2 w0 p m s q (cp x) ([], 0) w' := by
  obtain ⟨⟨v, hv⟩, hb⟩ := h
  refine (new_any x w).mono ?_
  rintro e w' ⟨rfl, rfl⟩
  have hal : ∀ o, Below w.heap.size w (w.alloc o) := fun o => (Below.refl _ w).alloc (Nat.le_refl _) o
  exact ⟨_, rfl, ⟨v, .slice none 0 0, hv.below (hal _), (Bf.new w (cp x) (cp_le x)).mono hb.size, by have := hv.box.lt; omega, fun k hk => by simp [Value.ownBlock]⟩, hb.alloc hb.size _⟩
end

theorem Bu.to {w0 w : World} {p m : Nat} {s s' : St} (h : Bu w0 p m s w) (hs : s = s') : Bu w0 p m s' w := hs ▸ h
theorem len_N {w0 w : World} {p m : Nat} {s : St} (h : Bu w0 p m s w) (k : Nat) (hk : s.1.length = k) : Calls Try.prog 16 #[.pointer (some ⟨p, 0, none⟩)] w fun e w' => e = .returned (.int .i64 (k : Int)) ∧ w = w' := by
  subst hk; exact len_U h
set_option maxRecDepth 20000 in
set_option maxHeartbeats 4000000 in
theorem works_true (w : World) : Calls Try.prog 19 #[] w fun e w' => e = .returned (.bool true) ∧ Below w.heap.size w w' := by
  have H0 : Hid (Below w.heap.size w w) := Lib.hid (Below.refl _ _)
  go_enter Try.func19, Try.ntmps19
  go_upto_region 7 with (first
    | (go_at_call 9; (with_reducible refine (new_U H0.out 10).mono ?_); rintro e w1 ⟨p, rfl, hs⟩; have HS := Lib.hid hs; clear hs)
    | (go_at_call 23; refine (text_U HS.out [⟨#[97]⟩, ⟨#[98]⟩] rfl (by first | rfl | simp) rfl (by decide) (by decide +kernel)).mono ?_; rintro e w1 ⟨rfl, hs⟩; have hs := hs.to (s' := ([97, 98], 0)) (by decide +kernel); clear HS; have HS := Lib.hid hs; clear hs)
    | (go_at_call 25; refine (align_U HS.out 4).mono ?_; rintro e w1 ⟨rfl, hs⟩; have hs := hs.to (s' := ([97, 98, 0, 0], 0)) (by decide +kernel); clear HS; have HS := Lib.hid hs; clear hs)
    | (go_at_call 26; refine (num_U HS.out 2 300).mono ?_; rintro e w1 ⟨rfl, hs⟩; have hs := hs.to (s' := ([97, 98, 0, 0, 44, 1], 0)) (by decide +kernel); clear HS; have HS := Lib.hid hs; clear hs)
    | (go_at_call 27; refine (has_U HS.out [97, 98, 0, 0, 44, 1] 0 (by decide +kernel) (by decide +kernel)).mono ?_; rintro e w1 ⟨rfl, hb⟩; have hs := HS.out.below hb; clear HS hb; have HS := Lib.hid hs; clear hs))
  clear H0
  go_upto_region 13 with (first
    | (go_at_call 22; refine (cut_U HS.out 3).mono ?_; rintro e w1 ⟨rfl, hs⟩; have hs := hs.to (s' := ([97, 98, 0], 0)) (by decide +kernel); clear HS; have HS := Lib.hid hs; clear hs)
    | (go_at_call 16; refine (len_N HS.out 3 (by decide +kernel)).mono ?_; rintro e w1 ⟨rfl, rfl⟩)
    | (go_at_call 23; refine (text_U HS.out [⟨#[120, 121, 122]⟩] rfl (by first | rfl | simp) rfl (by decide) (by decide +kernel)).mono ?_; rintro e w1 ⟨rfl, hs⟩; have hs := hs.to (s' := ([97, 98, 0, 120, 121, 122], 0)) (by decide +kernel); clear HS; have HS := Lib.hid hs; clear hs)
    | (go_at_call 27; refine (has_U HS.out [97, 98, 0, 120, 121, 122] 0 (by decide +kernel) (by decide +kernel)).mono ?_; rintro e w1 ⟨rfl, hb⟩; have hs := HS.out.below hb; clear HS hb; have HS := Lib.hid hs; clear hs))
  go_upto_region 17 with (first
    | (go_at_call 26; refine (num_U HS.out 1 256).mono ?_; rintro e w1 ⟨rfl, hs⟩; have hs := hs.to (s' := ([97, 98, 0, 120, 121, 122], 10)) (by decide +kernel); clear HS; have HS := Lib.hid hs; clear hs)
    | (go_at_call 23; refine (text_U HS.out [⟨#[97]⟩] rfl (by first | rfl | simp) rfl (by decide) (by decide +kernel)).mono ?_; rintro e w1 ⟨rfl, hs⟩; have hs := hs.to (s' := ([97, 98, 0, 120, 121, 122], 10)) (by decide +kernel); clear HS; have HS := Lib.hid hs; clear hs)
    | (go_at_call 27; refine (has_U HS.out [] 10 (by decide +kernel) (by decide +kernel)).mono ?_; rintro e w1 ⟨rfl, hb⟩; have hs := HS.out.below hb; clear HS hb; have HS := Lib.hid hs; clear hs)
    | (go_at_call 16; refine (len_N HS.out 6 (by decide +kernel)).mono ?_; rintro e w1 ⟨rfl, rfl⟩))
  go_upto_region 23 with (first
    | (go_at_call 9; refine (new_U HS.out.2 3).mono ?_; rintro e w1 ⟨p, rfl, hs⟩; clear HS; have HS := Lib.hid hs; clear hs)
    | (go_at_call 25; refine (align_U HS.out 8).mono ?_; rintro e w1 ⟨rfl, hs⟩; have hs := hs.to (s' := ([], 0)) (by decide +kernel); clear HS; have HS := Lib.hid hs; clear hs)
    | (go_at_call 23; refine (text_U HS.out [⟨#[97, 98, 99]⟩] rfl (by first | rfl | simp) rfl (by decide) (by decide +kernel)).mono ?_; rintro e w1 ⟨rfl, hs⟩; have hs := hs.to (s' := ([97, 98, 99], 0)) (by decide +kernel); clear HS; have HS := Lib.hid hs; clear hs)
    | (go_at_call 23; refine (text_U HS.out [⟨#[100]⟩] rfl (by first | rfl | simp) rfl (by decide) (by decide +kernel)).mono ?_; rintro e w1 ⟨rfl, hs⟩; have hs := hs.to (s' := ([97, 98, 99], 5)) (by decide +kernel); clear HS; have HS := Lib.hid hs; clear hs)
    | (go_at_call 27; refine (has_U HS.out [] 5 (by decide +kernel) (by decide +kernel)).mono ?_; rintro e w1 ⟨rfl, hb⟩; have hs := HS.out.below hb; clear HS hb; have HS := Lib.hid hs; clear hs)
    | (go_at_call 16; refine (len_N HS.out 3 (by decide +kernel)).mono ?_; rintro e w1 ⟨rfl, rfl⟩))
  have H9 := Lib.hid HS.out.2
  clear HS
  go_upto_region 24 with (first
    | (go_at_call 9; refine (new_U H9.out 9).mono ?_; rintro e w1 ⟨p, rfl, hs⟩; have HS := Lib.hid hs; clear hs H9)
    | (go_at_call 9; refine (new_U2 HS.out 9).mono ?_; rintro e w1 ⟨q, rfl, hs⟩; have HT := Lib.hid hs; clear hs HS))
  go_upto_region 26 with (first
    | (go_at_call 25; refine (HT.out.on1 (s' := ([], 2)) (fun v hv => align_any hv 3)).mono ?_; rintro e w1 ⟨rfl, hs⟩; clear HT; have HT := Lib.hid hs; clear hs)
    | (go_at_call 22; refine (HT.out.on2 (t' := ([], 6)) (fun v hv => cut_any hv 1)).mono ?_; rintro e w1 ⟨rfl, hs⟩; clear HT; have HT := Lib.hid hs; clear hs))
  have HA : Hid (∀ W, Below w1.heap.size w1 W → Calls Try.prog 27 #[.pointer (some ⟨p, 0, none⟩), .int .i64 2, .string ⟨#[]⟩] W fun e w' => e = .returned (.bool true) ∧ Below W.heap.size W w') := Lib.hid fun W hb => has_U (HT.out.below hb).left [] 2 rfl rfl
  have HB : Hid (∀ W, Below w1.heap.size w1 W → Calls Try.prog 27 #[.pointer (some ⟨q, 0, none⟩), .int .i64 6, .string ⟨#[]⟩] W fun e w' => e = .returned (.bool true) ∧ Below W.heap.size W w') := Lib.hid fun W hb => has_U (HT.out.below hb).right [] 6 rfl rfl
  have HW := Lib.hid HT.out.2
  clear HT
  go_wp2_with (first
    | (go_at_call 27; (with_reducible refine (HA.out _ (Below.refl _ _)).mono ?_); rintro e w2 ⟨rfl, hb⟩; have H2 := Lib.hid hb; clear hb)
    | (go_at_call 27; (with_reducible refine (HB.out _ H2.out).mono ?_); rintro e w3 ⟨rfl, hb⟩; have H3 := Lib.hid hb; clear hb))
  go_ret
  exact ⟨rfl, HW.out.trans ((H2.out.trans (H3.out.mono H2.out.size)).mono HW.out.size)⟩
end Go.Proofs.Ytkcmpakcahemcaa
