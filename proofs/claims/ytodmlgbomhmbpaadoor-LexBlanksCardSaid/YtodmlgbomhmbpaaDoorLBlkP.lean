/-
  What is proved here: the contracts of strconv.FormatUint (base 10), strconv.Itoa and accordionref00.Bring (a small number) as the lexer's law calls them; condition: uint64pow10 reads as its own initializer; and: plain facts of the digits of a number as the lexer reads them; no program in this text; no condition but those that each fact states; and: plain facts of the lexer: a token is told by its own bytes alone; no program in this text; no condition but those that each fact states; and: plain facts of a text's tokens: they follow one another, with white space alone between them; no program in this text; no condition but those that each fact states; and: plain facts of a text that is made of words with white space before each: its tokens are the words; no program in this text; no condition but those that each fact states.
-/
import Derived.Test.YtodmlgbomhmbpaaDoorLRead2
import Derived.Lib.AppendIntMem
import Derived.Test.YtodmlgbomhmbpaaDoorLPl
import Derived.Lib.ItoaNum
import Derived.Test.YtodmlgbomhmbpaaDoorLAllW
namespace Go.Proofs.YtodmlgbomhmbpaaDoor
open Go.RowKit Ut Lx Go.Lib Go.Maps Go.Sort

theorem holds0 (w : World) (T : TypeId) (nd : Nat) (hs : nd ≤ 24) : Holds (fun (b : UInt8) => Value.int .u8 (b.toNat : Int)) (w.alloc (.cells Lib.zeros24 T)) w.heap.size 0 (Array.replicate nd (0 : UInt8)) := fun j hj => by
  have hj' : j < nd := by simpa using hj
  refine ⟨?_, World.frozen?_alloc_new _ _ _ _⟩
  rw [World.cell?_alloc_new, Lib.zeros24_at _ (by omega), getElem!_pos _ j hj]
  simp
theorem fin0 (w : World) (o : Obj) (dk : Array UInt8) (k : Nat) : ∃ os, (putRow (fun (b : UInt8) => Value.int .u8 (b.toNat : Int)) (w.alloc o) w.heap.size 0 dk).drewN k = grow (w.drewN k) os := by
  rw [alloc_eq_grow]
  obtain ⟨os', _, e⟩ := putRow_grow_new (fun (b : UInt8) => Value.int .u8 (b.toNat : Int)) w #[o] w.heap.size 0 dk (Nat.le_refl _)
  exact ⟨os', by rw [e]; rfl⟩
theorem tyBs : Tryd.prog.underlying 85 = some (.slice 5) := by kernel_rfl
theorem tyU8 : Tryd.prog.underlying 5 = some (.int .u8) := by kernel_rfl
theorem tyStr : Tryd.prog.underlying 9 = some .string := by kernel_rfl

set_option maxHeartbeats 6400000 in
set_option maxRecDepth 100000 in
theorem fmtI (u : Nat) (hu64 : u < 18446744073709551616) (w : World) (htab : Lib.TabIs Tryd.prog w "internal/strconv.uint64pow10" .u64 Lib.pow10Tab) :
    Calls Tryd.prog 32 #[.int .u64 u, .int .i64 10] w fun e w' => e = .returned (.string ⟨(Lib.decDigits u).toArray⟩) ∧ Below w.heap.size w w' := by
  by_cases hs : u < 100
  · have hx : decide ((u : Int) < 100) = true := decide_eq_true (by omega)
    go_enter Tryd.func32, Tryd.ntmps32
    go_wp2_with (go_at_call 52; refine (Tryd.internal_strconv_small u hs _).mono ?_; rintro e w' ⟨rfl, rfl⟩)
    go_ret
    exact ⟨rfl, Below.refl _ _⟩
  · have hx : decide ((u : Int) < 100) = false := decide_eq_false (by omega)
    have hu1 : 1 ≤ u := by omega
    have hnd20 : Lib.nDigits u ≤ 20 := by have := Lib.numDigits_eq u hu1 hu64; split at this <;> omega
    have hb4 : Lib.nDigits u ≤ 24 := by omega
    have hal : Tryd.prog.arrayLen 87 = 24 := by simp [Program.arrayLen]
    have hsl : ∀ W, (Instr.sliceAt 87 (.pointer (some ⟨w.heap.size, 0, none⟩)) none (some (.int .i64 (Lib.nDigits u : Int))) none).run Tryd.prog W = .ok (.slice (some ⟨w.heap.size, 0, none⟩) (Lib.nDigits u) 24) W := fun W => by
      rw [run_sliceAt_array_h W 87 ⟨w.heap.size, 0, none⟩ (by simp [Program.arrayLen, Program.elem]) .i64 (Lib.nDigits u : Int) (by omega) (by rw [hal]; omega)]
      go_simp
    have hH0 := holds0 w 87 (Lib.nDigits u) (by omega)
    have hfmt := Tryd.internal_strconv_formatBase10 w.heap.size 0 24 u (Array.replicate (Lib.nDigits u) 0) (w.alloc (.cells Lib.zeros24 87)) hH0 (by rw [Array.size_replicate]; exact Lib.lt_pow_nDigits u) hu64 (by rw [Array.size_replicate]; omega)
    rw [Array.size_replicate] at hfmt
    have HH0 := Lib.hid hH0
    clear hH0 hal
    go_enter Tryd.func32, Tryd.ntmps32
    go_wp2_with (first
      | (go_at_call 53; refine (Tryd.internal_strconv_numDigits u hu1 hu64 _ (Lib.tabIs_alloc htab _)).mono ?_; rintro e w' ⟨rfl, rfl⟩))
    go_at_call 54
    refine hfmt.mono ?_
    rintro e w' ⟨rfl, k, v', dk, rfl, hF⟩
    have hcv : (convert 85 9 (.slice (some ⟨w.heap.size, 0, none⟩) (Lib.nDigits u) 24)).run Tryd.prog ((putRow (fun (b : UInt8) => Value.int .u8 (b.toNat : Int)) (w.alloc (.cells Lib.zeros24 87)) w.heap.size 0 dk).drewN k) = .ok (.string ⟨(Lib.decDigits u).toArray⟩) ((putRow (fun (b : UInt8) => Value.int .u8 (b.toNat : Int)) (w.alloc (.cells Lib.zeros24 87)) w.heap.size 0 dk).drewN k) := by
      have h := run_convert_bytes_back (P := Tryd.prog) ((putRow (fun (b : UInt8) => Value.int .u8 (b.toNat : Int)) (w.alloc (.cells Lib.zeros24 87)) w.heap.size 0 dk).drewN k) 85 9 5 ⟨w.heap.size, 0, none⟩ 24 (Lib.decDigits u) tyBs tyU8 tyStr (fun j hj => by
        rw [Lib.row_is_numeral hF j hj, Lib.add_plain, World.cell?_drewN]
        exact cell?_putRow (fun (b : UInt8) => Value.int .u8 (b.toNat : Int)) _ w.heap.size 0 _ dk HH0.out (by rw [hF.size, Array.size_replicate]) j (by rw [hF.size]; rw [Lib.decDigits_length] at hj; exact hj))
      rw [Lib.decDigits_length] at h
      exact h
    go_wp2
    go_ret
    obtain ⟨os, eo⟩ := fin0 w (.cells Lib.zeros24 87) dk k
    refine ⟨rfl, ?_⟩
    rw [eo]
    exact Lib.below_grow _ _ (Nat.le_refl _) _ _
set_option maxRecDepth 100000 in
theorem fmtU (u : Nat) (hu64 : u < 18446744073709551616) (w : World) (htab : Lib.TabIs Tryd.prog w "internal/strconv.uint64pow10" .u64 Lib.pow10Tab) :
    Calls Tryd.prog 19 #[.int .u64 u, .int .i64 10] w fun e w' => e = .returned (.string (str (Lib.decDigits u))) ∧ Below w.heap.size w w' := by
  have H := Lib.hid (fmtI u hu64 w htab)
  clear htab
  go_enter Tryd.func19, Tryd.ntmps19
  go_wp2_with (go_at_call 32; refine H.out.mono ?_; rintro e w' ⟨rfl, hb⟩)
  go_ret
  exact ⟨rfl, by assumption⟩
theorem itoaU (d : Nat) (hd : d < 10) (w : World) (htab : Lib.TabIs Tryd.prog w "internal/strconv.uint64pow10" .u64 Lib.pow10Tab) :
    Calls Tryd.prog 22 #[.int .i64 d] w fun e w' => e = .returned (.string (str [UInt8.ofNat (48 + d)])) ∧ Below w.heap.size w w' := by
  refine (Tryd.strconv_Itoa d (by omega) (by omega) w htab).mono ?_
  rintro e w' ⟨rfl, k, os, rfl⟩
  refine ⟨?_, Lib.below_grow _ _ (Nat.le_refl _) _ _⟩
  rw [Lib.itoa_nonneg, Lib.decDigits_one hd]
  rfl
theorem bring_small (t n : Int) (w : World) (hn : 1 ≤ n) (hn2 : n ≤ 100000) :
    Calls Tryd.prog 17 #[.int .i64 t, .int .i64 n] w fun e w' => e = .returned (.int .i64 (t % n)) ∧ w = w' := by
  have d0 : (n == 0) = false := by simp; omega
  by_cases h : t < 0
  · obtain ⟨r, hr⟩ : ∃ r, t.tmod n = r := ⟨_, rfl⟩
    obtain ⟨k, rfl⟩ : ∃ k : Int, t = -k := ⟨-t, by omega⟩
    have e1 : r = -(k % n) := by rw [← hr, Int.neg_tmod, Int.tmod_eq_emod_of_nonneg (by omega)]
    have b0 := Int.emod_nonneg k (show n ≠ 0 by omega)
    have b1 := Int.emod_lt_of_pos k (show 0 < n by omega)
    by_cases hz : r = 0
    · have hz' : k % n = 0 := by omega
      have e2 : -k % n = 0 := Int.emod_eq_zero_of_dvd (Int.dvd_neg.2 (Int.dvd_of_emod_eq_zero hz'))
      rw [e2]
      rw [hz] at hr
      clear e1 b0 b1 hz hz' e2
      go_enter Tryd.func17, Tryd.ntmps17
      go_wp2
      go_ret
      exact ⟨rfl, rfl⟩
    · have hneg : r < 0 := by omega
      have e2 : -k % n = r + n := by
        have e3 : -k = (r + n) + n * (-(k / n) - 1) := by
          have := Int.mul_ediv_add_emod k n
          rw [e1, Int.mul_sub, Int.mul_neg]
          omega
        rw [e3, Int.add_mul_emod_self_left, Int.emod_eq_of_lt (by omega) (by omega)]
      rw [e2]
      have g0 : -100000 ≤ r := by omega
      clear e1 b0 b1 hz e2 h
      go_enter Tryd.func17, Tryd.ntmps17
      go_wp2
      go_ret
      exact ⟨rfl, rfl⟩
  · have h' : 0 ≤ t := by omega
    have b0 := Int.emod_nonneg t (show n ≠ 0 by omega)
    have d1 : decide (t % n < 0) = false := by simp; omega
    have e1 : t.tmod n = t % n := Int.tmod_eq_emod_of_nonneg h'
    clear h
    go_enter Tryd.func17, Tryd.ntmps17
    go_wp2
    go_ret
    exact ⟨rfl, rfl⟩
end Go.Proofs.YtodmlgbomhmbpaaDoor
namespace Go.Proofs.YtodmlgbomhmbpaaDoor
namespace Lx
open Ut Go.Lib

theorem valG_app : ∀ (a b : List UInt8) (n : Nat), valG n (a ++ b) = match valG n a with | none => none | some m => valG m b
  | [], _, _ => rfl
  | c :: r, b, n => by
    have e1 : ∀ l, valG n (c :: l) = if (18446744073709551615 - (c.toNat - 48)) / 10 < n then none else valG (10 * n + (c.toNat - 48)) l := fun l => rfl
    show valG n (c :: (r ++ b)) = _
    rw [e1, e1]
    split
    · rfl
    · exact valG_app r b _
theorem dig_nat {d : Nat} (h : d < 10) : (UInt8.ofNat (48 + d)).toNat = 48 + d := by
  rw [UInt8.toNat_ofNat', Nat.mod_eq_of_lt (by omega)]
theorem dD_big {u : Nat} (h : ¬ u < 10) : decDigits u = decDigits (u / 10) ++ [UInt8.ofNat (48 + u % 10)] := by rw [decDigits, dif_neg h]
theorem dD_ne (u : Nat) : decDigits u ≠ [] := by
  intro h
  have := congrArg List.length h
  rw [decDigits_length] at this
  have := nDigits_pos u
  simp at *
  omega
theorem dD_dg (u : Nat) : Dg (decDigits u) := by
  induction u using Nat.strongRecOn with
  | _ u ih =>
    by_cases h : u < 10
    · rw [decDigits_one h]
      intro c hc
      rw [List.mem_singleton] at hc
      subst hc
      rw [dig_nat h]; omega
    · rw [dD_big h]
      intro c hc
      rcases List.mem_append.1 hc with hc | hc
      · exact ih _ (by omega) c hc
      · rw [List.mem_singleton] at hc
        subst hc
        rw [dig_nat (by omega)]; omega
theorem dD_val (u : Nat) (hu : u < 18446744073709551616) : valG 0 (decDigits u) = some u := by
  induction u using Nat.strongRecOn with
  | _ u ih =>
    by_cases h : u < 10
    · rw [decDigits_one h]
      unfold valG
      rw [dig_nat h, if_neg (by omega)]
      unfold valG
      congr 1
      omega
    · rw [dD_big h, valG_app, ih _ (by omega) (by omega)]
      show valG (u / 10) [UInt8.ofNat (48 + u % 10)] = some u
      unfold valG
      rw [dig_nat (by omega), if_neg (by omega)]
      unfold valG
      congr 1
      omega
theorem st_dig {d : Nat} (h : d < 10) : isin [48] (UInt8.ofNat (48 + d)) = decide (d = 0) := by
  have : ∀ d : Nat, d < 10 → isin [48] (UInt8.ofNat (48 + d)) = decide (d = 0) := by decide +kernel
  exact this d h
theorem dD_head (u : Nat) (hu : 0 < u) : st [48] (decDigits u) = false := by
  induction u using Nat.strongRecOn with
  | _ u ih =>
    by_cases h : u < 10
    · rw [decDigits_one h]
      show isin [48] (UInt8.ofNat (48 + u)) = false
      rw [st_dig h]
      exact decide_eq_false (by omega)
    · rw [dD_big h, st_app (dD_ne _)]
      exact ih _ (by omega) (by omega)
theorem dD_zero : decDigits 0 = [48] := decDigits_one (by omega)
theorem cnt_dig : ∀ (t rest : List UInt8), Dg t → st dgL rest = false → cnt dgL (t ++ rest) = t.length
  | [], rest, _, h => cnt_zero h
  | c :: r, rest, hd, h => by
    show cnt dgL (c :: (r ++ rest)) = _
    unfold cnt
    rw [if_pos ((dg_iff c).2 (hd c (List.mem_cons_self ..))), cnt_dig r rest hd.tail h]
    rfl
/-- No number goes on with this. -/
structure Ends (t rest : List UInt8) : Prop where
  dot : st [46] rest = false
  ex : st [101, 69] rest = false
  d : t = [48] ∨ (st [48] t = false ∧ st dgL rest = false)
theorem dg_45 {c : UInt8} (h : 48 ≤ c.toNat) : isin [45] c = false := by
  rcases hb : isin [45] c with _ | _
  · rfl
  · have : c = 45 := by simpa [isin] using hb
    subst this
    exact absurd h (by decide)
theorem num_lit (q : Nat) (pre t rest : List UInt8) (hp : (q = 0 ∧ pre = []) ∨ (q = 1 ∧ pre = [45])) (ht : t ≠ []) (hd : Dg t) (he : Ends t rest) :
    num (pre ++ (t ++ rest)) = match valG 0 t with | none => bad 0 101 | some u => numR q (q + t.length) u := by
  have hlen : pre.length = q := by rcases hp with ⟨rfl, rfl⟩ | ⟨rfl, rfl⟩ <;> rfl
  have hs : sgn (pre ++ (t ++ rest)) = q := by
    rcases hp with ⟨rfl, rfl⟩ | ⟨rfl, rfl⟩
    · cases t with
      | nil => exact absurd rfl ht
      | cons c r =>
        unfold sgn
        rw [if_neg]
        show ¬ isin [45] c = true
        rw [dg_45 (hd c (List.mem_cons_self ..)).1]
        simp
    · rfl
  have hdr : (pre ++ (t ++ rest)).drop q = t ++ rest := by rw [← hlen, List.drop_left]
  have hdr2 : (pre ++ (t ++ rest)).drop (q + t.length) = rest := by rw [← List.drop_drop, hdr, List.drop_left]
  have hI : mI (pre ++ (t ++ rest)) = (q + t.length, true) := by
    unfold mI
    rw [hs, hdr]
    rcases he.d with rfl | ⟨h1, h2⟩
    · rfl
    · rw [if_neg (by rw [st_app ht, h1]; simp)]
      unfold skd
      rw [hdr, cnt_dig t rest hd h2]
      have : 0 < t.length := List.length_pos_iff.2 ht
      rw [decide_eq_true this]
  have hF : mF (pre ++ (t ++ rest)) = (q + t.length, true) := by
    unfold mF
    rw [hI]
    show (if (true && st [46] ((pre ++ (t ++ rest)).drop (q + t.length))) = true then _ else _) = _
    rw [hdr2, he.dot]
    rfl
  have hX : mX (pre ++ (t ++ rest)) = (q + t.length, true) := by
    unfold mX
    rw [hF]
    show (if (true && st [101, 69] ((pre ++ (t ++ rest)).drop (q + t.length))) = true then _ else _) = _
    rw [hdr2, he.ex]
    rfl
  have hg : dgs (pre ++ (t ++ rest)) = t := by
    rw [dgs_eq, hI, hs, hdr]
    show (t ++ rest).take (q + t.length - q) = t
    rw [show q + t.length - q = t.length by omega, List.take_left]
  rw [num_eq (by rw [hX]), hI, hX, hs, hg, if_neg (Nat.lt_irrefl _)]
  cases valG 0 t <;> rfl
theorem kd_dig {c : UInt8} (h : 48 ≤ c.toNat ∧ c.toNat ≤ 57) : kd c.toNat = 10 ∧ isin wsL c = false := by
  have : ∀ n : Nat, n < 256 → 48 ≤ n ∧ n ≤ 57 → kd n = 10 ∧ isin wsL (UInt8.ofNat n) = false := by decide +kernel
  have h2 := this c.toNat (UInt8.toNat_lt c) h
  rwa [UInt8.ofNat_toNat] at h2
theorem tok_lit (q : Nat) (pre t rest : List UInt8) (hp : (q = 0 ∧ pre = []) ∨ (q = 1 ∧ pre = [45])) (ht : t ≠ []) (hd : Dg t) (he : Ends t rest) :
    tok (pre ++ (t ++ rest)) 0 = tokR 0 (match valG 0 t with | none => bad 0 101 | some u => numR q (q + t.length) u) := by
  rw [← num_lit q pre t rest hp ht hd he]
  obtain ⟨c, r, hl, hk, hw⟩ : ∃ c r, pre ++ (t ++ rest) = c :: r ∧ kd c.toNat = 10 ∧ isin wsL c = false := by
    rcases hp with ⟨rfl, rfl⟩ | ⟨rfl, rfl⟩
    · cases t with
      | nil => exact absurd rfl ht
      | cons c r => exact ⟨c, r ++ rest, rfl, kd_dig (hd c (List.mem_cons_self ..))⟩
    · exact ⟨45, t ++ rest, rfl, by decide +kernel⟩
  rw [hl]
  have h0 : cnt wsL (c :: r) = 0 := cnt_zero hw
  have := tok_eq (l := c :: r) (c := c) (r := r) (by rw [h0]; rfl)
  rw [this, h0, rd_cons, if_neg (by rw [hk]; decide), if_pos hk]
theorem ends_of (t rest : List UInt8) (ht : t = [48] ∨ st [48] t = false) (hr : rest = [] ∨ rest = [44] ∨ rest = [45]) : Ends t rest := by
  rcases hr with rfl | rfl | rfl
  · exact ⟨rfl, rfl, ht.imp id (fun h => ⟨h, rfl⟩)⟩
  · exact ⟨by decide, by decide, ht.imp id (fun h => ⟨h, by decide⟩)⟩
  · exact ⟨by decide, by decide, ht.imp id (fun h => ⟨h, by decide⟩)⟩
theorem dD_or (u : Nat) : decDigits u = [48] ∨ st [48] (decDigits u) = false := by
  rcases Nat.eq_zero_or_pos u with rfl | h
  · exact Or.inl dD_zero
  · exact Or.inr (dD_head u h)
/-- The digits of u, and what may stand behind. -/
theorem tok_pos (u : Nat) (hu : u < 18446744073709551616) (rest : List UInt8) (hr : rest = [] ∨ rest = [44] ∨ rest = [45]) :
    tok (decDigits u ++ rest) 0 = tokR 0 (numR 0 (decDigits u).length u) := by
  have := tok_lit 0 [] (decDigits u) rest (Or.inl ⟨rfl, rfl⟩) (dD_ne u) (dD_dg u) (ends_of _ _ (dD_or u) hr)
  rw [dD_val u hu] at this
  rw [Nat.zero_add] at this
  exact this
theorem tok_neg (u : Nat) (hu : u < 18446744073709551616) : tok (45 :: decDigits u) 0 = tokR 0 (numR 1 (1 + (decDigits u).length) u) := by
  have := tok_lit 1 [45] (decDigits u) [] (Or.inr ⟨rfl, rfl⟩) (dD_ne u) (dD_dg u) (ends_of _ _ (dD_or u) (Or.inl rfl))
  rw [dD_val u hu, List.append_nil] at this
  exact this
/-- One digit more. -/
theorem tok_more (u d : Nat) (hu : u < 18446744073709551616) (h0 : 0 < u) (hd : d < 10) :
    tok (decDigits u ++ [UInt8.ofNat (48 + d)]) 0 = tokR 0 (if (18446744073709551615 - d) / 10 < u then bad 0 101 else numR 0 ((decDigits u).length + 1) (10 * u + d)) := by
  have hne : decDigits u ++ [UInt8.ofNat (48 + d)] ≠ [] := by simp
  have hdd : Dg (decDigits u ++ [UInt8.ofNat (48 + d)]) := fun c hc => by
    rcases List.mem_append.1 hc with hc | hc
    · exact dD_dg u c hc
    · rw [List.mem_singleton] at hc
      subst hc
      rw [dig_nat hd]; omega
  have := tok_lit 0 [] (decDigits u ++ [UInt8.ofNat (48 + d)]) [] (Or.inl ⟨rfl, rfl⟩) hne hdd (ends_of _ _ (Or.inr (by rw [st_app (dD_ne u)]; exact dD_head u h0)) (Or.inl rfl))
  rw [List.append_nil] at this
  rw [show ([] : List UInt8) ++ (decDigits u ++ [UInt8.ofNat (48 + d)]) = decDigits u ++ [UInt8.ofNat (48 + d)] from rfl] at this
  rw [this, valG_app, dD_val u hu]
  show tokR 0 (match valG u [UInt8.ofNat (48 + d)] with | none => bad 0 101 | some v => numR 0 (0 + (decDigits u ++ [UInt8.ofNat (48 + d)]).length) v) = _
  have e1 : valG u [UInt8.ofNat (48 + d)] = if (18446744073709551615 - d) / 10 < u then none else some (10 * u + d) := by
    unfold valG
    rw [dig_nat hd, show 48 + d - 48 = d by omega]
    rfl
  rw [e1, List.length_append, Nat.zero_add]
  by_cases h : (18446744073709551615 - d) / 10 < u
  · rw [if_pos h, if_pos h]
  · rw [if_neg h, if_neg h]; rfl
/-- .. behind nought: the nought alone is the number. -/
theorem tok_more0 (x : UInt8) (h1 : st [46] [x] = false) (h2 : st [101, 69] [x] = false) : tok ([48] ++ [x]) 0 = tokR 0 (numR 0 1 0) :=
  tok_lit 0 [] [48] [x] (Or.inl ⟨rfl, rfl⟩) (by simp) (fun c hc => by rw [List.mem_singleton] at hc; subst hc; decide) ⟨h1, h2, Or.inl rfl⟩
end Lx
end Go.Proofs.YtodmlgbomhmbpaaDoor
namespace Go.Proofs.YtodmlgbomhmbpaaDoor
namespace Lx
open Ut Go.Lib

theorem go_own (l : List UInt8) : ∀ (q : Q) (k : Nat), (go q l k).2.2.2 = 0 → go q (l.take ((go q l k).2.1 - k)) k = go q l k := by
  induction l with
  | nil => intro q k _; rw [List.take_nil]
  | cons c r ih =>
    intro q k h0
    by_cases h : q.st = 8
    · rw [go_8 h, go_8 h]
    · by_cases hs : (Ut.step q c).2 = 0
      · rw [go_ok h hs] at h0 ⊢
        have e := ih _ _ h0
        rcases go_facts r (Ut.step q c).1 (k + 1) with ⟨_, h2, _⟩ | ⟨h1, _⟩
        · generalize hat : (go (Ut.step q c).1 r (k + 1)).2.1 = at_ at *
          have e1 : at_ - k = (at_ - (k + 1)) + 1 := by omega
          rw [e1, List.take_succ_cons, go_ok h hs]
          exact e
        · exact absurd h0 h1
      · rw [go_err h hs] at h0
        exact absurd h0 hs
theorem com_own : ∀ (l w : List UInt8), com l w = w.length → com (l.take w.length) w = w.length
  | l, [], _ => by
    have : ∀ z : List UInt8, com z [] = 0 := fun z => by cases z <;> rfl
    rw [this]; rfl
  | [], b :: y, h => by rw [com_nil] at h; simp at h
  | a :: x, b :: y, h => by
    by_cases hab : a = b
    · rw [com_cons, if_pos hab] at h
      rw [List.length_cons, List.take_succ_cons, com_cons, if_pos hab, com_own x y (by simpa using h)]
    · rw [com_cons, if_neg hab] at h
      simp at h
theorem com_len : ∀ (l w : List UInt8), com l w ≤ l.length
  | [], w => by rw [com_nil]; exact Nat.zero_le _
  | a :: x, [] => by
    have : ∀ z : List UInt8, com z [] = 0 := fun z => by cases z <;> rfl
    rw [this]; exact Nat.zero_le _
  | a :: x, b :: y => by
    rw [com_cons]
    split
    · have := com_len x y
      rw [List.length_cons]; omega
    · exact Nat.zero_le _
/-- A token's own bytes give it. -/
theorem rd_own (c : UInt8) (r : List UInt8) (he : (rd (c :: r)).e = 0) : 0 < (rd (c :: r)).n ∧ (rd (c :: r)).n ≤ (c :: r).length ∧ 1 ≤ (rd (c :: r)).k ∧ (rd (c :: r)).k ≤ 12 ∧ rd ((c :: r).take (rd (c :: r)).n) = rd (c :: r) := by
  by_cases h0 : kd c.toNat = 0
  · rw [rd_cons, if_pos h0] at he; cases he
  · by_cases h10 : kd c.toNat = 10
    · have e : ∀ r', rd (c :: r') = num (c :: r') := fun r' => by rw [rd_cons, if_neg h0, if_pos h10]
      rw [e] at he ⊢
      have hc : (mX (c :: r)).2 = true := by
        rcases hb : (mX (c :: r)).2 with _ | _
        · rw [num_inc hb] at he; cases he
        · rfl
      have hpos := mX_pos (c :: r) hc
      have hle := (mX_le (c :: r)).1
      have hnM : num (c :: r) = numM (mX (c :: r)).1 ((c :: r).take (mX (c :: r)).1) := num_M hc
      have hn : (num (c :: r)).n = (mX (c :: r)).1 ∧ 1 ≤ (num (c :: r)).k ∧ (num (c :: r)).k ≤ 12 := by
        rw [hnM] at he ⊢
        unfold numM at he ⊢
        rcases hi : parseIntB 64 ((c :: r).take (mX (c :: r)).1) with v | _ | _
        · exact ⟨rfl, by show 1 ≤ 10; decide, by show 10 ≤ 12; decide⟩
        all_goals
          rcases hu : parseUintB 64 ((c :: r).take (mX (c :: r)).1) with u | _ | _
          · exact ⟨rfl, by show 1 ≤ 11; decide, by show 11 ≤ 12; decide⟩
          all_goals
            rw [hi, hu] at he
            cases he
      rw [hn.1]
      refine ⟨hpos, hle, hn.2.1, hn.2.2, ?_⟩
      have hm := (Loc.tk (c :: r) (mX (c :: r)).1).mX (Nat.le_refl _)
      obtain ⟨r', hr⟩ := take_hd (c := c) (r := r) hpos
      rw [hnM]
      have h2 : (mX ((c :: r).take (mX (c :: r)).1)).2 = true := by rw [hm]; exact hc
      have h3 := num_M h2
      rw [hm, List.take_take, Nat.min_self] at h3
      rw [← h3, hr, e]
    · by_cases h12 : kd c.toNat = 12
      · have e : ∀ r', rd (c :: r') = Lx.txt (c :: r') := fun r' => by rw [rd_cons, if_neg h0, if_neg h10, if_pos h12]
        rw [e] at he ⊢
        have hu : (unq (c :: r)).2.2.2 = 0 := by
          rcases Nat.eq_zero_or_pos (unq (c :: r)).2.2.2 with h | h
          · exact h
          · unfold Lx.txt at he
            rw [if_neg (by omega)] at he
            exact he
        have ht : ∀ l, (unq l).2.2.2 = 0 → Lx.txt l = ⟨12, (unq l).2.1, 0, 0, (unq l).1, 0⟩ := fun l h => by unfold Lx.txt; rw [if_pos h]
        have h2 := unq_two hu
        rw [ht _ hu]
        refine ⟨by show 0 < (unq (c :: r)).2.1; omega, h2.2, by show 1 ≤ 12; decide, by show 12 ≤ 12; decide, ?_⟩
        have ho := go_own (c :: r) q0 0 hu
        rw [Nat.sub_zero] at ho
        change unq ((c :: r).take (unq (c :: r)).2.1) = unq (c :: r) at ho
        obtain ⟨r', hr⟩ := take_hd (c := c) (r := r) (n := (unq (c :: r)).2.1) (by omega)
        show rd ((c :: r).take (unq (c :: r)).2.1) = _
        rw [hr] at ho ⊢
        rw [e, ht _ (by rw [ho]; exact hu), ho]
      · have hw := kd_word h0 h10 h12
        have e : ∀ r', rd (c :: r') = wrd (kd c.toNat) (c :: r') := fun r' => by rw [rd_cons, if_neg h0, if_neg h10, if_neg h12]
        rw [e] at he ⊢
        have hc : com (c :: r) (wordL (kd c.toNat)) = (wordL (kd c.toNat)).length := by
          rcases Nat.decEq (com (c :: r) (wordL (kd c.toNat))) (wordL (kd c.toNat)).length with h | h
          · unfold wrd at he; rw [if_neg h] at he; cases he
          · exact h
        have ht : wrd (kd c.toNat) (c :: r) = ok0 (kd c.toNat) (wordL (kd c.toNat)).length := by unfold wrd; rw [if_pos hc]
        have hl : ∀ k : Nat, k < 10 → 1 ≤ k → 0 < (wordL k).length := by decide +kernel
        have hp := hl _ (by omega) hw.1
        have hlen := com_len (c :: r) (wordL (kd c.toNat))
        rw [ht]
        refine ⟨hp, by show (wordL (kd c.toNat)).length ≤ _; omega, hw.1, by show kd c.toNat ≤ 12; omega, ?_⟩
        have ho := com_own (c :: r) (wordL (kd c.toNat)) hc
        obtain ⟨r', hr⟩ := take_hd (c := c) (r := r) hp
        show rd ((c :: r).take (wordL (kd c.toNat)).length) = _
        rw [hr] at ho ⊢
        rw [e]
        unfold wrd
        rw [if_pos ho]
theorem kd_ws {c : UInt8} (h : kd c.toNat ≠ 0) : isin wsL c = false := by
  have : ∀ n : Nat, n < 256 → kd n ≠ 0 → isin wsL (UInt8.ofNat n) = false := by decide +kernel
  have h2 := this c.toNat (UInt8.toNat_lt c) h
  rwa [UInt8.ofNat_toNat] at h2
/-- A token's own bytes behind a blank and a line's end. -/
theorem own_next (c : UInt8) (r : List UInt8) (he : (rd (c :: r)).e = 0) :
    tok (32 :: 10 :: (c :: r).take (rd (c :: r)).n) 0 = ⟨(rd (c :: r)).k, 2, 2 + (rd (c :: r)).n, (rd (c :: r)).N, (rd (c :: r)).U, (rd (c :: r)).x, 0⟩ := by
  obtain ⟨h1, _, _, _, h5⟩ := rd_own c r he
  have hk : kd c.toNat ≠ 0 := by
    intro h0
    rw [rd_cons, if_pos h0] at he
    cases he
  obtain ⟨r', hr⟩ := take_hd (c := c) (r := r) h1
  rw [hr] at h5 ⊢
  have hc : cnt wsL (32 :: 10 :: c :: r') = 2 := by
    have h0 : cnt wsL (c :: r') = 0 := cnt_zero (kd_ws hk)
    show cnt wsL (32 :: 10 :: c :: r') = 2
    unfold cnt
    rw [if_pos (by decide)]
    unfold cnt
    rw [if_pos (by decide), h0]
  have := tok_eq (l := 32 :: 10 :: c :: r') (c := c) (r := r') (by rw [hc]; rfl)
  rw [this, hc, h5]
  unfold tokR
  rw [if_pos he]
/-- A token that is there: what lies before it, and its bytes. -/
theorem tok_there (l : List UInt8) (k : Nat) (he : (tok l k).e = 0) (hk : (tok l k).k ≠ 0) :
    ∃ c r, l.drop (tok l k).f = c :: r ∧ (tok l k).f = k + cnt wsL (l.drop k) ∧ (rd (c :: r)).e = 0 ∧ tok l k = ⟨(rd (c :: r)).k, (tok l k).f, (tok l k).f + (rd (c :: r)).n, (rd (c :: r)).N, (rd (c :: r)).U, (rd (c :: r)).x, 0⟩ := by
  unfold tok at he hk
  by_cases h : l.length ≤ k + cnt wsL (l.drop k)
  · rw [if_pos h] at hk
    exact absurd rfl hk
  · rw [if_neg h] at he hk
    have ht : tok l k = tokR (k + cnt wsL (l.drop k)) (rd (l.drop (k + cnt wsL (l.drop k)))) := by unfold tok; rw [if_neg h]
    have he2 : (rd (l.drop (k + cnt wsL (l.drop k)))).e = 0 := by
      rcases Nat.eq_zero_or_pos (rd (l.drop (k + cnt wsL (l.drop k)))).e with h0 | h0
      · exact h0
      · unfold tokR at he
        rw [if_neg (by omega)] at he
        exact he
    have ht2 : tok l k = ⟨(rd (l.drop (k + cnt wsL (l.drop k)))).k, k + cnt wsL (l.drop k), k + cnt wsL (l.drop k) + (rd (l.drop (k + cnt wsL (l.drop k)))).n, (rd (l.drop (k + cnt wsL (l.drop k)))).N, (rd (l.drop (k + cnt wsL (l.drop k)))).U, (rd (l.drop (k + cnt wsL (l.drop k)))).x, 0⟩ := by
      rw [ht]; unfold tokR; rw [if_pos he2]
    cases hd : l.drop (k + cnt wsL (l.drop k)) with
    | nil =>
      have := congrArg List.length hd
      rw [List.length_drop, List.length_nil] at this
      omega
    | cons c r =>
      rw [hd] at he2 ht2
      refine ⟨c, r, ?_, ?_, he2, ?_⟩
      · rw [ht2]; exact hd
      · rw [ht2]
      · rw [ht2]
end Lx
end Go.Proofs.YtodmlgbomhmbpaaDoor
namespace Go.Proofs.YtodmlgbomhmbpaaDoor
namespace Lx
open Ut Go.Lib

def ws (l : List UInt8) : Prop := ∀ c ∈ l, isin wsL c = true
/-- The tokens from an offset on, as the law tells them. -/
def Cov (l : List UInt8) : Nat → List TK → Prop
  | k, [] => k ≤ l.length ∧ ws (l.drop k)
  | k, t :: ts => k ≤ t.f ∧ t.f < t.t ∧ t.t ≤ l.length ∧ ws ((l.drop k).take (t.f - k)) ∧ 1 ≤ t.k ∧ t.k ≤ 12 ∧
    tok (32 :: 10 :: (l.drop t.f).take (t.t - t.f)) 0 = ⟨t.k, 2, 2 + (t.t - t.f), t.N, t.U, t.x, 0⟩ ∧ Cov l t.t ts
theorem ws_cnt (l : List UInt8) : ws (l.take (cnt wsL l)) := fun c hc => cnt_mem wsL l c hc
theorem toks_cov (l : List UInt8) : ∀ (n k : Nat), k ≤ l.length → l.length < n + k → (toks l n k).2.2 = 0 → Cov l k (toks l n k).1 ∧ (toks l n k).2.1 = 0
  | 0, k, hk, hn, _ => by omega
  | n + 1, k, hk, hn, h0 => by
    have hc := cnt_le wsL (l.drop k)
    rw [List.length_drop] at hc
    rw [toks_succ] at h0 ⊢
    by_cases he : (tok l k).e = 0
    · rw [if_neg (fun h => h he)] at h0 ⊢
      by_cases hz : (tok l k).k = 0
      · rw [if_pos hz]
        refine ⟨⟨hk, ?_⟩, rfl⟩
        have hall : cnt wsL (l.drop k) = (l.drop k).length := by
          rw [List.length_drop]
          rcases Nat.lt_or_ge (k + cnt wsL (l.drop k)) l.length with h1 | h1
          · exfalso
            have ht : tok l k = tokR (k + cnt wsL (l.drop k)) (rd (l.drop (k + cnt wsL (l.drop k)))) := by unfold tok; rw [if_neg (by omega)]
            cases hd : l.drop (k + cnt wsL (l.drop k)) with
            | nil =>
              have := congrArg List.length hd
              rw [List.length_drop, List.length_nil] at this
              omega
            | cons c r =>
              rw [hd] at ht
              have he2 : (rd (c :: r)).e = 0 := by
                rcases Nat.eq_zero_or_pos (rd (c :: r)).e with h2 | h2
                · exact h2
                · rw [ht] at he
                  unfold tokR at he
                  rw [if_neg (by omega)] at he
                  exact he
              have h3 := (rd_own c r he2).2.2.1
              rw [ht] at hz
              unfold tokR at hz
              rw [if_pos he2] at hz
              have hz2 : (rd (c :: r)).k = 0 := hz
              omega
          · omega
        have := ws_cnt (l.drop k)
        rwa [hall, List.take_length] at this
      · rw [if_neg hz] at h0 ⊢
        obtain ⟨c, r, hd, hf, he2, ht⟩ := tok_there l k he hz
        obtain ⟨h1, h2, h3, h4, h5⟩ := rd_own c r he2
        have hlen := congrArg List.length hd
        rw [List.length_drop] at hlen
        have ht2 : (tok l k).t = (tok l k).f + (rd (c :: r)).n := by rw [ht]
        have h00 : (toks l n (tok l k).t).2.2 = 0 := by
          unfold pre at h0
          by_cases hx : (toks l n (tok l k).t).2.2 = 0
          · exact hx
          · rw [if_pos hx] at h0; exact absurd h0 hx
        have ih := toks_cov l n (tok l k).t (by omega) (by omega) h00
        unfold pre
        rw [if_neg (fun h => h h00)]
        refine ⟨⟨by omega, by omega, by omega, ?_, ?_, ?_, ?_, ih.1⟩, rfl⟩
        · rw [hf, show k + cnt wsL (l.drop k) - k = cnt wsL (l.drop k) by omega]
          exact ws_cnt _
        · rw [ht]; exact h3
        · rw [ht]; exact h4
        · have := own_next c r he2
          rw [hd, ht2, show (tok l k).f + (rd (c :: r)).n - (tok l k).f = (rd (c :: r)).n by omega, this, ht]
    · rw [if_pos he] at h0
      exact absurd h0 he
theorem alls_cov (l : List UInt8) (h : (alls l).2.2 = 0) : Cov l 0 (alls l).1 ∧ (alls l).2.1 = 0 := toks_cov l (l.length + 1) 0 (Nat.zero_le _) (by omega) h
theorem alls_bad (l : List UInt8) (h : (alls l).2.2 ≠ 0) : (alls l).1 = [] ∧ (alls l).2.1 ≤ l.length := by
  have : ∀ (n k : Nat), k ≤ l.length → (toks l n k).2.2 ≠ 0 → (toks l n k).1 = [] ∧ (toks l n k).2.1 ≤ l.length := by
    intro n
    induction n with
    | zero => intro k _ h; exact absurd rfl h
    | succ n ih =>
      intro k hk h
      rw [toks_succ] at h ⊢
      rcases tok_facts l hk with ⟨h1, h2, _⟩ | ⟨h1, h2, h3, h4, h5, h6⟩ | ⟨h1, h2, _⟩
      · rw [if_neg (fun h => h h1), if_pos h2] at h; exact absurd rfl h
      · rw [if_neg (fun h => h h1), if_neg (by omega)] at h ⊢
        unfold pre at h ⊢
        by_cases hx : (toks l n (tok l k).t).2.2 = 0
        · rw [if_neg (fun h => h hx)] at h; exact absurd rfl h
        · rw [if_pos hx]
          exact ⟨rfl, (ih _ h6 hx).2⟩
      · rw [if_pos h1]
        exact ⟨rfl, h2⟩
  exact this _ _ (Nat.zero_le _) h
end Lx
end Go.Proofs.YtodmlgbomhmbpaaDoor
namespace Go.Proofs.YtodmlgbomhmbpaaDoor
namespace Lx
open Ut Go.Lib

theorem go_ext : ∀ (l : List UInt8) (q : Q) (k : Nat) (b : List UInt8), (go q l k).2.2.2 = 0 → go q (l ++ b) k = go q l k
  | [], q, k, b, h => by
    by_cases h8 : q.st = 8
    · rw [go_8 h8, go_8 h8]
    · rw [go_nil h8] at h; cases h
  | c :: r, q, k, b, h => by
    by_cases h8 : q.st = 8
    · rw [go_8 h8, go_8 h8]
    · by_cases hs : (Ut.step q c).2 = 0
      · rw [go_ok h8 hs] at h
        rw [List.cons_append, go_ok h8 hs, go_ok h8 hs]
        exact go_ext r _ _ b h
      · rw [go_err h8 hs] at h
        exact absurd h hs
/-- x spells the token d, whatever stands behind white space. -/
structure Wd (x : List UInt8) (d : RD) : Prop where
  e : d.e = 0
  k : 1 ≤ d.k
  n : d.n = x.length
  hd : ∃ c r, x = c :: r ∧ kd c.toNat ≠ 0
  rd : ∀ rest, st wsL rest = true → Lx.rd (x ++ rest) = d
theorem cnt_ws : ∀ (b l : List UInt8), ws b → st wsL l = false → cnt wsL (b ++ l) = b.length
  | [], l, _, h => cnt_zero h
  | c :: r, l, hb, h => by
    show cnt wsL (c :: (r ++ l)) = _
    unfold cnt
    rw [if_pos (hb c (List.mem_cons_self ..)), cnt_ws r l (fun x hx => hb x (List.mem_cons_of_mem _ hx)) h]
    rfl
theorem wd_tok {x : List UInt8} {d : RD} (h : Wd x d) (a b rest : List UInt8) (hb : ws b) (hr : st wsL rest = true) :
    tok (a ++ (b ++ (x ++ rest))) a.length = ⟨d.k, a.length + b.length, a.length + b.length + x.length, d.N, d.U, d.x, 0⟩ := by
  obtain ⟨c, r, hx, hk⟩ := h.hd
  have hs : st wsL (x ++ rest) = false := by rw [hx]; exact kd_ws hk
  have hc : cnt wsL ((a ++ (b ++ (x ++ rest))).drop a.length) = b.length := by rw [List.drop_left]; exact cnt_ws b _ hb hs
  have hd : (a ++ (b ++ (x ++ rest))).drop (a.length + b.length) = x ++ rest := by rw [← List.drop_drop, List.drop_left, List.drop_left]
  have hlen : a.length + b.length < (a ++ (b ++ (x ++ rest))).length := by rw [hx]; simp
  unfold tok
  rw [hc, if_neg (by omega), hd, h.rd rest hr]
  unfold tokR
  rw [if_pos h.e, h.n]
/-- The text s spells the tokens ts, whatever stands behind white space. -/
structure Txt (s : List UInt8) (ts : List TK) : Prop where
  len : ts.length ≤ s.length
  go : ∀ rest, st wsL rest = true → ∀ m, toks (s ++ rest) (m + ts.length) 0 = pre ts (toks (s ++ rest) m s.length)
theorem Txt.nil : Txt [] [] := ⟨Nat.le_refl _, fun rest _ m => by rw [pre_nil]; rfl⟩
theorem Txt.step {s : List UInt8} {ts : List TK} (h : Txt s ts) {x b : List UInt8} {d : RD} (hw : Wd x d) (hb : ws b) (hb0 : b ≠ []) :
    Txt (s ++ (b ++ x)) (ts ++ [⟨d.k, s.length + b.length, s.length + b.length + x.length, d.N, d.U, d.x, 0⟩]) := by
  have hl := h.len
  have hx : 0 < x.length := by obtain ⟨c, r, hx, _⟩ := hw.hd; rw [hx]; simp
  refine ⟨by simp; omega, fun rest hr m => ?_⟩
  have e1 : s ++ (b ++ x) ++ rest = s ++ (b ++ (x ++ rest)) := by simp
  have hst : st wsL (b ++ (x ++ rest)) = true := by
    cases b with
    | nil => exact absurd rfl hb0
    | cons c r => exact hb c (List.mem_cons_self ..)
  have ht := wd_tok hw s b rest hb hr
  rw [e1, show m + (ts ++ [(⟨d.k, s.length + b.length, s.length + b.length + x.length, d.N, d.U, d.x, 0⟩ : TK)]).length = (m + 1) + ts.length by simp; omega]
  rw [h.go _ hst (m + 1)]
  have hk := hw.k
  rw [toks_step (by rw [ht]) (by rw [ht]; show d.k ≠ 0; omega), ht]
  congr 1
  show toks _ m (s.length + b.length + x.length) = toks _ m (s ++ (b ++ x)).length
  congr 1
  simp; omega
/-- .. and so behind the last line's end. -/
theorem Txt.alls {s : List UInt8} {ts : List TK} (h : Txt s ts) : alls (s ++ [10]) = (ts, 0, 0) := by
  have hl := h.len
  unfold Lx.alls
  have e : (s ++ [10]).length + 1 = (s.length + 1 - ts.length + 1) + ts.length := by simp; omega
  rw [e, h.go [10] rfl]
  have ht : tok (s ++ [10]) s.length = ⟨0, s.length + 1, s.length + 1, 0, 0, [], 0⟩ := by
    have hc : cnt wsL ((s ++ [10]).drop s.length) = 1 := by rw [List.drop_left]; rfl
    unfold tok
    rw [hc, if_pos (by simp)]
  exact toks_end (by rw [ht]) (by rw [ht]) ts
/-- The words of kinds 1 to 9. -/
theorem wd_word (k : Nat) (h1 : 1 ≤ k) (h9 : k ≤ 9) : Wd (wordL k) (ok0 k (wordL k).length) := by
  have hh : ∀ k : Nat, k < 10 → 1 ≤ k → (wordL k).head?.map (fun c => kd c.toNat) = some k := by decide +kernel
  have hk := hh k (by omega) h1
  cases hw : wordL k with
  | nil => rw [hw] at hk; cases hk
  | cons c r =>
    rw [hw] at hk
    have hkd : kd c.toNat = k := by simpa using hk
    refine ⟨rfl, h1, rfl, ⟨c, r, rfl, by omega⟩, fun rest _ => ?_⟩
    have hc : ∀ (w l : List UInt8), com (w ++ l) w = w.length := by
      intro w
      induction w with
      | nil => intro l; have : ∀ z : List UInt8, com z [] = 0 := fun z => by cases z <;> rfl
               rw [this]; rfl
      | cons a x ih => intro l; rw [List.cons_append, com_cons, if_pos rfl, ih]; rfl
    have e : rd (c :: (r ++ rest)) = wrd k (c :: (r ++ rest)) := by rw [rd_cons, if_neg (by omega), if_neg (by omega), if_neg (by omega), hkd]
    rw [List.cons_append, e]
    unfold wrd
    have := hc (c :: r) rest
    rw [hw, ← List.cons_append, if_pos this]
theorem st_ws {rest : List UInt8} (h : st wsL rest = true) : st [46] rest = false ∧ st [101, 69] rest = false ∧ st dgL rest = false := by
  cases rest with
  | nil => cases h
  | cons c r =>
    have : ∀ n : Nat, n < 256 → isin wsL (UInt8.ofNat n) = true → isin [46] (UInt8.ofNat n) = false ∧ isin [101, 69] (UInt8.ofNat n) = false ∧ isin dgL (UInt8.ofNat n) = false := by decide +kernel
    have h2 := this c.toNat (UInt8.toNat_lt c)
    rw [UInt8.ofNat_toNat] at h2
    exact h2 h
/-- An integer's digits. -/
theorem wd_num (q u : Nat) (hq : q = 0 ∨ q = 1) (hu : u < 18446744073709551616) (hn : q = 1 → u ≤ 9223372036854775808) :
    Wd ((if q = 1 then [45] else []) ++ decDigits u) (numR q (q + (decDigits u).length) u) := by
  have hd := dD_dg u
  have hne := dD_ne u
  have hlen : ((if q = 1 then [45] else []) ++ decDigits u).length = q + (decDigits u).length := by rcases hq with rfl | rfl <;> simp <;> omega
  refine ⟨?_, ?_, ?_, ?_, fun rest hr => ?_⟩
  · unfold numR
    rcases hq with rfl | rfl
    · rw [if_neg (by decide)]; split <;> rfl
    · rw [if_pos rfl, if_neg (by have := hn rfl; omega)]
  · unfold numR
    rcases hq with rfl | rfl
    · rw [if_neg (by decide)]; split
      · show 1 ≤ 11; decide
      · show 1 ≤ 10; decide
    · rw [if_pos rfl, if_neg (by have := hn rfl; omega)]; show 1 ≤ 10; decide
  · rw [hlen]
    unfold numR
    rcases hq with rfl | rfl
    · rw [if_neg (by decide)]; split <;> rfl
    · rw [if_pos rfl, if_neg (by have := hn rfl; omega)]
  · rcases hq with rfl | rfl
    · cases he : decDigits u with
      | nil => exact absurd he hne
      | cons c r =>
        rw [he] at hd
        exact ⟨c, r, rfl, by rw [(kd_dig (hd c (List.mem_cons_self ..))).1]; decide⟩
    · exact ⟨45, decDigits u, rfl, by decide +kernel⟩
  · obtain ⟨h1, h2, h3⟩ := st_ws hr
    have hE : Ends (decDigits u) rest := ⟨h1, h2, (dD_or u).imp id (fun h => ⟨h, h3⟩)⟩
    have hl := num_lit q (if q = 1 then [45] else []) (decDigits u) rest (by rcases hq with rfl | rfl <;> simp) hne hd hE
    rw [dD_val u hu] at hl
    change num ((if q = 1 then [45] else []) ++ (decDigits u ++ rest)) = numR q (q + (decDigits u).length) u at hl
    rw [List.append_assoc, ← hl]
    rcases hq with rfl | rfl
    · cases he : decDigits u with
      | nil => exact absurd he hne
      | cons c r =>
        rw [he] at hd
        show rd (c :: (r ++ rest)) = num (c :: (r ++ rest))
        rw [rd_cons, if_neg (by rw [(kd_dig (hd c (List.mem_cons_self ..))).1]; decide), if_pos (kd_dig (hd c (List.mem_cons_self ..))).1]
    · show rd (45 :: (decDigits u ++ rest)) = num (45 :: (decDigits u ++ rest))
      rw [rd_cons, if_neg (by decide +kernel), if_pos (by decide +kernel)]
/-- A literal. -/
theorem wd_text (q T : List UInt8) (h : unq q = (T, q.length, 0, 0)) (h34 : ∃ r, q = 34 :: r) : Wd q ⟨12, q.length, 0, 0, T, 0⟩ := by
  obtain ⟨r, hr⟩ := h34
  refine ⟨rfl, by show 1 ≤ 12; decide, rfl, ⟨34, r, hr, by decide +kernel⟩, fun rest _ => ?_⟩
  have hg : unq (q ++ rest) = (T, q.length, 0, 0) := by
    have := go_ext q q0 0 rest (by rw [show go q0 q 0 = unq q from rfl, h])
    rw [show unq (q ++ rest) = go q0 (q ++ rest) 0 from rfl, this]; exact h
  have e : rd (q ++ rest) = Lx.txt (q ++ rest) := by
    rw [hr]
    show rd (34 :: (r ++ rest)) = Lx.txt (34 :: (r ++ rest))
    rw [rd_cons, if_neg (by decide +kernel), if_neg (by decide +kernel), if_pos (by decide +kernel)]
  rw [e]
  unfold Lx.txt
  rw [hg, if_pos rfl]
end Lx
end Go.Proofs.YtodmlgbomhmbpaaDoor
