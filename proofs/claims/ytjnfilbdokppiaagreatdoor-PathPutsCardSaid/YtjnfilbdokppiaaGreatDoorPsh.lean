/-
  What is proved here: plain facts of the texts of paths; no program in this text; no condition but those that each fact states; and: plain facts: the text of a path of valid steps parses to the path; no program in this text; no condition but those that each fact states; and: the contract of (*strings.Builder).WriteString at this program, one application of the library's own law; conditions: those that it states; and: contracts of path.isValid, path.textOf and path.Show; conditions: the tables that they read hold what is laid, and the lengths that each states; and: the contract of path.Show; conditions: the tables that it reads hold what is laid, and the lengths that it states.
-/
import Derived.Test.YtjnfilbdokppiaaGreatDoorUQuote
import Derived.Test.YtjnfilbdokppiaaGreatDoorPf
import Derived.Test.YtjnfilbdokppiaaGreatDoorUBack
import Derived.Test.YtjnfilbdokppiaaGreatDoorShelf
import Derived.Shelf.Strings.Builder1
import Derived.Shelf.Unicode.DecodeSlow
import Derived.Test.YtjnfilbdokppiaaGreatDoorKBase
import Derived.Test.YtjnfilbdokppiaaGreatDoorFitB
import Derived.Lib.AppendIntMem
namespace Go.Proofs.YtjnfilbdokppiaaGreatDoor
open U U.Ut Go.Lib

/-- What follows the opening bracket: the step and the length of its text, or an offset and an error. -/
def stIn (l : List UInt8) : (Stp × Nat) ⊕ (Nat × Nat) :=
  if (dgs l).length ≠ 0 then (if 9 < (dgs l).length ∨ (1 < (dgs l).length ∧ l.head? = some 48) then .inr (0, 4) else .inl (⟨⟨#[]⟩, (dgV (dgs l) : Int), false⟩, (dgs l).length))
  else if l.head? = some 34 then
    (if (unq l).2.2.2 ≠ 0 then .inr ((unq l).2.2.1, (unq l).2.2.2) else if hasZ (str (unq l).1) = true then .inr (0, 70) else .inl (⟨str (unq l).1, 0, true⟩, (unq l).2.1))
  else .inr (0, 4)
def stp (r : List UInt8) : (Stp × Nat) ⊕ (Nat × Nat) :=
  if r.head? = some 91 then
    match stIn (r.drop 1) with
    | .inr (o, e) => .inr (1 + o, e)
    | .inl (s, n) => if (r.drop (1 + n)).head? = some 93 then .inl (s, n + 2) else .inr (1 + n, 4)
  else .inr (0, 4)
def prs : Nat → List UInt8 → Nat → List Stp → List Stp × Nat × Nat
  | 0, _, k, _ => ([], k, 4)
  | f + 1, r, k, ps => if r = [] then (ps, 0, 0) else if ps.length = 64 then ([], k, 5) else
    match stp r with
    | .inr (o, e) => ([], k + o, e)
    | .inl (s, n) => prs f (r.drop n) (k + n) (ps ++ [s])
def parseP (l : List UInt8) : List Stp × Nat × Nat := prs (l.length + 1) l 0 []

theorem stp_pos {r : List UInt8} {s : Stp} {n : Nat} (h : stp r = .inl (s, n)) : 2 ≤ n := by
  unfold stp at h
  split at h
  · split at h
    · cases h
    · split at h
      · injection h with h; injection h with h1 h2; omega
      · cases h
  · cases h
/-- The fuel does not matter, if there is enough. -/
theorem prs_fuel : ∀ (f g : Nat) (r : List UInt8) (k : Nat) (ps : List Stp), r.length < f → r.length < g → prs f r k ps = prs g r k ps
  | 0, _, r, _, _, h, _ => by omega
  | f + 1, 0, r, _, _, _, h => by omega
  | f + 1, g + 1, r, k, ps, h1, h2 => by
    unfold prs
    by_cases h0 : r = []
    · rw [if_pos h0, if_pos h0]
    · rw [if_neg h0, if_neg h0]
      by_cases h6 : ps.length = 64
      · rw [if_pos h6, if_pos h6]
      · rw [if_neg h6, if_neg h6]
        cases hs : stp r with
        | inr x => rfl
        | inl x =>
          obtain ⟨s, n⟩ := x
          have := stp_pos hs
          have h0' : 0 < r.length := List.length_pos_iff.2 h0
          exact prs_fuel f g _ _ _ (by rw [List.length_drop]; omega) (by rw [List.length_drop]; omega)

/-- The rest of the work, from an offset on. -/
def PR (l : List UInt8) (k : Nat) (ps : List Stp) : List Stp × Nat × Nat := prs (l.length + 1 - k) (l.drop k) k ps
theorem pr_start (l : List UInt8) : parseP l = PR l 0 [] := rfl
theorem pr_end {l : List UInt8} {k : Nat} (ps : List Stp) (h : k = l.length) : PR l k ps = (ps, 0, 0) := by
  subst h
  unfold PR
  rw [show l.length + 1 - l.length = 0 + 1 by omega, List.drop_length]
  rfl
theorem pr_limit {l : List UInt8} {k : Nat} {ps : List Stp} (h : k < l.length) (h6 : ps.length = 64) : PR l k ps = ([], k, 5) := by
  unfold PR
  rw [show l.length + 1 - k = (l.length - k) + 1 by omega]
  unfold prs
  rw [if_neg (by intro e; have := congrArg List.length e; rw [List.length_drop] at this; simp at this; omega), if_pos h6]
theorem pr_bad {l : List UInt8} {k o e : Nat} {ps : List Stp} (h : k < l.length) (h6 : ps.length ≠ 64) (hs : stp (l.drop k) = .inr (o, e)) : PR l k ps = ([], k + o, e) := by
  unfold PR
  rw [show l.length + 1 - k = (l.length - k) + 1 by omega]
  unfold prs
  rw [if_neg (by intro e; have := congrArg List.length e; rw [List.length_drop] at this; simp at this; omega), if_neg h6, hs]
theorem pr_step {l : List UInt8} {k n : Nat} {ps : List Stp} {s : Stp} (h : k < l.length) (h6 : ps.length ≠ 64) (hs : stp (l.drop k) = .inl (s, n)) : PR l k ps = PR l (k + n) (ps ++ [s]) := by
  unfold PR
  rw [show l.length + 1 - k = (l.length - k) + 1 by omega]
  rw [prs]
  rw [if_neg (by intro e; have := congrArg List.length e; rw [List.length_drop] at this; simp at this; omega), if_neg h6, hs]
  have := stp_pos hs
  simp only [List.drop_drop]
  by_cases hk : k + n ≤ l.length
  · exact prs_fuel _ _ _ _ _ (by rw [List.length_drop]; omega) (by rw [List.length_drop]; omega)
  · rw [List.drop_eq_nil_of_le (by omega)]
    obtain ⟨f, hf⟩ : ∃ f, l.length - k = f + 1 := ⟨l.length - k - 1, by omega⟩
    rw [hf]
    by_cases h0 : l.length + 1 - (k + n) = 0
    · exfalso
      revert hs
      unfold stp
      split
      · split
        · intro hs; cases hs
        · split
          · rename_i hh
            intro hs
            injection hs with hs; injection hs with h1 h2
            rw [List.drop_drop] at hh
            rename_i n' _
            have : (l.drop (k + (1 + n'))).length ≠ 0 := by intro e; rw [List.eq_nil_of_length_eq_zero e] at hh; simp at hh
            rw [List.length_drop] at this
            omega
          · intro hs; cases hs
      · intro hs; cases hs
    · obtain ⟨g, hg⟩ : ∃ g, l.length + 1 - (k + n) = g + 1 := ⟨_, (Nat.succ_pred_eq_of_pos (by omega)).symm⟩
      rw [hg]
      rfl

/-- A valid step, and its text. -/
def okS (s : Stp) : Bool := if s.b = true then decide (s.a = 0) && (validD s.k.data.toList && !hasZ s.k) else decide (s.k.size = 0) && (decide (0 ≤ s.a) && decide (s.a ≤ 999999999))
def txtS (s : Stp) : List UInt8 := 91 :: ((if s.b = true then quo s.k.data.toList else decDigits s.a.toNat) ++ [93])
def showR (ps : List Stp) : List UInt8 × Nat := if 64 < ps.length then ([], 5) else if ps.all okS = true then (ps.flatMap txtS, 0) else ([], 2)

end Go.Proofs.YtjnfilbdokppiaaGreatDoor
namespace Go.Proofs.YtjnfilbdokppiaaGreatDoor
open U U.Ut Go.Lib

/-- Valid bytes are the encodings of scalar values. -/
theorem valid_txt : ∀ (n : Nat) (l : List UInt8), l.length ≤ n → validGoD n l = true → ∃ L, U.txt L = l
  | n, [], _, _ => ⟨[], rfl⟩
  | 0, c :: r, h, _ => by simp at h
  | n + 1, c :: r, hl, h => by
    have hne : (c :: r) ≠ [] := by simp
    obtain ⟨h1, h2⟩ := validGoD_step (n + 1) _ hl h hne
    obtain ⟨hs, he, hle, h0⟩ := valid_head hne h1
    obtain ⟨L, hL⟩ := valid_txt n ((c :: r).drop (decodeL (c :: r)).2) (by rw [List.length_drop]; omega) h2
    generalize hR : (decodeL (c :: r)).1 = R at *
    obtain ⟨i, hi⟩ : ∃ i : Int, rn i = R := by
      unfold scal at hs
      by_cases hr : R < 55296
      · refine ⟨(R : Int), ?_⟩
        have : brg (R : Int) = R := by unfold brg; omega
        unfold rn
        rw [this, if_pos hr]
      · refine ⟨((R - 2048 : Nat) : Int), ?_⟩
        have : brg ((R - 2048 : Nat) : Int) = R - 2048 := by unfold brg; omega
        unfold rn
        rw [this, if_neg (by omega)]
        omega
    exact ⟨i :: L, by rw [txt_cons, hL, hi, he, List.take_append_drop]⟩
theorem unq_valid {l : List UInt8} (h : validD l = true) (b : List UInt8) : unq (quo l ++ b) = (l, (quo l).length, 0, 0) := by
  obtain ⟨L, rfl⟩ := valid_txt l.length l (Nat.le_refl _) h
  exact unq_quo L b

theorem isDg_of {d : Nat} (h : d < 10) : isDg (UInt8.ofNat (48 + d)) = true := by
  have : ∀ d : Nat, d < 10 → isDg (UInt8.ofNat (48 + d)) = true := by decide +kernel
  exact this d h
theorem dD_big {u : Nat} (h : ¬ u < 10) : decDigits u = decDigits (u / 10) ++ [UInt8.ofNat (48 + u % 10)] := by rw [decDigits, dif_neg h]
theorem dD_all (u : Nat) : ∀ c ∈ decDigits u, isDg c = true := by
  induction u using Nat.strongRecOn with
  | _ u ih =>
    by_cases h : u < 10
    · rw [decDigits_one h]
      intro c hc
      rw [List.mem_singleton] at hc
      subst hc
      exact isDg_of h
    · rw [dD_big h]
      intro c hc
      rcases List.mem_append.1 hc with hc | hc
      · exact ih _ (by omega) c hc
      · rw [List.mem_singleton] at hc
        subst hc
        exact isDg_of (by omega)
theorem decFrom_app : ∀ (a b : List UInt8) (n : Nat), decFrom n (a ++ b) = (decFrom n a).bind fun m => decFrom m b
  | [], _, _ => rfl
  | c :: r, b, n => by
    simp only [List.cons_append, decFrom]
    cases digitVal c with
    | none => rfl
    | some d => exact decFrom_app r b _
theorem dig_one {d : Nat} (h : d < 10) : digitVal (UInt8.ofNat (48 + d)) = some d := by
  have : ∀ d : Nat, d < 10 → digitVal (UInt8.ofNat (48 + d)) = some d := by decide +kernel
  exact this d h
theorem dD_val (u : Nat) : decFrom 0 (decDigits u) = some u := by
  induction u using Nat.strongRecOn with
  | _ u ih =>
    by_cases h : u < 10
    · rw [decDigits_one h]
      show (match digitVal (UInt8.ofNat (48 + u)) with | some d => decFrom (0 * 10 + d) [] | none => none) = some u
      rw [dig_one h]
      simp [decFrom]
    · rw [dD_big h, decFrom_app, ih _ (by omega)]
      simp only [Option.bind_some, decFrom, dig_one (show u % 10 < 10 by omega)]
      congr 1
      omega
theorem dgs_app {a : List UInt8} {c : UInt8} (b : List UInt8) (ha : ∀ x ∈ a, isDg x = true) (hc : isDg c = false) : dgs (a ++ c :: b) = a := by
  induction a with
  | nil => simp [dgs, hc]
  | cons x a ih =>
    have h1 := ha x (by simp)
    have h2 := ih fun y hy => ha y (by simp [hy])
    unfold dgs at h2 ⊢
    rw [List.cons_append, List.takeWhile_cons, if_pos h1, h2]
theorem dD_len {u : Nat} (h : u ≤ 999999999) : (decDigits u).length ≤ 9 := by
  rw [decDigits_length]
  have := lt_pow_nDigits u
  rcases Nat.lt_or_ge 9 (nDigits u) with hb | hb
  · exfalso
    have h10 : ∀ n v : Nat, n + 1 ≤ nDigits v → 10 ^ n ≤ v ∨ n = 0 := by
      intro n
      induction n with
      | zero => intro v _; right; rfl
      | succ n ih =>
        intro v hv
        left
        by_cases hs : v < 10
        · rw [nDigits_small hs] at hv; omega
        · rw [nDigits_big hs] at hv
          rw [Nat.pow_succ]
          rcases ih (v / 10) (by omega) with h | h
          · omega
          · subst h; simp; omega
    rcases h10 9 u (by omega) with h | h
    · omega
    · omega
  · exact hb
theorem dD_ne (u : Nat) : (decDigits u).length ≠ 0 := by
  rw [decDigits_length]
  have := nDigits_pos u
  omega
theorem dD_head (u : Nat) (h : 1 < (decDigits u).length) (r : List UInt8) : (decDigits u ++ r).head? ≠ some 48 := by
  induction u using Nat.strongRecOn generalizing r with
  | _ u ih =>
    by_cases hs : u < 10
    · rw [decDigits_one hs] at h; simp at h
    · rw [dD_big hs, List.append_assoc]
      by_cases h1 : 1 < (decDigits (u / 10)).length
      · exact ih _ (by omega) h1 _
      · have hs2 : u / 10 < 10 := by
          by_cases h2 : u / 10 < 10
          · exact h2
          · exfalso
            apply h1
            rw [dD_big h2, List.length_append]
            have := dD_ne (u / 10 / 10)
            simp; omega
        rw [decDigits_one hs2]
        have : ∀ d : Nat, d < 10 → 0 < d → UInt8.ofNat (48 + d) ≠ 48 := by decide +kernel
        have := this _ hs2 (by omega)
        simpa using this

theorem stIn_dig {u : Nat} (h : u ≤ 999999999) (r : List UInt8) : stIn (decDigits u ++ 93 :: r) = .inl (⟨⟨#[]⟩, (u : Int), false⟩, (decDigits u).length) := by
  have e : dgs (decDigits u ++ 93 :: r) = decDigits u := dgs_app r (dD_all u) (by decide)
  unfold stIn
  rw [e, if_pos (dD_ne u), if_neg]
  · rw [show dgV (decDigits u) = u by unfold dgV; rw [dD_val]; rfl]
  · rintro (h1 | ⟨h1, h2⟩)
    · have := dD_len h; omega
    · exact dD_head u h1 _ h2
theorem stIn_quo {l : List UInt8} (h : validD l = true) (hz : hasZ (str l) = false) (r : List UInt8) : stIn (quo l ++ r) = .inl (⟨str l, 0, true⟩, (quo l).length) := by
  have e : (dgs (quo l ++ r)).length = 0 := by
    unfold quo dgs
    rw [List.cons_append, List.cons_append, List.takeWhile_cons, if_neg (by decide)]
    rfl
  have e2 : (quo l ++ r).head? = some 34 := rfl
  unfold stIn
  rw [if_neg (by omega), if_pos e2, unq_valid h, if_neg (by simp), if_neg (by simp [hz])]
theorem stp_txt {s : Stp} (h : okS s = true) (r : List UInt8) : stp (txtS s ++ r) = .inl (s, (txtS s).length) := by
  obtain ⟨k, a, b⟩ := s
  unfold okS at h
  cases b with
  | true =>
    simp only [if_true, Bool.and_eq_true, decide_eq_true_eq, Bool.not_eq_true'] at h
    obtain ⟨rfl, hv, hz⟩ := h
    have hk : str k.data.toList = k := str_list k
    have e := stIn_quo hv (by rw [hk]; exact hz) (93 :: r)
    unfold stp txtS
    simp only [if_true, List.cons_append, List.append_assoc, List.nil_append, List.head?_cons, List.drop_succ_cons, List.drop_zero]
    rw [e]
    simp only [hk]
    rw [Nat.add_comm 1, List.drop_succ_cons, List.drop_left]
    simp [Nat.add_assoc]
  | false =>
    simp only [Bool.false_eq_true, if_false, Bool.and_eq_true, decide_eq_true_eq] at h
    obtain ⟨hk, h0, h9⟩ := h
    obtain ⟨u, rfl⟩ : ∃ u : Nat, a = (u : Int) := ⟨a.toNat, by omega⟩
    have e := stIn_dig (show u ≤ 999999999 by omega) r
    have hke : k = ⟨#[]⟩ := by
      cases k with
      | mk d =>
        have : d = #[] := Array.eq_empty_of_size_eq_zero hk
        rw [this]
    subst hke
    unfold stp txtS
    simp only [Bool.false_eq_true, if_false, List.cons_append, List.append_assoc, List.nil_append, List.head?_cons, if_true, List.drop_succ_cons, List.drop_zero, Int.toNat_natCast]
    rw [e]
    simp only
    rw [Nat.add_comm 1, List.drop_succ_cons, List.drop_left]
    simp [Nat.add_assoc]

theorem prs_txt : ∀ (ps qs : List Stp) (f k : Nat), (∀ s ∈ ps, okS s = true) → qs.length + ps.length ≤ 64 → (ps.flatMap txtS).length < f → prs f (ps.flatMap txtS) k qs = (qs ++ ps, 0, 0)
  | [], qs, 0, _, _, _, h => by omega
  | [], qs, f + 1, k, _, _, _ => by unfold prs; simp
  | s :: ps, qs, 0, _, _, _, h => by omega
  | s :: ps, qs, f + 1, k, ho, hl, hf => by
    have h1 := stp_txt (ho s (by simp)) (ps.flatMap txtS)
    have h2 := stp_pos h1
    simp only [List.length_cons] at hl
    simp only [List.flatMap_cons, List.length_append] at hf
    unfold prs
    rw [if_neg (by simp [txtS]), if_neg (by omega), List.flatMap_cons, h1]
    simp only [List.drop_left]
    rw [prs_txt ps (qs ++ [s]) f _ (fun x hx => ho x (by simp [hx])) (by simp; omega) (by omega)]
    simp
/-- The text of a path parses to the path. -/
theorem parse_show {ps : List Stp} (h6 : ps.length ≤ 64) (ho : ps.all okS = true) : parseP (ps.flatMap txtS) = (ps, 0, 0) := by
  unfold parseP
  rw [prs_txt ps [] _ _ (List.all_eq_true.1 ho) (by simpa using h6) (by omega)]
  rfl
end Go.Proofs.YtjnfilbdokppiaaGreatDoor
namespace Go.Proofs
open Go.Shelf
def Tryz.lays166_ren : Go.Shelf.Ren := ⟨fun | 166 => 39 | 240 => 74 | 276 => 103 | n => n, fun | 70 => 62 | 3 => 3 | 0 => 0 | 4 => 4 | 9 => 9 | 20 => 20 | 72 => 64 | 37 => 61 | 75 => 67 | 80 => 71 | 164 => 137 | 5 => 5 | n => n, fun | n => n⟩
theorem Tryz.lays166 : Go.Proofs.Lays.n166 Tryz.prog Tryz.lays166_ren := {
  mixed := by kernel_rfl
  f166 := Tryz.func39.trans (congrArg some (by kernel_rfl))
  f240 := Tryz.func74.trans (congrArg some (by kernel_rfl))
  f276 := Tryz.func103.trans (congrArg some (by kernel_rfl))
  t0 := Tryz.underlying0
  a0 := Tryz.isAgg0
  z0 := Tryz.sizeOf0
  v0 := Tryz.zeroValue0
  t3 := Tryz.underlying3
  a3 := Tryz.isAgg3
  z3 := Tryz.sizeOf3
  v3 := Tryz.zeroValue3
  t4 := Tryz.underlying4
  a4 := Tryz.isAgg4
  z4 := Tryz.sizeOf4
  v4 := Tryz.zeroValue4
  t9 := Tryz.underlying9
  a9 := Tryz.isAgg9
  z9 := Tryz.sizeOf9
  v9 := Tryz.zeroValue9
  t20 := Tryz.underlying20
  a20 := Tryz.isAgg20
  z20 := Tryz.sizeOf20
  v20 := Tryz.zeroValue20
  t37 := Tryz.underlying61
  a37 := Tryz.isAgg61
  z37 := Tryz.sizeOf61
  v37 := Tryz.zeroValue61
  t70 := Tryz.underlying62
  a70 := Tryz.isAgg62
  z70 := Tryz.sizeOf62
  v70 := Tryz.zeroValue62
  t72 := Tryz.underlying64
  a72 := Tryz.isAgg64
  z72 := Tryz.sizeOf64
  v72 := Tryz.zeroValue64
  t75 := Tryz.underlying67
  a75 := Tryz.isAgg67
  z75 := Tryz.sizeOf67
  v75 := Tryz.zeroValue67
  t164 := Tryz.underlying137
  a164 := Tryz.isAgg137
  z164 := Tryz.sizeOf137
  v164 := Tryz.zeroValue137 }
theorem Tryz.Builder_Extra_166 : Builder.Extra Tryz.prog Tryz.lays166_ren := {
  sizeBuilder := by kernel_rfl
  liesBuilder := by kernel_rfl
  t5 := Tryz.underlying5
  a5 := Tryz.isAgg5
  z5 := Tryz.sizeOf5
  v5 := Tryz.zeroValue5
  infoByte := by kernel_rfl
  cellsByte := by kernel_rfl
  sizeByte := by kernel_rfl
  neB5 := by decide }
open Go.RowKit in
theorem Tryz.Builder_WriteString (B b : Nat) (bs : List Value) (s : ByteArray) (w : World) (h : Lib.IsBuilder 64 5 B b bs w) (hlen : bs.length + s.size ≤ 140737488355328) (hBw : B ≤ w.heap.size) :
    Calls Tryz.prog 39 #[.pointer (some ⟨b, 0, none⟩), .string s] w fun e w' => e = .returned (.tuple #[.int .i64 s.size, .nilIface]) ∧ (Lib.BuilderAt 64 5 B b (.pointer (some ⟨b, 0, none⟩)) (bs ++ Lib.strCells s) w' ∧ Below B w w') := Any.Builder_WriteString Tryz.lays166 Tryz.Builder_Extra_166 B b bs s w h hlen hBw
end Go.Proofs
namespace Go.Proofs.YtjnfilbdokppiaaGreatDoor
open Go.RowKit U U.Ut

/-- What the tables hold that package path and its library read. -/
structure LP (B : Nat) (w : World) : Prop where
  tb : U.TB B w
  tab : Tab w
  pow : Lib.TabIs Tryz.prog w "internal/strconv.uint64pow10" .u64 Lib.pow10Tab
theorem pow_glob : Tryz.prog.globalNamed "internal/strconv.uint64pow10" = some 6 := by kernel_rfl
theorem LP.below {B : Nat} {w w' : World} (h : LP B w) (hb : Below B w w') : LP B w' := by
  have hB := h.tb.1
  refine ⟨h.tb.below hb, h.tab.below (by omega) hb, ?_⟩
  have := h.pow
  unfold Lib.TabIs World.var? at this ⊢
  rw [pow_glob] at this ⊢
  rw [← this]
  simp only [Option.bind_some]
  rw [hb.block 6 (by omega)]
theorem LP.keep {w w' : World} (h : LP w.heap.size w) (hb : Below w.heap.size w w') : LP w'.heap.size w' := by
  have h' := h.below hb
  exact ⟨⟨Nat.le_trans h.tb.1 hb.size, Nat.le_refl _, h'.tb.2.2⟩, h'.tab, h'.pow⟩
/-- The tables, and old memory untouched. -/
structure SP (w0 w : World) : Prop where
  lo : LP w0.heap.size w
  bl : Below w0.heap.size w0 w
theorem SP.start {w : World} (h : LP w.heap.size w) : SP w w := ⟨h, Below.refl _ _⟩
theorem SP.lp {w0 w : World} (h : SP w0 w) : LP w.heap.size w := ⟨⟨Nat.le_trans h.lo.tb.1 h.bl.size, Nat.le_refl _, h.lo.tb.2.2⟩, h.lo.tab, h.lo.pow⟩
theorem SP.step0 {w0 w w' : World} (h : SP w0 w) (hb : Below w0.heap.size w w') : SP w0 w' := ⟨h.lo.below hb, h.bl.trans hb⟩
theorem SP.step {w0 w w' : World} (h : SP w0 w) (hb : Below w.heap.size w w') : SP w0 w' := h.step0 (hb.mono h.bl.size)

theorem itoa_any (n : Int) (h0 : 0 ≤ n) (h1 : n ≤ 999999999) (w : World) (hL : LP w.heap.size w) :
    Calls Tryz.prog 75 #[.int .i64 n] w fun e w' => e = .returned (.string (U.str (Lib.decDigits n.toNat))) ∧ Below w.heap.size w w' := by
  refine (Tryz.strconv_Itoa n (by omega) (by omega) w hL.pow).mono ?_
  rintro e w' ⟨rfl, k, os, rfl⟩
  refine ⟨?_, Lib.below_grow _ _ (Nat.le_refl _) _ _⟩
  obtain ⟨u, rfl⟩ : ∃ u : Nat, n = (u : Int) := ⟨n.toNat, by omega⟩
  rw [Lib.itoa_nonneg]
  rfl

set_option maxRecDepth 100000 in
set_option maxHeartbeats 1000000 in
theorem isValid_any (s : Stp) (w : World) (hL : LP w.heap.size w) (hs : okR s) :
    Calls Tryz.prog 38 #[.agg #[.string s.k, .int .i64 s.a, .bool s.b]] w fun e w' => e = .returned (.bool (okS s)) ∧ Below w.heap.size w w' := by
  obtain ⟨k, a, b⟩ := s
  have hB0 : Below w.heap.size w (w.alloc (.cells #[.string k, .int .i64 a, .bool b] 51)) := (Below.refl _ _).alloc (Nat.le_refl _) _
  have hkl : k.size ≤ 9223372036854775807 := by have := hs.1; unfold maxLen at this; simp only at this; omega
  obtain ⟨V, hV⟩ : ∃ V, Lib.validD k.data.toList = V := ⟨_, rfl⟩
  have hva : ∀ W, Below w.heap.size w W → Calls Tryz.prog 73 #[.string k] W fun e w' => e = .returned (.bool V) ∧ Below W.heap.size W w' := fun W hb => by
    have := U.valid_any k W (hL.keep hb).tb.2.2 hkl
    rw [hV] at this
    exact this
  have HVA := Lib.hid hva
  have HB0 := Lib.hid hB0
  cases b with
  | true =>
    have e0 : okS ⟨k, a, true⟩ = (decide (a = 0) && (V && !hasZ k)) := by unfold okS; simp [hV]
    obtain ⟨R, hR⟩ : ∃ R, okS ⟨k, a, true⟩ = R := ⟨_, rfl⟩
    rw [hR]
    rw [hR] at e0
    have HR := Lib.hid e0
    clear e0 hR hva hV
    by_cases ha : a = 0
    · subst ha
      cases V with
      | false =>
        go_enter Tryz.func38, Tryz.ntmps38
        go_wp2_with (go_at_call 73; (with_reducible refine (HVA.out _ HB0.out).mono ?_); rintro e w2 ⟨rfl, hb2⟩; have HB2 := Lib.hid (HB0.out.trans (hb2.mono HB0.out.size)); clear hb2)
        go_ret
        rw [HR.out]
        exact ⟨rfl, HB2.out⟩
      | true =>
        cases hz : hasZ k with
        | false =>
          have HK := Lib.hid (fun W => keyCheck_any k W)
          unfold keyZ at HK
          rw [hz, if_neg (by decide)] at HK
          rw [hz] at HR
          go_enter Tryz.func38, Tryz.ntmps38
          go_wp2_with (first
            | (go_at_call 73; (with_reducible refine (HVA.out _ HB0.out).mono ?_); rintro e w2 ⟨rfl, hb2⟩; have HB2 := Lib.hid (HB0.out.trans (hb2.mono HB0.out.size)); have hc2 := (Blk.new w 51 #[.string k, .int .i64 0, .bool true]).below hb2 (by simp); have c0 := hc2.cell 0; clear hb2)
            | (go_at_call 51; refine (HK.out _).mono ?_; rintro e w3 ⟨rfl, rfl⟩))
          go_ret
          rw [HR.out]
          exact ⟨rfl, HB2.out⟩
        | true =>
          have HK := Lib.hid (fun W => keyCheck_any k W)
          unfold keyZ at HK
          rw [hz, if_pos (by decide)] at HK
          rw [hz] at HR
          go_enter Tryz.func38, Tryz.ntmps38
          go_wp2_with (first
            | (go_at_call 73; (with_reducible refine (HVA.out _ HB0.out).mono ?_); rintro e w2 ⟨rfl, hb2⟩; have HB2 := Lib.hid (HB0.out.trans (hb2.mono HB0.out.size)); have hc2 := (Blk.new w 51 #[.string k, .int .i64 0, .bool true]).below hb2 (by simp); have c0 := hc2.cell 0; clear hb2)
            | (go_at_call 51; refine (HK.out _).mono ?_; rintro e w3 ⟨rfl, rfl⟩))
          go_ret
          rw [HR.out]
          exact ⟨rfl, HB2.out⟩
    · have hab : (a == 0) = false := by simpa using ha
      go_enter Tryz.func38, Tryz.ntmps38
      go_wp2_with fail
      go_ret
      rw [HR.out, decide_eq_false ha]
      exact ⟨rfl, HB0.out⟩
  | false =>
    obtain ⟨R, hR⟩ : ∃ R, okS ⟨k, a, false⟩ = R := ⟨_, rfl⟩
    rw [hR]
    have e0 : R = (decide (k.size = 0) && (decide (0 ≤ a) && decide (a ≤ 999999999))) := by rw [← hR]; rfl
    have HR := Lib.hid e0
    clear e0 hR hva hV HVA V
    by_cases hk : k.size = 0
    · have hke : k = ⟨#[]⟩ := by
        cases k with
        | mk d =>
          have : d = #[] := Array.eq_empty_of_size_eq_zero hk
          rw [this]
      subst hke
      by_cases h0 : 0 ≤ a
      · have d0 : decide (0 ≤ a) = true := decide_eq_true h0
        go_enter Tryz.func38, Tryz.ntmps38
        go_wp2_with fail
        go_ret
        rw [HR.out, d0]
        exact ⟨rfl, HB0.out⟩
      · have d0 : decide (0 ≤ a) = false := decide_eq_false h0
        go_enter Tryz.func38, Tryz.ntmps38
        go_wp2_with fail
        go_ret
        rw [HR.out, d0]
        exact ⟨rfl, HB0.out⟩
    · have hke : k ≠ ⟨#[]⟩ := fun e => hk (by rw [e]; rfl)
      have h1 : ¬ k.toList = [] := by rw [Lib.toList_data]; intro e; apply hk; rw [Lib.size_eq, e]; rfl
      have h2 : k.toList.isEmpty = false := by rw [List.isEmpty_eq_false_iff]; exact h1
      go_enter Tryz.func38, Tryz.ntmps38
      go_wp2_with fail
      go_ret
      rw [HR.out, decide_eq_false hk]
      exact ⟨rfl, HB0.out⟩

theorem txt_join (l : List UInt8) : (⟨#[91]⟩ : ByteArray) ++ U.str l ++ (⟨#[93]⟩ : ByteArray) = U.str (91 :: (l ++ [93])) := by
  have e1 : (⟨#[91]⟩ : ByteArray) = U.str [91] := rfl
  have e2 : (⟨#[93]⟩ : ByteArray) = U.str [93] := rfl
  rw [e1, e2, str_app, str_app]
  simp
set_option maxRecDepth 100000 in
set_option maxHeartbeats 1000000 in
theorem textOf_any (s : Stp) (w : World) (hL : LP w.heap.size w) (hs : s.k.size ≤ 60000) (hok : okS s = true) :
    Calls Tryz.prog 40 #[.agg #[.string s.k, .int .i64 s.a, .bool s.b]] w fun e w' => e = .returned (.string (U.str (txtS s))) ∧ Below w.heap.size w w' := by
  obtain ⟨k, a, b⟩ := s
  have hB0 : Below w.heap.size w (w.alloc (.cells #[.string k, .int .i64 a, .bool b] 51)) := (Below.refl _ _).alloc (Nat.le_refl _) _
  have HB0 := Lib.hid hB0
  have HLP := Lib.hid (hL.keep hB0)
  unfold okS at hok
  cases b with
  | true =>
    simp only [if_true, Bool.and_eq_true] at hok
    have hks : k.size ≤ 60000 := hs
    obtain ⟨z, hz⟩ : ∃ z, U.str (quo k.data.toList) = z := ⟨_, rfl⟩
    have C := quote_any k _ HLP.out.tb (by omega)
    unfold quR at C
    rw [if_pos hok.2.1, hz] at C
    have HC := Lib.hid C
    have e : (⟨#[91]⟩ : ByteArray) ++ z ++ (⟨#[93]⟩ : ByteArray) = U.str (txtS ⟨k, a, true⟩) := by rw [← hz]; exact txt_join _
    obtain ⟨y, hy⟩ : ∃ y, U.str (txtS ⟨k, a, true⟩) = y := ⟨_, rfl⟩
    rw [hy]
    rw [hy] at e
    have HE := Lib.hid e
    have hzs : z.size ≤ 400000 := by
      rw [← hz, str_size]
      have := quo_len k.data.toList
      rw [← Lib.size_eq] at this
      omega
    have v1 : ((9223372036854775807 : Nat) < 1 + z.size) = False := eq_false (by omega)
    have v2 : ((9223372036854775807 : Nat) < 1 + z.size + 1) = False := eq_false (by omega)
    clear C hz hy hB0 hok e hzs
    go_enter Tryz.func40, Tryz.ntmps40
    go_wp2_with (go_at_call 76; (with_reducible refine HC.out.mono ?_); rintro e w2 ⟨rfl, hb2⟩; have HB2 := Lib.hid (HB0.out.trans (hb2.mono HB0.out.size)); clear hb2)
    go_ret
    rw [← HE.out]
    exact ⟨rfl, HB2.out⟩
  | false =>
    simp only [Bool.false_eq_true, if_false, Bool.and_eq_true, decide_eq_true_eq] at hok
    obtain ⟨z, hz⟩ : ∃ z, U.str (Lib.decDigits a.toNat) = z := ⟨_, rfl⟩
    have C := itoa_any a hok.2.1 hok.2.2 _ HLP.out
    rw [hz] at C
    have HC := Lib.hid C
    have e : (⟨#[91]⟩ : ByteArray) ++ z ++ (⟨#[93]⟩ : ByteArray) = U.str (txtS ⟨k, a, false⟩) := by rw [← hz]; exact txt_join _
    obtain ⟨y, hy⟩ : ∃ y, U.str (txtS ⟨k, a, false⟩) = y := ⟨_, rfl⟩
    rw [hy]
    rw [hy] at e
    have HE := Lib.hid e
    have hzs : z.size ≤ 9 := by
      rw [← hz, str_size]
      exact dD_len (by omega)
    have v1 : ((9223372036854775807 : Nat) < 1 + z.size) = False := eq_false (by omega)
    have v2 : ((9223372036854775807 : Nat) < 1 + z.size + 1) = False := eq_false (by omega)
    clear C hz hy hB0 hok e hzs
    go_enter Tryz.func40, Tryz.ntmps40
    go_wp2_with (go_at_call 75; (with_reducible refine HC.out.mono ?_); rintro e w2 ⟨rfl, hb2⟩; have HB2 := Lib.hid (HB0.out.trans (hb2.mono HB0.out.size)); clear hb2)
    go_ret
    rw [← HE.out]
    exact ⟨rfl, HB2.out⟩
end Go.Proofs.YtjnfilbdokppiaaGreatDoor
namespace Go.Proofs.YtjnfilbdokppiaaGreatDoor
open Go.RowKit U U.Ut

theorem own_belP {w w' : World} {B : Nat} {e : TypeId} {size n : Nat} {v : Value} {xs : List Value} (h : w.ownsRow B e size v n xs) (hb : Below w.heap.size w w') : w'.ownsRow B e size v n xs :=
  ⟨h.1, h.2.elim Or.inl fun ⟨g, cap, cur, hv, hg, hh, r⟩ => Or.inr ⟨g, cap, cur, hv, hg, (hb.block g (by have := h.lt g (by rw [hv]; rfl); omega)).trans hh, r⟩⟩
/-- The builder at block b holds the bytes l. -/
def BI (w : World) (b : Nat) (l : List UInt8) : Prop := Lib.IsBuilder 64 5 b b (Lib.byteCells l) w
theorem bAt_below {w w' : World} {b : Nat} {p : Value} {bs : List Value} (h : Lib.BuilderAt 64 5 b b p bs w) (hb : Below w.heap.size w w') : Lib.BuilderAt 64 5 b b p bs w' := by
  obtain ⟨h1, v, h2, h3, h4⟩ := h
  have hlt : b < w.heap.size := by
    rcases Nat.lt_or_ge b w.heap.size with hl | hg
    · exact hl
    · rw [Array.getElem?_eq_none hg] at h2; cases h2
  exact ⟨h1, v, (hb.block b hlt).trans h2, own_belP h3 hb, h4⟩
theorem BI.below {w w' : World} {b : Nat} {l : List UInt8} (h : BI w b l) (hb : Below w.heap.size w w') : BI w' b l := h.elim (fun x => .inl (bAt_below x hb)) (fun x => .inr (bAt_below x hb))
theorem BI.new (w : World) : BI (w.alloc (.cells #[.pointer none, .slice none 0 0] 64)) w.heap.size [] :=
  .inl ⟨Nat.le_refl _, .slice none 0 0, heap_alloc_new w _, World.ownsRow_nil _ _ _ _, by simp [Value.ownBlock]⟩
theorem write_any (w0 w : World) (l : List UInt8) (y : List UInt8) (h : BI w w0.heap.size l) (hS : SP w0 w) (hlen : l.length + y.length ≤ 100000000) :
    Calls Tryz.prog 39 #[.pointer (some ⟨w0.heap.size, 0, none⟩), .string (U.str y)] w fun e w' => (∃ v, e = .returned v) ∧ BI w' w0.heap.size (l ++ y) ∧ SP w0 w' := by
  refine (Tryz.Builder_WriteString w0.heap.size w0.heap.size (Lib.byteCells l) (U.str y) w h (by rw [Lib.byteCells_length, str_size]; omega) hS.bl.size).mono ?_
  rintro e w' ⟨rfl, h1, h2⟩
  refine ⟨⟨_, rfl⟩, .inr ?_, ?_⟩
  · have e1 : Lib.byteCells l ++ Lib.strCells (U.str y) = Lib.byteCells (l ++ y) := by rw [Lib.strCells_eq, Lib.byteCells_append, str_data]
    rw [e1] at h1
    exact h1
  · exact hS.step0 h2

theorem txtS_len {s : Stp} (hk : s.k.size ≤ 60000) (ho : okS s = true) : (txtS s).length ≤ 400000 := by
  obtain ⟨k, a, b⟩ := s
  have hk' : k.size ≤ 60000 := hk
  unfold okS at ho
  unfold txtS
  cases b with
  | true =>
    have := quo_len k.data.toList
    rw [← Lib.size_eq] at this
    simp only [if_true, List.length_cons, List.length_append, List.length_nil]
    omega
  | false =>
    simp only [Bool.false_eq_true, if_false, Bool.and_eq_true, decide_eq_true_eq] at ho
    have := dD_len (show a.toNat ≤ 999999999 by omega)
    simp only [Bool.false_eq_true, if_false, List.length_cons, List.length_append, List.length_nil]
    omega
theorem flat_len : ∀ (l : List Stp), (∀ s ∈ l, s.k.size ≤ 60000 ∧ okS s = true) → (l.flatMap txtS).length ≤ l.length * 400000
  | [], _ => by simp
  | s :: l, h => by
    have h1 := h s (by simp)
    have h2 := flat_len l fun x hx => h x (by simp [hx])
    have h3 := txtS_len h1.1 h1.2
    simp only [List.flatMap_cons, List.length_append, List.length_cons]
    omega
set_option maxRecDepth 100000 in
set_option maxHeartbeats 1000000 in
theorem show_any (ps : List Stp) (v : Value) (w : World) (hL : LP w.heap.size w) (hp : RdP w v ps) (hk : ∀ s ∈ ps, s.k.size ≤ 60000) (hpl : ps.length ≤ 100000) :
    Calls Tryz.prog 14 #[v] w fun e w' => e = .returned (.tuple #[.string (U.str (showR ps).1), .int .i64 ((showR ps).2 : Nat)]) ∧ Below w.heap.size w w' := by
  obtain ⟨A, n, c, rfl, hn, hnc, hc, hs, hA⟩ := hp.at
  obtain ⟨R, hR⟩ : ∃ R, showR ps = R := ⟨_, rfl⟩
  rw [hR]
  by_cases h64 : 64 < ps.length
  · have e : R = ([], 5) := by rw [← hR]; unfold showR; rw [if_pos h64]
    have d0 : decide ((64 : Int) < (n : Int)) = true := decide_eq_true (by omega)
    subst e
    clear hR
    go_enter Tryz.func14, Tryz.ntmps14
    go_wp2
    go_ret2
    exact ⟨rfl, Below.refl _ _⟩
  · have e : R = if ps.all okS = true then (ps.flatMap txtS, 0) else ([], 2) := by rw [← hR]; unfold showR; rw [if_neg h64]
    have d0 : decide ((64 : Int) < (n : Int)) = false := decide_eq_false (by omega)
    have HE := Lib.hid e
    clear e hR
    go_enter Tryz.func14, Tryz.ntmps14
    go_wp2
    have hS0 := SP.start hL
    have HB := Lib.hid (BI.new w)
    have HS1 := Lib.hid (hS0.step ((Below.refl _ w).alloc (Nat.le_refl _) (.cells #[.pointer none, .slice none 0 0] 64)))
    go_loopw [12] (fun i wr => ∃ j : Nat, j ≤ n ∧ i = .int .i64 (j : Int) ∧ Hid (∀ s ∈ ps.take j, okS s = true) ∧ Hid (BI wr w.heap.size ((ps.take j).flatMap txtS)) ∧ Hid (SP w wr)) (fun i _ => n - (intOf i).toNat)
    case atStart => exact ⟨0, Nat.zero_le _, rfl, Lib.hid (by simp), HB, HS1⟩
    case round =>
      obtain ⟨j, hj, rfl, HO, HB, HS⟩ := hrel
      by_cases hlt : j < n
      · obtain ⟨x, hx⟩ : ∃ x, ps[j]? = some x := ⟨_, List.getElem?_eq_getElem (by omega)⟩
        obtain ⟨bb, off, rfl, hbw, hc1⟩ := hA (by omega)
        obtain ⟨x0, x1, x2⟩ := hc1 wr HS.out.bl j x hx
        have hxm := List.mem_of_getElem? hx
        have hSa := HS.out.step ((Below.refl _ wr).alloc (Nat.le_refl _) (.cells #[.string x.k, .int .i64 x.a, .bool x.b] 51))
        have HSa := Lib.hid hSa
        have HV := Lib.hid (isValid_any x _ hSa.lp (hs x hxm))
        have HBa := Lib.hid (HB.out.below ((Below.refl _ wr).alloc (Nat.le_refl _) (.cells #[.string x.k, .int .i64 x.a, .bool x.b] 51)))
        have hBx := Blk.new wr 51 #[.string x.k, .int .i64 x.a, .bool x.b]
        have HBX := Lib.hid hBx
        have hkx := hk x hxm
        cases hok : okS x with
        | false =>
          rw [hok] at HV
          have hr : R = ([], 2) := by
            rw [HE.out, if_neg]
            intro h
            have := List.all_eq_true.1 h x hxm
            rw [hok] at this; cases this
          have HRR := Lib.hid hr
          clear hr hok hx hxm hc1 hA hSa hBx hs hk hp
          go_wp2_with (go_at_call 38; (with_reducible refine HV.out.mono ?_); rintro e w2 ⟨rfl, hb2⟩; have HS2 := Lib.hid (HSa.out.step hb2); clear hb2)
          go_ret2
          rw [HRR.out]
          exact ⟨rfl, HS2.out.bl⟩
        | true =>
          rw [hok] at HV
          have HTX := Lib.hid (fun W (hW : SP w W) => textOf_any x W hW.lp hkx hok)
          have HO2 := Lib.hid (show ∀ s ∈ ps.take (j + 1), okS s = true from fun s hs => by
            rw [List.take_add_one, hx] at hs
            rcases List.mem_append.1 hs with hs | hs
            · exact HO.out s hs
            · obtain rfl : s = x := by simpa using hs
              exact hok)
          have hfl : (ps.take (j + 1)).flatMap txtS = (ps.take j).flatMap txtS ++ txtS x := by rw [List.take_add_one, hx]; simp
          have hlen : ((ps.take j).flatMap txtS).length + (txtS x).length ≤ 100000000 := by
            have h1 := flat_len (ps.take j) (fun s hs => ⟨hk s (List.mem_of_mem_take hs), HO.out s hs⟩)
            have h2 := txtS_len hkx hok
            rw [List.length_take] at h1
            have : min j ps.length ≤ 64 := by omega
            omega
          have HFL := Lib.hid hfl
          have HLEN := Lib.hid hlen
          clear hok hx hxm hc1 hA hSa hBx hs hk hp hfl hlen
          go_wp2_with (first
            | (go_at_call 38; (with_reducible refine HV.out.mono ?_); rintro e w2 ⟨rfl, hb2⟩; have HS2 := Lib.hid (HSa.out.step hb2); have HB2 := Lib.hid (HBa.out.below hb2); have hb22 := Blk.below HBX.out hb2 (by simp); have c0 := hb22.cell 0; have c1 := hb22.cell 1; have c2 := hb22.cell 2; clear hb2 hb22)
            | (go_at_call 40; (with_reducible refine (HTX.out _ HS2.out).mono ?_); rintro e w3 ⟨rfl, hb3⟩; have HS3 := Lib.hid (HS2.out.step hb3); have HB3 := Lib.hid (HB2.out.below hb3); clear hb3 c0 c1 c2)
            | (go_at_call 39; (with_reducible refine (write_any w _ _ (txtS x) HB3.out HS3.out HLEN.out).mono ?_); rintro e w4 ⟨⟨v9, rfl⟩, hB4, hS4⟩; rw [← HFL.out] at hB4; have HS4 := Lib.hid hS4; have HB4 := Lib.hid hB4; clear hB4 hS4))
          go_roundw
          case rel => exact ⟨j + 1, by omega, by simp, HO2, HB4, HS4⟩
          case measure => simp [intOf]; omega
      · obtain rfl : j = n := by omega
        have hall : R = (ps.flatMap txtS, 0) := by
          rw [HE.out, if_pos]
          rw [List.all_eq_true]
          intro s hs
          exact HO.out s (by rw [List.take_of_length_le (by omega)]; exact hs)
        have HAL := Lib.hid hall
        have hBe := HB.out
        rw [List.take_of_length_le (by omega)] at hBe
        have HC := Lib.hid (Tryz.Builder_String_any w.heap.size w.heap.size (ps.flatMap txtS) wr hBe HS.out.bl.size)
        clear hall hBe hA hp hs hk
        go_wp2_with (go_at_call 41; (with_reducible refine HC.out.mono ?_); rintro e w2 ⟨rfl, hb2⟩; have HS2 := Lib.hid (HS.out.step0 hb2); clear hb2)
        go_ret2
        rw [HAL.out]
        exact ⟨rfl, HS2.out.bl⟩
end Go.Proofs.YtjnfilbdokppiaaGreatDoor
