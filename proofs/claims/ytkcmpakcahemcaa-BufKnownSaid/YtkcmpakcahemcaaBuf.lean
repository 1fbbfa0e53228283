/-
  What is proved here: what it means that a buffer of package buf lies in memory with a capacity, contents and an error, what a call on it may change, and contracts of New, Err, Len, total and add; conditions: as each says.
-/
import Derived.Test.YtkcmpakcahemcaaBase
import Derived.Test.YtkcmpakcahemcaaWFun
import Derived.Test.YtkcmpakcahemcaaShelf
namespace Go.Proofs.Ytkcmpakcahemcaa
open Go.RowKit Le

/-- A block known whole, none of it frozen. -/
def Bx (w : World) (p : Nat) (t : TypeId) (cs : Array Value) : Prop := w.heap[p]? = some (.cells cs t (0, 0))
section
variable {w w' : World} {p : Nat} {t : TypeId} {cs : Array Value}
theorem Bx.lt (h : Bx w p t cs) : p < w.heap.size := by
  rcases Nat.lt_or_ge p w.heap.size with hl | hg
  · exact hl
  · unfold Bx at h; rw [Array.getElem?_eq_none hg] at h; cases h
theorem Bx.cell (h : Bx w p t cs) (i : Nat) : w.cell? ⟨p, i, none⟩ = cs[i]? := cell_of_row w p i cs t (0, 0) h
theorem Bx.frozen (h : Bx w p t cs) (i : Nat) : w.frozen? ⟨p, i, none⟩ = false := by
  unfold Bx at h
  simp [World.frozen?, h]
theorem Bx.new (w : World) (t : TypeId) (cs : Array Value) : Bx (w.alloc (.cells cs t)) w.heap.size t cs := heap_alloc_new w _
theorem Bx.put (h : Bx w p t cs) (i : Nat) (u : Value) : Bx (w.setCell ⟨p, i, none⟩ u) p t (cs.setIfInBounds i u) := by
  unfold Bx at h ⊢
  simp [World.setCell, Array.getElem?_modify, h]
theorem Bx.same (h : Bx w p t cs) (he : w'.heap[p]? = w.heap[p]?) : Bx w' p t cs := he.trans h
theorem Bx.below {B : Nat} (h : Bx w p t cs) (hb : Below B w w') (hp : p < B) : Bx w' p t cs := h.same (hb.block p hp)
theorem Bx.ne_row {B n : Nat} {e : TypeId} {v : Value} {xs : List Value} (h : Bx w p t cs) (ho : w.ownsRow B e 1 v n xs) (hne : e ≠ t) : v.ownBlock ≠ some p := by
  rcases ho.2 with ⟨rfl, _⟩ | ⟨g', cap, cur, rfl, _, hh, _⟩
  · simp [Value.ownBlock]
  · intro he
    have : g' = p := by simpa [Value.ownBlock] using he
    subst this
    unfold Bx at h
    rw [h] at hh
    injection hh with hh
    injection hh with _ h2
    exact hne h2.symm
end

/-- What a call on a buffer at p with the row v may change; behind it the row is v'. -/
structure Ch (w w' : World) (p : Nat) (v v' : Value) : Prop where
  os : w'.os = w.os
  tape : w'.tape = w.tape
  output : w'.output = w.output
  size : w.heap.size ≤ w'.heap.size
  block : ∀ k, k < w.heap.size → k ≠ p → v.ownBlock ≠ some k → w'.heap[k]? = w.heap[k]?
  row : ∀ k, v'.ownBlock = some k → v.ownBlock = some k ∨ w.heap.size ≤ k
theorem Ch.refl (w : World) (p : Nat) (v : Value) : Ch w w p v v := ⟨rfl, rfl, rfl, Nat.le_refl _, fun _ _ _ _ => rfl, fun _ h => .inl h⟩
theorem Ch.trans {w w1 w2 : World} {p : Nat} {v v1 v2 : Value} (h : Ch w w1 p v v1) (k : Ch w1 w2 p v1 v2) : Ch w w2 p v v2 := by
  refine ⟨k.os.trans h.os, k.tape.trans h.tape, k.output.trans h.output, Nat.le_trans h.size k.size, fun i hi hp hv => ?_, fun i hi => ?_⟩
  · refine (k.block i (Nat.lt_of_lt_of_le hi h.size) hp fun he => ?_).trans (h.block i hi hp hv)
    rcases h.row i he with h1 | h1
    · exact hv h1
    · omega
  · rcases k.row i hi with h1 | h1
    · exact h.row i h1
    · exact .inr (Nat.le_trans h.size h1)
theorem Ch.below {w w' : World} (p : Nat) (v : Value) (h : Below w.heap.size w w') : Ch w w' p v v := ⟨h.os, h.tape, h.output, h.size, fun k hk _ _ => h.block k hk, fun _ h => .inl h⟩
theorem Ch.to_below {B : Nat} {w0 w w' : World} {p : Nat} {v v' : Value} (hb : Below B w0 w) (h : Ch w w' p v v') (hB : B ≤ w.heap.size) (hp : B ≤ p) (hv : ∀ k, v.ownBlock = some k → B ≤ k) : Below B w0 w' := by
  refine ⟨h.os.trans hb.os, h.tape.trans hb.tape, h.output.trans hb.output, Nat.le_trans hb.size h.size, fun k hk => (h.block k (by omega) (by omega) fun he => ?_).trans (hb.block k hk)⟩
  have := hv k he
  omega

/-- The buffer at p: capacity m, row v with the contents xs, error e. -/
structure Bf (B : Nat) (w : World) (p m : Nat) (v : Value) (xs : List UInt8) (e : Int) : Prop where
  box : Bx w p 55 #[.bool true, .int .i64 (m : Int), v, .int .i64 e]
  own : w.ownsRow B 5 1 v xs.length (bv xs)
  low : B ≤ p
  base : B ≤ w.heap.size
  cap : m ≤ 1048576
  fit : xs.length ≤ m

theorem Bf.keep {B : Nat} {w w' : World} {p m : Nat} {v : Value} {xs : List UInt8} {e : Int} (h : Bf B w p m v xs e) (hs : w.heap.size ≤ w'.heap.size) (hk : ∀ k, k < w.heap.size → k = p ∨ v.ownBlock = some k → w'.heap[k]? = w.heap[k]?) : Bf B w' p m v xs e := by
  refine ⟨h.box.same (hk p h.box.lt (.inl rfl)), ⟨h.own.1, ?_⟩, h.low, Nat.le_trans h.base hs, h.cap, h.fit⟩
  rcases h.own.2 with h0 | ⟨g, cap, cur, hv, hg, hh, r⟩
  · exact .inl h0
  · have hl : g < w.heap.size := (h.own.lt g (by rw [hv]; rfl)).2
    exact .inr ⟨g, cap, cur, hv, hg, (hk g hl (.inr (by rw [hv]; rfl))).trans hh, r⟩
theorem Bf.below {B : Nat} {w w' : World} {p m : Nat} {v : Value} {xs : List UInt8} {e : Int} (h : Bf B w p m v xs e) (hb : Below w.heap.size w w') : Bf B w' p m v xs e :=
  h.keep hb.size fun k hk _ => hb.block k hk
theorem Bf.slice {B : Nat} {w : World} {p m : Nat} {v : Value} {xs : List UInt8} {e : Int} (h : Bf B w p m v xs e) : ∃ A c, v = .slice A xs.length c ∧ Rds w A xs.length c xs := by
  obtain ⟨A, n, c, rfl, hr⟩ := Rd.of_own h.own
  obtain rfl : xs.length = n := hr.1
  exact ⟨A, c, rfl, hr⟩
theorem Bf.new (w : World) (m : Nat) (hm : m ≤ 1048576) : Bf w.heap.size (w.alloc (.cells #[.bool true, .int .i64 (m : Int), .slice none 0 0, .int .i64 0] 55)) w.heap.size m (.slice none 0 0) [] 0 :=
  ⟨Bx.new _ _ _, World.ownsRow_nil _ _ _ _, Nat.le_refl _, by simp, hm, Nat.zero_le _⟩
theorem Bf.mono {B B' : Nat} {w : World} {p m : Nat} {v : Value} {xs : List UInt8} {e : Int} (h : Bf B w p m v xs e) (hB : B' ≤ B) : Bf B' w p m v xs e := by
  refine ⟨h.box, ⟨h.own.1, ?_⟩, Nat.le_trans hB h.low, Nat.le_trans hB h.base, h.cap, h.fit⟩
  rcases h.own.2 with h0 | ⟨g, cap, cur, h1, h2, h3⟩
  · exact .inl h0
  · exact .inr ⟨g, cap, cur, h1, Nat.le_trans hB h2, h3⟩

theorem Bf.drewN {B : Nat} {w : World} {p m : Nat} {v : Value} {xs : List UInt8} {e : Int} (h : Bf B w p m v xs e) (n : Nat) : Bf B (w.drewN n) p m v xs e :=
  h.below ⟨rfl, rfl, rfl, Nat.le_refl _, fun _ _ => rfl⟩
theorem Ch.drewN (w : World) (p : Nat) (v : Value) (n : Nat) : Ch w (w.drewN n) p v v := ⟨rfl, rfl, rfl, Nat.le_refl _, fun _ _ _ _ => rfl, fun _ h => .inl h⟩
/-- The capacity that New gives. -/
def cp (t : Int) : Nat := if t < 0 then 0 else if t ≤ 1048576 then t.toNat else 1048576
theorem cp_le (t : Int) : cp t ≤ 1048576 := by unfold cp; split; (· omega); (· split <;> omega)

theorem cp_neg {t : Int} (h : t < 0) : cp t = 0 := if_pos h
theorem cp_in {t : Int} (h0 : ¬ t < 0) (h : t ≤ 1048576) : (cp t : Int) = t := by unfold cp; rw [if_neg h0, if_pos h]; omega
theorem cp_big {t : Int} (h : 1048576 < t) : cp t = 1048576 := by unfold cp; rw [if_neg (by omega), if_neg (by omega)]
set_option maxRecDepth 20000 in
theorem new_any (t : Int) (w : World) : Calls Try.prog 9 #[.int .i64 t] w fun e w' =>
    e = .returned (.pointer (some ⟨w.heap.size, 0, none⟩)) ∧ w' = w.alloc (.cells #[.bool true, .int .i64 (cp t : Int), .slice none 0 0, .int .i64 0] 55) := by
  by_cases h : t < 0
  · have e1 : (cp t : Int) = 0 := by rw [cp_neg h]; rfl
    rw [e1]
    have h1 : ¬ (0 : Int) < t := by omega
    have h2 : max t 0 = 0 := by omega
    clear e1
    go_enter Try.func9, Try.ntmps9
    go_wp2
    go_ret
    exact ⟨rfl, rfl⟩
  · by_cases hb : t ≤ 1048576
    · have e1 : (cp t : Int) = t := cp_in h hb
      rw [e1]
      have h2 : max t 0 = t := by omega
      have h3 : min t 1048576 = t := by omega
      clear e1 hb
      go_enter Try.func9, Try.ntmps9
      go_wp2
      go_ret
      exact ⟨rfl, rfl⟩
    · have e1 : (cp t : Int) = 1048576 := by rw [cp_big (by omega)]; rfl
      rw [e1]
      have h2 : max t 0 = t := by omega
      have h3 : min t 1048576 = 1048576 := by omega
      clear e1 hb
      go_enter Try.func9, Try.ntmps9
      go_wp2
      go_ret
      exact ⟨rfl, rfl⟩

section
variable {B p m : Nat} {v : Value} {xs : List UInt8} {er : Int} {w : World}
theorem err_any (h : Bf B w p m v xs er) : Calls Try.prog 17 #[.pointer (some ⟨p, 0, none⟩)] w fun e w' => e = .returned (.int .i64 er) ∧ w = w' := by
  have c0 : w.cell? ⟨p, 0, none⟩ = some (.bool true) := h.box.cell 0
  have c3 : w.cell? ⟨p, 3, none⟩ = some (.int .i64 er) := h.box.cell 3
  clear h
  go_enter Try.func17, Try.ntmps17
  go_wp2
  go_ret
  exact ⟨rfl, rfl⟩
theorem len_any (h : Bf B w p m v xs er) : Calls Try.prog 16 #[.pointer (some ⟨p, 0, none⟩)] w fun e w' => e = .returned (.int .i64 (xs.length : Int)) ∧ w = w' := by
  obtain ⟨A, c, rfl, _⟩ := h.slice
  have c2 : w.cell? ⟨p, 2, none⟩ = some (.slice A xs.length c) := h.box.cell 2
  clear h
  obtain ⟨n, hn⟩ : ∃ n, n = xs.length := ⟨_, rfl⟩
  rw [← hn] at c2 ⊢
  clear hn
  go_enter Try.func16, Try.ntmps16
  go_wp2
  go_ret
  exact ⟨rfl, rfl⟩
end

/-- The bytes of a list of strings. -/
def cat (L : List ByteArray) : List UInt8 := L.flatMap (·.data.toList)
/-- The slice value reads as the strings L, in the block b. -/
def SR (w : World) (v : Value) (L : List ByteArray) : Prop := ∃ A c, v = .slice A L.length c ∧ L.length ≤ c ∧
  (0 < L.length → ∃ b off, A = some ⟨b, off, none⟩ ∧ b < w.heap.size ∧ ∀ j s, L[j]? = some s → w.cell? ⟨b, off + j, none⟩ = some (.string s))
theorem cat_take {L : List ByteArray} {j : Nat} {s : ByteArray} (h : L[j]? = some s) : cat (L.take (j + 1)) = cat (L.take j) ++ s.data.toList := by
  unfold cat; rw [List.take_add_one, h]; simp
theorem cat_le (L : List ByteArray) (j : Nat) : (cat (L.take j)).length ≤ (cat L).length := by
  have : cat L = cat (L.take j) ++ cat (L.drop j) := by unfold cat; rw [← List.flatMap_append, List.take_append_drop]
  rw [this, List.length_append]; omega
theorem size_dt (s : ByteArray) : s.size = s.data.toList.length := by rw [Array.length_toList]; rfl

theorem total_any (v : Value) (L : List ByteArray) (w : World) (h : SR w v L) (hL : L.length ≤ 1000) (hc : (cat L).length ≤ 9223372036854775807) :
    Calls Try.prog 51 #[v] w fun e w' => e = .returned (.int .i64 ((cat L).length : Int)) ∧ w = w' := by
  obtain ⟨A, c, rfl, hcap, hA⟩ := h
  obtain ⟨n, hn⟩ : ∃ n, n = L.length := ⟨_, rfl⟩
  rw [← hn] at hcap hL ⊢
  go_enter Try.func51, Try.ntmps51
  go_wp2
  go_loop [3, 8] (fun s i => ∃ k q : Nat, k ≤ n ∧ i = .int .i64 k ∧ s = .int .i64 q ∧ Hid (q = (cat (L.take k)).length)) (fun _ i => n - (intOf i).toNat)
  case atStart => exact ⟨0, 0, Nat.zero_le _, rfl, rfl, rfl⟩
  case round =>
    obtain ⟨k, q, hk, rfl, rfl, HQ⟩ := hrel
    by_cases hlt : k < n
    · obtain ⟨b, off, rfl, hbl, hcell⟩ := hA (by omega)
      obtain ⟨s, hs⟩ : ∃ s, L[k]? = some s := ⟨_, List.getElem?_eq_getElem (by omega)⟩
      have hce := hcell k s hs
      have h1 := cat_take hs
      have h2 := cat_le L (k + 1)
      rw [h1, List.length_append, ← HQ.out, ← size_dt] at h2
      have h3 : q + s.size ≤ 9223372036854775807 := Nat.le_trans h2 hc
      have HN : Hid (q + s.size = (cat (L.take (k + 1))).length) := Lib.hid (by rw [h1, List.length_append, ← HQ.out, ← size_dt])
      clear h1 h2 hcell hA hs hc
      go_wp2
      go_round
      case rel => exact ⟨k + 1, q + s.size, by omega, by go_num, by go_num, HN⟩
      case measure => simp [intOf]; omega
    · obtain rfl : k = n := by omega
      have hq : q = (cat L).length := by have := HQ.out; rwa [hn, List.take_length] at this
      have HH := Lib.hid hq
      clear hA hc hq
      go_wp2
      go_ret
      exact ⟨by rw [← HH.out]; rfl, rfl⟩

theorem strCells_bv (s : ByteArray) : Lib.strCells s = bv s.data.toList := rfl
/-- Where the row lies behind an append of a string. -/
theorem app_place {w w' : World} {B n : Nat} {v v' : Value} {xs : List Value} {s : ByteArray} {ty : TypeId} (hown : w.ownsRow B 5 1 v n xs) (hn : n + s.size ≤ 4000000)
    (hrun : (Builtin.append_ #[32, 9] ty #[v, .string s]).run Try.prog w = .ok v' w') : ∀ k, v'.ownBlock = some k → v.ownBlock = some k ∨ w.heap.size ≤ k := by
  obtain ⟨i, hi, hz0, hz1, hz2⟩ := info_parts Try.infoU8
  rcases hown.2 with ⟨rfl, rfl⟩ | ⟨g, cap, cur, rfl, _, hg, hnc, hcm, hcs, ht⟩
  · by_cases h0 : s.size = 0
    · intro k hk
      have : v' = .slice none 0 0 := by
        have hr := hrun
        simp [Builtin.append_, run_underlying Try.underlying32, run_underlying Try.underlying9, sizeOf, typeInfo, hi, Builtin.lenOf, h0, Builtin.firstCells] at hr
        exact hr.1.symm
      subst this
      simp [Value.ownBlock] at hk
    · rw [run_append_nil_string (P := Try.prog) (w := w) 32 9 ty 5 i (.int .u8 0) Try.underlying32 Try.underlying9 hi hz0 s (by omega) (by omega) (by rw [hz2]; omega)] at hrun
      injection hrun with h1 h2
      subst h1
      intro k hk
      simp [Value.ownBlock] at hk
      exact .inr (by omega)
  · by_cases hroom : n + s.size ≤ cap
    · rw [Lib.run_append_room_string (P := Try.prog) w 32 9 ty 5 i Try.underlying32 Try.underlying9 hi hz1 g n cap cur hg s hroom (by omega)] at hrun
      injection hrun with h1 h2
      subst h1
      intro k hk
      exact .inl hk
    · rw [Lib.run_append_grow_string (P := Try.prog) w 32 9 ty 5 i (.int .u8 0) Try.underlying32 Try.underlying9 hi hz0 ⟨g, 0, none⟩ n cap xs (by rw [hown.1, hz1]) (hown.cells (g := g) rfl) s
        (by omega) (by omega) (by rw [hz2]; exact growslice_fits (by omega) (by omega))] at hrun
      injection hrun with h1 h2
      subst h1
      intro k hk
      simp [Value.ownBlock] at hk
      exact .inr (by omega)
theorem wpList_apS {ops : Array Oper} {rest : List Oper} {o : Oper} {a : Act} {Q : Exit → Act → World → Prop} {w : World} {B n : Nat} {v : Value} {xs : List UInt8} {s : ByteArray}
    (hgd : o.guard = none) (sl x : Operand) (ho : o.op = .call { callee := .builtin .append, args := #[sl, x], argTypes := #[32, 9] })
    (hs : a.eval sl = v) (hx : a.eval x = .string s) (hown : w.ownsRow B 5 1 v n (bv xs)) (hb : n + s.size ≤ 4000000) (hB : B ≤ w.heap.size)
    (h : ∀ v' w', w'.ownsRow B 5 1 v' (n + s.size) (bv (xs ++ s.data.toList)) → w.grownBy w' v.ownBlock → (∀ k, v'.ownBlock = some k → v.ownBlock = some k ∨ w.heap.size ≤ k) → wpList Try.prog ops Q rest (a.put o.dst v') w') : wpList Try.prog ops Q (o :: rest) a w := by
  refine wpList_plain hgd fun K hK => ?_
  obtain ⟨i, hi, hz0, hz1, hz2⟩ := info_parts Try.infoU8
  obtain ⟨v', w', hrun, h2, h3, _⟩ := Lib.run_append_own_string (P := Try.prog) w B 32 9 o.type 5 i Try.underlying32 Try.underlying9 hi hz0 hz1 hz2 v n (bv xs) hown s (by simp only [maxLen]; omega) (by omega) hB
  have hpl := app_place hown hb hrun
  rw [strCells_bv, bv_append] at h2
  unfold Oper.wp execOp
  simp only [ho, resolve, invoke, builtin, Sem.run_bind, Sem.run_pure, Result.andThen_ok, List.map_toArray, List.map_cons, List.map_nil, hs, hx, hrun]
  exact hK _ _ (h v' w' h2 h3 hpl)

/-- A new row, stored into the buffer. -/
theorem Bf.app {B : Nat} {w w1 : World} {p m : Nat} {v v1 : Value} {xs ys : List UInt8} {e : Int} (h : Bf B w p m v xs e) (hg : w.grownBy w1 v.ownBlock) (ho : w1.ownsRow B 5 1 v1 (xs ++ ys).length (bv (xs ++ ys)))
    (hp : ∀ k, v1.ownBlock = some k → v.ownBlock = some k ∨ w.heap.size ≤ k) (hf : (xs ++ ys).length ≤ m) :
    Bf B (w1.setCell ⟨p, 2, none⟩ v1) p m v1 (xs ++ ys) e ∧ Ch w (w1.setCell ⟨p, 2, none⟩ v1) p v v1 := by
  have hne := h.box.ne_row h.own (by decide)
  have hb1 : Bx w1 p 55 #[.bool true, .int .i64 (m : Int), v, .int .i64 e] := h.box.same (hg.block p h.box.lt (fun he => hne he.symm))
  have hne1 := hb1.ne_row ho (by decide)
  refine ⟨⟨hb1.put 2 v1, ⟨ho.1, ?_⟩, h.low, by simpa using Nat.le_trans h.base hg.size, h.cap, hf⟩, ⟨hg.os, hg.tape, hg.output, by simpa using hg.size, fun k hk hkp hkv => ?_, hp⟩⟩
  · rcases ho.2 with h0 | ⟨g, cap, cur, hv, hgb, hh, r⟩
    · exact .inl h0
    · refine .inr ⟨g, cap, cur, hv, hgb, ?_, r⟩
      rw [Below.heap_setCell _ _ _ _ (by rintro rfl; exact hne1 (by rw [hv]; rfl))]
      exact hh
  · rw [Below.heap_setCell _ _ _ _ (by exact hkp)]
    exact hg.block k hk (fun he => hkv he.symm)

/-- The slice value reads as the strings L, in a block apart from the buffer at p with the row r. -/
def SX (w : World) (v : Value) (L : List ByteArray) (p : Nat) (r : Value) : Prop := ∃ A c, v = .slice A L.length c ∧ L.length ≤ c ∧
  (0 < L.length → ∃ b off, A = some ⟨b, off, none⟩ ∧ b < w.heap.size ∧ b ≠ p ∧ r.ownBlock ≠ some b ∧ ∀ j s, L[j]? = some s → w.cell? ⟨b, off + j, none⟩ = some (.string s))
theorem SX.sr {w : World} {v : Value} {L : List ByteArray} {p : Nat} {r : Value} (h : SX w v L p r) : SR w v L := by
  obtain ⟨A, c, h1, h2, h3⟩ := h
  refine ⟨A, c, h1, h2, fun h0 => ?_⟩
  obtain ⟨b, off, h4, h5, _, _, h6⟩ := h3 h0
  exact ⟨b, off, h4, h5, h6⟩

def adL (m : Nat) (xs ys : List UInt8) : List UInt8 := if xs.length + ys.length ≤ m then xs ++ ys else xs
def adE (m : Nat) (xs ys : List UInt8) : Int := if xs.length + ys.length ≤ m then 0 else 5
theorem ad_in {m : Nat} {xs ys : List UInt8} (h : xs.length + ys.length ≤ m) : adL m xs ys = xs ++ ys ∧ adE m xs ys = 0 := ⟨if_pos h, if_pos h⟩
theorem ad_out {m : Nat} {xs ys : List UInt8} (h : ¬ xs.length + ys.length ≤ m) : adL m xs ys = xs ∧ adE m xs ys = 5 := ⟨if_neg h, if_neg h⟩

set_option maxRecDepth 20000 in
theorem add_any {B p m : Nat} {v sv : Value} {xs : List UInt8} {er : Int} {L : List ByteArray} {w : World} (h : Bf B w p m v xs er) (hs : SX w sv L p v) (hL : L.length ≤ 1000) (hc : (cat L).length ≤ 4000000) :
    Calls Try.prog 38 #[.pointer (some ⟨p, 0, none⟩), sv] w fun e w' => ∃ v', e = .returned (.int .i64 (adE m xs (cat L))) ∧ Bf B w' p m v' (adL m xs (cat L)) er ∧ Ch w w' p v v' := by
  have HT : ∀ k, Calls Try.prog 51 #[sv] (w.drewN k) fun e w' => e = .returned (.int .i64 ((cat L).length : Int)) ∧ w' = w.drewN k :=
    fun k => (total_any sv L (w.drewN k) hs.sr hL (by omega)).mono fun _ _ ⟨he, hw⟩ => ⟨he, hw.symm⟩
  obtain ⟨A, c, rfl, _⟩ := h.slice
  have c1 : w.cell? ⟨p, 1, none⟩ = some (.int .i64 (m : Int)) := h.box.cell 1
  have c2 : w.cell? ⟨p, 2, none⟩ = some (.slice A xs.length c) := h.box.cell 2
  have hcap := h.cap
  have hfit := h.fit
  obtain ⟨t, ht⟩ : ∃ t, t = (cat L).length := ⟨_, rfl⟩
  obtain ⟨n, hn⟩ : ∃ n, n = xs.length := ⟨_, rfl⟩
  rw [← ht] at HT hc
  rw [← hn] at c2 hfit
  have hw : IntKind.i64.wrap ((m : Int) - (n : Int)) = (m : Int) - (n : Int) := IntWalk.i64_in _ ⟨by omega, by omega⟩
  have HTT := Lib.hid HT
  have HBF := Lib.hid h
  by_cases hin : n + t ≤ m
  · obtain ⟨e1, e2⟩ := ad_in (m := m) (xs := xs) (ys := cat L) (by omega)
    rw [e1, e2]
    have d1 : decide ((m : Int) - (n : Int) < (t : Int)) = false := by simp; omega
    obtain ⟨SA, sc, rfl, hscap, hSA⟩ := hs
    obtain ⟨l, hl⟩ : ∃ l, l = L.length := ⟨_, rfl⟩
    have HIN := Lib.hid hin
    have HSA := Lib.hid hSA
    have HLN := Lib.hid hl
    have HNX := Lib.hid hn
    have HTC := Lib.hid ht
    have HCAP := Lib.hid hcap
    rw [← hl] at HTT hscap hL ⊢
    clear HT hcap hfit hc e1 e2 hin h hSA ht hn hl
    go_enter Try.func38, Try.ntmps38
    go_wp2
    go_quiet ((go_at_call 51; exact Calls.quiet_of_same (HTT.out _)))
    go_wp2
    go_loopw [22] (fun i wr => ∃ (k : Nat) (vj : Value), k ≤ l ∧ i = .int .i64 k ∧ Hid (Bf B wr p m vj (xs ++ cat (L.take k)) er) ∧ Hid (Ch w wr p (.slice A xs.length c) vj)) (fun i _ => l - (intOf i).toNat)
    case atStart => exact ⟨0, _, Nat.zero_le _, rfl, by simpa [cat, Hid] using HBF.out.drewN _, Ch.drewN _ _ _ _⟩
    case round =>
      obtain ⟨k, vj, hk, rfl, HB, HC⟩ := hrel
      by_cases hlt : k < l
      · obtain ⟨b, off, rfl, hbl, hbp, hbr, hcell⟩ := HSA.out (by have := HLN.out; omega)
        obtain ⟨s, hs⟩ : ∃ s, L[k]? = some s := ⟨_, List.getElem?_eq_getElem (by have := HLN.out; omega)⟩
        have hce : wr.cell? ⟨b, off + k, none⟩ = some (.string s) := (World.cell?_of_block (HC.out.block b hbl hbp hbr)).trans (hcell k s hs)
        obtain ⟨A1, cc, rfl, _⟩ := HB.out.slice
        have c2' : wr.cell? ⟨p, 2, none⟩ = some (.slice A1 (xs ++ cat (L.take k)).length cc) := HB.out.box.cell 2
        have hfz : wr.frozen? ⟨p, 2, none⟩ = false := HB.out.box.frozen 2
        have hown := HB.out.own
        have hbase := HB.out.base
        have h1 := cat_take hs
        have h2 := cat_le L (k + 1)
        rw [h1, List.length_append, ← HTC.out, ← size_dt] at h2
        have h5 : (xs ++ cat (L.take k)).length + s.size ≤ m := by have := HIN.out; have := HNX.out; rw [List.length_append]; omega
        have h6 : (xs ++ cat (L.take k)).length + s.size ≤ 4000000 := by have := HCAP.out; omega
        obtain ⟨q, hq⟩ : ∃ q, q = (xs ++ cat (L.take k)).length := ⟨_, rfl⟩
        have HQ := Lib.hid hq
        rw [← hq] at c2' hown h5 h6
        have H5 := Lib.hid h5
        have H6 := Lib.hid h6
        have H1 := Lib.hid h1
        have HO := Lib.hid hown
        have HBS := Lib.hid hbase
        clear h1 h2 h5 h6 hown hbase hq hcell hs
        have HNE := Lib.hid (HB.out.box.ne_row HB.out.own (by decide))
        go_wp2_with (at_builtin; refine wpList_apS (v := .slice A1 q cc) rfl (.tmp 30) (.tmp 31) rfl rfl rfl HO.out H6.out HBS.out ?_; intro v1 w1 ho1 hg1 hp1; obtain ⟨A2, n2, d2, rfl, _⟩ := Rd.of_own ho1; have c3 : w1.cell? ⟨p, 2, none⟩ = some (.slice A1 q cc) := (World.cell?_of_block (hg1.block p HB.out.box.lt (fun he => by have hne := HNE.out; rw [← HQ.out] at hne; exact hne he.symm))).trans c2'; have f3 : w1.frozen? ⟨p, 2, none⟩ = false := (World.frozen?_of_block (hg1.block p HB.out.box.lt (fun he => by have hne := HNE.out; rw [← HQ.out] at hne; exact hne he.symm))).trans hfz; have HO1 := Lib.hid ho1; have HG1 := Lib.hid hg1; have HP1 := Lib.hid hp1; clear ho1 hg1 hp1)
        have hq := HQ.out
        have el : (xs ++ cat (L.take k) ++ s.data.toList).length = q + s.size := by rw [List.length_append, ← hq, size_dt]
        have hbf := HB.out
        have hch := HC.out
        rw [← hq] at hbf hch
        have hap := hbf.app HG1.out (by rw [el]; exact HO1.out) HP1.out (by rw [el]; exact H5.out)
        have hcat : xs ++ cat (L.take (k + 1)) = xs ++ cat (L.take k) ++ s.data.toList := by rw [H1.out, List.append_assoc]
        have HA : Hid (Bf B (w1.setCell ⟨p, 2, none⟩ (.slice A2 n2 d2)) p m (.slice A2 n2 d2) (xs ++ cat (L.take (k + 1))) er) := Lib.hid (by rw [hcat]; exact hap.1)
        have HCC := Lib.hid (hch.trans hap.2)
        clear hap hcat hbf hch el hq
        go_roundw
        case rel => exact ⟨k + 1, .slice A2 n2 d2, by omega, by go_num, HA, HCC⟩
        case measure => simp [intOf]; omega
      · obtain rfl : k = l := by omega
        have hfull : cat (L.take k) = cat L := by rw [HLN.out, List.take_length]
        have HA : Hid (Bf B wr p m vj (xs ++ cat L) er) := Lib.hid (by have := HB.out; rwa [hfull] at this)
        clear hfull
        go_wp2
        go_ret
        exact ⟨vj, rfl, HA.out, HC.out⟩
  · obtain ⟨e1, e2⟩ := ad_out (m := m) (xs := xs) (ys := cat L) (by omega)
    rw [e1, e2]
    have d1 : decide ((m : Int) - (n : Int) < (t : Int)) = true := by simp; omega
    clear HT hcap hfit hc e1 e2 hin h hs ht hn hL
    go_enter Try.func38, Try.ntmps38
    go_wp2
    go_quiet ((go_at_call 51; exact Calls.quiet_of_same (HTT.out _)))
    go_wp2
    go_ret
    exact ⟨_, rfl, HBF.out.drewN _, Ch.drewN _ _ _ _⟩
end Go.Proofs.Ytkcmpakcahemcaa
