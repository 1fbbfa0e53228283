/-
  What is proved here: tree.fitsKind agrees with the definition of a node as the table asks; conditions: the table holds what its initialiser lays; at most 100000 nodes, 1000 keys; and: a look-up in a map from strings to bools that the call made, and a contract of tree.checkKeys; conditions: at most 1000 keys, strings of at most 1000 bytes.
-/
import Derived.Test.YtnplkamkeadlgaaDoorFitB
import Derived.Maps.OwnSet
import Derived.Maps.OwnOps
namespace Go.Proofs.YtnplkamkeadlgaaDoor
open Go.RowKit

theorem an0 : ∀ a b c d e : Bool, (bits BinOp.andNot IntKind.i64 (flB a b c d e) 0 != 0) = (a || b || c || d || e) := by decide +kernel
theorem an1 : ∀ a b c d e : Bool, (bits BinOp.andNot IntKind.i64 (flB a b c d e) 1 != 0) = (b || c || d || e) := by decide +kernel
theorem an2 : ∀ a b c d e : Bool, (bits BinOp.andNot IntKind.i64 (flB a b c d e) 2 != 0) = (a || c || d || e) := by decide +kernel
theorem an4 : ∀ a b c d e : Bool, (bits BinOp.andNot IntKind.i64 (flB a b c d e) 4 != 0) = (a || b || d || e) := by decide +kernel
theorem an16 : ∀ a b c d e : Bool, (bits BinOp.andNot IntKind.i64 (flB a b c d e) 16 != 0) = (a || b || c || d) := by decide +kernel
theorem an24 : ∀ a b c d e : Bool, (bits BinOp.andNot IntKind.i64 (flB a b c d e) 24 != 0) = (a || b || c) := by decide +kernel

theorem fit_such (kn : Nat) (n u : Int) (s : ByteArray) (ks : List ByteArray) (L : List T) (h1 : 1 ≤ kn) (h2 : kn ≤ 17) :
    fitB (kn : Int) n (bits BinOp.andNot IntKind.i64 (flB (n != 0) (u != 0) (!s.toList.isEmpty) (decide (0 < ks.length)) (decide (0 < L.length))) (usesK kn) != 0) ks.length L.length (elmK kn) (fixK kn) (L.all fun x => decide (x.k = elmK kn)) =
      suchT (.mk (kn : Int) n u s ks L) := by
  have hs : (!s.toList.isEmpty) = !decide (s.size = 0) := by
    rw [ByteArray.toList_eq]
    have : s.size = s.data.toList.length := by simp
    rw [this]
    cases s.data.toList <;> simp
  have hn : (n != 0) = !decide (n = 0) := by by_cases h : n = 0 <;> simp [h]
  have hu : (u != 0) = !decide (u = 0) := by by_cases h : u = 0 <;> simp [h]
  have hk : decide (0 < ks.length) = !decide (ks.length = 0) := by by_cases h : ks.length = 0 <;> simp [h]; omega
  have hl : decide (0 < L.length) = !decide (L.length = 0) := by by_cases h : L.length = 0 <;> simp [h]; omega
  rw [hs, hn, hu, hk, hl]
  have hcases : kn = 1 ∨ kn = 2 ∨ kn = 3 ∨ kn = 4 ∨ kn = 5 ∨ kn = 6 ∨ kn = 7 ∨ kn = 8 ∨ kn = 9 ∨ kn = 10 ∨ kn = 11 ∨ kn = 12 ∨ kn = 13 ∨ kn = 14 ∨ kn = 15 ∨ kn = 16 ∨ kn = 17 := by omega
  clear hs hn hu hk hl h1 h2
  rcases hcases with rfl | rfl | rfl | rfl | rfl | rfl | rfl | rfl | rfl | rfl | rfl | rfl | rfl | rfl | rfl | rfl | rfl
  all_goals simp [usesK, elmK, fixK, suchT, fitB, partK, an0, an1, an2, an4, an16, an24]
  all_goals
    have e1 : (!decide (L.length < 2)) = decide (2 ≤ L.length) := by by_cases h : L.length < 2 <;> simp [h]; omega
    have e2 : (!decide (4 < L.length)) = decide (L.length ≤ 4) := by by_cases h : 4 < L.length <;> simp [h]; omega
    rw [e1, e2]
    simp [Bool.and_assoc]

set_option maxRecDepth 100000 in
set_option maxHeartbeats 4000000 in
theorem fitsKind_any (t : T) (cs : List Value) (w : World) (hT : Tab w) (hn : Nd w t cs) (hsz : t.l.length ≤ 100000) (hks : t.ks.length ≤ 1000) :
    Calls Tryd.prog 49 #[.agg cs.toArray] w fun e w' => e = .returned (.bool (suchT t)) ∧ Below w.heap.size w w' := by
  rcases t with ⟨kk, nn, uu, s, ks, L⟩
  by_cases hk : 1 ≤ kk ∧ kk ≤ 17
  · obtain ⟨kn, rfl⟩ : ∃ kn : Nat, kk = (kn : Int) := ⟨kk.toNat, by omega⟩
    rw [← fit_such kn nn uu s ks L (by omega) (by omega)]
    exact fits_any kn nn uu s ks L cs w hT hn hsz hks (by omega) (by omega)
  · have hf : suchT (.mk kk nn uu s ks L) = false := by
      have : (decide (1 ≤ kk) && decide (kk ≤ 17)) = false := by
        by_cases h : 1 ≤ kk
        · rw [decide_eq_true h, decide_eq_false (fun h2 => hk ⟨h, h2⟩)]; rfl
        · rw [decide_eq_false h]; rfl
      simp only [suchT, this, Bool.false_and]
    rw [hf]
    obtain ⟨hr, hs, kv, A, m, c, rfl, ⟨B, d, e, rfl, hkl, _, _, _, _⟩, hl, hm, hmm, hL⟩ := hn
    have hik := isKind_any kk (w.alloc (.cells #[.int .i64 kk, .int .i64 nn, .int .u64 uu, .string s, .slice B d e, .slice A m c] 31))
    have hd : (decide (1 ≤ kk) && decide (kk ≤ 17)) = false := by
      by_cases h : 1 ≤ kk
      · rw [decide_eq_true h, decide_eq_false (fun h2 => hk ⟨h, h2⟩)]; rfl
      · rw [decide_eq_false h]; rfl
    rw [hd] at hik
    go_enter Tryd.func49, Tryd.ntmps49
    go_wp2_with (go_at_call 65; refine hik.mono ?_; rintro e w' ⟨rfl, rfl⟩)
    go_ret
    exact ⟨rfl, (Below.refl _ w).alloc (Nat.le_refl _) _⟩
end Go.Proofs.YtnplkamkeadlgaaDoor
namespace Go.Proofs.YtnplkamkeadlgaaDoor
open Go.RowKit Go.Maps Go.WideMaps Go.WideElems

/-- m[k] at elements that are bools. -/
theorem look_bool {H : Type} {P : Program} (w : World) {ops : Array Oper} {rest : List Oper} {o : Oper} {a : Act} {Q : Exit → Act → World → Prop}
    (hg : o.guard = none) (m x : Operand) (t : TypeId) (hop : o.op = Op.lookup t m x false) (k e : TypeId) (K : Keyed P k) (ht : P.underlying t = some (.map k e)) (he : P.underlying e = some .bool)
    (hz : (zeroValue e).run P w = .ok (.bool false) w) (b n : Nat) (D : DataW H) (hm : a.eval m = .map (some b)) (hown : w.ownsMap P k (plainElem P e) b n D) (key : Value) (kl : Lit) (hx : a.eval x = key) (hkey : keyOf P k key = some kl)
    (hK : ∀ c : Bool, D.atKey kl (.lit (.bool false)) = .lit (.bool c) → wpList P ops Q rest (a.put o.dst (.bool c)) w) : wpList P ops Q (o :: rest) a w := by
  refine wpList_plain hg fun K' hK' => ?_
  obtain ⟨v, ps, hrun, hv⟩ := hown.lookup K ht hz (plainElem_bool he false) hkey
  obtain ⟨c, rfl, hc⟩ : ∃ c, v = .bool c ∧ D.atKey kl (.lit (.bool false)) = .lit (.bool c) := by
    unfold plainElem at hv
    rw [he] at hv
    cases v <;> simp at hv
    exact ⟨_, rfl, hv.1.symm⟩
  unfold Oper.wp
  simp [execOp, hop, hm, hx, hrun, Result.andThen]
  exact hK' _ _ (hK c hc)

/-- What a set of strings holds at a key. -/
theorem at_fold {H : Type} (u z : DataW H) (k : Lit) (hk : WideAt.IsKeyLit k) : ∀ (acc : List Lit) (m : DataW H), IsMap m → (k ∈ acc → (acc.foldl (fun m x => m.put x u) m).atKey k z = u) ∧ (k ∉ acc → (acc.foldl (fun m x => m.put x u) m).atKey k z = m.atKey k z)
  | [], m, _ => ⟨fun h => by simp at h, fun _ => rfl⟩
  | x :: xs, m, hm => by
    have ih := at_fold u z k hk xs (m.put x u) (hm.put x u)
    simp only [List.foldl_cons]
    constructor
    · intro h
      by_cases h2 : k ∈ xs
      · exact ih.1 h2
      · rw [ih.2 h2]
        rcases List.mem_cons.1 h with rfl | h3
        · exact atKey_put_same hm hk u z
        · exact absurd h3 h2
    · intro h
      rw [ih.2 (fun h2 => h (List.mem_cons_of_mem _ h2)), atKey_put_other (fun e => h (by rw [e]; simp))]
def lits (ks : List ByteArray) : List Lit := ks.map fun s => .string s.data.toList
def setD (ks : List ByteArray) : DataW Unit := setOf (.lit (.bool true)) (lits ks)
theorem mem_lits {ks : List ByteArray} {s : ByteArray} : Lit.string s.data.toList ∈ lits ks ↔ (ks.any fun d => d.data.toList == s.data.toList) = true := by
  simp only [lits, List.mem_map, List.any_eq_true, beq_iff_eq, Lit.string.injEq]
theorem setD_at (ks : List ByteArray) (s : ByteArray) : (setD ks).atKey (.string s.data.toList) (.lit (.bool false)) = .lit (.bool (ks.any fun d => d.data.toList == s.data.toList)) := by
  have h := at_fold (H := Unit) (.lit (.bool true)) (.lit (.bool false)) (.string s.data.toList) trivial (lits ks) (.map []) isMap_empty
  by_cases hm : Lit.string s.data.toList ∈ lits ks
  · rw [setD, setOf, h.1 hm, mem_lits.1 hm]
  · rw [setD, setOf, h.2 hm]
    have : (ks.any fun d => d.data.toList == s.data.toList) = false := by
      rw [Bool.eq_false_iff]; exact fun e => hm (mem_lits.2 e)
    rw [this]
    rfl
theorem setD_snoc (ks : List ByteArray) (s : ByteArray) : setD (ks ++ [s]) = (setD ks).put (.string s.data.toList) (.lit (.bool true)) := by
  rw [setD, lits, List.map_append, List.map_cons, List.map_nil, setOf_snoc]
  rfl
theorem lawK : Keyed Tryd.prog 9 := string_keyed Tryd.underlying9

/-- What checkKeys answers. -/
def keyE (t : T) : Nat := if t.k = 5 ∧ hasZ t.s = true then 70 else keysE [] t.ks
theorem keysE_cons (done : List ByteArray) (k : ByteArray) (ks : List ByteArray) : keysE done (k :: ks) = if hasZ k = true then 70 else if (done.any fun d => d.data.toList == k.data.toList) = true then 71 else keysE (done ++ [k]) ks := rfl

set_option maxRecDepth 100000 in
set_option maxHeartbeats 8000000 in
theorem checkKeys_any (t : T) (cs : List Value) (w : World) (hn : Nd w t cs) (hks : t.ks.length ≤ 1000) (hkx : ∀ x ∈ t.ks, x.size ≤ 1000) :
    Calls Tryd.prog 50 #[.agg cs.toArray] w fun e w' => e = .returned (.int .i64 ((keyE t : Nat) : Int)) ∧ Below w.heap.size w w' := by
  have hmm := @run_makeMap Tryd.prog
  rcases t with ⟨kk, nn, uu, s, ks, L⟩
  obtain ⟨hr, hs, kv, A, m, c, rfl, hkv, hl, hm, hmx, hL⟩ := hn
  obtain ⟨B, d, e, rfl, hkl, hde, hem, hsz, hB⟩ := hkv.at
  unfold keyE
  show Calls Tryd.prog 50 _ w fun e w' => e = .returned (.int .i64 (((if kk = 5 ∧ hasZ s = true then 70 else keysE [] ks : Nat)) : Int)) ∧ _
  replace hks : ks.length ≤ 1000 := hks
  replace hkx : ∀ x ∈ ks, x.size ≤ 1000 := hkx
  have hz := fun W => hasZero_any s W
  obtain ⟨zb, hzb⟩ : ∃ zb, hasZ s = zb := ⟨_, rfl⟩
  rw [hzb] at hz ⊢
  have HB0 : Below w.heap.size w ((w.alloc (.cells #[.int .i64 kk, .int .i64 nn, .int .u64 uu, .string s, .slice B d e, .slice A m c] 31)).alloc (.map #[] 0)) := ((Below.refl _ w).alloc (Nat.le_refl _) _).alloc (by simp) _
  have HM : ((w.alloc (.cells #[.int .i64 kk, .int .i64 nn, .int .u64 uu, .string s, .slice B d e, .slice A m c] 31)).alloc (.map #[] 0)).ownsMap Tryd.prog 9 (plainElem (H := Unit) Tryd.prog 4) (w.heap.size + 1) 0 (setD (ks.take 0)) := by
    have := World.ownsMap_made (H := Unit) (w.alloc (.cells #[.int .i64 kk, .int .i64 nn, .int .u64 uu, .string s, .slice B d e, .slice A m c] 31)) Tryd.prog 9 (plainElem Tryd.prog 4)
    rwa [World.size_alloc] at this
  by_cases hk5 : kk = 5
  · subst hk5
    cases zb with
    | true =>
      rw [if_pos ⟨rfl, rfl⟩]
      go_enter Tryd.func50, Tryd.ntmps50
      go_wp2_with (go_at_call 68; refine (hz _).mono ?_; rintro e w' ⟨rfl, rfl⟩)
      all_goals
        go_ret
        exact ⟨rfl, (Below.refl _ w).alloc (Nat.le_refl _) _⟩
    | false =>
    rw [if_neg (by simp)]
    clear hzb
    go_enter Tryd.func50, Tryd.ntmps50
    go_wp2_with (go_at_call 68; refine (hz _).mono ?_; rintro e w' ⟨rfl, rfl⟩)
    go_loopw [18] (fun i wr => ∃ j : Nat, j ≤ d ∧ i = .int .i64 (j : Int) ∧ Hid (wr.ownsMap Tryd.prog 9 (plainElem Tryd.prog 4) (w.heap.size + 1) j (setD (ks.take j))) ∧ Hid (Below w.heap.size w wr) ∧ Hid (keysE [] ks = keysE (ks.take j) (ks.drop j))) (fun i _ => d - (intOf i).toNat)
    case atStart => exact ⟨0, Nat.zero_le _, rfl, Lib.hid HM, Lib.hid HB0, rfl⟩
    case round =>
      obtain ⟨j, hj, rfl, HM, HB, HE⟩ := hrel
      by_cases hjm : j < d
      · obtain ⟨x, hx⟩ : ∃ x, ks[j]? = some x := ⟨_, List.getElem?_eq_getElem (by omega)⟩
        obtain ⟨b1, off1, rfl, hb1, hc1⟩ := hB (by omega)
        have hcell := hc1 wr HB.out j x hx
        have hxl := hkx x (List.mem_of_getElem? hx)
        have hdrop : ks.drop j = x :: ks.drop (j + 1) := by
          have := List.getElem?_eq_some_iff.1 hx
          rw [List.drop_eq_getElem_cons this.1, this.2]
        have htake : ks.take (j + 1) = ks.take j ++ [x] := by rw [List.take_add_one, hx]; rfl
        have hE := HE.out
        rw [hdrop, keysE_cons, ← htake] at hE
        have hat := setD_at (ks.take j) x
        have hsn := setD_snoc (ks.take j) x
        rw [← htake] at hsn
        have HSN := Lib.hid hsn
        have HAT := Lib.hid hat
        obtain ⟨xb, hxb⟩ : ∃ xb, hasZ x = xb := ⟨_, rfl⟩
        obtain ⟨tb, htb⟩ : ∃ tb, ((ks.take j).any fun d => d.data.toList == x.data.toList) = tb := ⟨_, rfl⟩
        rw [htb] at HAT
        have HCT : Hid (∀ c, (setD (ks.take j)).atKey (Lit.string x.data.toList) (DataW.lit (Lit.bool false)) = DataW.lit (Lit.bool c) → c = tb) := Lib.hid fun c h => by
          have h2 := HAT.out.symm.trans h
          simp only [DataW.lit.injEq, Lit.bool.injEq] at h2
          exact h2.symm
        rw [hxb, htb] at hE
        have hz2 := fun W => hasZero_any x W
        rw [hxb] at hz2
        have hkey : keyOf Tryd.prog 9 (.string x) = some (.string x.data.toList) := keyOf_string_mk Tryd.underlying9 (by unfold maxLen; omega)
        have HX := Lib.hid hE
        have hjs : j < 1000 := by omega
        clear hx hc1 hkx hB hxb htb hE hdrop htake hat hsn HE
        cases xb with
        | true =>
          go_wp2_with (go_at_call 68; refine (hz2 _).mono ?_; rintro e w' ⟨rfl, rfl⟩)
          go_ret
          have := HX.out
          simp only [if_true] at this
          exact ⟨by rw [this]; rfl, HB.out⟩
        | false =>
        cases tb with
        | true =>
          go_wp2_with (first
            | (go_at_call 68; refine (hz2 _).mono ?_; rintro e w' ⟨rfl, rfl⟩)
            | (at_lookup; refine look_bool _ rfl _ _ 90 rfl 9 4 lawK Tryd.underlying90 Tryd.underlying4 (Tryd.zeroValue4 _) (w.heap.size + 1) j _ rfl HM.out _ _ rfl hkey ?_; intro c2 hat2; have hct := HCT.out c2 hat2; clear hat2; subst hct)
            | go_in)
          go_ret
          have := HX.out
          simp only [Bool.false_eq_true, if_false, if_true] at this
          exact ⟨by rw [this]; rfl, HB.out⟩
        | false =>
          have HX2 : Hid (keysE [] ks = keysE (ks.take (j + 1)) (ks.drop (j + 1))) := Lib.hid (by
            have := HX.out
            simp only [Bool.false_eq_true, if_false] at this
            exact this)
          clear HX
          go_wp2_with (first
            | (go_at_call 68; refine (hz2 _).mono ?_; rintro e w' ⟨rfl, rfl⟩)
            | (at_lookup; refine look_bool _ rfl _ _ 90 rfl 9 4 lawK Tryd.underlying90 Tryd.underlying4 (Tryd.zeroValue4 _) (w.heap.size + 1) j _ rfl HM.out _ _ rfl hkey ?_; intro c2 hat2; have hct := HCT.out c2 hat2; clear hat2; subst hct)
            | (at_mapUpdate; refine wpList_mapUpdate_own _ rfl _ _ _ 90 rfl 9 4 lawK Tryd.underlying90 _ (w.heap.size + 1) j _ rfl HM.out (Nat.lt_of_lt_of_le hjs (by decide)) _ _ _ rfl rfl hkey _ [] (plainElem_bool Tryd.underlying4 true) ?_; intro w1 hown1 hgrow1)
            | go_in)
          go_roundw
          case rel => exact ⟨j + 1, by omega, by simp, by rw [HSN.out]; exact hown1, Lib.hid (HB.out.grown hgrow1 HB.out.size (fun k e => by cases e; omega)), HX2⟩
          case measure => simp [intOf]; omega
      · go_wp2_with fail
        go_ret
        have hE := HE.out
        rw [List.drop_of_length_le (by omega)] at hE
        exact ⟨by rw [hE]; rfl, HB.out⟩
  · rw [if_neg (fun h => hk5 h.1)]
    go_enter Tryd.func50, Tryd.ntmps50
    go_wp2_with fail
    go_loopw [18] (fun i wr => ∃ j : Nat, j ≤ d ∧ i = .int .i64 (j : Int) ∧ Hid (wr.ownsMap Tryd.prog 9 (plainElem Tryd.prog 4) (w.heap.size + 1) j (setD (ks.take j))) ∧ Hid (Below w.heap.size w wr) ∧ Hid (keysE [] ks = keysE (ks.take j) (ks.drop j))) (fun i _ => d - (intOf i).toNat)
    case atStart => exact ⟨0, Nat.zero_le _, rfl, Lib.hid HM, Lib.hid HB0, rfl⟩
    case round =>
      obtain ⟨j, hj, rfl, HM, HB, HE⟩ := hrel
      by_cases hjm : j < d
      · obtain ⟨x, hx⟩ : ∃ x, ks[j]? = some x := ⟨_, List.getElem?_eq_getElem (by omega)⟩
        obtain ⟨b1, off1, rfl, hb1, hc1⟩ := hB (by omega)
        have hcell := hc1 wr HB.out j x hx
        have hxl := hkx x (List.mem_of_getElem? hx)
        have hdrop : ks.drop j = x :: ks.drop (j + 1) := by
          have := List.getElem?_eq_some_iff.1 hx
          rw [List.drop_eq_getElem_cons this.1, this.2]
        have htake : ks.take (j + 1) = ks.take j ++ [x] := by rw [List.take_add_one, hx]; rfl
        have hE := HE.out
        rw [hdrop, keysE_cons, ← htake] at hE
        have hat := setD_at (ks.take j) x
        have hsn := setD_snoc (ks.take j) x
        rw [← htake] at hsn
        have HSN := Lib.hid hsn
        have HAT := Lib.hid hat
        obtain ⟨xb, hxb⟩ : ∃ xb, hasZ x = xb := ⟨_, rfl⟩
        obtain ⟨tb, htb⟩ : ∃ tb, ((ks.take j).any fun d => d.data.toList == x.data.toList) = tb := ⟨_, rfl⟩
        rw [htb] at HAT
        have HCT : Hid (∀ c, (setD (ks.take j)).atKey (Lit.string x.data.toList) (DataW.lit (Lit.bool false)) = DataW.lit (Lit.bool c) → c = tb) := Lib.hid fun c h => by
          have h2 := HAT.out.symm.trans h
          simp only [DataW.lit.injEq, Lit.bool.injEq] at h2
          exact h2.symm
        rw [hxb, htb] at hE
        have hz2 := fun W => hasZero_any x W
        rw [hxb] at hz2
        have hkey : keyOf Tryd.prog 9 (.string x) = some (.string x.data.toList) := keyOf_string_mk Tryd.underlying9 (by unfold maxLen; omega)
        have HX := Lib.hid hE
        have hjs : j < 1000 := by omega
        clear hx hc1 hkx hB hxb htb hE hdrop htake hat hsn HE
        cases xb with
        | true =>
          go_wp2_with (go_at_call 68; refine (hz2 _).mono ?_; rintro e w' ⟨rfl, rfl⟩)
          go_ret
          have := HX.out
          simp only [if_true] at this
          exact ⟨by rw [this]; rfl, HB.out⟩
        | false =>
        cases tb with
        | true =>
          go_wp2_with (first
            | (go_at_call 68; refine (hz2 _).mono ?_; rintro e w' ⟨rfl, rfl⟩)
            | (at_lookup; refine look_bool _ rfl _ _ 90 rfl 9 4 lawK Tryd.underlying90 Tryd.underlying4 (Tryd.zeroValue4 _) (w.heap.size + 1) j _ rfl HM.out _ _ rfl hkey ?_; intro c2 hat2; have hct := HCT.out c2 hat2; clear hat2; subst hct)
            | go_in)
          go_ret
          have := HX.out
          simp only [Bool.false_eq_true, if_false, if_true] at this
          exact ⟨by rw [this]; rfl, HB.out⟩
        | false =>
          have HX2 : Hid (keysE [] ks = keysE (ks.take (j + 1)) (ks.drop (j + 1))) := Lib.hid (by
            have := HX.out
            simp only [Bool.false_eq_true, if_false] at this
            exact this)
          clear HX
          go_wp2_with (first
            | (go_at_call 68; refine (hz2 _).mono ?_; rintro e w' ⟨rfl, rfl⟩)
            | (at_lookup; refine look_bool _ rfl _ _ 90 rfl 9 4 lawK Tryd.underlying90 Tryd.underlying4 (Tryd.zeroValue4 _) (w.heap.size + 1) j _ rfl HM.out _ _ rfl hkey ?_; intro c2 hat2; have hct := HCT.out c2 hat2; clear hat2; subst hct)
            | (at_mapUpdate; refine wpList_mapUpdate_own _ rfl _ _ _ 90 rfl 9 4 lawK Tryd.underlying90 _ (w.heap.size + 1) j _ rfl HM.out (Nat.lt_of_lt_of_le hjs (by decide)) _ _ _ rfl rfl hkey _ [] (plainElem_bool Tryd.underlying4 true) ?_; intro w1 hown1 hgrow1)
            | go_in)
          go_roundw
          case rel => exact ⟨j + 1, by omega, by simp, by rw [HSN.out]; exact hown1, Lib.hid (HB.out.grown hgrow1 HB.out.size (fun k e => by cases e; omega)), HX2⟩
          case measure => simp [intOf]; omega
      · go_wp2_with fail
        go_ret
        have hE := HE.out
        rw [List.drop_of_length_le (by omega)] at hE
        exact ⟨by rw [hE]; rfl, HB.out⟩
end Go.Proofs.YtnplkamkeadlgaaDoor
