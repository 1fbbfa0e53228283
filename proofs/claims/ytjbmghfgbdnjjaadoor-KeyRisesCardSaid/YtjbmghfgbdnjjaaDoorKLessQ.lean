/-
  What is proved here: the reference's Less reads only; append onto a row of the call's own as a step of a statement whose order is open; condition: strings no longer than the form reads.
-/
import Derived.Test.YtjbmghfgbdnjjaaDoorKIns
import Derived.Test.YtjbmghfgbdnjjaaDoorKInts
import Derived.Deep.RegionHeld3
namespace Go.Proofs.YtjbmghfgbdnjjaaDoor
open Go.RowKit Go.Sort Go.Shelf

set_option maxRecDepth 100000 in
set_option maxHeartbeats 1000000 in
theorem refLess_q (a b : ByteArray) (w : World) (ha : a.size ≤ maxLen) (hb : b.size ≤ maxLen) : Calls Tryd.prog 19 #[.string a, .string b] w fun e w' => e = .returned (.bool (lt a b)) ∧ ∃ q, w' = w.drewN q := by
  have hma : a.size ≤ 9223372036854775807 := ha
  have hmb : b.size ≤ 9223372036854775807 := hb
  obtain ⟨β, hβ⟩ : ∃ β, Op.bytesLess a.toList b.toList = β := ⟨_, rfl⟩
  have HB := Lib.hid hβ
  have e0 : lt a b = β := hβ
  rw [e0]
  clear hβ ha hb e0
  go_enter Tryd.func19, Tryd.ntmps19
  go_wp2_with fail
  go_loopw [5] (fun i wr => ∃ j : Nat, j ≤ a.size ∧ j ≤ b.size ∧ i = .int .i64 (j : Int) ∧ Hid (a.toList.take j = b.toList.take j) ∧ ∃ q, wr = w.drewN q) (fun i wr => a.size - (intOf i).toNat)
  case atStart => exact ⟨0, Nat.zero_le _, Nat.zero_le _, rfl, Lib.hid rfl, 0, rfl⟩
  case round =>
    obtain ⟨j, hja, hjb, rfl, HT, q, rfl⟩ := hrel
    by_cases h1 : j < a.size
    · by_cases h2 : j < b.size
      · have hx : a.toList[j]? = some a[j] := by
          rw [ByteArray.toList_eq, List.getElem?_eq_getElem (by simpa using h1)]
          rfl
        have hy : b.toList[j]? = some b[j] := by
          rw [ByteArray.toList_eq, List.getElem?_eq_getElem (by simpa using h2)]
          rfl
        have HX := Lib.hid hx
        have HY := Lib.hid hy
        clear hx hy
        by_cases hxy : a[j] = b[j]
        · have hne : (((a[j].toNat : Nat) : Int) != ((b[j].toNat : Nat) : Int)) = false := by rw [hxy]; simp
          have HN : Hid (a.toList.take (j + 1) = b.toList.take (j + 1)) := Lib.hid (by rw [List.take_add_one, List.take_add_one, HT.out, HX.out, HY.out, hxy])
          clear hxy
          go_wp2_with fail
          go_quiet (fail)
          go_wp2_with fail
          go_roundw
          case rel => exact ⟨j + 1, by omega, by omega, by simp, HN, _, rfl⟩
          case measure => simp [intOf]; omega
        · have hne : (((a[j].toNat : Nat) : Int) != ((b[j].toNat : Nat) : Int)) = true := by
            simp only [bne_iff_ne, ne_eq]
            intro h
            exact hxy (UInt8.toNat_inj.1 (by omega))
          have HZ : Hid (decide (a[j].toNat < b[j].toNat) = β) := Lib.hid (by
            rw [← HB.out, less_at HT.out HX.out HY.out hxy]
            exact decide_eq_decide.2 UInt8.lt_iff_toNat_lt.symm)
          clear hxy
          go_wp2_with fail
          go_quiet (fail)
          go_wp2_with fail
          go_quiet (fail)
          go_wp2_with fail
          go_ret
          exact ⟨by rw [← HZ.out]; rfl, _, by rw [World.drewN_drewN, World.drewN_drewN]⟩
      · have HZ : Hid (decide (a.size < b.size) = β) := Lib.hid (by
          have := less_end HT.out (by simp [ByteArray.toList_eq]; omega) (by simp [ByteArray.toList_eq]; omega) (.inr (by simp [ByteArray.toList_eq]; omega))
          rw [← HB.out, this]
          simp [ByteArray.toList_eq])
        go_wp2_with fail
        go_ret
        exact ⟨by rw [← HZ.out]; rfl, _, rfl⟩
    · have HZ : Hid (decide (a.size < b.size) = β) := Lib.hid (by
        have := less_end HT.out (by simp [ByteArray.toList_eq]; omega) (by simp [ByteArray.toList_eq]; omega) (.inl (by simp [ByteArray.toList_eq]; omega))
        rw [← HB.out, this]
        simp [ByteArray.toList_eq])
      go_wp2_with fail
      go_ret
      exact ⟨by rw [← HZ.out]; rfl, _, rfl⟩

/-- A row of the call's own, laid since the world w0. -/
def AP (w0 W : World) (v : Value) (xs : List Int) : Prop := W.ownsRow w0.heap.size 3 1 v xs.length (bv xs) ∧ RowKit.Below w0.heap.size w0 W
theorem AP.nil {w0 W : World} (h : RowKit.Below w0.heap.size w0 W) : AP w0 W (.slice none 0 0) [] := ⟨World.ownsRow_nil _ _ _ _, h⟩
theorem own_keep {w w' : World} {base n : Nat} {e : TypeId} {v : Value} {xs : List Value} (h : w.ownsRow base e 1 v n xs) (hb : RowKit.Below w.heap.size w w') : w'.ownsRow base e 1 v n xs := by
  refine ⟨h.1, ?_⟩
  rcases h.2 with ⟨h', h0⟩ | ⟨g, cap', cur, h', h1, hg, h2⟩
  · exact .inl ⟨h', h0⟩
  · exact .inr ⟨g, cap', cur, h', h1, (hb.block g (Array.getElem?_eq_some_iff.1 hg).1).trans hg, h2⟩
theorem own_base_le {w : World} {base base' n : Nat} {e : TypeId} {v : Value} {xs : List Value} (h : w.ownsRow base e 1 v n xs) (hb : base' ≤ base) : w.ownsRow base' e 1 v n xs := by
  refine ⟨h.1, ?_⟩
  rcases h.2 with ⟨h', h0⟩ | ⟨g, cap', cur, h', h1, h2⟩
  · exact .inl ⟨h', h0⟩
  · exact .inr ⟨g, cap', cur, h', Nat.le_trans hb h1, h2⟩
theorem AP.alloc {w0 W : World} {v : Value} {xs : List Int} (h : AP w0 W v xs) (o : Obj) : AP w0 (W.alloc o) v xs :=
  ⟨own_keep h.1 ((RowKit.Below.refl _ _).alloc (Nat.le_refl _) o), h.2.alloc h.2.size o⟩
theorem rds_lit (W : World) (x : Int) : Rds (W.alloc (.cells #[.int .i64 x] 3)) (some ⟨W.heap.size, 0, none⟩) 1 1 [x] := by
  refine ⟨rfl, Nat.le_refl _, fun _ => ⟨W.heap.size, 0, rfl, by simp, fun j y hy => ?_⟩⟩
  rw [cell_of_row _ _ _ #[.int .i64 x] 3 (0, 0) (heap_alloc_new W _)]
  match j, hy with
  | 0, hy => simp at hy; subst hy; rfl
theorem step_ap {ops : Array Oper} {o : Oper} {a : Act} {w w0 : World} {K : Act → World → Prop} {Q : Exit → Act → World → Prop} {E : Prop} {m c : Nat} {v : Value} {xs ys : List Int} {A : Option Addr}
    (hgd : o.guard = none) (s x : Operand) (ho : o.op = .call { callee := .builtin .append, args := #[s, x], argTypes := #[25, 25] })
    (hs : a.eval s = v) (hx : a.eval x = .slice A m c) (hap : AP w0 w v xs) (hr : Rds w A m c ys) (hb : xs.length + m ≤ 65536)
    (h : ∀ v' w', Hid (AP w0 w' v' (xs ++ ys)) → Hid (v = .slice none 0 0 → RowKit.Below w.heap.size w w') → K (a.put o.dst v') w') :
    if Region.wanted o (yielded ops a.tmps) = true then Oper.wp Tryd.prog o a w K Q else E := by
  have hw : Region.wanted o (yielded ops a.tmps) = true := by simp [Region.wanted, hgd]
  rw [if_pos hw]
  obtain ⟨v', w', hrun, h2, h3⟩ := run_app o.type hap.1 hr hb hap.2.size
  unfold Oper.wp execOp
  simp only [ho, resolve, invoke, builtin, Sem.run_bind, Sem.run_pure, Result.andThen_ok, List.map_toArray, List.map_cons, List.map_nil, hs, hx, hrun]
  refine h v' w' (Lib.hid ⟨?_, ?_⟩) (Lib.hid ?_)
  · rw [List.length_append, hr.1]; exact h2
  · refine hap.2.trans ⟨h3.os, h3.tape, h3.output, h3.size, fun k hk => h3.block k (Nat.lt_of_lt_of_le hk hap.2.size) (fun e => ?_)⟩
    have := own_base hap.1 k e.symm
    omega
  · rintro rfl
    exact ⟨h3.os, h3.tape, h3.output, h3.size, fun k hk => h3.block k hk (by simp [Value.ownBlock])⟩
end Go.Proofs.YtjbmghfgbdnjjaaDoor
