/-
  What is proved here: the walk of accordionlaw10.LexPlace; condition: the tables that package lex and its library read hold what is laid.
-/
import Derived.Test.YtfmoiknpadilaaaDoorLNextsW
import Derived.Test.YtfmoiknpadilaaaDoorLPl
import Derived.StillTailTactics
import Derived.Deep.RegionLaw
import Derived.Deep.RegionHeld3
namespace Go.Proofs.YtfmoiknpadilaaaDoor
open Go.RowKit Ut Lx Go.Maps

theorem next0_S {w0 w : World} (s : ByteArray) (hs : s.size ≤ 60000) (k f t : Nat) (N : Int) (U : Nat) (x : List UInt8) (e : Nat) (h : tok s.data.toList 0 = ⟨k, f, t, N, U, x, e⟩) (hS : SL w0 w) :
    Calls Tryd.prog 10 #[.string s, .int .i64 0] w fun r w' => r = .returned (.tuple #[.agg #[.int .i64 k, .int .i64 f, .int .i64 t, .int .i64 N, .int .u64 U, .string (str x)], .int .i64 e]) ∧ SL w0 w' ∧ Below w.heap.size w w' := by
  refine (show Calls Tryd.prog 10 #[.string s, .int .i64 0] w (TKE w (tok s.data.toList 0)) from Next_any s _ 0 w rfl (Nat.zero_le _) (by omega) (Or.inl (by omega)) hS.lb).mono ?_
  rintro r w' ⟨rfl, hb⟩
  rw [h]
  exact ⟨rfl, hS.step hb, hb⟩
theorem shortS {w0 w : World} (s : ByteArray) (m : Nat) (hs : s.size ≤ 9223372036854775807) (hS : SL w0 w) :
    Calls Tryd.prog 9 #[.string s, .int .i64 (m : Int)] w fun e w' => e = .returned (.string (str (s.data.toList.take m))) ∧ SL w0 w' := by
  refine (short_any s m w hs).mono ?_
  rintro e w' ⟨rfl, rfl⟩
  exact ⟨rfl, hS⟩
theorem str_app3 (a b : List UInt8) : str a ++ str b = str (a ++ b) := by
  unfold str
  apply ByteArray.ext
  simp
set_option maxHeartbeats 4000000 in
set_option maxRecDepth 1000000 in
theorem place_yes (a b : ByteArray) (w0 w : World) (hS : SL w0 w) (ha : a.size ≤ 9223372036854775807) (s : ByteArray) (hs : str (a.data.toList.take 300) = s) (hsz : s.size ≤ 300) (k f t : Nat) (N : Int) (U : Nat) (x : List UInt8) (e : Nat)
    (h : tok s.data.toList 0 = ⟨k, f, t, N, U, x, e⟩) (he : e = 0 ∨ e = 101) :
    Calls Tryd.prog 8 #[.string a, .string b] w (SE2 w0 (.bool true)) := by
  have C := shortS a 300 ha hS
  rw [hs] at C
  have HC := Lib.hid (show Calls Tryd.prog 9 #[.string a, .int .i64 300] w fun e w' => e = .returned (.string s) ∧ SL w0 w' from C)
  obtain ⟨y, hy⟩ : ∃ y, str x = y := ⟨_, rfl⟩
  have H1 := Lib.hid (fun W (hW : SL w0 W) => next0_S s (by omega) k f t N U x e h hW)
  rw [hy] at H1
  have HW := Lib.hid (fun W (h : SL w0 W) => works_S h)
  clear C hs hS h hy
  rcases he with rfl | rfl
  all_goals
    go_enter Tryd.func8, Tryd.ntmps8
    go_wp2_with (first
      | (go_at_call 9; (with_reducible refine HC.out.mono ?_); rintro x1 w1 ⟨rfl, h1⟩; have HS1 := Lib.hid h1; clear h1)
      | (go_at_call 10; (with_reducible refine (H1.out _ HS1.out).mono ?_); rintro x1 w2 ⟨rfl, h2, hb2⟩; have HS2 := Lib.hid (h2.step ((Below.refl _ _).alloc (Nat.le_refl _) (.cells #[.int .i64 k, .int .i64 f, .int .i64 t, .int .i64 N, .int .u64 U, .string y] 25))); clear h2 hb2)
      | (go_at_call 13; (with_reducible refine (HW.out _ HS2.out).mono ?_); rintro x1 w4 ⟨rfl, h4⟩; have HS4 := Lib.hid h4; clear h4))
    go_ret
    exact ⟨ret_bool (by simp), HS4.out⟩
set_option maxHeartbeats 4000000 in
set_option maxRecDepth 1000000 in
theorem place_no (a b : ByteArray) (w0 w : World) (hS : SL w0 w) (ha : a.size ≤ 9223372036854775807) (hb : b.size ≤ 9223372036854775807) (s : ByteArray) (hs : str (a.data.toList.take 300) = s) (hsz : s.size ≤ 300) (p e : Nat) (h0 : e ≠ 0) (h1 : e ≠ 101)
    (h : tok s.data.toList 0 = ⟨0, p, p, 0, 0, [], e⟩) :
    Calls Tryd.prog 8 #[.string a, .string b] w (SE2 w0 (.bool true)) := by
  have hP := tok_place s.data.toList (by rw [h]; exact h0) (by rw [h]; exact h1)
  rw [h] at hP
  obtain ⟨p1, _, p3, p4⟩ := hP
  have hpl : p ≤ s.size := by rw [Lib.size_eq]; exact p1
  have C := shortS a 300 ha hS
  rw [hs] at C
  have HC := Lib.hid (show Calls Tryd.prog 9 #[.string a, .int .i64 300] w fun e w' => e = .returned (.string s) ∧ SL w0 w' from C)
  have H1 := Lib.hid (fun W (hW : SL w0 W) => (show Calls Tryd.prog 10 #[.string s, .int .i64 0] W fun r w' => r = .returned (.tuple #[.agg #[.int .i64 0, .int .i64 p, .int .i64 p, .int .i64 0, .int .u64 0, .string ⟨#[]⟩], .int .i64 e]) ∧ SL w0 w' ∧ Below W.heap.size W w' from next0_S s (by omega) 0 p p 0 0 [] e h hW))
  obtain ⟨⟨k2, f2, t2, N2, U2, x2, e2⟩, h2⟩ : ∃ t, tok (s.data.toList.take p) 0 = t := ⟨_, rfl⟩
  have p3' : e2 = 0 ∨ f2 = p := by
    have hq : (tok (s.data.toList.take p) 0).e = 0 ∨ (tok (s.data.toList.take p) 0).f = p := p3
    rw [h2] at hq
    exact hq
  obtain ⟨y2, hy2⟩ : ∃ y, str x2 = y := ⟨_, rfl⟩
  obtain ⟨z, hz⟩ : ∃ z, s.extract 0 p = z := ⟨_, rfl⟩
  have hzd : z.data.toList = s.data.toList.take p := by rw [← hz]; exact lx_take s p
  have hzs : z.size ≤ 60000 := by rw [← hz, ByteArray.size_extract]; omega
  have H2 := Lib.hid (fun W (hW : SL w0 W) => next0_S z hzs k2 f2 t2 N2 U2 x2 e2 (by rw [hzd]; exact h2) hW)
  rw [hy2] at H2
  have HZ := Lib.hid hz
  have HW := Lib.hid (fun W (h : SL w0 W) => works_S h)
  have q0 : ((e : Int) == 0) = false := by simp; omega
  have q1 : ((e : Int) == 101) = false := by simp; omega
  have g1 : decide ((p : Int) < 0) = false := decide_eq_false (by omega)
  have g2 : decide ((s.size : Int) < (p : Int)) = false := decide_eq_false (by omega)
  have g3 : decide (s.size < p) = false := decide_eq_false (by omega)
  have i1 : (0 : Int) ≤ (p : Int) := by omega
  have i2 : (p : Int) ≤ (s.size : Int) := by omega
  have HP4 := Lib.hid p4
  have HB := Lib.hid hb
  have HSS := Lib.hid (show s.data.toList.length = s.size from (Lib.size_eq s).symm)
  clear p1 p3 p4 C hs hS h h0 h1 h2 hy2 hz hzd hzs hb
  rcases Nat.eq_zero_or_pos e2 with he2 | he2
  · skip
    first
      | (have r0 : ((e2 : Int) != 0) = false := by (rw [he2]; rfl))
      | (have r0 : ((e2 : Int) != 0) = true := by (simp; omega))
    first
      | (have r1 : ((f2 : Int) != (p : Int)) = false := by
          (have := p3'
           simp
           omega))
      | skip
    clear p3' he2
    by_cases hpe : p = s.size
    · have b1 : ((p : Int) == (s.size : Int)) = true := by rw [beq_iff_eq]; omega
      clear hpe HP4
      go_enter Tryd.func8, Tryd.ntmps8
      go_wp2_with (first
        | (go_at_call 9; (with_reducible refine HC.out.mono ?_); rintro x1 w1 ⟨rfl, h1⟩; have HS1 := Lib.hid h1; clear h1)
        | (go_at_call 10; (with_reducible refine (H1.out _ HS1.out).mono ?_); rintro x1 w2 ⟨rfl, h2, hb2⟩; have HS2 := Lib.hid (h2.step ((Below.refl _ _).alloc (Nat.le_refl _) (.cells #[.int .i64 0, .int .i64 p, .int .i64 p, .int .i64 0, .int .u64 0, .string ⟨#[]⟩] 25))); clear h2 hb2)
        | (go_at_call 10; rw [HZ.out]; (with_reducible refine (H2.out _ HS2.out).mono ?_); rintro x1 w3 ⟨rfl, h3, hb3⟩; have HSD := Lib.hid ((h3.step ((Below.refl _ _).alloc (Nat.le_refl _) (.cells #[.int .i64 k2, .int .i64 f2, .int .i64 t2, .int .i64 N2, .int .u64 U2, .string y2] 25))).step (Below.refl _ _).drew); clear h3 hb3))
      refine wp_region_held_drew (S := fun _ => True) (by kernel_rfl) trivial (fun _ => ?_)
      refine wpAnyH_take (i := 0) (oi := { dst := some 49, op := Op.move (Operand.tmp 7), type := 3, pos := "outright.go:159", after := #[], guard := none }) (v := ?v0a) rfl (by kernel_rfl) (by kernel_rfl) (by kernel_rfl) (fun _ _ _ h => h) (Or.inl ⟨by rfl, ?hy0a⟩) trivial ?r0a
      case hy0a =>
        intro wz _
        go_simp <;> with_reducible rfl
      simp only [Act.put, List.setIfInBounds_toArray, List.set_cons_succ, List.set_cons_zero]
      refine wpAnyH_take (i := 1) (oi := { dst := some 50, op := Op.move (Operand.tmp 0), type := 9, pos := "outright.go:159", after := #[], guard := none }) (v := ?v1a) rfl (by kernel_rfl) (by kernel_rfl) (by kernel_rfl) (fun _ _ _ h => h) (Or.inl ⟨by rfl, ?hy1a⟩) trivial ?r1a
      case hy1a =>
        intro wz _
        go_simp <;> with_reducible rfl
      simp only [Act.put, List.setIfInBounds_toArray, List.set_cons_succ, List.set_cons_zero]
      refine wpAnyH_take (i := 2) (oi := { dst := some 51, op := Op.call { callee := Callee.builtin Builtin.len, args := #[Operand.tmp 50], argTypes := #[9] }, type := 3, pos := "outright.go:159", after := #[{ on := 1, ground := Ground.data }], guard := none }) (v := ?v2a) rfl (by kernel_rfl) (by kernel_rfl) (by kernel_rfl) (fun _ _ _ h => h) (Or.inl ⟨by rfl, ?hy2a⟩) trivial ?r2a
      case hy2a =>
        intro wz _
        go_simp <;> with_reducible rfl
      simp only [Act.put, List.setIfInBounds_toArray, List.set_cons_succ, List.set_cons_zero]
      refine wpAnyH_take (i := 3) (oi := { dst := some 52, op := Op.binOp BinOp.eql 3 (Operand.tmp 49) (Operand.tmp 51) 3, type := 4, pos := "outright.go:159", after := #[{ on := 0, ground := Ground.data }, { on := 2, ground := Ground.data }], guard := none }) (v := ?v3a) rfl (by kernel_rfl) (by kernel_rfl) (by kernel_rfl) (fun _ _ _ h => h) (Or.inl ⟨by rfl, ?hy3a⟩) trivial ?r3a
      case hy3a =>
        intro wz _
        go_simp <;> with_reducible rfl
      simp only [Act.put, List.setIfInBounds_toArray, List.set_cons_succ, List.set_cons_zero]
      refine wpAnyH_take (i := 4) (oi := { dst := some 53, op := Op.move (Operand.tmp 52), type := 4, pos := "outright.go:159", after := #[{ on := 3, ground := Ground.data }], guard := none }) (v := ?v4a) rfl (by kernel_rfl) (by kernel_rfl) (by kernel_rfl) (fun _ _ _ h => h) (Or.inl ⟨by rfl, ?hy4a⟩) trivial ?r4a
      case hy4a =>
        intro wz _
        go_simp <;> with_reducible rfl
      simp only [Act.put, List.setIfInBounds_toArray, List.set_cons_succ, List.set_cons_zero]
      refine wpAnyH_take (i := 5) (oi := { dst := some 54, op := Op.move (Operand.tmp 0), type := 9, pos := "outright.go:159", after := #[{ on := 4, ground := Ground.guard }], guard := some (4, false) }) (v := undef) rfl (by kernel_rfl) (by kernel_rfl) (by kernel_rfl) (fun _ _ _ h => h) (Or.inr ⟨by rfl, rfl⟩) trivial ?_
      simp only [Act.put, List.setIfInBounds_toArray, List.set_cons_succ, List.set_cons_zero]
      refine wpAnyH_take (i := 6) (oi := { dst := some 55, op := Op.move (Operand.tmp 7), type := 3, pos := "outright.go:159", after := #[{ on := 4, ground := Ground.guard }], guard := some (4, false) }) (v := undef) rfl (by kernel_rfl) (by kernel_rfl) (by kernel_rfl) (fun _ _ _ h => h) (Or.inr ⟨by rfl, rfl⟩) trivial ?_
      simp only [Act.put, List.setIfInBounds_toArray, List.set_cons_succ, List.set_cons_zero]
      refine wpAnyH_take (i := 7) (oi := { dst := some 56, op := Op.binOp BinOp.add 3 (Operand.tmp 55) (Operand.const (Value.int IntKind.i64 1)) 3, type := 3, pos := "outright.go:159", after := #[{ on := 6, ground := Ground.data }, { on := 4, ground := Ground.guard }], guard := some (4, false) }) (v := undef) rfl (by kernel_rfl) (by kernel_rfl) (by kernel_rfl) (fun _ _ _ h => h) (Or.inr ⟨by rfl, rfl⟩) trivial ?_
      simp only [Act.put, List.setIfInBounds_toArray, List.set_cons_succ, List.set_cons_zero]
      refine wpAnyH_take (i := 8) (oi := { dst := some 57, op := Op.slice 9 (Operand.tmp 54) none (some (Operand.tmp 56)) none, type := 9, pos := "outright.go:159", after := #[{ on := 5, ground := Ground.data }, { on := 7, ground := Ground.data }, { on := 4, ground := Ground.guard }], guard := some (4, false) }) (v := undef) rfl (by kernel_rfl) (by kernel_rfl) (by kernel_rfl) (fun _ _ _ h => h) (Or.inr ⟨by rfl, rfl⟩) trivial ?_
      simp only [Act.put, List.setIfInBounds_toArray, List.set_cons_succ, List.set_cons_zero]
      refine wpAnyH_take (i := 9) (oi := { dst := some 58, op := Op.move (Operand.tmp 1), type := 9, pos := "outright.go:159", after := #[{ on := 4, ground := Ground.guard }], guard := some (4, false) }) (v := undef) rfl (by kernel_rfl) (by kernel_rfl) (by kernel_rfl) (fun _ _ _ h => h) (Or.inr ⟨by rfl, rfl⟩) trivial ?_
      simp only [Act.put, List.setIfInBounds_toArray, List.set_cons_succ, List.set_cons_zero]
      refine wpAnyH_take (i := 10) (oi := { dst := some 59, op := Op.call { callee := Callee.value (Operand.func 9), args := #[Operand.tmp 58, Operand.const (Value.int IntKind.i64 60)], argTypes := #[9, 3] }, type := 9, pos := "outright.go:159", after := #[{ on := 9, ground := Ground.data }, { on := 4, ground := Ground.chain }, { on := 4, ground := Ground.guard }], guard := some (4, false) }) (v := undef) rfl (by kernel_rfl) (by kernel_rfl) (by kernel_rfl) (fun _ _ _ h => h) (Or.inr ⟨by rfl, rfl⟩) trivial ?_
      simp only [Act.put, List.setIfInBounds_toArray, List.set_cons_succ, List.set_cons_zero]
      refine wpAnyH_take (i := 11) (oi := { dst := some 60, op := Op.binOp BinOp.add 9 (Operand.tmp 57) (Operand.tmp 59) 9, type := 9, pos := "outright.go:159", after := #[{ on := 8, ground := Ground.data }, { on := 10, ground := Ground.data }, { on := 4, ground := Ground.guard }], guard := some (4, false) }) (v := undef) rfl (by kernel_rfl) (by kernel_rfl) (by kernel_rfl) (fun _ _ _ h => h) (Or.inr ⟨by rfl, rfl⟩) trivial ?_
      simp only [Act.put, List.setIfInBounds_toArray, List.set_cons_succ, List.set_cons_zero]
      refine wpAnyH_take (i := 12) (oi := { dst := some 61, op := Op.move (Operand.tmp 7), type := 3, pos := "outright.go:159", after := #[{ on := 4, ground := Ground.guard }], guard := some (4, false) }) (v := undef) rfl (by kernel_rfl) (by kernel_rfl) (by kernel_rfl) (fun _ _ _ h => h) (Or.inr ⟨by rfl, rfl⟩) trivial ?_
      simp only [Act.put, List.setIfInBounds_toArray, List.set_cons_succ, List.set_cons_zero]
      refine wpAnyH_take (i := 13) (oi := { dst := some 62, op := Op.move (Operand.tmp 6), type := 26, pos := "outright.go:159", after := #[{ on := 4, ground := Ground.guard }], guard := some (4, false) }) (v := undef) rfl (by kernel_rfl) (by kernel_rfl) (by kernel_rfl) (fun _ _ _ h => h) (Or.inr ⟨by rfl, rfl⟩) trivial ?_
      simp only [Act.put, List.setIfInBounds_toArray, List.set_cons_succ, List.set_cons_zero]
      refine wpAnyH_take (i := 14) (oi := { dst := some 63, op := Op.call { callee := Callee.value (Operand.func 21), args := #[Operand.tmp 60, Operand.const (Value.int IntKind.i64 0), Operand.tmp 61, Operand.tmp 62], argTypes := #[9, 3, 3, 26] }, type := 4, pos := "outright.go:159", after := #[{ on := 11, ground := Ground.data }, { on := 12, ground := Ground.data }, { on := 13, ground := Ground.data }, { on := 10, ground := Ground.chain }, { on := 4, ground := Ground.guard }], guard := some (4, false) }) (v := undef) rfl (by kernel_rfl) (by kernel_rfl) (by kernel_rfl) (fun _ _ _ h => h) (Or.inr ⟨by rfl, rfl⟩) trivial ?_
      simp only [Act.put, List.setIfInBounds_toArray, List.set_cons_succ, List.set_cons_zero]
      refine wpAnyH_take (i := 15) (oi := { dst := some 64, op := Op.pick (Operand.tmp 53) (Operand.const (Value.bool true)) (Operand.tmp 63), type := 4, pos := "outright.go:159", after := #[{ on := 4, ground := Ground.data }, { on := 14, ground := Ground.data }], guard := none }) (v := ?v15a) rfl (by kernel_rfl) (by kernel_rfl) (by kernel_rfl) (fun _ _ _ h => h) (Or.inl ⟨by rfl, ?hy15a⟩) trivial ?r15a
      case hy15a =>
        intro wz _
        go_simp <;> with_reducible rfl
      simp only [Act.put, List.setIfInBounds_toArray, List.set_cons_succ, List.set_cons_zero]
      refine wpAnyH_take (i := 16) (oi := { dst := some 65, op := Op.move (Operand.tmp 64), type := 4, pos := "outright.go:159", after := #[{ on := 15, ground := Ground.data }, { on := 14, ground := Ground.chain }], guard := none }) (v := ?v16a) rfl (by kernel_rfl) (by kernel_rfl) (by kernel_rfl) (fun _ _ _ h => h) (Or.inl ⟨by rfl, ?hy16a⟩) trivial ?r16a
      case hy16a =>
        intro wz _
        go_simp <;> with_reducible rfl
      simp only [Act.put, List.setIfInBounds_toArray, List.set_cons_succ, List.set_cons_zero]
      refine wpAnyH_ready (rs := [17]) (by kernel_rfl) (by simp) ?_
      refine AllReadyH.cons (o := { dst := some 66, op := Op.call { callee := Callee.value (Operand.func 13), args := #[], argTypes := #[] }, type := 4, pos := "outright.go:159", after := #[{ on := 16, ground := Ground.chain }, { on := 16, ground := Ground.guard }], guard := some (16, true) }) rfl (fun K hK => ?_) (AllReadyH.nil)
      have hK := Lib.hid hK
      go_simp
      go_at_call 13
      refine (HW.out _ HSD.out).mono ?_
      rintro e w4 ⟨rfl, hS4⟩
      refine hK.out _ _ trivial (fun _ => ?_)
      try simp only [Act.put, List.setIfInBounds_toArray, List.set_cons_succ, List.set_cons_zero]
      refine wpAnyH_take (i := 18) (oi := { dst := some 67, op := Op.pick (Operand.tmp 65) (Operand.tmp 66) (Operand.const (Value.bool false)), type := 4, pos := "outright.go:159", after := #[{ on := 16, ground := Ground.data }, { on := 17, ground := Ground.data }], guard := none }) (v := ?v18a) rfl (by kernel_rfl) (by kernel_rfl) (by kernel_rfl) (fun _ _ _ h => h) (Or.inl ⟨by rfl, ?hy18a⟩) trivial ?r18a
      case hy18a =>
        intro wz _
        go_simp <;> with_reducible rfl
      simp only [Act.put, List.setIfInBounds_toArray, List.set_cons_succ, List.set_cons_zero]
      refine wpAnyH_take (i := 19) (oi := { dst := some 4, op := Op.assign (Operand.tmp 67), type := 4, pos := "outright.go:159", after := #[{ on := 18, ground := Ground.data }, { on := 17, ground := Ground.chain }, { on := 0, ground := Ground.phase }, { on := 1, ground := Ground.phase }, { on := 2, ground := Ground.phase }, { on := 3, ground := Ground.phase }, { on := 4, ground := Ground.phase }, { on := 5, ground := Ground.phase }, { on := 6, ground := Ground.phase }, { on := 7, ground := Ground.phase }, { on := 8, ground := Ground.phase }, { on := 9, ground := Ground.phase }, { on := 10, ground := Ground.phase }, { on := 11, ground := Ground.phase }, { on := 12, ground := Ground.phase }, { on := 13, ground := Ground.phase }, { on := 14, ground := Ground.phase }, { on := 15, ground := Ground.phase }, { on := 16, ground := Ground.phase }, { on := 17, ground := Ground.phase }, { on := 18, ground := Ground.phase }], guard := none }) (v := ?v19a) rfl (by kernel_rfl) (by kernel_rfl) (by kernel_rfl) (fun _ _ _ h => h) (Or.inl ⟨by rfl, ?hy19a⟩) trivial ?r19a
      case hy19a =>
        intro wz _
        go_simp <;> with_reducible rfl
      simp only [Act.put, List.setIfInBounds_toArray, List.set_cons_succ, List.set_cons_zero]
      refine wpAnyH_done (by kernel_rfl) ?_ _
      go_wp2_with fail
      go_ret
      exact ⟨rfl, hS4⟩
    · have b1 : ((p : Int) == (s.size : Int)) = false := by rw [Bool.eq_false_iff, ne_eq, beq_iff_eq]; omega
      obtain ⟨bb, hbb⟩ : ∃ bb, b.data.toList.take 60 = bb := ⟨_, rfl⟩
      have hbl : bb.length ≤ 60 := by rw [← hbb, List.length_take]; omega
      have HSH := Lib.hid (fun (W : World) (h : SL w0 W) => (show Calls Tryd.prog 9 #[.string b, .int .i64 60] W fun e w' => e = .returned (.string (str bb)) ∧ SL w0 w' by rw [← hbb]; exact shortS b 60 HB.out h))
      have hlt : p < s.data.toList.length := by rw [HSS.out]; omega
      obtain ⟨z2, hz2⟩ : ∃ z2, str (cutT s.data.toList p bb) = z2 := ⟨_, rfl⟩
      have hz2s : z2.size ≤ 60000 := by rw [← hz2, str_size]; unfold cutT; rw [List.length_append, List.length_take]; omega
      have HFL := Lib.hid (fun (W : World) (h : SL w0 W) => (show Calls Tryd.prog 21 #[.string z2, .int .i64 0, .int .i64 p, .int .i64 e] W (SE2 w0 (.bool true)) from
        fails_S z2 0 p e (by rw [← hz2, str_data, HP4.out hlt bb]; simp [tB]) (Nat.zero_le _) hz2s h))
      have HE2 := Lib.hid (show s.extract 0 (p + 1) ++ str bb = z2 by rw [← hz2, extract_str, str_app3]; rfl)
      have x1 : IntKind.i64.wrap ((p : Int) + 1) = (p : Int) + 1 := IntWalk.i64_in _ (by omega)
      have x2 : (0 : Int) ≤ (p : Int) + 1 := by omega
      have x3 : (p : Int) + 1 ≤ (s.size : Int) := by omega
      have x4 : p + 1 ≤ s.size := by omega
      have x5 : ((9223372036854775807 : Nat) < p + 1 + (str bb).size) = False := eq_false (by rw [str_size]; omega)
      have x6 : ((p : Int) + 1).toNat = p + 1 := by omega
      clear hpe hbb hbl hlt hz2 hz2s HP4
      go_enter Tryd.func8, Tryd.ntmps8
      go_wp2_with (first
        | (go_at_call 9; (with_reducible refine HC.out.mono ?_); rintro x1 w1 ⟨rfl, h1⟩; have HS1 := Lib.hid h1; clear h1)
        | (go_at_call 10; (with_reducible refine (H1.out _ HS1.out).mono ?_); rintro x1 w2 ⟨rfl, h2, hb2⟩; have HS2 := Lib.hid (h2.step ((Below.refl _ _).alloc (Nat.le_refl _) (.cells #[.int .i64 0, .int .i64 p, .int .i64 p, .int .i64 0, .int .u64 0, .string ⟨#[]⟩] 25))); clear h2 hb2)
        | (go_at_call 10; rw [HZ.out]; (with_reducible refine (H2.out _ HS2.out).mono ?_); rintro x1 w3 ⟨rfl, h3, hb3⟩; have hSD := (h3.step ((Below.refl _ _).alloc (Nat.le_refl _) (.cells #[.int .i64 k2, .int .i64 f2, .int .i64 t2, .int .i64 N2, .int .u64 U2, .string y2] 25))).step (Below.refl _ _).drew; clear h3 hb3))
      go_region_held3 (fun _ => True) (go_keep)
        (first
          | (go_at_call 9; (with_reducible refine (HSH.out _ (by assumption)).mono ?_); rintro e w4 ⟨rfl, hS4⟩)
          | (go_at_call 21; rw [HE2.out]; (with_reducible refine (HFL.out _ (by assumption)).mono ?_); rintro e w5 ⟨rfl, hS5⟩)
          | (go_at_call 13; (with_reducible refine (HW.out _ (by assumption)).mono ?_); rintro e w6 ⟨rfl, hS6⟩))
      go_wp2_with fail
      go_ret
      exact ⟨rfl, by assumption⟩
  · skip
    first
      | (have r0 : ((e2 : Int) != 0) = false := by (rw [he2]; rfl))
      | (have r0 : ((e2 : Int) != 0) = true := by (simp; omega))
    first
      | (have r1 : ((f2 : Int) != (p : Int)) = false := by
          (have := p3'
           simp
           omega))
      | skip
    clear p3' he2
    by_cases hpe : p = s.size
    · have b1 : ((p : Int) == (s.size : Int)) = true := by rw [beq_iff_eq]; omega
      clear hpe HP4
      go_enter Tryd.func8, Tryd.ntmps8
      go_wp2_with (first
        | (go_at_call 9; (with_reducible refine HC.out.mono ?_); rintro x1 w1 ⟨rfl, h1⟩; have HS1 := Lib.hid h1; clear h1)
        | (go_at_call 10; (with_reducible refine (H1.out _ HS1.out).mono ?_); rintro x1 w2 ⟨rfl, h2, hb2⟩; have HS2 := Lib.hid (h2.step ((Below.refl _ _).alloc (Nat.le_refl _) (.cells #[.int .i64 0, .int .i64 p, .int .i64 p, .int .i64 0, .int .u64 0, .string ⟨#[]⟩] 25))); clear h2 hb2)
        | (go_at_call 10; rw [HZ.out]; (with_reducible refine (H2.out _ HS2.out).mono ?_); rintro x1 w3 ⟨rfl, h3, hb3⟩; have HSD := Lib.hid ((h3.step ((Below.refl _ _).alloc (Nat.le_refl _) (.cells #[.int .i64 k2, .int .i64 f2, .int .i64 t2, .int .i64 N2, .int .u64 U2, .string y2] 25))).step (Below.refl _ _).drew); clear h3 hb3))
      refine wp_region_held_drew (S := fun _ => True) (by kernel_rfl) trivial (fun _ => ?_)
      refine wpAnyH_take (i := 0) (oi := { dst := some 49, op := Op.move (Operand.tmp 7), type := 3, pos := "outright.go:159", after := #[], guard := none }) (v := ?v0b) rfl (by kernel_rfl) (by kernel_rfl) (by kernel_rfl) (fun _ _ _ h => h) (Or.inl ⟨by rfl, ?hy0b⟩) trivial ?r0b
      case hy0b =>
        intro wz _
        go_simp <;> with_reducible rfl
      simp only [Act.put, List.setIfInBounds_toArray, List.set_cons_succ, List.set_cons_zero]
      refine wpAnyH_take (i := 1) (oi := { dst := some 50, op := Op.move (Operand.tmp 0), type := 9, pos := "outright.go:159", after := #[], guard := none }) (v := ?v1b) rfl (by kernel_rfl) (by kernel_rfl) (by kernel_rfl) (fun _ _ _ h => h) (Or.inl ⟨by rfl, ?hy1b⟩) trivial ?r1b
      case hy1b =>
        intro wz _
        go_simp <;> with_reducible rfl
      simp only [Act.put, List.setIfInBounds_toArray, List.set_cons_succ, List.set_cons_zero]
      refine wpAnyH_take (i := 2) (oi := { dst := some 51, op := Op.call { callee := Callee.builtin Builtin.len, args := #[Operand.tmp 50], argTypes := #[9] }, type := 3, pos := "outright.go:159", after := #[{ on := 1, ground := Ground.data }], guard := none }) (v := ?v2b) rfl (by kernel_rfl) (by kernel_rfl) (by kernel_rfl) (fun _ _ _ h => h) (Or.inl ⟨by rfl, ?hy2b⟩) trivial ?r2b
      case hy2b =>
        intro wz _
        go_simp <;> with_reducible rfl
      simp only [Act.put, List.setIfInBounds_toArray, List.set_cons_succ, List.set_cons_zero]
      refine wpAnyH_take (i := 3) (oi := { dst := some 52, op := Op.binOp BinOp.eql 3 (Operand.tmp 49) (Operand.tmp 51) 3, type := 4, pos := "outright.go:159", after := #[{ on := 0, ground := Ground.data }, { on := 2, ground := Ground.data }], guard := none }) (v := ?v3b) rfl (by kernel_rfl) (by kernel_rfl) (by kernel_rfl) (fun _ _ _ h => h) (Or.inl ⟨by rfl, ?hy3b⟩) trivial ?r3b
      case hy3b =>
        intro wz _
        go_simp <;> with_reducible rfl
      simp only [Act.put, List.setIfInBounds_toArray, List.set_cons_succ, List.set_cons_zero]
      refine wpAnyH_take (i := 4) (oi := { dst := some 53, op := Op.move (Operand.tmp 52), type := 4, pos := "outright.go:159", after := #[{ on := 3, ground := Ground.data }], guard := none }) (v := ?v4b) rfl (by kernel_rfl) (by kernel_rfl) (by kernel_rfl) (fun _ _ _ h => h) (Or.inl ⟨by rfl, ?hy4b⟩) trivial ?r4b
      case hy4b =>
        intro wz _
        go_simp <;> with_reducible rfl
      simp only [Act.put, List.setIfInBounds_toArray, List.set_cons_succ, List.set_cons_zero]
      refine wpAnyH_take (i := 5) (oi := { dst := some 54, op := Op.move (Operand.tmp 0), type := 9, pos := "outright.go:159", after := #[{ on := 4, ground := Ground.guard }], guard := some (4, false) }) (v := undef) rfl (by kernel_rfl) (by kernel_rfl) (by kernel_rfl) (fun _ _ _ h => h) (Or.inr ⟨by rfl, rfl⟩) trivial ?_
      simp only [Act.put, List.setIfInBounds_toArray, List.set_cons_succ, List.set_cons_zero]
      refine wpAnyH_take (i := 6) (oi := { dst := some 55, op := Op.move (Operand.tmp 7), type := 3, pos := "outright.go:159", after := #[{ on := 4, ground := Ground.guard }], guard := some (4, false) }) (v := undef) rfl (by kernel_rfl) (by kernel_rfl) (by kernel_rfl) (fun _ _ _ h => h) (Or.inr ⟨by rfl, rfl⟩) trivial ?_
      simp only [Act.put, List.setIfInBounds_toArray, List.set_cons_succ, List.set_cons_zero]
      refine wpAnyH_take (i := 7) (oi := { dst := some 56, op := Op.binOp BinOp.add 3 (Operand.tmp 55) (Operand.const (Value.int IntKind.i64 1)) 3, type := 3, pos := "outright.go:159", after := #[{ on := 6, ground := Ground.data }, { on := 4, ground := Ground.guard }], guard := some (4, false) }) (v := undef) rfl (by kernel_rfl) (by kernel_rfl) (by kernel_rfl) (fun _ _ _ h => h) (Or.inr ⟨by rfl, rfl⟩) trivial ?_
      simp only [Act.put, List.setIfInBounds_toArray, List.set_cons_succ, List.set_cons_zero]
      refine wpAnyH_take (i := 8) (oi := { dst := some 57, op := Op.slice 9 (Operand.tmp 54) none (some (Operand.tmp 56)) none, type := 9, pos := "outright.go:159", after := #[{ on := 5, ground := Ground.data }, { on := 7, ground := Ground.data }, { on := 4, ground := Ground.guard }], guard := some (4, false) }) (v := undef) rfl (by kernel_rfl) (by kernel_rfl) (by kernel_rfl) (fun _ _ _ h => h) (Or.inr ⟨by rfl, rfl⟩) trivial ?_
      simp only [Act.put, List.setIfInBounds_toArray, List.set_cons_succ, List.set_cons_zero]
      refine wpAnyH_take (i := 9) (oi := { dst := some 58, op := Op.move (Operand.tmp 1), type := 9, pos := "outright.go:159", after := #[{ on := 4, ground := Ground.guard }], guard := some (4, false) }) (v := undef) rfl (by kernel_rfl) (by kernel_rfl) (by kernel_rfl) (fun _ _ _ h => h) (Or.inr ⟨by rfl, rfl⟩) trivial ?_
      simp only [Act.put, List.setIfInBounds_toArray, List.set_cons_succ, List.set_cons_zero]
      refine wpAnyH_take (i := 10) (oi := { dst := some 59, op := Op.call { callee := Callee.value (Operand.func 9), args := #[Operand.tmp 58, Operand.const (Value.int IntKind.i64 60)], argTypes := #[9, 3] }, type := 9, pos := "outright.go:159", after := #[{ on := 9, ground := Ground.data }, { on := 4, ground := Ground.chain }, { on := 4, ground := Ground.guard }], guard := some (4, false) }) (v := undef) rfl (by kernel_rfl) (by kernel_rfl) (by kernel_rfl) (fun _ _ _ h => h) (Or.inr ⟨by rfl, rfl⟩) trivial ?_
      simp only [Act.put, List.setIfInBounds_toArray, List.set_cons_succ, List.set_cons_zero]
      refine wpAnyH_take (i := 11) (oi := { dst := some 60, op := Op.binOp BinOp.add 9 (Operand.tmp 57) (Operand.tmp 59) 9, type := 9, pos := "outright.go:159", after := #[{ on := 8, ground := Ground.data }, { on := 10, ground := Ground.data }, { on := 4, ground := Ground.guard }], guard := some (4, false) }) (v := undef) rfl (by kernel_rfl) (by kernel_rfl) (by kernel_rfl) (fun _ _ _ h => h) (Or.inr ⟨by rfl, rfl⟩) trivial ?_
      simp only [Act.put, List.setIfInBounds_toArray, List.set_cons_succ, List.set_cons_zero]
      refine wpAnyH_take (i := 12) (oi := { dst := some 61, op := Op.move (Operand.tmp 7), type := 3, pos := "outright.go:159", after := #[{ on := 4, ground := Ground.guard }], guard := some (4, false) }) (v := undef) rfl (by kernel_rfl) (by kernel_rfl) (by kernel_rfl) (fun _ _ _ h => h) (Or.inr ⟨by rfl, rfl⟩) trivial ?_
      simp only [Act.put, List.setIfInBounds_toArray, List.set_cons_succ, List.set_cons_zero]
      refine wpAnyH_take (i := 13) (oi := { dst := some 62, op := Op.move (Operand.tmp 6), type := 26, pos := "outright.go:159", after := #[{ on := 4, ground := Ground.guard }], guard := some (4, false) }) (v := undef) rfl (by kernel_rfl) (by kernel_rfl) (by kernel_rfl) (fun _ _ _ h => h) (Or.inr ⟨by rfl, rfl⟩) trivial ?_
      simp only [Act.put, List.setIfInBounds_toArray, List.set_cons_succ, List.set_cons_zero]
      refine wpAnyH_take (i := 14) (oi := { dst := some 63, op := Op.call { callee := Callee.value (Operand.func 21), args := #[Operand.tmp 60, Operand.const (Value.int IntKind.i64 0), Operand.tmp 61, Operand.tmp 62], argTypes := #[9, 3, 3, 26] }, type := 4, pos := "outright.go:159", after := #[{ on := 11, ground := Ground.data }, { on := 12, ground := Ground.data }, { on := 13, ground := Ground.data }, { on := 10, ground := Ground.chain }, { on := 4, ground := Ground.guard }], guard := some (4, false) }) (v := undef) rfl (by kernel_rfl) (by kernel_rfl) (by kernel_rfl) (fun _ _ _ h => h) (Or.inr ⟨by rfl, rfl⟩) trivial ?_
      simp only [Act.put, List.setIfInBounds_toArray, List.set_cons_succ, List.set_cons_zero]
      refine wpAnyH_take (i := 15) (oi := { dst := some 64, op := Op.pick (Operand.tmp 53) (Operand.const (Value.bool true)) (Operand.tmp 63), type := 4, pos := "outright.go:159", after := #[{ on := 4, ground := Ground.data }, { on := 14, ground := Ground.data }], guard := none }) (v := ?v15b) rfl (by kernel_rfl) (by kernel_rfl) (by kernel_rfl) (fun _ _ _ h => h) (Or.inl ⟨by rfl, ?hy15b⟩) trivial ?r15b
      case hy15b =>
        intro wz _
        go_simp <;> with_reducible rfl
      simp only [Act.put, List.setIfInBounds_toArray, List.set_cons_succ, List.set_cons_zero]
      refine wpAnyH_take (i := 16) (oi := { dst := some 65, op := Op.move (Operand.tmp 64), type := 4, pos := "outright.go:159", after := #[{ on := 15, ground := Ground.data }, { on := 14, ground := Ground.chain }], guard := none }) (v := ?v16b) rfl (by kernel_rfl) (by kernel_rfl) (by kernel_rfl) (fun _ _ _ h => h) (Or.inl ⟨by rfl, ?hy16b⟩) trivial ?r16b
      case hy16b =>
        intro wz _
        go_simp <;> with_reducible rfl
      simp only [Act.put, List.setIfInBounds_toArray, List.set_cons_succ, List.set_cons_zero]
      refine wpAnyH_ready (rs := [17]) (by kernel_rfl) (by simp) ?_
      refine AllReadyH.cons (o := { dst := some 66, op := Op.call { callee := Callee.value (Operand.func 13), args := #[], argTypes := #[] }, type := 4, pos := "outright.go:159", after := #[{ on := 16, ground := Ground.chain }, { on := 16, ground := Ground.guard }], guard := some (16, true) }) rfl (fun K hK => ?_) (AllReadyH.nil)
      have hK := Lib.hid hK
      go_simp
      go_at_call 13
      refine (HW.out _ HSD.out).mono ?_
      rintro e w4 ⟨rfl, hS4⟩
      refine hK.out _ _ trivial (fun _ => ?_)
      try simp only [Act.put, List.setIfInBounds_toArray, List.set_cons_succ, List.set_cons_zero]
      refine wpAnyH_take (i := 18) (oi := { dst := some 67, op := Op.pick (Operand.tmp 65) (Operand.tmp 66) (Operand.const (Value.bool false)), type := 4, pos := "outright.go:159", after := #[{ on := 16, ground := Ground.data }, { on := 17, ground := Ground.data }], guard := none }) (v := ?v18b) rfl (by kernel_rfl) (by kernel_rfl) (by kernel_rfl) (fun _ _ _ h => h) (Or.inl ⟨by rfl, ?hy18b⟩) trivial ?r18b
      case hy18b =>
        intro wz _
        go_simp <;> with_reducible rfl
      simp only [Act.put, List.setIfInBounds_toArray, List.set_cons_succ, List.set_cons_zero]
      refine wpAnyH_take (i := 19) (oi := { dst := some 4, op := Op.assign (Operand.tmp 67), type := 4, pos := "outright.go:159", after := #[{ on := 18, ground := Ground.data }, { on := 17, ground := Ground.chain }, { on := 0, ground := Ground.phase }, { on := 1, ground := Ground.phase }, { on := 2, ground := Ground.phase }, { on := 3, ground := Ground.phase }, { on := 4, ground := Ground.phase }, { on := 5, ground := Ground.phase }, { on := 6, ground := Ground.phase }, { on := 7, ground := Ground.phase }, { on := 8, ground := Ground.phase }, { on := 9, ground := Ground.phase }, { on := 10, ground := Ground.phase }, { on := 11, ground := Ground.phase }, { on := 12, ground := Ground.phase }, { on := 13, ground := Ground.phase }, { on := 14, ground := Ground.phase }, { on := 15, ground := Ground.phase }, { on := 16, ground := Ground.phase }, { on := 17, ground := Ground.phase }, { on := 18, ground := Ground.phase }], guard := none }) (v := ?v19b) rfl (by kernel_rfl) (by kernel_rfl) (by kernel_rfl) (fun _ _ _ h => h) (Or.inl ⟨by rfl, ?hy19b⟩) trivial ?r19b
      case hy19b =>
        intro wz _
        go_simp <;> with_reducible rfl
      simp only [Act.put, List.setIfInBounds_toArray, List.set_cons_succ, List.set_cons_zero]
      refine wpAnyH_done (by kernel_rfl) ?_ _
      go_wp2_with fail
      go_ret
      exact ⟨rfl, hS4⟩
    · have b1 : ((p : Int) == (s.size : Int)) = false := by rw [Bool.eq_false_iff, ne_eq, beq_iff_eq]; omega
      obtain ⟨bb, hbb⟩ : ∃ bb, b.data.toList.take 60 = bb := ⟨_, rfl⟩
      have hbl : bb.length ≤ 60 := by rw [← hbb, List.length_take]; omega
      have HSH := Lib.hid (fun (W : World) (h : SL w0 W) => (show Calls Tryd.prog 9 #[.string b, .int .i64 60] W fun e w' => e = .returned (.string (str bb)) ∧ SL w0 w' by rw [← hbb]; exact shortS b 60 HB.out h))
      have hlt : p < s.data.toList.length := by rw [HSS.out]; omega
      obtain ⟨z2, hz2⟩ : ∃ z2, str (cutT s.data.toList p bb) = z2 := ⟨_, rfl⟩
      have hz2s : z2.size ≤ 60000 := by rw [← hz2, str_size]; unfold cutT; rw [List.length_append, List.length_take]; omega
      have HFL := Lib.hid (fun (W : World) (h : SL w0 W) => (show Calls Tryd.prog 21 #[.string z2, .int .i64 0, .int .i64 p, .int .i64 e] W (SE2 w0 (.bool true)) from
        fails_S z2 0 p e (by rw [← hz2, str_data, HP4.out hlt bb]; simp [tB]) (Nat.zero_le _) hz2s h))
      have HE2 := Lib.hid (show s.extract 0 (p + 1) ++ str bb = z2 by rw [← hz2, extract_str, str_app3]; rfl)
      have x1 : IntKind.i64.wrap ((p : Int) + 1) = (p : Int) + 1 := IntWalk.i64_in _ (by omega)
      have x2 : (0 : Int) ≤ (p : Int) + 1 := by omega
      have x3 : (p : Int) + 1 ≤ (s.size : Int) := by omega
      have x4 : p + 1 ≤ s.size := by omega
      have x5 : ((9223372036854775807 : Nat) < p + 1 + (str bb).size) = False := eq_false (by rw [str_size]; omega)
      have x6 : ((p : Int) + 1).toNat = p + 1 := by omega
      clear hpe hbb hbl hlt hz2 hz2s HP4
      go_enter Tryd.func8, Tryd.ntmps8
      go_wp2_with (first
        | (go_at_call 9; (with_reducible refine HC.out.mono ?_); rintro x1 w1 ⟨rfl, h1⟩; have HS1 := Lib.hid h1; clear h1)
        | (go_at_call 10; (with_reducible refine (H1.out _ HS1.out).mono ?_); rintro x1 w2 ⟨rfl, h2, hb2⟩; have HS2 := Lib.hid (h2.step ((Below.refl _ _).alloc (Nat.le_refl _) (.cells #[.int .i64 0, .int .i64 p, .int .i64 p, .int .i64 0, .int .u64 0, .string ⟨#[]⟩] 25))); clear h2 hb2)
        | (go_at_call 10; rw [HZ.out]; (with_reducible refine (H2.out _ HS2.out).mono ?_); rintro x1 w3 ⟨rfl, h3, hb3⟩; have hSD := (h3.step ((Below.refl _ _).alloc (Nat.le_refl _) (.cells #[.int .i64 k2, .int .i64 f2, .int .i64 t2, .int .i64 N2, .int .u64 U2, .string y2] 25))).step (Below.refl _ _).drew; clear h3 hb3))
      go_region_held3 (fun _ => True) (go_keep)
        (first
          | (go_at_call 9; (with_reducible refine (HSH.out _ (by assumption)).mono ?_); rintro e w4 ⟨rfl, hS4⟩)
          | (go_at_call 21; rw [HE2.out]; (with_reducible refine (HFL.out _ (by assumption)).mono ?_); rintro e w5 ⟨rfl, hS5⟩)
          | (go_at_call 13; (with_reducible refine (HW.out _ (by assumption)).mono ?_); rintro e w6 ⟨rfl, hS6⟩))
      go_wp2_with fail
      go_ret
      exact ⟨rfl, by assumption⟩
theorem lexPlace_walk (a b : ByteArray) (w : World) (hL : LB w.heap.size w) (ha : a.size ≤ 9223372036854775807) (hb : b.size ≤ 9223372036854775807) :
    Calls Tryd.prog 8 #[.string a, .string b] w fun e w' => e = .returned (.bool true) ∧ Below w.heap.size w w' := by
  have hsz : (str (a.data.toList.take 300)).size ≤ 300 := by rw [str_size, List.length_take]; omega
  have key : Calls Tryd.prog 8 #[.string a, .string b] w (SE2 w (.bool true)) := by
    obtain ⟨⟨k, f, t, N, U, x, e⟩, h⟩ : ∃ t, tok (str (a.data.toList.take 300)).data.toList 0 = t := ⟨_, rfl⟩
    by_cases he : e = 0 ∨ e = 101
    · exact place_yes a b w w (SL.start hL) ha _ rfl hsz k f t N U x e h he
    · have hP := (tok_place _ (by rw [h]; exact fun h => he (Or.inl h)) (by rw [h]; exact fun h => he (Or.inr h))).2.1
      rw [h] at hP
      injection hP with q1 q2 q3 q4 q5 q6 q7
      subst q1; subst q3; subst q4; subst q5; subst q6
      exact place_no a b w w (SL.start hL) ha hb _ rfl hsz _ e (fun h => he (Or.inl h)) (fun h => he (Or.inr h)) h
  refine key.mono ?_
  rintro e w' ⟨rfl, h⟩
  exact ⟨rfl, h.2⟩
end Go.Proofs.YtfmoiknpadilaaaDoor
