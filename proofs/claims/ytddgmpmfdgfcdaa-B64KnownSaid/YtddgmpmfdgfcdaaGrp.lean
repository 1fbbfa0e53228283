/-
  What is proved here: the contract of b64.getGroup; no condition but those that it states.
-/
import Derived.Test.YtddgmpmfdgfcdaaPut
namespace Go.Proofs.Ytddgmpmfdgfcdaa
open Go.RowKit Bs

/-- The three bytes of the bits. -/
def byt (Z : Nat) : List UInt8 := [UInt8.ofNat (Z / 16777216), UInt8.ofNat (Z / 65536 % 256), UInt8.ofNat (Z / 256 % 256)]
/-- The world in which the room at block R holds them. -/
def W3 (w : World) (R : Nat) (Z : Nat) : World := ((w.setCell ⟨R, 0, none⟩ (.int .u8 ((Z : Int) / 16777216))).setCell ⟨R, 1, none⟩ (.int .u8 ((Z : Int) / 65536 % 256))).setCell ⟨R, 2, none⟩ (.int .u8 ((Z : Int) / 256 % 256))
theorem W3_blk {w : World} {R Z : Nat} {a b c : Value} (hb : Blk w R 46 #[a, b, c]) (hZ : Z < 4294967296) : Blk (W3 w R Z) R 46 (bv (byt Z)).toArray := by
  have h := ((hb.put 0 (.int .u8 ((Z : Int) / 16777216))).put 1 (.int .u8 ((Z : Int) / 65536 % 256))).put 2 (.int .u8 ((Z : Int) / 256 % 256))
  have e : (bv (byt Z)).toArray = #[.int .u8 ((Z : Int) / 16777216), .int .u8 ((Z : Int) / 65536 % 256), .int .u8 ((Z : Int) / 256 % 256)] := by
    simp only [bv, byt, List.map_cons, List.map_nil]
    rw [tn (by omega), tn (by omega), tn (by omega)]
    simp
  rw [e]
  exact h
theorem W3_grown (w : World) (R Z : Nat) : w.grownBy (W3 w R Z) (some R) := by
  have h : ∀ (w' : World) (j : Nat) (u : Value), w'.grownBy (w'.setCell ⟨R, j, none⟩ u) (some R) := fun w' j u =>
    ⟨rfl, rfl, rfl, by simp, fun k hk hne => heap_setCell_other w' ⟨R, j, none⟩ k u (fun e => hne (by simp [e]))⟩
  have t : ∀ {a b c : World}, a.grownBy b (some R) → b.grownBy c (some R) → a.grownBy c (some R) := fun {a b c} h1 h2 =>
    ⟨h2.os.trans h1.os, h2.tape.trans h1.tape, h2.output.trans h1.output, Nat.le_trans h1.size h2.size, fun k hk hne => (h2.block k (by have := h1.size; omega) hne).trans (h1.block k hk hne)⟩
  exact t (t (h _ _ _) (h _ _ _)) (h _ _ _)
theorem W3_size (w : World) (R Z : Nat) : (W3 w R Z).heap.size = w.heap.size := by simp [W3]

def At61 (s : ByteArray) (j : Nat) : Prop := s.data.toList[j]? = some 61
set_option maxHeartbeats 2000000 in
set_option maxRecDepth 100000 in
theorem gg_short (s : ByteArray) (v : Value) (w : World) (n Z : Nat) (hn : n < 2)
    (H : ∀ W, Calls Try.prog 32 #[.string s] W fun e w' => e = .returned (.tuple #[.int .u32 (Z : Nat), .int .i64 (n : Nat)]) ∧ W = w') :
    Calls Try.prog 27 #[.string s, v] w fun e w' => e = .returned (.tuple #[.slice none 0 0, .int .i64 (n : Nat)]) ∧ w = w' := by
  have HH := Lib.hid H
  have d1 : decide ((n : Int) < 2) = true := decide_eq_true (by omega)
  clear H
  go_enter Try.func27, Try.ntmps27
  go_wp2_with (go_at_call 32; refine (HH.out _).mono ?_; rintro e w2 ⟨rfl, rfl⟩)
  go_ret2
  exact ⟨rfl, rfl⟩
set_option maxHeartbeats 2000000 in
set_option maxRecDepth 100000 in
theorem gg_left2 (s : ByteArray) (v : Value) (w : World) (Z : Nat) (hz : ((Z : Int) * 256 % 4294967296 == 0) = false)
    (H : ∀ W, Calls Try.prog 32 #[.string s] W fun e w' => e = .returned (.tuple #[.int .u32 (Z : Nat), .int .i64 2]) ∧ W = w') :
    Calls Try.prog 27 #[.string s, v] w fun e w' => e = .returned (.tuple #[.slice none 0 0, .int .i64 2]) ∧ w = w' := by
  have HH := Lib.hid H
  clear H
  go_enter Try.func27, Try.ntmps27
  go_wp2_with (go_at_call 32; refine (HH.out _).mono ?_; rintro e w2 ⟨rfl, rfl⟩)
  go_ret2
  exact ⟨rfl, rfl⟩
set_option maxHeartbeats 2000000 in
set_option maxRecDepth 100000 in
theorem gg_left3 (s : ByteArray) (v : Value) (w : World) (Z : Nat) (hz : ((Z : Int) * 65536 % 4294967296 == 0) = false)
    (H : ∀ W, Calls Try.prog 32 #[.string s] W fun e w' => e = .returned (.tuple #[.int .u32 (Z : Nat), .int .i64 3]) ∧ W = w') :
    Calls Try.prog 27 #[.string s, v] w fun e w' => e = .returned (.tuple #[.slice none 0 0, .int .i64 3]) ∧ w = w' := by
  have HH := Lib.hid H
  clear H
  go_enter Try.func27, Try.ntmps27
  go_wp2_with (go_at_call 32; refine (HH.out _).mono ?_; rintro e w2 ⟨rfl, rfl⟩)
  go_ret2
  exact ⟨rfl, rfl⟩
set_option maxHeartbeats 2000000 in
set_option maxRecDepth 100000 in
theorem gg_go2 (s : ByteArray) (R : Nat) (a b c : Value) (w : World) (Z : Nat) (hb : Blk w R 46 #[a, b, c]) (hZ : Z < 4294967296) (hn : 2 ≤ s.size) (hz : ((Z : Int) * 256 % 4294967296 == 0) = true)
    (H : ∀ W, Calls Try.prog 32 #[.string s] W fun e w' => e = .returned (.tuple #[.int .u32 (Z : Nat), .int .i64 2]) ∧ W = w') :
    Calls Try.prog 27 #[.string s, .pointer (some ⟨R, 0, none⟩)] w fun e w' => w' = W3 w R Z ∧ ∃ k : Nat, 2 ≤ k ∧ (∀ j, 2 ≤ j → j < k → At61 s j) ∧
      ((k < 4 ∧ ¬ At61 s k ∧ e = .returned (.tuple #[.slice none 0 0, .int .i64 (k : Nat)])) ∨ (k = 4 ∧ e = .returned (.tuple #[.slice (some ⟨R, 0, none⟩) 1 1, .int .i64 (k : Nat)]))) := by
  have HH := Lib.hid H
  have c0 := hb.cell 0
  have c1 := hb.cell 1
  have c2 := hb.cell 2
  have f0 := hb.frozen 0
  have f1 := hb.frozen 1
  have f2 := hb.frozen 2
  clear H hb
  go_enter Try.func27, Try.ntmps27
  go_wp2_with (go_at_call 32; refine (HH.out _).mono ?_; rintro e w2 ⟨rfl, rfl⟩)
  obtain ⟨w3, hw3⟩ : ∃ w3, W3 w R Z = w3 := ⟨_, rfl⟩
  have HW := Lib.hid hw3.symm
  unfold W3 at hw3
  rw [hw3]
  clear hw3 c0 c1 c2 f0 f1 f2
  go_loop [4, 5] (fun v i => v = .slice (some ⟨R, 0, none⟩) 1 1 ∧ ∃ k : Nat, 2 ≤ k ∧ k ≤ 4 ∧ k ≤ s.size ∧ i = .int .i64 k ∧ Hid (∀ j, 2 ≤ j → j < k → At61 s j)) (fun _ i => 5 - (intOf i).toNat)
  case atStart => exact ⟨rfl, 2, by omega, by omega, hn, rfl, fun j h1 h2 => by omega⟩
  case round =>
    obtain ⟨rfl, k, hk1, hk4, hks, rfl, HP⟩ := hrel
    by_cases h4 : k < 4
    · have hsz := Lib.size_eq s
      by_cases hl : k < s.size
      · have hg : s.data.toList[k]? = some s[k] := by
          rw [List.getElem?_eq_getElem (by rw [← hsz]; exact hl)]
          rfl
        have d1 : decide ((k : Int) < 4) = true := decide_eq_true (by omega)
        have d2 : ((k : Int) == (s.size : Int)) = false := by simp; omega
        have d3 : (k == s.size) = false := by simp; omega
        obtain ⟨x, hx⟩ : ∃ x, s[k] = x := ⟨_, rfl⟩
        rw [hx] at hg
        have HG := Lib.hid hg
        by_cases h61 : x = 61
        · subst h61
          clear hg hsz
          go_wp2
          go_round
          case rel =>
            refine ⟨rfl, k + 1, by omega, by omega, by omega, by go_num, fun j h1 h2 => ?_⟩
            by_cases hj : j < k
            · exact HP.out j h1 hj
            · have : j = k := by omega
              subst this
              exact HG.out
          case measure => simp [intOf]; omega
        · have hne : ((x.toNat : Int) == 61) = false := by
            simp
            intro h
            exact h61 (UInt8.toNat_inj.1 (by simpa using (by omega : x.toNat = 61)))
          have H61 := Lib.hid h61
          clear hg hsz h61
          go_wp2
          go_ret2
          refine ⟨HW.out, k, hk1, HP.out, .inl ⟨h4, ?_, rfl⟩⟩
          exact fun h => H61.out (Option.some.inj (HG.out.symm.trans h))
      · have hks' : k = s.size := by omega
        have d1 : decide ((k : Int) < 4) = true := decide_eq_true (by omega)
        have d2 : ((k : Int) == (s.size : Int)) = true := by simp; omega
        have d3 : (k == s.size) = true := by simp; omega
        have HN := Lib.hid (show ¬ At61 s k by unfold At61; rw [List.getElem?_eq_none (by rw [← hsz]; omega)]; simp)
        clear hsz hks'
        go_wp2
        go_ret2
        exact ⟨HW.out, k, hk1, HP.out, .inl ⟨h4, HN.out, rfl⟩⟩
    · have HK := Lib.hid (show k = 4 by omega)
      have d1 : decide ((k : Int) < 4) = false := decide_eq_false (by omega)
      clear hk4 h4
      go_wp2
      go_ret2
      exact ⟨HW.out, k, hk1, HP.out, .inr ⟨HK.out, rfl⟩⟩
set_option maxHeartbeats 2000000 in
set_option maxRecDepth 100000 in
theorem gg_go3 (s : ByteArray) (R : Nat) (a b c : Value) (w : World) (Z : Nat) (hb : Blk w R 46 #[a, b, c]) (hZ : Z < 4294967296) (hn : 3 ≤ s.size) (hz : ((Z : Int) * 65536 % 4294967296 == 0) = true)
    (H : ∀ W, Calls Try.prog 32 #[.string s] W fun e w' => e = .returned (.tuple #[.int .u32 (Z : Nat), .int .i64 3]) ∧ W = w') :
    Calls Try.prog 27 #[.string s, .pointer (some ⟨R, 0, none⟩)] w fun e w' => w' = W3 w R Z ∧ ∃ k : Nat, 3 ≤ k ∧ (∀ j, 3 ≤ j → j < k → At61 s j) ∧
      ((k < 4 ∧ ¬ At61 s k ∧ e = .returned (.tuple #[.slice none 0 0, .int .i64 (k : Nat)])) ∨ (k = 4 ∧ e = .returned (.tuple #[.slice (some ⟨R, 0, none⟩) 2 2, .int .i64 (k : Nat)]))) := by
  have HH := Lib.hid H
  have c0 := hb.cell 0
  have c1 := hb.cell 1
  have c2 := hb.cell 2
  have f0 := hb.frozen 0
  have f1 := hb.frozen 1
  have f2 := hb.frozen 2
  clear H hb
  go_enter Try.func27, Try.ntmps27
  go_wp2_with (go_at_call 32; refine (HH.out _).mono ?_; rintro e w2 ⟨rfl, rfl⟩)
  obtain ⟨w3, hw3⟩ : ∃ w3, W3 w R Z = w3 := ⟨_, rfl⟩
  have HW := Lib.hid hw3.symm
  unfold W3 at hw3
  rw [hw3]
  clear hw3 c0 c1 c2 f0 f1 f2
  go_loop [4, 5] (fun v i => v = .slice (some ⟨R, 0, none⟩) 2 2 ∧ ∃ k : Nat, 3 ≤ k ∧ k ≤ 4 ∧ k ≤ s.size ∧ i = .int .i64 k ∧ Hid (∀ j, 3 ≤ j → j < k → At61 s j)) (fun _ i => 5 - (intOf i).toNat)
  case atStart => exact ⟨rfl, 3, by omega, by omega, hn, rfl, fun j h1 h2 => by omega⟩
  case round =>
    obtain ⟨rfl, k, hk1, hk4, hks, rfl, HP⟩ := hrel
    by_cases h4 : k < 4
    · have hsz := Lib.size_eq s
      by_cases hl : k < s.size
      · have hg : s.data.toList[k]? = some s[k] := by
          rw [List.getElem?_eq_getElem (by rw [← hsz]; exact hl)]
          rfl
        have d1 : decide ((k : Int) < 4) = true := decide_eq_true (by omega)
        have d2 : ((k : Int) == (s.size : Int)) = false := by simp; omega
        have d3 : (k == s.size) = false := by simp; omega
        obtain ⟨x, hx⟩ : ∃ x, s[k] = x := ⟨_, rfl⟩
        rw [hx] at hg
        have HG := Lib.hid hg
        by_cases h61 : x = 61
        · subst h61
          clear hg hsz
          go_wp2
          go_round
          case rel =>
            refine ⟨rfl, k + 1, by omega, by omega, by omega, by go_num, fun j h1 h2 => ?_⟩
            by_cases hj : j < k
            · exact HP.out j h1 hj
            · have : j = k := by omega
              subst this
              exact HG.out
          case measure => simp [intOf]; omega
        · have hne : ((x.toNat : Int) == 61) = false := by
            simp
            intro h
            exact h61 (UInt8.toNat_inj.1 (by simpa using (by omega : x.toNat = 61)))
          have H61 := Lib.hid h61
          clear hg hsz h61
          go_wp2
          go_ret2
          refine ⟨HW.out, k, hk1, HP.out, .inl ⟨h4, ?_, rfl⟩⟩
          exact fun h => H61.out (Option.some.inj (HG.out.symm.trans h))
      · have hks' : k = s.size := by omega
        have d1 : decide ((k : Int) < 4) = true := decide_eq_true (by omega)
        have d2 : ((k : Int) == (s.size : Int)) = true := by simp; omega
        have d3 : (k == s.size) = true := by simp; omega
        have HN := Lib.hid (show ¬ At61 s k by unfold At61; rw [List.getElem?_eq_none (by rw [← hsz]; omega)]; simp)
        clear hsz hks'
        go_wp2
        go_ret2
        exact ⟨HW.out, k, hk1, HP.out, .inl ⟨h4, HN.out, rfl⟩⟩
    · have HK := Lib.hid (show k = 4 by omega)
      have d1 : decide ((k : Int) < 4) = false := decide_eq_false (by omega)
      clear hk4 h4
      go_wp2
      go_ret2
      exact ⟨HW.out, k, hk1, HP.out, .inr ⟨HK.out, rfl⟩⟩
set_option maxHeartbeats 2000000 in
set_option maxRecDepth 100000 in
theorem gg_go4 (s : ByteArray) (R : Nat) (a b c : Value) (w : World) (Z : Nat) (hb : Blk w R 46 #[a, b, c]) (hZ : Z < 4294967296) (hn : 4 ≤ s.size) (hz : ((Z : Int) * 16777216 % 4294967296 == 0) = true)
    (H : ∀ W, Calls Try.prog 32 #[.string s] W fun e w' => e = .returned (.tuple #[.int .u32 (Z : Nat), .int .i64 4]) ∧ W = w') :
    Calls Try.prog 27 #[.string s, .pointer (some ⟨R, 0, none⟩)] w fun e w' => w' = W3 w R Z ∧ ∃ k : Nat, 4 ≤ k ∧ (∀ j, 4 ≤ j → j < k → At61 s j) ∧
      ((k < 4 ∧ ¬ At61 s k ∧ e = .returned (.tuple #[.slice none 0 0, .int .i64 (k : Nat)])) ∨ (k = 4 ∧ e = .returned (.tuple #[.slice (some ⟨R, 0, none⟩) 3 3, .int .i64 (k : Nat)]))) := by
  have HH := Lib.hid H
  have c0 := hb.cell 0
  have c1 := hb.cell 1
  have c2 := hb.cell 2
  have f0 := hb.frozen 0
  have f1 := hb.frozen 1
  have f2 := hb.frozen 2
  clear H hb
  go_enter Try.func27, Try.ntmps27
  go_wp2_with (go_at_call 32; refine (HH.out _).mono ?_; rintro e w2 ⟨rfl, rfl⟩)
  obtain ⟨w3, hw3⟩ : ∃ w3, W3 w R Z = w3 := ⟨_, rfl⟩
  have HW := Lib.hid hw3.symm
  unfold W3 at hw3
  rw [hw3]
  clear hw3 c0 c1 c2 f0 f1 f2
  go_loop [4, 5] (fun v i => v = .slice (some ⟨R, 0, none⟩) 3 3 ∧ ∃ k : Nat, 4 ≤ k ∧ k ≤ 4 ∧ k ≤ s.size ∧ i = .int .i64 k ∧ Hid (∀ j, 4 ≤ j → j < k → At61 s j)) (fun _ i => 5 - (intOf i).toNat)
  case atStart => exact ⟨rfl, 4, by omega, by omega, hn, rfl, fun j h1 h2 => by omega⟩
  case round =>
    obtain ⟨rfl, k, hk1, hk4, hks, rfl, HP⟩ := hrel
    by_cases h4 : k < 4
    · omega
    · have HK := Lib.hid (show k = 4 by omega)
      have d1 : decide ((k : Int) < 4) = false := decide_eq_false (by omega)
      clear hk4 h4
      go_wp2
      go_ret2
      exact ⟨HW.out, k, hk1, HP.out, .inr ⟨HK.out, rfl⟩⟩
end Go.Proofs.Ytddgmpmfdgfcdaa
