/-
  What is proved here: the contract of utf.Unquote: it answers as the machine over the bytes of its argument; conditions: the library's two tables hold what is laid, and the string has at most 65536 bytes; and: the contracts of utf.Put, utf.Next, utf.Valid and strings.IndexRune at the escaped bytes; conditions: the library's two tables hold what is laid, and those that each fact states; and: strings.IndexRune at the bytes that a short literal escapes, for every scalar value; conditions: those that each fact states; and: strings.IndexRune at the bytes that a short literal escapes, at ASCII and at U+FFFD, and put together for every scalar value; conditions: those that each fact states.
-/
import Derived.Test.YtjnfilbdokppiaaGreatDoorUReadA
import Derived.Lib.OthersKept
import Derived.Lib.TrimUEq
import Derived.Lib.MapLaws
import Derived.Shelf.Unicode.ValidAny
namespace Go.Proofs.YtjnfilbdokppiaaGreatDoor.U
open Go.RowKit Ut Go.Lib

/-- The string of the bytes. -/
def str (xs : List UInt8) : ByteArray := ⟨xs.toArray⟩
theorem str_list (s : ByteArray) : str s.data.toList = s := by cases s; simp [str]
theorem str_data (xs : List UInt8) : (str xs).data.toList = xs := by simp [str]
theorem fold_push (xs : List UInt8) (s : ByteArray) : (xs.map (fun b : UInt8 => (b.toNat : Int))).foldl (fun r n => r.push (UInt8.ofNat n.toNat)) s = ⟨s.data ++ xs.toArray⟩ := by
  induction xs generalizing s with
  | nil => simp
  | cons x xs ih =>
    simp only [List.map_cons, List.foldl_cons, ih]
    congr 1
    simp [ByteArray.push]
theorem own_str {w : World} {B : Nat} {v : Value} {xs : List UInt8} (h : Own w B v xs) : (convert 61 9 v).run Tryz.prog w = .ok (.string (str xs)) w := by
  rcases h.2 with ⟨rfl, h0⟩ | ⟨g, c, cur, rfl, _⟩
  · have hx : xs = [] := List.eq_nil_of_length_eq_zero h0
    subst hx
    rw [run_convert_bytes_string w 61 9 5 none 0 0 Tryz.underlying61 Tryz.underlying5 Tryz.underlying9]
    rfl
  · rw [run_convert_bytes_string w 61 9 5 _ _ c Tryz.underlying61 Tryz.underlying5 Tryz.underlying9]
    have hl := run_loadCells_list (P := Tryz.prog) (w := w) ⟨g, 0, none⟩ (bv xs) (own_src h)
    have e : (bv xs) = (xs.map (fun b : UInt8 => (b.toNat : Int))).map (Value.int .u8) := by simp [bv]
    rw [bv_length, e] at hl
    rw [run_bytesToString w ⟨g, 0, none⟩ _ c _ hl, fold_push]
    simp [str]
theorem RS.text {w : World} {B R : Nat} {q : Q} (h : RS w B R q) : ∃ vt, w.cell? ⟨R, 1, none⟩ = some vt ∧ (convert 61 9 vt).run Tryz.prog w = .ok (.string (str q.text)) w := by
  obtain ⟨_, _, vt, vp, h3, h4, _⟩ := h
  exact ⟨vt, h3.cell 1, own_str h4⟩
theorem RS.new (w : World) : RS (w.alloc (.cells #[.int .i64 0, .slice none 0 0, .slice none 0 0, .int .i32 0, .int .i64 0, .int .i32 0] 106)) w.heap.size w.heap.size q0 :=
  ⟨Nat.le_refl _, by simp, .slice none 0 0, .slice none 0 0, Blk.new w _ _, World.ownsRow_nil _ _ _ _, World.ownsRow_nil _ _ _ _, fun k hk => by simp [Value.ownBlock] at hk⟩

/-- What Unquote hands back. -/
def uR (r : List UInt8 × Nat × Nat × Nat) : Value := .tuple #[.string (str r.1), .int .i64 (r.2.1 : Int), .int .i64 (r.2.2.1 : Int), .int .i64 (r.2.2.2 : Int)]
def UE (w : World) (r : List UInt8 × Nat × Nat × Nat) (e : Ending) (w' : World) : Prop := e = .returned (uR r) ∧ Below w.heap.size w w'

/-- The round's head. -/
def UH (w : World) (s : ByteArray) (n e : Value) (wr : World) : Prop :=
  ∃ (k : Nat) (q : Q), k ≤ s.size ∧ n = .int .i64 k ∧ e = .int .i64 0 ∧ WF q ∧ RS wr w.heap.size w.heap.size q ∧ Below w.heap.size w wr ∧ q.text.length ≤ 4 * k ∧ unq s.data.toList = go q (s.data.toList.drop k) k

set_option maxHeartbeats 1000000 in
set_option maxRecDepth 1000000 in
theorem unquote_any (s : ByteArray) (w : World) (hT : TB w.heap.size w) (hs : s.size ≤ 65536) :
    Calls Tryz.prog 50 #[.string s] w (UE w (unq s.data.toList)) := by
  have HT := Lib.hid hT
  clear hT
  have HN := Lib.hid (RS.new w)
  go_enter Tryz.func50, Tryz.ntmps50
  go_wp2
  go_loopw [3, 5] (fun n e wr => UH w s n e wr) (fun n _ _ => s.size + 1 - (RowKit.intOf n).toNat)
  case atStart => exact ⟨0, q0, Nat.zero_le _, rfl, rfl, wf0, HN.out, (Below.refl _ _).alloc (Nat.le_refl _) _, by simp [q0], rfl⟩
  case round =>
    obtain ⟨k, q, hk, rfl, rfl, hwf, hr, hb, hlen, hgo⟩ := hrel
    have c0 := hr.c0
    obtain ⟨vt, c1, hcv⟩ := hr.text
    have HW := Lib.hid hwf
    have HR := Lib.hid hr
    have HB := Lib.hid hb
    have HG := Lib.hid hgo
    clear hwf hr hb hgo
    by_cases h8 : q.st = 8
    · rw [h8] at c0
      have HR8 := Lib.hid (go_8 h8 (s.data.toList.drop k) k)
      clear h8
      go_wp2
      exact bodyPost_ret (v := uR (q.text, k, 0, 0)) (by simp [results, Tryz.results50, go_sem, uR, str]) rfl ⟨by rw [HG.out, HR8.out], HB.out⟩
    · have i8 : ((q.st : Int) == 8) = false := by simp; omega
      have j8 : ((q.st : Int) != 8) = true := by simp; omega
      by_cases hlt : k < s.size
      · have HC := Lib.hid (read_any _ _ _ q (s[k]) HR.out (HT.out.below HB.out) HW.out h8 (by omega))
        have hdrop : s.data.toList.drop k = s[k] :: s.data.toList.drop (k + 1) := by rw [List.drop_eq_getElem_cons (by rw [← Lib.size_eq]; exact hlt)]; rfl
        have HDR := Lib.hid hdrop
        clear hdrop
        have H8 := Lib.hid h8
        clear h8
        go_wp2_with (go_at_call 80; refine HC.out.mono ?_; rintro e w1 ⟨rfl, hg, hb1⟩; have HG1 := Lib.hid hg; have HB1 := Lib.hid (HB.out.trans hb1); clear hg hb1)
        · have hne : (Ut.step q s[k]).2 ≠ 0 := by intro h; simp_all
          exact bodyPost_ret (v := uR ([], 0, k, (Ut.step q s[k]).2)) (by simp [results, Tryz.results50, go_sem, uR, str]) rfl ⟨by rw [HG.out, HDR.out, go_err H8.out hne], HB1.out⟩
        · have he0 : (Ut.step q s[k]).2 = 0 := by
            have h := (show ∀ n : Nat, ((n : Int) != 0) = false → n = 0 by intro n h; simp at h; omega)
            first
              | assumption
              | (apply h; assumption)
              | simp_all
          have hk1 : ((k + 1 : Nat) : Int) = (k : Int) + 1 := by omega
          refine ⟨⟨k + 1, (Ut.step q s[k]).1, by omega, by rw [hk1], by rw [he0]; rfl, step_wf HW.out H8.out _ he0, HG1.out he0, HB1.out, ?_, ?_⟩, ?_⟩
          · have := step_len HW.out s[k]; omega
          · rw [HG.out, HDR.out, go_ok H8.out he0]
          · simp [RowKit.intOf]; omega
      · have hks : k = s.size := by omega
        have HN8 := Lib.hid (go_nil h8 k)
        have hdrop : s.data.toList.drop k = [] := by rw [hks]; exact List.drop_of_length_le (Nat.le_of_eq (Lib.size_eq s).symm)
        have HD := Lib.hid hdrop
        have HK := Lib.hid hks
        have hke : (k : Int) = (s.size : Int) := by omega
        have dke : ((k : Int) == (s.size : Int)) = true := by simp; omega
        clear hdrop h8 hlt hke
        go_wp2
        exact bodyPost_ret (v := uR ([], 0, k, 3)) (by simp [results, Tryz.results50, go_sem, uR, str]) rfl ⟨by rw [HG.out, HD.out, HN8.out], HB.out⟩
end Go.Proofs.YtjnfilbdokppiaaGreatDoor.U
namespace Go.Proofs.YtjnfilbdokppiaaGreatDoor.U
open Go.RowKit Ut Go.Lib

theorem encode_enc {r : Nat} (h : scal r) : Utf8.encode (r : Int) = str (enc r) := by
  unfold scal at h
  have hv : Utf8.valid (r : Int) = true := by unfold Utf8.valid; simp; omega
  unfold Utf8.encode str enc encN
  rw [hv]
  simp only [if_true, Int.toNat_natCast]
  repeat' split
  all_goals rfl

/-- What Next hands back. -/
def dec (l : List UInt8) : Nat × Nat := if l = [] then (65533, 0) else decodeL l
def nx (l : List UInt8) : Nat × Nat × Bool := if (dec l).1 = 65533 ∧ (dec l).2 ≠ 3 then (0, 0, false) else ((dec l).1, (dec l).2, true)
theorem decodeGo_dec (s : ByteArray) : Lib.decodeGo s = dec s.data.toList := by
  unfold Lib.decodeGo dec
  have hsz := Lib.size_eq s
  by_cases h : s.size = 0
  · rw [if_pos h, if_pos (List.eq_nil_of_length_eq_zero (by omega))]
  · rw [if_neg h, if_neg (by intro h0; apply h; rw [hsz, h0]; rfl)]
    have := decodeL_drop s 0
    rw [List.drop_zero] at this
    exact this.symm
def nxR (r : Nat × Nat × Bool) : Value := .tuple #[.int .i32 (r.1 : Int), .int .i64 (r.2.1 : Int), .bool r.2.2]
theorem valid_any (s : ByteArray) (w : World) (hT : Lib.Utf8Tabs 2 3 w) (hs : s.size ≤ 9223372036854775807) :
    Calls Tryz.prog 73 #[.string s] w fun e w' => e = .returned (.bool (Lib.validD s.data.toList)) ∧ Below w.heap.size w w' := by
  have C : Calls Tryz.prog 102 #[.string s] w fun e w' => e = .returned (.bool (Lib.validD s.data.toList)) ∧ Below w.heap.size w w' := Any.utf8_ValidString Tryz.lays196 s w hs hT
  have HC := Lib.hid C
  clear C hT hs
  go_enter Tryz.func73, Tryz.ntmps73
  go_wp2_with (go_at_call 102; refine HC.out.mono ?_; rintro e w1 ⟨rfl, hb⟩; have HB := Lib.hid hb; clear hb)
  go_ret
  exact ⟨rfl, HB.out⟩
end Go.Proofs.YtjnfilbdokppiaaGreatDoor.U
namespace Go.Proofs.YtjnfilbdokppiaaGreatDoor.U
open Go.RowKit Ut Go.Lib

/-- The bytes that a short literal escapes with a letter. -/
def escB : List UInt8 := [34, 92, 8, 12, 10, 13, 9]
theorem ib_hi : ∀ (l : List UInt8), (∀ x ∈ l, x.toNat < 128) → ∀ y : UInt8, 128 ≤ y.toNat → Lib.indexByte l y = -1 := by
  intro l
  induction l with
  | nil => intro _ y _; rfl
  | cons a r ih =>
    intro h y hy
    have h1 := ih (fun x hx => h x (List.mem_cons_of_mem _ hx)) y hy
    have ha := h a (List.mem_cons_self ..)
    have hne : a ≠ y := by intro e; subst e; omega
    unfold Lib.indexByte
    simp [hne, h1]

theorem quiet_more {P : Program} {f : FuncId} {args : Array Value} {w : World} {a n : Nat} {v : Value} (h : Calls P f args (w.drewN (a + n)) fun e w' => e = .returned v ∧ w' = w.drewN (a + n)) :
    Calls P f args (w.drewN (a + n)) fun e w' => e = .returned v ∧ ∃ m, w' = w.drewN (a + m) := by
  refine h.mono ?_
  rintro e w' ⟨he, hw⟩
  exact ⟨he, n, hw⟩
theorem ib_call (s : ByteArray) (y : UInt8) (hs : ∀ x ∈ s.data.toList, x.toNat < 128) (hy : 128 ≤ y.toNat) (W : World) :
    Calls Tryz.prog 81 #[.string s, .int .u8 (y.toNat : Int)] W fun e w' => e = .returned (.int .i64 (-1)) ∧ w' = W := by
  have C := Tryz.strings_IndexByte s (y.toNat : Int) W
  rw [ib_hi s.data.toList hs _ (by simp [Nat.toUInt8]; exact hy)] at C
  exact C

set_option maxHeartbeats 1000000 in
set_option maxRecDepth 1000000 in
theorem idx_2 (r : Int) (w : World) (x y : UInt8) (h0 : decide (0 ≤ r) = true) (h1 : decide (r < 128) = false) (h2 : (r == 65533) = false) (hv : Lib.validRune r = true) (hS : Utf8.encode r = ⟨#[x, y]⟩) (hy : 128 ≤ y.toNat) :
    Calls Tryz.prog 131 #[.string ⟨#[34, 92, 8, 12, 10, 13, 9]⟩, .int .i32 r] w fun e w' => e = .returned (.int .i64 (-1)) ∧ Below w.heap.size w w' := by
  have HV := Lib.hid hv
  have hd : ((((⟨#[34, 92, 8, 12, 10, 13, 9]⟩ : ByteArray)[1]'(by show 1 < 7; decide)).toNat : Int) != (((⟨#[x, y]⟩ : ByteArray)[1]'(by show 1 < 2; decide)).toNat : Int)) = true := by
    show (((92 : Nat) : Int) != (y.toNat : Int)) = true
    simp; omega
  have hw2 : IntKind.i64.wrap 2 = 2 := by decide
  have HY := Lib.hid hy
  clear hv hy
  go_enter Tryz.func131, Tryz.ntmps131
  go_wp2_with (first
    | (go_at_call 152; refine (Tryz.utf8_ValidRune _ _).mono ?_; rintro e w1 ⟨rfl, hw⟩; subst hw; rw [HV.out]))
  go_step3
  go_wp2
  go_loopw [9, 10] (fun i f wr => i = .int .i64 1 ∧ f = .int .i64 0 ∧ wr = w1) (fun i _ _ => 0)
  case atStart => exact ⟨rfl, rfl, rfl⟩
  case round =>
    obtain ⟨rfl, rfl, rfl⟩ := hrel
    go_wp2
    go_step3
    go_wp2
    go_quiet (fail)
    go_wp2
    go_quiet ((go_at_call 81; exact quiet_more (ib_call _ _ (by decide) HY.out _)))
    go_wp2
    change bodyPost Tryz.prog Tryz.f131 (fun e w' => e = .returned (.int .i64 (-1)) ∧ Below wr.heap.size wr w') Exit.ret _ _
    go_ret
    exact ⟨rfl, below_drewN (Below.refl _ _) _⟩

set_option maxHeartbeats 1000000 in
set_option maxRecDepth 1000000 in
theorem idx_3 (r : Int) (w : World) (x y z : UInt8) (h0 : decide (0 ≤ r) = true) (h1 : decide (r < 128) = false) (h2 : (r == 65533) = false) (hv : Lib.validRune r = true) (hS : Utf8.encode r = ⟨#[x, y, z]⟩) (hy : 128 ≤ z.toNat) :
    Calls Tryz.prog 131 #[.string ⟨#[34, 92, 8, 12, 10, 13, 9]⟩, .int .i32 r] w fun e w' => e = .returned (.int .i64 (-1)) ∧ Below w.heap.size w w' := by
  have HV := Lib.hid hv
  have hd : ((((⟨#[34, 92, 8, 12, 10, 13, 9]⟩ : ByteArray)[2]'(by show 2 < 7; decide)).toNat : Int) != (((⟨#[x, y, z]⟩ : ByteArray)[2]'(by show 2 < 3; decide)).toNat : Int)) = true := by
    show (((8 : Nat) : Int) != (z.toNat : Int)) = true
    simp; omega
  have hw2 : IntKind.i64.wrap 3 = 3 := by decide
  have HY := Lib.hid hy
  clear hv hy
  go_enter Tryz.func131, Tryz.ntmps131
  go_wp2_with (first
    | (go_at_call 152; refine (Tryz.utf8_ValidRune _ _).mono ?_; rintro e w1 ⟨rfl, hw⟩; subst hw; rw [HV.out]))
  go_step3
  go_wp2
  go_loopw [9, 10] (fun i f wr => i = .int .i64 2 ∧ f = .int .i64 0 ∧ wr = w1) (fun i _ _ => 0)
  case atStart => exact ⟨rfl, rfl, rfl⟩
  case round =>
    obtain ⟨rfl, rfl, rfl⟩ := hrel
    go_wp2
    go_step3
    go_wp2
    go_quiet (fail)
    go_wp2
    go_quiet ((go_at_call 81; exact quiet_more (ib_call _ _ (by decide) HY.out _)))
    go_wp2
    change bodyPost Tryz.prog Tryz.f131 (fun e w' => e = .returned (.int .i64 (-1)) ∧ Below wr.heap.size wr w') Exit.ret _ _
    go_ret
    exact ⟨rfl, below_drewN (Below.refl _ _) _⟩

set_option maxHeartbeats 1000000 in
set_option maxRecDepth 1000000 in
theorem idx_4 (r : Int) (w : World) (x y z u : UInt8) (h0 : decide (0 ≤ r) = true) (h1 : decide (r < 128) = false) (h2 : (r == 65533) = false) (hv : Lib.validRune r = true) (hS : Utf8.encode r = ⟨#[x, y, z, u]⟩) (hy : 128 ≤ u.toNat) :
    Calls Tryz.prog 131 #[.string ⟨#[34, 92, 8, 12, 10, 13, 9]⟩, .int .i32 r] w fun e w' => e = .returned (.int .i64 (-1)) ∧ Below w.heap.size w w' := by
  have HV := Lib.hid hv
  have hd : ((((⟨#[34, 92, 8, 12, 10, 13, 9]⟩ : ByteArray)[3]'(by show 3 < 7; decide)).toNat : Int) != (((⟨#[x, y, z, u]⟩ : ByteArray)[3]'(by show 3 < 4; decide)).toNat : Int)) = true := by
    show (((12 : Nat) : Int) != (u.toNat : Int)) = true
    simp; omega
  have hw2 : IntKind.i64.wrap 4 = 4 := by decide
  have HY := Lib.hid hy
  clear hv hy
  go_enter Tryz.func131, Tryz.ntmps131
  go_wp2_with (first
    | (go_at_call 152; refine (Tryz.utf8_ValidRune _ _).mono ?_; rintro e w1 ⟨rfl, hw⟩; subst hw; rw [HV.out]))
  go_step3
  go_wp2
  go_loopw [9, 10] (fun i f wr => i = .int .i64 3 ∧ f = .int .i64 0 ∧ wr = w1) (fun i _ _ => 0)
  case atStart => exact ⟨rfl, rfl, rfl⟩
  case round =>
    obtain ⟨rfl, rfl, rfl⟩ := hrel
    go_wp2
    go_step3
    go_wp2
    go_quiet (fail)
    go_wp2
    go_quiet ((go_at_call 81; exact quiet_more (ib_call _ _ (by decide) HY.out _)))
    go_wp2
    change bodyPost Tryz.prog Tryz.f131 (fun e w' => e = .returned (.int .i64 (-1)) ∧ Below wr.heap.size wr w') Exit.ret _ _
    go_ret
    exact ⟨rfl, below_drewN (Below.refl _ _) _⟩
end Go.Proofs.YtjnfilbdokppiaaGreatDoor.U
namespace Go.Proofs.YtjnfilbdokppiaaGreatDoor.U
open Go.RowKit Ut Go.Lib

def escS0 : ByteArray := ⟨#[34, 92, 8, 12, 10, 13, 9]⟩
theorem esc_next (w : World) (k pos : Nat) (ty : TypeId) (hk : w.heap[k]? = some (.stringIter ⟨#[34, 92, 8, 12, 10, 13, 9]⟩ pos)) (h : pos < 7) :
    (Instr.next (.pointer (some ⟨k, 0, none⟩)) true ty).run Tryz.prog w = .ok (.tuple #[.bool true, .int .i64 pos, .int .i32 ((escB.getD pos 0).toNat : Int)]) (w.iterAt k ⟨#[34, 92, 8, 12, 10, 13, 9]⟩ (pos + 1)) := by
  rw [Lib.run_next_any_at w k _ pos ty hk (by exact h)]
  have : Utf8.decode ⟨#[34, 92, 8, 12, 10, 13, 9]⟩ pos = ((escB.getD pos 0).toNat, 1) := by
    rcases (show pos = 0 ∨ pos = 1 ∨ pos = 2 ∨ pos = 3 ∨ pos = 4 ∨ pos = 5 ∨ pos = 6 by omega) with rfl | rfl | rfl | rfl | rfl | rfl | rfl <;> decide
  rw [this]
theorem iter_pos {w : World} {k pos : Nat} {s : ByteArray} (h : w.heap[k]? = some (.stringIter s pos)) : w.iterPos k = pos := by
  simp [World.iterPos, h]
set_option maxHeartbeats 1000000 in
set_option maxRecDepth 1000000 in
theorem idx_bad (w : World) :
    Calls Tryz.prog 131 #[.string ⟨#[34, 92, 8, 12, 10, 13, 9]⟩, .int .i32 65533] w fun e w' => e = .returned (.int .i64 (-1)) ∧ Below w.heap.size w w' := by
  go_enter Tryz.func131, Tryz.ntmps131
  go_wp2
  go_loopw [] (fun wr => ∃ pos, pos ≤ 7 ∧ wr.heap[w.heap.size]? = some (.stringIter ⟨#[34, 92, 8, 12, 10, 13, 9]⟩ pos) ∧ Below w.heap.size w wr) (fun wr => 7 - wr.iterPos w.heap.size)
  case atStart => exact ⟨0, by omega, World.iter_heap w _ 0, (Below.refl _ _).alloc (Nat.le_refl _) _⟩
  case round =>
    obtain ⟨pos, hp, hit, hb⟩ := hrel
    have hpos := hit
    by_cases h7 : pos < 7
    · have hnx : ∀ ty, (Instr.next (.pointer (some ⟨w.heap.size, 0, none⟩)) true ty).run Tryz.prog wr = _ := fun ty => esc_next wr w.heap.size pos ty hit h7
      have hit2 := Lib.iterAt_heap wr w.heap.size _ pos (pos + 1) hit
      have hb2 := Lib.below_iterAt hb (k := w.heap.size) (Nat.le_refl _) ⟨#[34, 92, 8, 12, 10, 13, 9]⟩ (pos + 1)
      have hne : ((((escB.getD pos 0).toNat : Nat) : Int) == 65533) = false := by
        rcases (show pos = 0 ∨ pos = 1 ∨ pos = 2 ∨ pos = 3 ∨ pos = 4 ∨ pos = 5 ∨ pos = 6 by omega) with rfl | rfl | rfl | rfl | rfl | rfl | rfl <;> decide
      obtain ⟨X, hX⟩ : ∃ X : Int, (((escB.getD pos 0).toNat : Nat) : Int) = X := ⟨_, rfl⟩
      rw [hX] at hne
      simp only [hX] at hnx
      have H2 := Lib.hid hit2
      have HB2 := Lib.hid hb2
      have HI := Lib.hid hit
      clear hit2 hb2 hit hpos hX hb
      go_wp2
      refine ⟨⟨pos + 1, by omega, H2.out, HB2.out⟩, ?_⟩
      have e1 := iter_pos H2.out
      have e2 := iter_pos HI.out
      rw [e1, e2]
      omega
    · have hnx : ∀ ty, (Instr.next (.pointer (some ⟨w.heap.size, 0, none⟩)) true ty).run Tryz.prog wr = _ := fun ty => Lib.run_next_end_at wr w.heap.size _ pos ty hit (by exact h7)
      have HB := Lib.hid hb
      clear hb hit hpos
      go_wp2
      go_ret
      exact ⟨rfl, HB.out⟩

theorem idx_ascii (r : Nat) (w : World) (h : r < 128) :
    Calls Tryz.prog 131 #[.string ⟨#[34, 92, 8, 12, 10, 13, 9]⟩, .int .i32 (r : Int)] w fun e w' => e = .returned (.int .i64 (Lib.indexByte escB (UInt8.ofNat r))) ∧ Below w.heap.size w w' := by
  refine (Tryz.strings_IndexRune_ascii ⟨#[34, 92, 8, 12, 10, 13, 9]⟩ (r : Int) w (by omega) (by omega)).mono ?_
  rintro e w' ⟨rfl, rfl⟩
  exact ⟨rfl, Below.refl _ _⟩
theorem u8_hi (n : Nat) (h : n < 64) : 128 ≤ (UInt8.ofNat (128 + n)).toNat := by
  rw [UInt8.toNat_ofNat']; omega
theorem idx_high (r : Nat) (w : World) (h : scal r) (h128 : 128 ≤ r) :
    Calls Tryz.prog 131 #[.string ⟨#[34, 92, 8, 12, 10, 13, 9]⟩, .int .i32 (r : Int)] w fun e w' => e = .returned (.int .i64 (-1)) ∧ Below w.heap.size w w' := by
  by_cases hb : r = 65533
  · subst hb; exact idx_bad w
  · have hs := h
    unfold scal at hs
    have hv : Lib.validRune (r : Int) = true := by unfold Lib.validRune; simp; omega
    have he := encode_enc h
    have g0 : decide (0 ≤ (r : Int)) = true := decide_eq_true (by omega)
    have g1 : decide ((r : Int) < 128) = false := decide_eq_false (by omega)
    have g2 : ((r : Int) == 65533) = false := by simp; omega
    unfold enc encN at he
    rw [if_neg (by omega)] at he
    by_cases h2 : r < 2048
    · rw [if_pos h2] at he
      exact idx_2 (r : Int) w _ _ g0 g1 g2 hv he (u8_hi _ (by omega))
    · rw [if_neg h2] at he
      by_cases h3 : r < 65536
      · rw [if_pos h3] at he
        exact idx_3 (r : Int) w _ _ _ g0 g1 g2 hv he (u8_hi _ (by omega))
      · rw [if_neg h3] at he
        exact idx_4 (r : Int) w _ _ _ _ g0 g1 g2 hv he (u8_hi _ (by omega))
end Go.Proofs.YtjnfilbdokppiaaGreatDoor.U
