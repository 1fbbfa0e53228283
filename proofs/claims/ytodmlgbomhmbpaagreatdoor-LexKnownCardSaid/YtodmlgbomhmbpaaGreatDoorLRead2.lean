/-
  What is proved here: contracts of lex.readNumber, lex.readText, lex.readSpelling, lex.read; conditions: the tables that package lex and its library read hold what is laid, and a string of at most 65536 bytes; and: contracts of lex.readText, lex.readSpelling, lex.read; conditions: the tables that package lex and its library read hold what is laid, and a string of at most 65536 bytes.
-/
import Derived.Test.YtodmlgbomhmbpaaGreatDoorLMeasM
import Derived.Test.YtodmlgbomhmbpaaGreatDoorUnq
import Derived.Lib.AtoiErrMem
namespace Go.Proofs.YtodmlgbomhmbpaaGreatDoor
open Go.RowKit Ut Lx

/-- What is laid when a law begins, and stays. -/
structure LB (B : Nat) (w : World) : Prop where
  tb : TB B w
  es : ∃ t p, w.cell? ⟨2, 0, none⟩ = some (.iface t p)
  er : ∃ t p, w.cell? ⟨3, 0, none⟩ = some (.iface t p)
  sp : ∀ k, k < 10 → w.cell? ⟨0, k, none⟩ = some (.string (str (wordL k)))
  pow : Lib.TabIs Tryz.prog w "internal/strconv.uint64pow10" .u64 Lib.pow10Tab
theorem pow_glob : Tryz.prog.globalNamed "internal/strconv.uint64pow10" = some 6 := by kernel_rfl
theorem LB.below {B : Nat} {w w' : World} (h : LB B w) (hb : Below B w w') : LB B w' := by
  have hB := h.tb.1
  refine ⟨h.tb.below hb, ?_, ?_, fun k hk => (hb.cell (p := ⟨0, k, none⟩) (by show 0 < B; omega)).trans (h.sp k hk), ?_⟩
  · obtain ⟨t, p, hc⟩ := h.es
    exact ⟨t, p, (hb.cell (p := ⟨2, 0, none⟩) (by show 2 < B; omega)).trans hc⟩
  · obtain ⟨t, p, hc⟩ := h.er
    exact ⟨t, p, (hb.cell (p := ⟨3, 0, none⟩) (by show 3 < B; omega)).trans hc⟩
  · have := h.pow
    unfold Lib.TabIs World.var? at this ⊢
    rw [pow_glob] at this ⊢
    rw [← this]
    simp only [Option.bind_some]
    rw [hb.block 6 (by omega)]

def tkV (k f t : Nat) (N : Int) (U : Nat) (x : List UInt8) : Value := .agg #[.int .i64 k, .int .i64 f, .int .i64 t, .int .i64 N, .int .u64 U, .string (str x)]
def rdV (d : RD) : Value := .tuple #[tkV d.k 0 0 d.N d.U d.x, .int .i64 d.n, .int .i64 d.e]

theorem parseInt_ok (s : ByteArray) (hs : s.size ≤ 1099511627776) (v : Int) (h : Lib.parseIntB 64 s.data.toList = .ok v) (w : World) :
    Calls Tryz.prog 53 #[.string s, .int .i64 10, .int .i64 64] w fun e w' => e = .returned (.tuple #[.int .i64 v, .nilIface]) ∧ Below w.heap.size w w' := by
  refine (Tryz.strconv_ParseInt_10_at64_ok s (by omega) v h w).mono ?_
  rintro e w' ⟨rfl, rfl | ⟨t, rfl⟩⟩
  · exact ⟨rfl, Below.refl _ _⟩
  · exact ⟨rfl, Lib.bytesWorld_below _ _ _⟩
theorem parseUint_ok (s : ByteArray) (hs : s.size ≤ 1099511627776) (u : Nat) (h : Lib.parseUintB 64 s.data.toList = .ok u) (w : World) :
    Calls Tryz.prog 54 #[.string s, .int .i64 10, .int .i64 64] w fun e w' => e = .returned (.tuple #[.int .u64 u, .nilIface]) ∧ Below w.heap.size w w' := by
  refine (Tryz.strconv_ParseUint_10_at64_ok s (by omega) u h w).mono ?_
  rintro e w' ⟨rfl, rfl | rfl⟩
  · exact ⟨rfl, Below.refl _ _⟩
  · exact ⟨rfl, Lib.bytesWorld_below _ _ _⟩
theorem parseInt_no (s : ByteArray) (hs : s.size ≤ 1099511627776) (h : ∀ v, Lib.parseIntB 64 s.data.toList ≠ .ok v) {B : Nat} (w : World) (hL : LB B w) :
    Calls Tryz.prog 53 #[.string s, .int .i64 10, .int .i64 64] w fun e w' => ∃ x t p, e = .returned (.tuple #[.int .i64 x, .iface t p]) ∧ Below w.heap.size w w' := by
  obtain ⟨t1, p1, h1⟩ := hL.es
  obtain ⟨t2, p2, h2⟩ := hL.er
  rcases hp : Lib.parseIntB 64 s.data.toList with v | _ | _
  · exact absurd hp (h v)
  · refine (Tryz.strconv_ParseInt_10_at64_syntax s (by omega) hp _ w h1 (Or.inr ⟨_, _, rfl⟩)).mono ?_
    rintro e w' ⟨N, rfl, _, _, hb⟩
    exact ⟨_, _, _, rfl, hb⟩
  · refine (Tryz.strconv_ParseInt_10_at64_range s (by omega) hp _ w h2 (Or.inr ⟨_, _, rfl⟩)).mono ?_
    rintro e w' ⟨N, rfl, _, _, hb⟩
    exact ⟨_, _, _, rfl, hb⟩
theorem parseUint_no (s : ByteArray) (hs : s.size ≤ 1099511627776) (h : ∀ v, Lib.parseUintB 64 s.data.toList ≠ .ok v) {B : Nat} (w : World) (hL : LB B w) :
    Calls Tryz.prog 54 #[.string s, .int .i64 10, .int .i64 64] w fun e w' => ∃ x t p, e = .returned (.tuple #[.int .u64 x, .iface t p]) ∧ Below w.heap.size w w' := by
  obtain ⟨t1, p1, h1⟩ := hL.es
  obtain ⟨t2, p2, h2⟩ := hL.er
  rcases hp : Lib.parseUintB 64 s.data.toList with v | _ | _
  · exact absurd hp (h v)
  · refine (Tryz.strconv_ParseUint_10_at64_syntax s (by omega) hp _ w h1 (Or.inr ⟨_, _, rfl⟩)).mono ?_
    rintro e w' ⟨N, rfl, _, _, hb⟩
    exact ⟨_, _, _, rfl, hb⟩
  · refine (Tryz.strconv_ParseUint_10_at64_range s (by omega) hp _ w h2 (Or.inr ⟨_, _, rfl⟩)).mono ?_
    rintro e w' ⟨N, rfl, _, _, hb⟩
    exact ⟨_, _, _, rfl, hb⟩

theorem bcell {W w1 : World} (hb : Below W.heap.size W w1) : (∀ b o, b < W.heap.size → w1.cell? ⟨b, o, none⟩ = W.cell? ⟨b, o, none⟩) ∧ (∀ b o, b < W.heap.size → w1.frozen? ⟨b, o, none⟩ = W.frozen? ⟨b, o, none⟩) :=
  ⟨fun b o h => hb.cell (p := ⟨b, o, none⟩) h, fun b o h => hb.frozen (p := ⟨b, o, none⟩) h⟩
def RDE (w : World) (d : RD) (e : Ending) (w' : World) : Prop := e = .returned (rdV d) ∧ Below w.heap.size w w'
set_option maxHeartbeats 2000000 in
set_option maxRecDepth 100000 in
theorem readNumber_any (s : ByteArray) (w : World) (hs : s.size ≤ 1099511627776) {B : Nat} (hL : LB B w) :
    Calls Tryz.prog 43 #[.string s] w (RDE w (num s.data.toList)) := by
  have HM := Lib.hid (fun W => measure_any s W hs)
  have hle := (mX_le s.data.toList).1
  rw [← Lib.size_eq] at hle
  obtain ⟨d, hd⟩ : ∃ d, num s.data.toList = d := ⟨_, rfl⟩
  rw [hd]
  unfold num at hd
  obtain ⟨⟨n, c⟩, hm⟩ : ∃ p, mX s.data.toList = p := ⟨_, rfl⟩
  rw [hm] at HM hd hle
  have HB0 := Lib.hid (show Below w.heap.size w (w.alloc (.cells #[.int .i64 0, .int .i64 0, .int .i64 0, .int .i64 0, .int .u64 0, .string ⟨#[]⟩] 36)) from (Below.refl _ _).alloc (Nat.le_refl _) _)
  rcases c with _ | _
  · have HD := Lib.hid (show bad n 100 = d from hd)
    clear hd hm
    go_enter Tryz.func43, Tryz.ntmps43
    go_wp2_with (go_at_call 52; (with_reducible refine (HM.out _).mono ?_); rintro e w1 ⟨rfl, hw⟩; subst hw)
    exact bodyPost_ret (v := rdV (bad n 100)) (by simp [results, Tryz.results43, go_sem, rdV, bad, tkV, str]) rfl ⟨by rw [HD.out], HB0.out⟩
  · have hx : (s.extract 0 n).data.toList = s.data.toList.take n := lx_take s n
    have hxs : (s.extract 0 n).size ≤ 1099511627776 := by rw [ByteArray.size_extract]; omega
    have hd2 : (match Lib.parseIntB 64 (s.data.toList.take n) with | .ok v => (⟨10, n, v, 0, [], 0⟩ : RD) | _ => match Lib.parseUintB 64 (s.data.toList.take n) with | .ok u => ⟨11, n, 0, u, [], 0⟩ | _ => bad 0 101) = d := hd
    rw [← hx] at hd2
    obtain ⟨x, hxe⟩ : ∃ x, s.extract 0 n = x := ⟨_, rfl⟩
    rw [hxe] at hd2 hxs
    have hn : (n : Int) ≤ (s.size : Int) := by omega
    clear hd hx hm
    by_cases h1 : ∃ v, Lib.parseIntB 64 x.data.toList = .ok v
    · obtain ⟨v, h1⟩ := h1
      rw [h1] at hd2
      have HD := Lib.hid (show (⟨10, n, v, 0, [], 0⟩ : RD) = d from hd2)
      have HP := Lib.hid (fun W => parseInt_ok x hxs v h1 W)
      clear hd2 h1 hL hs
      go_enter Tryz.func43, Tryz.ntmps43
      go_wp2_with (first
        | (go_at_call 52; (with_reducible refine (HM.out _).mono ?_); rintro e w1 ⟨rfl, hw⟩; subst hw)
        | (go_at_call 53; (with_reducible refine (HP.out _).mono ?_); rintro e w1 ⟨rfl, hb⟩; have HB1 := Lib.hid (HB0.out.trans (hb.mono HB0.out.size)); obtain ⟨hc1, hf1⟩ := bcell hb; clear hb))
      exact bodyPost_ret (v := rdV ⟨10, n, v, 0, [], 0⟩) (by simp [results, Tryz.results43, go_sem, rdV, tkV, str, hc1]) rfl ⟨by rw [HD.out], ((((((HB1.out.setCell (Nat.le_refl _) _).setCell (Nat.le_refl _) _).setCell (Nat.le_refl _) _).setCell (Nat.le_refl _) _).setCell (Nat.le_refl _) _).setCell (Nat.le_refl _) _)⟩
    · have h1' : ∀ v, Lib.parseIntB 64 x.data.toList ≠ .ok v := fun v h => h1 ⟨v, h⟩
      have HP := Lib.hid (fun (W : World) (h : LB B W) => parseInt_no x hxs h1' W h)
      have hd3 : (match Lib.parseUintB 64 x.data.toList with | .ok u => (⟨11, n, 0, u, [], 0⟩ : RD) | _ => bad 0 101) = d := by
        rcases hp : Lib.parseIntB 64 x.data.toList with v | _ | _
        · exact absurd hp (h1' v)
        · rw [hp] at hd2; exact hd2
        · rw [hp] at hd2; exact hd2
      have HL0 := Lib.hid (show LB B (w.alloc (.cells #[.int .i64 0, .int .i64 0, .int .i64 0, .int .i64 0, .int .u64 0, .string ⟨#[]⟩] 36)) from hL.below (HB0.out.mono hL.tb.2.1))
      have HBs := Lib.hid hL.tb.2.1
      clear hd2 h1 h1' hL
      by_cases h2 : ∃ u, Lib.parseUintB 64 x.data.toList = .ok u
      · obtain ⟨u, h2⟩ := h2
        rw [h2] at hd3
        have HD := Lib.hid (show (⟨11, n, 0, u, [], 0⟩ : RD) = d from hd3)
        have HU := Lib.hid (fun W => parseUint_ok x hxs u h2 W)
        clear hd3 h2 hs
        go_enter Tryz.func43, Tryz.ntmps43
        go_wp2_with (first
          | (go_at_call 52; (with_reducible refine (HM.out _).mono ?_); rintro e w1 ⟨rfl, hw⟩; subst hw)
          | (go_at_call 53; (with_reducible refine (HP.out _ HL0.out).mono ?_); rintro e w1 ⟨x1, t1, p1, rfl, hb⟩; have HB1 := Lib.hid (HB0.out.trans (hb.mono HB0.out.size)); obtain ⟨hc1, hf1⟩ := bcell hb; have HS1 := Lib.hid hb.size; clear hb)
          | (go_at_call 54; (with_reducible refine (HU.out _).mono ?_); rintro e w2 ⟨rfl, hb⟩; have HB2 := Lib.hid (HB1.out.trans (hb.mono HB1.out.size)); have hz : w.heap.size < w1.heap.size := (by have := HS1.out; simp at this; omega); obtain ⟨hc2, hf2⟩ := bcell hb; clear hb))
        exact bodyPost_ret (v := rdV ⟨11, n, 0, u, [], 0⟩) (by simp [results, Tryz.results43, go_sem, rdV, tkV, str, hc1, hc2, hz]) rfl ⟨by rw [HD.out], ((((((HB2.out.setCell (Nat.le_refl _) _).setCell (Nat.le_refl _) _).setCell (Nat.le_refl _) _).setCell (Nat.le_refl _) _).setCell (Nat.le_refl _) _).setCell (Nat.le_refl _) _)⟩
      · have h2' : ∀ v, Lib.parseUintB 64 x.data.toList ≠ .ok v := fun v h => h2 ⟨v, h⟩
        have HU := Lib.hid (fun (W : World) (h : LB B W) => parseUint_no x hxs h2' W h)
        have HD := Lib.hid (show bad 0 101 = d by
          rcases hp : Lib.parseUintB 64 x.data.toList with v | _ | _
          · exact absurd hp (h2' v)
          · rw [hp] at hd3; exact hd3
          · rw [hp] at hd3; exact hd3)
        clear hd3 h2 h2' hs
        go_enter Tryz.func43, Tryz.ntmps43
        go_wp2_with (first
          | (go_at_call 52; (with_reducible refine (HM.out _).mono ?_); rintro e w1 ⟨rfl, hw⟩; subst hw)
          | (go_at_call 53; (with_reducible refine (HP.out _ HL0.out).mono ?_); rintro e w1 ⟨x1, t1, p1, rfl, hb⟩; have HB1 := Lib.hid (HB0.out.trans (hb.mono HB0.out.size)); obtain ⟨hc1, hf1⟩ := bcell hb; have HL1 := Lib.hid (HL0.out.below (hb.mono (Nat.le_trans HBs.out HB0.out.size))); have HS1 := Lib.hid hb.size; clear hb)
          | (go_at_call 54; (with_reducible refine (HU.out _ HL1.out).mono ?_); rintro e w2 ⟨x2, t2, p2, rfl, hb⟩; have HB2 := Lib.hid (HB1.out.trans (hb.mono HB1.out.size)); have hz : w.heap.size < w1.heap.size := (by have := HS1.out; simp at this; omega); obtain ⟨hc2, hf2⟩ := bcell hb; clear hb))
        exact bodyPost_ret (v := rdV (bad 0 101)) (by simp [results, Tryz.results43, go_sem, rdV, bad, tkV, str, hc1, hc2, hz]) rfl ⟨by rw [HD.out], by with_reducible first | exact HB2.out | exact ((((((HB2.out.setCell (Nat.le_refl _) _).setCell (Nat.le_refl _) _).setCell (Nat.le_refl _) _).setCell (Nat.le_refl _) _).setCell (Nat.le_refl _) _).setCell (Nat.le_refl _) _)⟩
end Go.Proofs.YtodmlgbomhmbpaaGreatDoor
namespace Go.Proofs.YtodmlgbomhmbpaaGreatDoor
open Go.RowKit Ut Lx

theorem tok0 (w : World) : Hid (Below w.heap.size w (w.alloc (.cells #[.int .i64 0, .int .i64 0, .int .i64 0, .int .i64 0, .int .u64 0, .string ⟨#[]⟩] 36))) := (Below.refl _ _).alloc (Nat.le_refl _) _
/-- Six stores into the token's own block. -/
theorem six {B g : Nat} {w w1 : World} (h : Below B w w1) (hg : B ≤ g) (a b c d e f : Value) :
    Below B w ((((((w1.setCell ⟨g, 0, none⟩ a).setCell ⟨g, 1, none⟩ b).setCell ⟨g, 2, none⟩ c).setCell ⟨g, 3, none⟩ d).setCell ⟨g, 4, none⟩ e).setCell ⟨g, 5, none⟩ f) :=
  (((((h.setCell hg _).setCell hg _).setCell hg _).setCell hg _).setCell hg _).setCell hg _
set_option maxHeartbeats 2000000 in
set_option maxRecDepth 100000 in
theorem readText_any (s : ByteArray) (w : World) (hs : s.size ≤ 65536) (hL : LB w.heap.size w) :
    Calls Tryz.prog 44 #[.string s] w (RDE w (txt s.data.toList)) := by
  have HB0 := tok0 w
  have hL0 := hL.below HB0.out
  have hTB := hL0.tb
  have HC := Lib.hid (unquote_any s _ (show TB (w.alloc (.cells #[.int .i64 0, .int .i64 0, .int .i64 0, .int .i64 0, .int .u64 0, .string ⟨#[]⟩] 36)).heap.size (w.alloc (.cells #[.int .i64 0, .int .i64 0, .int .i64 0, .int .i64 0, .int .u64 0, .string ⟨#[]⟩] 36)) from ⟨Nat.le_trans hTB.1 hTB.2.1, Nat.le_refl _, hTB.2.2⟩) hs)
  obtain ⟨d, hd⟩ : ∃ d, txt s.data.toList = d := ⟨_, rfl⟩
  rw [hd]
  unfold txt at hd
  obtain ⟨⟨x, n, k, e⟩, hu⟩ : ∃ q, unq s.data.toList = q := ⟨_, rfl⟩
  rw [hu] at HC hd
  clear hL hL0 hTB hu hs
  by_cases he : e = 0
  · subst he
    have HD := Lib.hid (show (⟨12, n, 0, 0, x, 0⟩ : RD) = d from hd)
    clear hd
    obtain ⟨y, hy⟩ : ∃ y, str x = y := ⟨_, rfl⟩
    have HY := Lib.hid hy
    have HC2 := Lib.hid (show Calls Tryz.prog 55 #[.string s] (w.alloc (.cells #[.int .i64 0, .int .i64 0, .int .i64 0, .int .i64 0, .int .u64 0, .string ⟨#[]⟩] 36)) fun e w' => e = .returned (.tuple #[.string y, .int .i64 (n : Int), .int .i64 (k : Int), .int .i64 0]) ∧ Below (w.alloc (.cells #[.int .i64 0, .int .i64 0, .int .i64 0, .int .i64 0, .int .u64 0, .string ⟨#[]⟩] 36)).heap.size (w.alloc (.cells #[.int .i64 0, .int .i64 0, .int .i64 0, .int .i64 0, .int .u64 0, .string ⟨#[]⟩] 36)) w' from by rw [← hy]; exact HC.out)
    clear HC hy
    go_enter Tryz.func44, Tryz.ntmps44
    go_wp2_with (go_at_call 55; (with_reducible refine HC2.out.mono ?_); rintro e w1 ⟨rfl, hb⟩; have HB1 := Lib.hid (HB0.out.trans (hb.mono HB0.out.size)); obtain ⟨hc1, hf1⟩ := bcell hb; clear hb)
    exact bodyPost_ret (v := .tuple #[.agg #[.int .i64 12, .int .i64 0, .int .i64 0, .int .i64 0, .int .u64 0, .string y], .int .i64 n, .int .i64 0]) (by simp [results, Tryz.results44, go_sem, hc1]) rfl ⟨by rw [← HD.out, ← HY.out]; rfl, six HB1.out (Nat.le_refl _) _ _ _ _ _ _⟩
  · have HD := Lib.hid (show bad k e = d from by rw [← hd]; exact (if_neg he).symm)
    have HC2 := Lib.hid (show Calls Tryz.prog 55 #[.string s] (w.alloc (.cells #[.int .i64 0, .int .i64 0, .int .i64 0, .int .i64 0, .int .u64 0, .string ⟨#[]⟩] 36)) fun r w' => r = .returned (.tuple #[.string (str x), .int .i64 (n : Int), .int .i64 (k : Int), .int .i64 (e : Int)]) ∧ Below (w.alloc (.cells #[.int .i64 0, .int .i64 0, .int .i64 0, .int .i64 0, .int .u64 0, .string ⟨#[]⟩] 36)).heap.size (w.alloc (.cells #[.int .i64 0, .int .i64 0, .int .i64 0, .int .i64 0, .int .u64 0, .string ⟨#[]⟩] 36)) w' from HC.out)
    have h0 : ((e : Int) != 0) = true := by simp; omega
    clear HC hd he
    go_enter Tryz.func44, Tryz.ntmps44
    go_wp2_with (go_at_call 55; (with_reducible refine HC2.out.mono ?_); rintro e w1 ⟨rfl, hb⟩; have HB1 := Lib.hid (HB0.out.trans (hb.mono HB0.out.size)); obtain ⟨hc1, hf1⟩ := bcell hb; clear hb)
    exact bodyPost_ret (v := rdV (bad k e)) (by simp [results, Tryz.results44, go_sem, rdV, bad, tkV, str, hc1]) rfl ⟨by rw [← HD.out], by with_reducible first | exact HB1.out | exact six HB1.out (Nat.le_refl _) _ _ _ _ _ _⟩
end Go.Proofs.YtodmlgbomhmbpaaGreatDoor
