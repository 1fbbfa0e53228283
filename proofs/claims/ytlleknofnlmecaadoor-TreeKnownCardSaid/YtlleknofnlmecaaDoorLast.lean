/-
  What is proved here: the last line of works; condition: what WS says of the world ahead of it.
-/
import Derived.Test.YtlleknofnlmecaaDoorEx
import Derived.Test.YtlleknofnlmecaaDoorExB
namespace Go.Proofs.YtlleknofnlmecaaDoor
open Go.RowKit
def nthSeq : Nat → Code → Code
  | 0, .seq a _ => a
  | n + 1, .seq _ b => nthSeq n b
  | _, c => c
noncomputable def lineC : Code := nthSeq 9 (Tryd.f13.body.getD .skip)
def Ch (a b : World) : Prop := Below a.heap.size a b
theorem at5 {W : World} {cs : List Value} (i : Int) (b : Bool) (x : T) (hb : (atI ex5 i).isSome = b) (hx : (atI ex5 i).getD T0 = x) (hN : Nd W ex5 cs) : Calls Tryd.prog 25 #[.agg cs.toArray, .int .i64 i] W fun e w' =>
    (∃ (k n u : Int) (s : ByteArray) (A1 : Option Addr) (m1 c1 : Nat) (A2 : Option Addr) (m2 c2 : Nat), e = .returned (.tuple #[.agg #[.int .i64 k, .int .i64 n, .int .u64 u, .string s, .slice A1 m1 c1, .slice A2 m2 c2], .bool b]) ∧ Hid (Nd w' x [.int .i64 k, .int .i64 n, .int .u64 u, .string s, .slice A1 m1 c1, .slice A2 m2 c2])) ∧ Ch W w' := by
  refine (at_any ex5 cs i W qq5.1 qq5.2 hN).mono ?_
  rintro e w' ⟨⟨cs', rfl, hn⟩, h⟩
  rw [hx] at hn
  rw [hb]
  have hn' := NdO.nd _ _ hn
  obtain ⟨k, n, u, s, A1, m1, c1, A2, m2, c2, rfl⟩ := hn'.shape
  exact ⟨⟨k, n, u, s, A1, m1, c1, A2, m2, c2, rfl, hn'⟩, h⟩
theorem ats {W z : World} {k n u : Int} {s : ByteArray} {A C : Option Addr} {a b c d : Nat} {x : T} (hb : Ch W z) (hN : Nd z x [.int .i64 k, .int .i64 n, .int .u64 u, .string s, .slice A a b, .slice C c d]) :
    Below W.heap.size W (z.alloc (.cells #[.int .i64 k, .int .i64 n, .int .u64 u, .string s, .slice A a b, .slice C c d] 26)) ∧
    Bx (z.alloc (.cells #[.int .i64 k, .int .i64 n, .int .u64 u, .string s, .slice A a b, .slice C c d] 26)) z.heap.size (.int .i64 k) (.int .i64 n) (.int .u64 u) (.string s) (.slice A a b) (.slice C c d) ∧
    Nd (z.alloc (.cells #[.int .i64 k, .int .i64 n, .int .u64 u, .string s, .slice A a b, .slice C c d] 26)) x [.int .i64 k, .int .i64 n, .int .u64 u, .string s, .slice A a b, .slice C c d] :=
  ⟨tr hb (al0 _ _), Blk.new _ _ _, hN.bel (al0 _ _)⟩
/-- What lies ahead of the last line of works. -/
structure WS (W : World) (p5 p6 p8 q4 : Nat) (k1 n1 u1 : Int) (s1 : ByteArray) (A1 : Option Addr) (a1 b1 : Nat) (C1 : Option Addr) (c1 d1 : Nat) (k2 n2 u2 : Int) (s2 : ByteArray) (A2 : Option Addr) (a2 b2 : Nat) (C2 : Option Addr) (c2 d2 : Nat) : Prop where
  tab : Tab W
  x5 : Bx W p5 (.int .i64 10) (.int .i64 0) (.int .u64 0) (.string ⟨#[]⟩) (.slice none 0 0) (.slice (some ⟨q4, 0, none⟩) 2 2)
  t5 : Nd W ex5 [.int .i64 10, .int .i64 0, .int .u64 0, .string ⟨#[]⟩, .slice none 0 0, .slice (some ⟨q4, 0, none⟩) 2 2]
  x6 : Bx W p6 (.int .i64 k1) (.int .i64 n1) (.int .u64 u1) (.string s1) (.slice A1 a1 b1) (.slice C1 c1 d1)
  t6 : Nd W (vecT [numT 5, numT 5]) [.int .i64 k1, .int .i64 n1, .int .u64 u1, .string s1, .slice A1 a1 b1, .slice C1 c1 d1]
  x8 : Bx W p8 (.int .i64 k2) (.int .i64 n2) (.int .u64 u2) (.string s2) (.slice A2 a2 b2) (.slice C2 c2 d2)
  t8 : Nd W (numT 5) [.int .i64 k2, .int .i64 n2, .int .u64 u2, .string s2, .slice A2 a2 b2, .slice C2 c2 d2]
theorem WS.below {W W' : World} {p5 p6 p8 q4 : Nat} {k1 n1 u1 : Int} {s1 : ByteArray} {A1 : Option Addr} {a1 b1 : Nat} {C1 : Option Addr} {c1 d1 : Nat} {k2 n2 u2 : Int} {s2 : ByteArray} {A2 : Option Addr} {a2 b2 : Nat} {C2 : Option Addr} {c2 d2 : Nat}
    (h : WS W p5 p6 p8 q4 k1 n1 u1 s1 A1 a1 b1 C1 c1 d1 k2 n2 u2 s2 A2 a2 b2 C2 c2 d2) (hb : Below W.heap.size W W') : WS W' p5 p6 p8 q4 k1 n1 u1 s1 A1 a1 b1 C1 c1 d1 k2 n2 u2 s2 A2 a2 b2 C2 c2 d2 :=
  ⟨h.tab.keep hb, Blk.below h.x5 hb (Blk.lt h.x5), h.t5.bel hb, Blk.below h.x6 hb (Blk.lt h.x6), h.t6.bel hb, Blk.below h.x8 hb (Blk.lt h.x8), h.t8.bel hb⟩
def C0 (A W : World) : Prop := Below A.heap.size A W
theorem C0.al {A W : World} (h : C0 A W) {o : Obj} : C0 A (W.alloc o) := Below.alloc h (Below.size h) o
theorem C0.dr {A W : World} (h : C0 A W) : C0 A W.drew := Below.drew h
theorem C0.go {A W W' : World} (h : C0 A W) (k : Below W.heap.size W W') : C0 A W' := tr h k
theorem nd_exT {W : World} {kb rb : Nat} (hK : Blk W kb 9 #[.string ⟨#[97]⟩, .string ⟨#[97]⟩]) (hR : Blk W rb 26 #[.int .i64 3, .int .i64 5, .int .u64 0, .string ⟨#[]⟩, .slice none 0 0, .slice none 0 0, .int .i64 3, .int .i64 5, .int .u64 0, .string ⟨#[]⟩, .slice none 0 0, .slice none 0 0]) : Nd W exT [.int .i64 17, .int .i64 0, .int .u64 0, .string ⟨#[]⟩, .slice (some ⟨kb, 0, none⟩) 2 2, .slice (some ⟨rb, 0, none⟩) 2 2] :=
  nd_tab (rds_two hK (by decide) (by decide)) rfl (Nat.le_refl _) (by decide) hR.lt (two_row hR (nd_num W 5 (by decide) (by decide)) (nd_num W 5 (by decide) (by decide)))
theorem tabA {V0 V1 V2 V3 : World} (h3 : Ch (V2.alloc (.cells #[.int .i64 3, .int .i64 5, .int .u64 0, .string ⟨#[]⟩, .slice none 0 0, .slice none 0 0, .int .i64 3, .int .i64 5, .int .u64 0, .string ⟨#[]⟩, .slice none 0 0, .slice none 0 0] 26)) V3) (h2 : Ch V1 V2) (h1 : Ch (V0.alloc (.cells #[.string ⟨#[97]⟩, .string ⟨#[97]⟩] 9)) V1) : Nd V3 exT [.int .i64 17, .int .i64 0, .int .u64 0, .string ⟨#[]⟩, .slice (some ⟨(V0.heap.size), 0, none⟩) 2 2, .slice (some ⟨(V2.heap.size), 0, none⟩) 2 2] :=
  nd_exT ((born h1).below (tr h2 (al h3)) (born h1).lt) (born h3)
theorem tabB {V1 V2 V3 : World} (h3 : Ch (V2.alloc (.cells #[.int .i64 3, .int .i64 5, .int .u64 0, .string ⟨#[]⟩, .slice none 0 0, .slice none 0 0, .int .i64 3, .int .i64 5, .int .u64 0, .string ⟨#[]⟩, .slice none 0 0, .slice none 0 0] 26)) V3) (h2 : Ch (V1.alloc (.cells #[.string ⟨#[97]⟩, .string ⟨#[97]⟩] 9)) V2) : Nd V3 exT [.int .i64 17, .int .i64 0, .int .u64 0, .string ⟨#[]⟩, .slice (some ⟨(V1.heap.size), 0, none⟩) 2 2, .slice (some ⟨(V2.heap.size), 0, none⟩) 2 2] :=
  nd_exT ((born h2).below (al h3) (born h2).lt) (born h3)
theorem tabC {V2 V3 : World} (h3 : Ch ((V2.alloc (.cells #[.string ⟨#[97]⟩, .string ⟨#[97]⟩] 9)).alloc (.cells #[.int .i64 3, .int .i64 5, .int .u64 0, .string ⟨#[]⟩, .slice none 0 0, .slice none 0 0, .int .i64 3, .int .i64 5, .int .u64 0, .string ⟨#[]⟩, .slice none 0 0, .slice none 0 0] 26)) V3) : Nd V3 exT [.int .i64 17, .int .i64 0, .int .u64 0, .string ⟨#[]⟩, .slice (some ⟨(V2.heap.size), 0, none⟩) 2 2, .slice (some ⟨(V2.heap.size + 1), 0, none⟩) 2 2] := by
  have hR := born h3
  rw [World.size_alloc] at hR
  exact nd_exT ((Blk.new V2 _ _).below (al h3) (by simp)) hR
theorem tabD {V2 V3 : World} (h3 : Ch ((V2.alloc (.cells #[.int .i64 3, .int .i64 5, .int .u64 0, .string ⟨#[]⟩, .slice none 0 0, .slice none 0 0, .int .i64 3, .int .i64 5, .int .u64 0, .string ⟨#[]⟩, .slice none 0 0, .slice none 0 0] 26)).alloc (.cells #[.string ⟨#[97]⟩, .string ⟨#[97]⟩] 9)) V3) : Nd V3 exT [.int .i64 17, .int .i64 0, .int .u64 0, .string ⟨#[]⟩, .slice (some ⟨(V2.heap.size + 1), 0, none⟩) 2 2, .slice (some ⟨(V2.heap.size), 0, none⟩) 2 2] := by
  have hR := born h3
  rw [World.size_alloc] at hR
  exact nd_exT hR ((Blk.new V2 _ _).below (al h3) (by simp))
theorem vecN {V V' : World} (h : Ch (V.alloc (.cells #[.int .i64 3, .int .i64 5, .int .u64 0, .string ⟨#[]⟩, .slice none 0 0, .slice none 0 0, .int .i64 3, .int .i64 5, .int .u64 0, .string ⟨#[]⟩, .slice none 0 0, .slice none 0 0] 26)) V') : Nd V' (vecT [numT 5, numT 5]) [.int .i64 10, .int .i64 0, .int .u64 0, .string ⟨#[]⟩, .slice none 0 0, .slice (some ⟨V.heap.size, 0, none⟩) 2 2] :=
  nd_vec rfl (Nat.le_refl _) (by decide) (born h).lt (two_row (born h) (nd_num V' 5 (by decide) (by decide)) (nd_num V' 5 (by decide) (by decide)))
theorem chk_C {A W : World} {t : T} {cs : List Value} {E : Nat} (hT : Tab A) (h : C0 A W) (hq : QQ t) (hE : chk t = E) (hN : Nd W t cs) : Calls Tryd.prog 15 #[.agg cs.toArray] W fun e w' => e = .returned (.int .i64 (E : Int)) ∧ C0 A w' :=
  (check_any t cs W (hT.keep h) hq.1 hq.2 hN).mono fun e w' k => ⟨by rw [← hE]; exact k.1, h.go k.2⟩
theorem eq_C {A W : World} {t : T} {cs ds : List Value} (h : C0 A W) (hq : QQ t) (hN : Nd W t cs) (hM : Nd W t ds) : Calls Tryd.prog 17 #[.agg cs.toArray, .agg ds.toArray] W fun e w' => e = .returned (.bool true) ∧ C0 A w' := by
  refine (eqNode_any (dp t) t t cs ds W (Nat.le_refl _) hq.1 hq.2 hN hM).mono ?_
  rintro e w' ⟨⟨β, rfl, hβ⟩, hb⟩
  rw [hβ.2 rfl]
  exact ⟨rfl, h.go hb⟩

set_option maxRecDepth 100000 in
set_option maxHeartbeats 20000000 in
theorem last_line (R : Ending → World → Prop) (K : Act → World → Prop) {W0 : World} (p5 p6 p8 q4 : Nat) (k1 n1 u1' : Int) (s1 : ByteArray) (A1 : Option Addr) (a1 b1 : Nat) (C1 : Option Addr) (c1 d1 : Nat) (k2 n2 u2' : Int) (s2 : ByteArray) (A2 : Option Addr) (a2 b2 : Nat) (C2 : Option Addr) (c2 d2 : Nat) (hws : WS W0 p5 p6 p8 q4 k1 n1 u1' s1 A1 a1 b1 C1 c1 d1 k2 n2 u2' s2 A2 a2 b2 C2 c2 d2) (u0 u1 u2 u3 u4 u10 u12 u13 u14 u15 u16 u17 u18 u19 u20 u21 u22 u23 u24 u25 u26 u27 u28 u29 u30 u31 u32 u33 u34 u35 u36 u37 u38 u39 u40 u41 u42 u43 u44 u45 u46 u47 u48 u49 u50 u51 u52 u53 u54 u55 u56 u57 u58 u59 u60 u61 u62 u63 u64 u65 u66 u67 u68 u69 u70 u71 u72 u73 u74 u75 u76 u77 u78 u79 u80 u81 u82 u83 u84 u85 u86 u87 u88 u89 u90 u91 u92 u93 u94 u95 u96 u97 u98 u99 u100 u101 u102 u103 u104 u105 u106 u107 u108 u109 u110 u111 u112 u113 u114 u115 u116 u117 u118 u119 u120 u121 u122 u123 u124 u125 u126 u127 u128 u129 u130 u131 : Value)
    (hK : ∀ a W, a.tmps.getD 0 undef = .bool true → a.defers = [] → C0 W0 W → K a W) : Code.wp Tryd.prog lineC (Exit.then K (bodyPost Tryd.prog Tryd.f13 R)) ⟨#[u0, u1, u2, u3, u4, .pointer (some ⟨p5, 0, none⟩), .pointer (some ⟨p6, 0, none⟩), .bool true, .pointer (some ⟨p8, 0, none⟩), .bool true, u10, .bool false, u12, u13, u14, u15, u16, u17, u18, u19, u20, u21, u22, u23, u24, u25, u26, u27, u28, u29, u30, u31, u32, u33, u34, u35, u36, u37, u38, u39, u40, u41, u42, u43, u44, u45, u46, u47, u48, u49, u50, u51, u52, u53, u54, u55, u56, u57, u58, u59, u60, u61, u62, u63, u64, u65, u66, u67, u68, u69, u70, u71, u72, u73, u74, u75, u76, u77, u78, u79, u80, u81, u82, u83, u84, u85, u86, u87, u88, u89, u90, u91, u92, u93, u94, u95, u96, u97, u98, u99, u100, u101, u102, u103, u104, u105, u106, u107, u108, u109, u110, u111, u112, u113, u114, u115, u116, u117, u118, u119, u120, u121, u122, u123, u124, u125, u126, u127, u128, u129, u130, u131], []⟩ W0 := by
  have HWS := Lib.hid hws
  have HK := Lib.hid hK
  clear hws hK
  have HCd : C0 W0 W0.drew := (Below.refl _ _).drew
  have hcells : ∀ W, C0 W0 W → C0 W0 W ∧ W.cell? ⟨p5, 0, none⟩ = some (.int .i64 10) ∧ W.cell? ⟨p5, 1, none⟩ = some (.int .i64 0) ∧ W.cell? ⟨p5, 2, none⟩ = some (.int .u64 0) ∧ W.cell? ⟨p5, 3, none⟩ = some (.string ⟨#[]⟩) ∧ W.cell? ⟨p5, 4, none⟩ = some (.slice none 0 0) ∧ W.cell? ⟨p5, 5, none⟩ = some (.slice (some ⟨q4, 0, none⟩) 2 2) ∧ W.cell? ⟨p6, 0, none⟩ = some (.int .i64 k1) ∧ W.cell? ⟨p6, 1, none⟩ = some (.int .i64 n1) ∧ W.cell? ⟨p6, 2, none⟩ = some (.int .u64 u1') ∧ W.cell? ⟨p6, 3, none⟩ = some (.string s1) ∧ W.cell? ⟨p6, 4, none⟩ = some (.slice A1 a1 b1) ∧ W.cell? ⟨p6, 5, none⟩ = some (.slice C1 c1 d1) ∧ W.cell? ⟨p8, 0, none⟩ = some (.int .i64 k2) ∧ W.cell? ⟨p8, 1, none⟩ = some (.int .i64 n2) ∧ W.cell? ⟨p8, 2, none⟩ = some (.int .u64 u2') ∧ W.cell? ⟨p8, 3, none⟩ = some (.string s2) ∧ W.cell? ⟨p8, 4, none⟩ = some (.slice A2 a2 b2) ∧ W.cell? ⟨p8, 5, none⟩ = some (.slice C2 c2 d2) := fun W h => by
    have H := HWS.out.below h
    obtain ⟨a0, a1, a2, a3, a4, a5⟩ := Bx.all H.x5
    obtain ⟨b0, b1, b2, b3, b4, b5⟩ := Bx.all H.x6
    obtain ⟨c0, c1, c2, c3, c4, c5⟩ := Bx.all H.x8
    exact ⟨h, a0, a1, a2, a3, a4, a5, b0, b1, b2, b3, b4, b5, c0, c1, c2, c3, c4, c5⟩
  have HNUM : Hid (∀ W, C0 W0 W → Calls Tryd.prog 4 #[.int .i64 5] W fun e w' => e = .returned (.agg #[.int .i64 3, .int .i64 5, .int .u64 0, .string ⟨#[]⟩, .slice none 0 0, .slice none 0 0]) ∧ C0 W0 w' ∧ Ch W w') := Lib.hid fun W h => (num_any 5 W).mono fun e w' k => ⟨k.1, h.go k.2, k.2⟩
  have HKEY : Hid (∀ W, C0 W0 W → Calls Tryd.prog 8 #[.string ⟨#[97, 0]⟩] W fun e w' => e = .returned (.agg #[.int .i64 5, .int .i64 0, .int .u64 0, .string ⟨#[97, 0]⟩, .slice none 0 0, .slice none 0 0]) ∧ C0 W0 w') := Lib.hid fun W h => (key_any _ W).mono fun e w' k => ⟨k.1, h.go k.2⟩
  have HVEC : Hid (∀ B W, C0 W0 W → Calls Tryd.prog 7 #[.slice B 2 2] W fun e w' => e = .returned (.agg #[.int .i64 10, .int .i64 0, .int .u64 0, .string ⟨#[]⟩, .slice none 0 0, .slice B 2 2]) ∧ C0 W0 w' ∧ Ch W w') := Lib.hid fun B W h => (vec_any B 2 2 W).mono fun e w' k => ⟨k.1, h.go k.2, k.2⟩
  have HTAB : Hid (∀ B A W, C0 W0 W → Calls Tryd.prog 10 #[.slice B 2 2, .slice A 2 2] W fun e w' => e = .returned (.agg #[.int .i64 17, .int .i64 0, .int .u64 0, .string ⟨#[]⟩, .slice B 2 2, .slice A 2 2]) ∧ C0 W0 w' ∧ Ch W w') := Lib.hid fun B A W h => (table_any B 2 2 A 2 2 W).mono fun e w' k => ⟨k.1, h.go k.2, k.2⟩
  have HCK : Hid (∀ W, C0 W0 W → Calls Tryd.prog 15 #[.agg #[.int .i64 5, .int .i64 0, .int .u64 0, .string ⟨#[97, 0]⟩, .slice none 0 0, .slice none 0 0]] W fun e w' => e = .returned (.int .i64 70) ∧ C0 W0 w') := Lib.hid fun W h => chk_C HWS.out.tab h qqK chkK (nd_key W _ (by decide))
  have HCT : Hid (∀ B A W, C0 W0 W → Hid (Nd W exT [.int .i64 17, .int .i64 0, .int .u64 0, .string ⟨#[]⟩, .slice B 2 2, .slice A 2 2]) → Calls Tryd.prog 15 #[.agg #[.int .i64 17, .int .i64 0, .int .u64 0, .string ⟨#[]⟩, .slice B 2 2, .slice A 2 2]] W fun e w' => e = .returned (.int .i64 71) ∧ C0 W0 w') := Lib.hid fun B A W h hn => chk_C HWS.out.tab h qqT chkT hn.out
  have HSZ : Hid (∀ W, C0 W0 W → Calls Tryd.prog 20 #[.agg #[.int .i64 10, .int .i64 0, .int .u64 0, .string ⟨#[]⟩, .slice none 0 0, .slice (some ⟨q4, 0, none⟩) 2 2]] W fun e w' => e = .returned (.int .i64 5) ∧ C0 W0 w') := Lib.hid fun W h => (size_any ex5 _ W qq5.1 (HWS.out.below h).t5).mono fun e w' k => ⟨by have := k.1; rw [sz5] at this; exact this, h.go k.2⟩
  have HDP : Hid (∀ W, C0 W0 W → Calls Tryd.prog 21 #[.agg #[.int .i64 10, .int .i64 0, .int .u64 0, .string ⟨#[]⟩, .slice none 0 0, .slice (some ⟨q4, 0, none⟩) 2 2]] W fun e w' => e = .returned (.int .i64 3) ∧ C0 W0 w') := Lib.hid fun W h => (deep_any ex5 _ W qq5.1 (HWS.out.below h).t5).mono fun e w' k => ⟨by have := k.1; rw [dp5] at this; exact this, h.go k.2⟩
  have HE6 : Hid (∀ B W, C0 W0 W → Hid (Nd W (vecT [numT 5, numT 5]) [.int .i64 10, .int .i64 0, .int .u64 0, .string ⟨#[]⟩, .slice none 0 0, .slice B 2 2]) → Calls Tryd.prog 17 #[.agg #[.int .i64 k1, .int .i64 n1, .int .u64 u1', .string s1, .slice A1 a1 b1, .slice C1 c1 d1], .agg #[.int .i64 10, .int .i64 0, .int .u64 0, .string ⟨#[]⟩, .slice none 0 0, .slice B 2 2]] W fun e w' => e = .returned (.bool true) ∧ C0 W0 w') := Lib.hid fun B W h hn => eq_C h qqv (HWS.out.below h).t6 hn.out
  have HE8 : Hid (∀ W, C0 W0 W → Calls Tryd.prog 17 #[.agg #[.int .i64 k2, .int .i64 n2, .int .u64 u2', .string s2, .slice A2 a2 b2, .slice C2 c2 d2], .agg #[.int .i64 3, .int .i64 5, .int .u64 0, .string ⟨#[]⟩, .slice none 0 0, .slice none 0 0]] W fun e w' => e = .returned (.bool true) ∧ C0 W0 w') := Lib.hid fun W h => eq_C h qqn (HWS.out.below h).t8 (nd_num W 5 (by decide) (by decide))
  have HNE : Hid (∀ W, C0 W0 W → Calls Tryd.prog 9 #[.int .i64 65] W fun e w' => (∃ (k n u : Int) (s : ByteArray) (A1 : Option Addr) (m1 c1 : Nat) (A2 : Option Addr) (m2 c2 : Nat), e = .returned (.agg #[.int .i64 k, .int .i64 n, .int .u64 u, .string s, .slice A1 m1 c1, .slice A2 m2 c2]) ∧ Hid (Nd w' exD [.int .i64 k, .int .i64 n, .int .u64 u, .string s, .slice A1 m1 c1, .slice A2 m2 c2])) ∧ C0 W0 w') := Lib.hid fun W h => (nest_any 65 W (by omega) (by omega)).mono fun e w' hk => by
    obtain ⟨⟨cs, rfl, hn⟩, hb⟩ := hk
    obtain ⟨k, n, u, s, A1, m1, c1, A2, m2, c2, rfl⟩ := hn.shape
    exact ⟨⟨k, n, u, s, A1, m1, c1, A2, m2, c2, rfl, hn⟩, h.go hb⟩
  have HCD : Hid (∀ cs W, C0 W0 W → Hid (Nd W exD cs) → Calls Tryd.prog 15 #[.agg cs.toArray] W fun e w' => e = .returned (.int .i64 61) ∧ C0 W0 w') := Lib.hid fun cs W h hn => chk_C HWS.out.tab h qqD chkD hn.out
  conv => arg 2; whnf
  go_region_held3 (fun W => C0 W0 W ∧ W.cell? ⟨p5, 0, none⟩ = some (.int .i64 10) ∧ W.cell? ⟨p5, 1, none⟩ = some (.int .i64 0) ∧ W.cell? ⟨p5, 2, none⟩ = some (.int .u64 0) ∧ W.cell? ⟨p5, 3, none⟩ = some (.string ⟨#[]⟩) ∧ W.cell? ⟨p5, 4, none⟩ = some (.slice none 0 0) ∧ W.cell? ⟨p5, 5, none⟩ = some (.slice (some ⟨q4, 0, none⟩) 2 2) ∧ W.cell? ⟨p6, 0, none⟩ = some (.int .i64 k1) ∧ W.cell? ⟨p6, 1, none⟩ = some (.int .i64 n1) ∧ W.cell? ⟨p6, 2, none⟩ = some (.int .u64 u1') ∧ W.cell? ⟨p6, 3, none⟩ = some (.string s1) ∧ W.cell? ⟨p6, 4, none⟩ = some (.slice A1 a1 b1) ∧ W.cell? ⟨p6, 5, none⟩ = some (.slice C1 c1 d1) ∧ W.cell? ⟨p8, 0, none⟩ = some (.int .i64 k2) ∧ W.cell? ⟨p8, 1, none⟩ = some (.int .i64 n2) ∧ W.cell? ⟨p8, 2, none⟩ = some (.int .u64 u2') ∧ W.cell? ⟨p8, 3, none⟩ = some (.string s2) ∧ W.cell? ⟨p8, 4, none⟩ = some (.slice A2 a2 b2) ∧ W.cell? ⟨p8, 5, none⟩ = some (.slice C2 c2 d2)) (first | (with_reducible exact hcells _ (by assumption)) | (with_reducible exact hcells _ HCd) | (with_reducible exact hcells _ (C0.al (by assumption))) | (with_reducible exact hcells _ (C0.al (C0.al (by assumption)))))
      (first
      | (go_at_call 8; (with_reducible refine (HKEY.out _ (by first | assumption | exact HCd)).mono ?_); rintro e V ⟨rfl, hC⟩)
      | (go_at_call 4; (with_reducible refine (HNUM.out _ (by first | assumption | exact C0.al (by assumption) | exact C0.al (C0.al (by assumption)))).mono ?_); rintro e V ⟨rfl, hC, hh⟩)
      | (go_at_call 7; (with_reducible refine (HVEC.out _ _ (by first | assumption | exact C0.al (by assumption) | exact C0.al (C0.al (by assumption)))).mono ?_); rintro e V ⟨rfl, hC, hh⟩; have HX := Lib.hid (vecN hh))
      | (go_at_call 10; (with_reducible refine (HTAB.out _ _ _ (by first | assumption | exact C0.al (by assumption) | exact C0.al (C0.al (by assumption)))).mono ?_); rintro e V ⟨rfl, hC, hh⟩; first | (have HX := Lib.hid (tabC hh)) | (have HX := Lib.hid (tabD hh)) | (have HX := Lib.hid (tabB hh (by assumption))) | (have HX := Lib.hid (tabA hh (by assumption) (by assumption))))
      | (go_at_call 20; (with_reducible refine (HSZ.out _ (by assumption)).mono ?_); rintro e V ⟨rfl, hC⟩)
      | (go_at_call 21; (with_reducible refine (HDP.out _ (by assumption)).mono ?_); rintro e V ⟨rfl, hC⟩)
      | (go_at_call 9; (with_reducible refine (HNE.out _ (by assumption)).mono ?_); rintro e V ⟨⟨kx, nx, ux, sx, Ax, mx, cx, Bx, ox, dx, rfl, HX⟩, hC⟩)
      | (go_at_call 17; (first | (with_reducible refine (HE6.out _ _ (by assumption) (by assumption)).mono ?_) | (with_reducible refine (HE8.out _ (by assumption)).mono ?_)); rintro e V ⟨rfl, hC⟩)
      | (go_at_call 15; (first | (with_reducible refine (HCK.out _ (by assumption)).mono ?_) | (with_reducible refine (HCT.out _ _ _ (by assumption) (by assumption)).mono ?_) | (refine (HCD.out _ _ (by assumption) HX).mono ?_)); rintro e V ⟨rfl, hC⟩))
  all_goals exact HK.out _ _ rfl rfl (by assumption)
end Go.Proofs.YtlleknofnlmecaaDoor
