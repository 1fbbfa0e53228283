/-
  What is proved here: contract of the law's own few; what holds of a valid tree, its sorted tree and its normal form together; no condition but those that each fact states.
-/
import Derived.Test.YtpcfpikflkjmjaaDoorNWorks
import Derived.Test.YtpcfpikflkjmjaaDoorLaw
namespace Go.Proofs.YtpcfpikflkjmjaaDoor
open Go.RowKit Go.Sort

theorem few9_any (t : T) (cs : List Value) (w : World) (hnd : Nd w t cs) : Calls Tryd.prog 31 #[.agg cs.toArray] w fun e w' =>
    (∃ cs', e = .returned (.agg cs'.toArray) ∧ NdO (fun b => w.heap.size ≤ b) w' (fewT t) cs') ∧ Below w.heap.size w w' := by
  obtain ⟨k, n, u, s, A1, m1, c1, A2, m2, c2, rfl⟩ := hnd.shape
  have hT0 := Lib.hid (Two.start w (.int .i64 k) (.int .i64 n) (.int .u64 u) (.string s) (.slice A1 m1 c1) (.slice A2 m2 c2) (.int .i64 0) (.int .i64 0) (.int .u64 0) (.string ⟨#[]⟩) (.slice none 0 0) (.slice none 0 0))
  have hcut := Lib.hid (cut0_any t _ _ (hnd.bel hT0.out.1))
  go_enter Tryd.func31, Tryd.ntmps31
  go_wp2_with (go_at_call 13; refine hcut.out.mono ?_; rintro e w5 ⟨⟨cs', rfl, hn5⟩, hb5⟩; have HN := Lib.hid hn5; have HB := Lib.hid hb5; clear hn5 hb5; obtain ⟨k8, i8, u8, s8, C1', m1', d1', C2', m2', d2', rfl⟩ := HN.out.shape6; have HT := Lib.hid (hT0.out.below HB.out); obtain ⟨⟨z0, z1, z2, z3, z4, z5⟩, y0, y1, y2, y3, y4, y5⟩ := Bx.both HT.out.2.2.2)
  have hsz := hT0.out.2.1
  refine ret_six (p := 2) (g := w.heap.size + 1) rfl rfl (Bx.put6 HT.out.2.2.2 _ _ _ _ _ _) rfl ?_
  refine ⟨⟨_, rfl, NdO.step (fun b hb hlt => ⟨put6_other w5 (w.heap.size + 1) 0 b _ _ _ _ _ _ ?_, ?_⟩) _ _ HN.out⟩, put6_below HT.out.1 (w.heap.size + 1) 0 _ _ _ _ _ _ (by omega)⟩
  all_goals omega
theorem few9_nd (t : T) (cs : List Value) (w : World) (hnd : Nd w t cs) : Calls Tryd.prog 31 #[.agg cs.toArray] w fun e w' =>
    ∃ (k n u : Int) (s : ByteArray) (A1 : Option Addr) (m1 c1 : Nat) (A2 : Option Addr) (m2 c2 : Nat), e = .returned (.agg #[.int .i64 k, .int .i64 n, .int .u64 u, .string s, .slice A1 m1 c1, .slice A2 m2 c2]) ∧
      Hid (Nd w' (fewT t) [.int .i64 k, .int .i64 n, .int .u64 u, .string s, .slice A1 m1 c1, .slice A2 m2 c2]) ∧ Hid (Below w.heap.size w w') := by
  refine (few9_any t cs w hnd).mono ?_
  rintro e w' ⟨⟨cs', rfl, h1⟩, hb⟩
  obtain ⟨k, n, u, s, A1, m1, c1, A2, m2, c2, rfl⟩ := h1.shape6
  exact ⟨k, n, u, s, A1, m1, c1, A2, m2, c2, rfl, Lib.hid (NdO.nd _ _ h1), Lib.hid hb⟩
theorem t0_qq : QQ T0 := qq_leaf 0 0 0 eS (by decide)
theorem nd_t0 (w : World) : Nd w T0 [.int .i64 0, .int .i64 0, .int .u64 0, .string ⟨#[]⟩, .slice none 0 0, .slice none 0 0] := NdO.nd _ _ (ndo_zero (fun _ => True) w)
/-- A valid tree t, its sorted tree x. -/
structure VS (t x : T) : Prop where
  c0 : chk t = 0
  q0 : QQ t
  s : Srt t x
theorem VS.ok {t x : T} (h : VS t x) : okT t := ((chk_zero t).1 h.c0).1
theorem VS.pm {t x : T} (h : VS t x) : Pm t x := Srt.pm (okT_mpT h.ok) h.s
theorem VS.okx {t x : T} (h : VS t x) : okT x := h.pm.ok h.ok
theorem VS.cx {t x : T} (h : VS t x) : chk x = 0 := h.pm.chk h.c0
theorem VS.qx {t x : T} (h : VS t x) : QQ x := h.pm.qq h.q0
theorem VS.inc {t x : T} (h : VS t x) : incT x := Srt.inc h.ok h.s
/-- .. and of the sorted tree, itself. -/
theorem VS.self {t x : T} (h : VS t x) : VS x x := ⟨h.cx, h.qx, Srt.idem (okT_mpT h.ok) h.s⟩
/-- .. and of its normal form. -/
theorem VS.nf {t x : T} (h : VS t x) : VS (nfT x) (nfT x) := ⟨nf_chk h.cx, nf_qq h.okx h.qx, nf_srt h.okx h.inc⟩
theorem VS.alk {a x b y : T} (h : VS a x) (k : VS b y) (e : nfT x = nfT y) : Go.Proofs.YtpcfpikflkjmjaaDoor.alk a b := ⟨h.c0, k.c0, x, y, h.s, k.s, e⟩
theorem VS.alk_iff {a x b y : T} (h : VS a x) (k : VS b y) : Go.Proofs.YtpcfpikflkjmjaaDoor.alk a b ↔ nfT x = nfT y := (Go.Proofs.YtpcfpikflkjmjaaDoor.alk_iff h.c0 k.c0 h.s k.s).symm
theorem VS.sub {x c : T} {i : Nat} (h : VS x x) (hi : incT x) (ha : atT x i = some c) : VS c c := ⟨chk_sub h.c0 ha, at_QQ h.q0 ha, srt_self (okT_mpT (okT_at h.ok ha)) (incT_at hi ha)⟩
end Go.Proofs.YtpcfpikflkjmjaaDoor
