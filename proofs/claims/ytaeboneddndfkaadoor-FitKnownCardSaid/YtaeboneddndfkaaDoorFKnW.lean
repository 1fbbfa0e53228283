/-
  What is proved here: FitKnown returns true; conditions: the contracts of fit.One and fit.All, and that the table of package tag holds what is laid.
-/
import Derived.Test.YtaeboneddndfkaaDoorFAlW
import Derived.Test.YtaeboneddndfkaaDoorFLstW
namespace Go.Proofs.YtaeboneddndfkaaDoor
open Go.RowKit Tg

/-- Between two calls: the row of numbers. -/
structure KN (w0 : World) (g : Nat) (cs : Array Value) (W : World) : Prop where
  wl : WL w0 W
  bx : Bx W g 3 cs
section
variable {w0 W W' : World} {g i : Nat} {cs : Array Value} {e : Int}
theorem KN.keep (H : KN w0 g cs W) (hb : Below W.heap.size W W') : KN w0 g cs W' := ⟨H.wl.keep hb, H.bx.below hb H.bx.lt⟩
theorem KN.born (H : WL w0 W) (cs : Array Value) : KN w0 W.heap.size cs (W.alloc (.cells cs 3)) := ⟨H.keep (al0 _ _), Bx.new _ _ _⟩
theorem KN.all (he : cs[i]? = some (.int .i64 e)) (H : Hid (KN w0 g cs W)) : W.cell? ⟨g, i, none⟩ = some (.int .i64 e) ∧ Hid (KN w0 g cs W) := ⟨(H.out.bx.cell i).trans he, H⟩
theorem KN.drew (H : Hid (KN w0 g cs W)) : Hid (KN w0 g cs W.drew) := Lib.hid (H.out.keep (Below.refl _ _).drew)
end
/-- .. with the box of a value. -/
structure KV (w0 : World) (g : Nat) (cs : Array Value) (g3 : Nat) (v : V3) (W : World) : Prop where
  kn : KN w0 g cs W
  bv : Bx W g3 24 #[.int .i64 v.t, .int .i64 v.w, .int .u64 v.n]
section
variable {w0 W W' : World} {g i g3 : Nat} {cs : Array Value} {e : Int} {v : V3}
theorem KV.keep (H : KV w0 g cs g3 v W) (hb : Below W.heap.size W W') : KV w0 g cs g3 v W' := ⟨H.kn.keep hb, H.bv.below hb H.bv.lt⟩
theorem KV.born (H : KN w0 g cs W) (v : V3) : KV w0 g cs W.heap.size v (W.alloc (.cells #[.int .i64 v.t, .int .i64 v.w, .int .u64 v.n] 24)) := ⟨H.keep (al0 _ _), Bx.new _ _ _⟩
theorem KV.all (he : cs[i]? = some (.int .i64 e)) (H : Hid (KV w0 g cs g3 v W)) : W.cell? ⟨g, i, none⟩ = some (.int .i64 e) ∧ W.cell? ⟨g3, 0, none⟩ = some (.int .i64 v.t) ∧ W.cell? ⟨g3, 1, none⟩ = some (.int .i64 v.w) ∧ W.cell? ⟨g3, 2, none⟩ = some (.int .u64 v.n) ∧ Hid (KV w0 g cs g3 v W) :=
  ⟨(H.out.kn.bx.cell i).trans he, H.out.bv.cell 0, H.out.bv.cell 1, H.out.bv.cell 2, H⟩
theorem KV.drew (H : Hid (KV w0 g cs g3 v W)) : Hid (KV w0 g cs g3 v W.drew) := Lib.hid (H.out.keep (Below.refl _ _).drew)
end
/-- What the laws answer, for any frame that is kept with old memory. -/
theorem ones_K (H1 : OneOK) (H2 : AllOK) {W : World} (hT : Tab W) (t wd n at' idx : Int) (hv : okV ⟨t, wd, n⟩) (ha : -9223372036854775808 ≤ at' ∧ at' ≤ 9223372036854775807) (hi : -9223372036854775808 ≤ idx ∧ idx ≤ 9223372036854775807) :
    Calls Tryd.prog 3 #[.agg #[.int .i64 t, .int .i64 wd, .int .u64 n], .int .i64 at', .int .i64 idx] W fun e w' => e = .returned (.bool true) ∧ Below W.heap.size W w' := fitOnes_walk H1 H2 ⟨t, wd, n⟩ at' idx W hv ha hi hT
theorem alls_K (H1 : OneOK) (H2 : AllOK) {W : World} (hT : Tab W) (a b t wd n : Int) (u : Value) (xs : List V3) (hv : okV ⟨t, wd, n⟩) (ha : -9223372036854775808 ≤ a ∧ a ≤ 9223372036854775807) (hb : -9223372036854775808 ≤ b ∧ b ≤ 9223372036854775807) (hx : ∀ x ∈ xs, okV x) (hr : Rd W u xs) :
    Calls Tryd.prog 4 #[.agg #[.int .i64 a, .int .i64 b], .agg #[.int .i64 t, .int .i64 wd, .int .u64 n], u] W fun e w' => e = .returned (.bool true) ∧ Below W.heap.size W w' := fitAlls_walk H1 H2 a b ⟨t, wd, n⟩ xs u W ha hb hv hx hr hT
def endsL : List Int := [0, 1, 7, 8, 250, 251, 252, 253, 254, 255, 256, 257, 65527, 65528, 65531, 65532, 65533, 65534, 65535, 65536, 65537, 1073741823, 1073741824]
def oddL : List Int := [-9223372036854775808, -1, 0, 1073741825, 9223372036854775807]
def rowI (l : List Int) : Array Value := (l.map fun x => Value.int .i64 x).toArray
theorem rowI_at {l : List Int} {i : Nat} (h : i < l.length) (hr : ∀ x ∈ l, -9223372036854775808 ≤ x ∧ x ≤ 9223372036854775807) : ∃ e, (rowI l)[i]? = some (.int .i64 e) ∧ (-9223372036854775808 ≤ e ∧ e ≤ 9223372036854775807) := by
  refine ⟨l[i], ?_, hr _ (List.getElem_mem h)⟩
  unfold rowI
  simp [h]
theorem ends_in : ∀ x ∈ endsL, -9223372036854775808 ≤ x ∧ x ≤ 9223372036854775807 := by decide +kernel
theorem odd_in : ∀ x ∈ oddL, -9223372036854775808 ≤ x ∧ x ≤ 9223372036854775807 := by decide +kernel
set_option maxRecDepth 20000 in
set_option maxHeartbeats 1000000 in
theorem fitKnown_walk (H1 : OneOK) (H2 : AllOK) (w : World) (hT : Tab w) :
    Calls Tryd.prog 10 #[] w fun e w' => e = .returned (.bool true) ∧ Below w.heap.size w w' := by
  have HS := Lib.hid (KN.born (WL.start hT) (rowI endsL))
  have HTX : Hid (∀ W g cs n, Hid (KN w g cs W) → Calls Tryd.prog 18 #[.int .u64 n] W fun e w' => e = .returned (.agg #[.int .i64 5, .int .i64 1, .int .u64 n]) ∧ KN w g cs w') := Lib.hid fun W g cs n h => (text_any n W).mono fun _ _ ⟨h1, h2⟩ => ⟨h1, h.out.keep h2⟩
  have HNU : Hid (∀ W g cs n, Hid (KN w g cs W) → Calls Tryd.prog 22 #[.int .i64 n] W fun e w' => e = .returned (.agg #[.int .i64 1, .int .i64 n, .int .u64 0]) ∧ KN w g cs w') := Lib.hid fun W g cs n h => (num_any n W).mono fun _ _ ⟨h1, h2⟩ => ⟨h1, h.out.keep h2⟩
  have HFO : Hid (∀ W g cs t wd n at' idx, Hid (KN w g cs W) → okV ⟨t, wd, n⟩ → (-9223372036854775808 ≤ at' ∧ at' ≤ 9223372036854775807) → (-9223372036854775808 ≤ idx ∧ idx ≤ 9223372036854775807) → Calls Tryd.prog 3 #[.agg #[.int .i64 t, .int .i64 wd, .int .u64 n], .int .i64 at', .int .i64 idx] W fun e w' => e = .returned (.bool true) ∧ KN w g cs w') := Lib.hid fun W g cs t wd n at' idx h hv ha hi => (ones_K H1 H2 h.out.wl.1 t wd n at' idx hv ha hi).mono fun _ _ ⟨h1, h2⟩ => ⟨h1, h.out.keep h2⟩
  have HFA : Hid (∀ W g cs a b t wd n u xs, KN w g cs W → okV ⟨t, wd, n⟩ → (-9223372036854775808 ≤ a ∧ a ≤ 9223372036854775807) → (-9223372036854775808 ≤ b ∧ b ≤ 9223372036854775807) → (∀ x ∈ xs, okV x) → Rd W u xs → Calls Tryd.prog 4 #[.agg #[.int .i64 a, .int .i64 b], .agg #[.int .i64 t, .int .i64 wd, .int .u64 n], u] W fun e w' => e = .returned (.bool true) ∧ KN w g cs w') := Lib.hid fun W g cs a b t wd n u xs h hv ha hb hx hr => (alls_K H1 H2 h.wl.1 a b t wd n u xs hv ha hb hx hr).mono fun _ _ ⟨h1, h2⟩ => ⟨h1, h.keep h2⟩
  have HW : Hid (∀ W g cs, Hid (KN w g cs W) → Calls Tryd.prog 13 #[] W fun e w' => e = .returned (.bool true) ∧ KN w g cs w') := Lib.hid fun W g cs h => (works_true H1 H2 W h.out.wl.1).mono fun _ _ ⟨h1, h2⟩ => ⟨h1, h.out.keep h2⟩
  have l3 : ∀ (W : World) (n : Int), Rd (W.alloc (.cells #[.int .i64 5, .int .i64 1, .int .u64 0, .int .i64 1, .int .i64 2, .int .u64 0, .int .i64 5, .int .i64 1, .int .u64 n] 24)) (.slice (some ⟨W.heap.size, 0, none⟩) 3 3) [⟨5, 1, 0⟩, ⟨1, 2, 0⟩, ⟨5, 1, n⟩] := fun W n => Rd.lit W _ rfl rfl rfl (by simp)
  have l1 : ∀ (W : World) (t wd n : Int), Rd (W.alloc (.cells #[.int .i64 t, .int .i64 wd, .int .u64 n] 24)) (.slice (some ⟨W.heap.size, 0, none⟩) 1 1) [⟨t, wd, n⟩] := fun W t wd n => Rd.lit W _ rfl rfl rfl (by simp)
  have v3 : ∀ n : Int, 0 ≤ n → n ≤ 3 → ∀ x ∈ ([⟨5, 1, 0⟩, ⟨1, 2, 0⟩, ⟨5, 1, n⟩] : List V3), okV x := fun n h0 h1 x hx => by
    simp only [List.mem_cons, List.not_mem_nil, or_false] at hx
    rcases hx with rfl | rfl | rfl
    · exact okT 0 (by omega) (by omega)
    · exact okN 2 (by omega) (by omega)
    · exact okT n (by omega) (by omega)
  clear hT
  go_enter Tryd.func10, Tryd.ntmps10
  go_wp2_with fail
  obtain ⟨g, hg⟩ : ∃ g, w.heap.size = g := ⟨_, rfl⟩
  obtain ⟨w1, hw1⟩ : ∃ w1, w.alloc (.cells (rowI endsL) 3) = w1 := ⟨_, rfl⟩
  have hw1' : w.alloc (.cells #[.int .i64 0, .int .i64 1, .int .i64 7, .int .i64 8, .int .i64 250, .int .i64 251, .int .i64 252, .int .i64 253, .int .i64 254, .int .i64 255, .int .i64 256, .int .i64 257, .int .i64 65527, .int .i64 65528, .int .i64 65531, .int .i64 65532, .int .i64 65533, .int .i64 65534, .int .i64 65535, .int .i64 65536, .int .i64 65537, .int .i64 1073741823, .int .i64 1073741824] 3) = w1 := hw1
  rw [hw1'] at *
  have hs := HS.out
  rw [hw1, hg] at hs
  have HS1 := Lib.hid hs
  clear hs HS hw1 hw1'
  rw [hg]
  go_loopw [2, 3, 4] (fun x _ _ wr => ∃ i : Nat, x = .int .i64 i ∧ i ≤ 23 ∧ Hid (KN w g (rowI endsL) wr)) (fun x _ _ _ => (23 - intOf x).toNat)
  case atStart => exact ⟨0, rfl, by omega, HS1⟩
  case round =>
    obtain ⟨i, rfl, hi, HS⟩ := hrel
    clear HS1
    by_cases hin : i < 23
    · obtain ⟨en, he, hb⟩ := rowI_at (l := endsL) (i := i) hin ends_in
      have HE := Lib.hid he
      clear he
      have hi0 : (0 : Int) ≤ (i : Int) := by omega
      have hi1 : (i : Int) < 23 := by omega
      go_wp2_with fail
      go_loopw [3, 4] (fun x _ wr => ∃ k : Nat, x = .int .i64 k ∧ k ≤ 5 ∧ Hid (KN w g (rowI endsL) wr)) (fun x _ _ => (5 - intOf x).toNat)
      case atStart => exact ⟨0, rfl, by omega, HS⟩
      case round =>
        obtain ⟨k, rfl, hk, HS⟩ := hrel
        by_cases hkn : k < 5
        · have hk1 : (k : Int) < 5 := by omega
          go_wp2_with fail
          go_loopw [4] (fun x wr => ∃ n : Nat, x = .int .u64 n ∧ n ≤ 3 ∧ Hid (KN w g (rowI endsL) wr)) (fun x _ => (3 - intOf x).toNat)
          case atStart => exact ⟨0, rfl, by omega, HS⟩
          case round =>
            obtain ⟨n, rfl, hn, HS⟩ := hrel
            by_cases hnn : n < 3
            · have hn1 : (n : Int) < 3 := by omega
              have hn0 : (0 : Int) ≤ (n : Int) := by omega
              go_wp2_with fail
              have HSd := KN.drew HS
              have HV := Lib.hid (okT (n : Int) (by omega) (by omega))
              have HV3 := Lib.hid (v3 (n : Int) (by omega) (by omega))
              have HV1 : Hid (∀ x ∈ ([⟨5, 1, (n : Int)⟩] : List V3), okV x) := Lib.hid fun x hx => by obtain rfl := List.mem_singleton.1 hx; exact HV.out
              have HN1 := Lib.hid (okN 1 (by omega) (by omega))
              have HKB : Hid (-9223372036854775808 ≤ (k : Int) ∧ (k : Int) ≤ 9223372036854775807) := Lib.hid (by omega)
              have HEB := Lib.hid hb
              have hal : ∀ W o, Hid (KN w g (rowI endsL) W) → ((W.alloc o).cell? ⟨g, i, none⟩ = some (.int .i64 en) ∧ Hid (KN w g (rowI endsL) (W.alloc o))) := fun W o H => KN.all HE.out (Lib.hid (H.out.keep (al0 _ _)))
              go_region_held3 (fun W => W.cell? ⟨g, i, none⟩ = some (.int .i64 en) ∧ Hid (KN w g (rowI endsL) W))
                (first | (with_reducible exact KN.all HE.out HSd) | (with_reducible exact KN.all HE.out (by assumption)) | (with_reducible exact hal _ _ (by assumption)))
                (first
                  | (go_at_call 18; (with_reducible refine (HTX.out _ g (rowI endsL) _ (by assumption)).mono ?_); rintro e w3 ⟨rfl, hs⟩; have HS := Lib.hid hs; clear hs)
                  | (go_at_call 22; (with_reducible refine (HNU.out _ g (rowI endsL) _ (by assumption)).mono ?_); rintro e w3 ⟨rfl, hs⟩; have HS := Lib.hid hs; clear hs)
                  | (go_at_call 3; (with_reducible refine (HFO.out _ g (rowI endsL) _ _ _ _ _ (by assumption) HV.out HEB.out HKB.out).mono ?_); rintro e w3 ⟨rfl, hs⟩; have HS := Lib.hid hs; clear hs)
                  | (go_at_call 4; (with_reducible refine (HFA.out _ g (rowI endsL) _ _ _ _ _ _ _ (HS.out.keep (al0 _ _)) HV.out HEB.out HKB.out HV3.out (l3 _ _)).mono ?_); rintro e w3 ⟨rfl, hs⟩; have HS := Lib.hid hs; clear hs)
                  | (go_at_call 4; (with_reducible refine (HFA.out _ g (rowI endsL) _ _ _ _ _ _ _ (HS.out.keep (al0 _ _)) HN1.out HEB.out HKB.out HV1.out (l1 _ _ _ _)).mono ?_); rintro e w3 ⟨rfl, hs⟩; have HS := Lib.hid hs; clear hs))
              go_wp2_with fail
              exact ⟨⟨n + 1, by simp, by omega, HS⟩, by simp [intOf]; omega⟩
            · obtain rfl : n = 3 := by omega
              go_wp2_with fail
              exact ⟨⟨k + 1, by simp, by omega, HS⟩, by simp [intOf]; omega⟩
        · obtain rfl : k = 5 := by omega
          go_wp2_with fail
          exact ⟨⟨i + 1, by simp, by omega, HS⟩, by simp [intOf]; omega⟩
    · obtain rfl : i = 23 := by omega
      go_wp2_with fail
      have hs2 := KN.born HS.out.wl (rowI oddL)
      obtain ⟨g2, hg2⟩ : ∃ g2, wr.heap.size = g2 := ⟨_, rfl⟩
      obtain ⟨w2, hw2⟩ : ∃ w2, wr.alloc (.cells (rowI oddL) 3) = w2 := ⟨_, rfl⟩
      have hw2' : wr.alloc (.cells #[.int .i64 (-9223372036854775808), .int .i64 (-1), .int .i64 0, .int .i64 1073741825, .int .i64 9223372036854775807] 3) = w2 := hw2
      rw [hw2'] at *
      rw [hw2, hg2] at hs2
      have HS2 := Lib.hid hs2
      clear hs2 HS hw2 hw2'
      rw [hg2]
      go_loopw [6, 7, 8] (fun x _ _ wr => ∃ i : Nat, x = .int .i64 i ∧ i ≤ 5 ∧ Hid (KN w g2 (rowI oddL) wr)) (fun x _ _ _ => (5 - intOf x).toNat)
      case atStart => exact ⟨0, rfl, by omega, HS2⟩
      case round =>
        obtain ⟨i, rfl, hi, HS⟩ := hrel
        clear HS2
        by_cases hin : i < 5
        · obtain ⟨en, he, hb⟩ := rowI_at (l := oddL) (i := i) hin odd_in
          have HE := Lib.hid he
          clear he
          have hi0 : (0 : Int) ≤ (i : Int) := by omega
          have hi1 : (i : Int) < 5 := by omega
          go_wp2_with fail
          go_loopw [7, 8] (fun x _ wr => ∃ t : Int, x = .int .i64 t ∧ -1 ≤ t ∧ t ≤ 40 ∧ Hid (KN w g2 (rowI oddL) wr)) (fun x _ _ => (40 - intOf x).toNat)
          case atStart => exact ⟨-1, rfl, by omega, by omega, HS⟩
          case round =>
            obtain ⟨t, rfl, ht0, ht1, HS⟩ := hrel
            by_cases htn : t < 40
            · have hcell := (KN.all HE.out HS).1
              go_wp2_with fail
              have hv : okV ⟨t, en, (i : Int)⟩ := ⟨by show (-9223372036854775808 : Int) ≤ t; omega, by show t ≤ 9223372036854775807; omega, hb.1, hb.2, by show (0 : Int) ≤ (i : Int); omega, by show (i : Int) ≤ 18446744073709551615; omega⟩
              have HV := Lib.hid hv
              have HVL : Hid (∀ x ∈ ([⟨t, en, (i : Int)⟩] : List V3), okV x) := Lib.hid fun x hx => by obtain rfl := List.mem_singleton.1 hx; exact HV.out
              have HVN : Hid (∀ x ∈ ([] : List V3), okV x) := Lib.hid (by simp)
              have HEB := Lib.hid hb
              have H9 : Hid (-9223372036854775808 ≤ (9 : Int) ∧ (9 : Int) ≤ 9223372036854775807) := Lib.hid (by omega)
              have H0 : Hid (-9223372036854775808 ≤ (0 : Int) ∧ (0 : Int) ≤ 9223372036854775807) := Lib.hid (by omega)
              have H11 : Hid (-9223372036854775808 ≤ (1 : Int) ∧ (1 : Int) ≤ 9223372036854775807) := Lib.hid (by omega)
              have H3 : Hid (-9223372036854775808 ≤ (3 : Int) ∧ (3 : Int) ≤ 9223372036854775807) := Lib.hid (by omega)
              have hs3 := KV.born HS.out ⟨t, en, (i : Int)⟩
              obtain ⟨g3, hg3⟩ : ∃ g3, wr.heap.size = g3 := ⟨_, rfl⟩
              obtain ⟨w4, hw4⟩ : ∃ w4, wr.alloc (.cells #[.int .i64 t, .int .i64 en, .int .u64 (i : Int)] 24) = w4 := ⟨_, rfl⟩
              simp only [hw4, hg3] at hs3 ⊢
              have HS4 := Lib.hid hs3
              clear hs3 HS hw4 hg3 hcell hv
              have HSd := KV.drew HS4
              have hal : ∀ W o, Hid (KV w g2 (rowI oddL) g3 ⟨t, en, (i : Int)⟩ W) → ((W.alloc o).cell? ⟨g2, i, none⟩ = some (.int .i64 en) ∧ (W.alloc o).cell? ⟨g3, 0, none⟩ = some (.int .i64 t) ∧ (W.alloc o).cell? ⟨g3, 1, none⟩ = some (.int .i64 en) ∧ (W.alloc o).cell? ⟨g3, 2, none⟩ = some (.int .u64 (i : Int)) ∧ Hid (KV w g2 (rowI oddL) g3 ⟨t, en, (i : Int)⟩ (W.alloc o))) := fun W o H => KV.all HE.out (Lib.hid (H.out.keep (al0 _ _)))
              have HO : Hid (∀ W at' idx, Hid (KV w g2 (rowI oddL) g3 ⟨t, en, (i : Int)⟩ W) → Hid (-9223372036854775808 ≤ at' ∧ at' ≤ 9223372036854775807) → Hid (-9223372036854775808 ≤ idx ∧ idx ≤ 9223372036854775807) → Calls Tryd.prog 3 #[.agg #[.int .i64 t, .int .i64 en, .int .u64 (i : Int)], .int .i64 at', .int .i64 idx] W fun e w' => e = .returned (.bool true) ∧ KV w g2 (rowI oddL) g3 ⟨t, en, (i : Int)⟩ w') := Lib.hid fun W at' idx h ha hi' => (ones_K H1 H2 h.out.kn.wl.1 t en i at' idx HV.out ha.out hi'.out).mono fun _ _ ⟨h1, h2⟩ => ⟨h1, h.out.keep h2⟩
              have HA : Hid (∀ W a b u xs, KV w g2 (rowI oddL) g3 ⟨t, en, (i : Int)⟩ W → Hid (-9223372036854775808 ≤ a ∧ a ≤ 9223372036854775807) → Hid (-9223372036854775808 ≤ b ∧ b ≤ 9223372036854775807) → Hid (∀ x ∈ xs, okV x) → Rd W u xs → Calls Tryd.prog 4 #[.agg #[.int .i64 a, .int .i64 b], .agg #[.int .i64 t, .int .i64 en, .int .u64 (i : Int)], u] W fun e w' => e = .returned (.bool true) ∧ KV w g2 (rowI oddL) g3 ⟨t, en, (i : Int)⟩ w') := Lib.hid fun W a b u xs h ha hb hx hr => (alls_K H1 H2 h.kn.wl.1 a b t en i u xs HV.out ha.out hb.out hx.out hr).mono fun _ _ ⟨h1, h2⟩ => ⟨h1, h.keep h2⟩
              go_region_held3 (fun W => W.cell? ⟨g2, i, none⟩ = some (.int .i64 en) ∧ W.cell? ⟨g3, 0, none⟩ = some (.int .i64 t) ∧ W.cell? ⟨g3, 1, none⟩ = some (.int .i64 en) ∧ W.cell? ⟨g3, 2, none⟩ = some (.int .u64 (i : Int)) ∧ Hid (KV w g2 (rowI oddL) g3 ⟨t, en, (i : Int)⟩ W))
                (first | (with_reducible exact KV.all HE.out HSd) | (with_reducible exact KV.all HE.out (by assumption)) | (with_reducible exact hal _ _ (by assumption)))
                (first
                  | (go_at_call 3; (with_reducible refine (HO.out _ _ _ (by assumption) (by first | exact HEB | exact H9) (by first | exact HEB | exact H0 | exact H11)).mono ?_); rintro e w5 ⟨rfl, hs⟩; have HS5 := Lib.hid hs; clear hs)
                  | (go_at_call 4; (with_reducible refine (HA.out _ _ _ _ _ (HS5.out.keep (al0 _ _)) (by first | exact HEB | exact H9) (by first | exact HEB | exact H11) HVL (l1 _ _ _ _)).mono ?_); rintro e w5 ⟨rfl, hs⟩; have HS5 := Lib.hid hs; clear hs)
                  | (go_at_call 4; (with_reducible refine (HA.out _ _ _ _ _ HS5.out H9 H3 HVN (Rd.nil _)).mono ?_); rintro e w5 ⟨rfl, hs⟩; have HS5 := Lib.hid hs; clear hs))
              go_wp2_with fail
              refine ⟨?_, ?_⟩
              · repeat (apply Exists.intro)
                exact ⟨⟨t + 1, rfl, by omega, by omega, Lib.hid HS5.out.kn⟩, rfl⟩
              · show (40 - intOf (Value.int .i64 (t + 1))).toNat < (40 - intOf (Value.int .i64 t)).toNat
                simp [intOf]; omega
            · obtain rfl : t = 40 := by omega
              go_wp2_with fail
              exact ⟨⟨i + 1, by simp, by omega, HS⟩, by simp [intOf]; omega⟩
        · obtain rfl : i = 5 := by omega
          have HV1 := Lib.hid (okT 18446744073709551615 (by omega) (by omega))
          have HV0 := Lib.hid (okT 0 (by omega) (by omega))
          go_wp2_with (first
            | (go_at_call 13; (with_reducible refine (HW.out _ g2 (rowI oddL) HS).mono ?_); rintro e w3 ⟨rfl, hs⟩; have HS := Lib.hid hs; clear hs)
            | (go_at_call 18; (with_reducible refine (HTX.out _ g2 (rowI oddL) _ HS).mono ?_); rintro e w3 ⟨rfl, hs⟩; have HS := Lib.hid hs; clear hs)
            | (go_at_call 3; (with_reducible refine (HFO.out _ g2 (rowI oddL) _ _ _ _ _ HS HV1.out (by omega) (by omega)).mono ?_); rintro e w3 ⟨rfl, hs⟩; have HS := Lib.hid hs; clear hs)
            | (go_at_call 3; (with_reducible refine (HFO.out _ g2 (rowI oddL) _ _ _ _ _ HS HV0.out (by omega) (by omega)).mono ?_); rintro e w3 ⟨rfl, hs⟩; have HS := Lib.hid hs; clear hs))
          go_ret
          exact ⟨rfl, HS.out.wl.2⟩
end Go.Proofs.YtaeboneddndfkaaDoor
