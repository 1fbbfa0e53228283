/-
  What is proved here: what key.Order answers; condition: the list is one that the form reads.
-/
import Derived.Test.YtpcfpikflkjmjaaDoorKSrtC
import Derived.Test.YtpcfpikflkjmjaaDoorKIns
import Derived.Deep.RegionHeld3
namespace Go.Proofs.YtpcfpikflkjmjaaDoor
open Go.RowKit Go.Sort Go.Shelf

theorem row_at {w : World} {base : Nat} {g n : Nat} {l : List ByteArray} {p : List (Fin l.length)} (ho : w.ownsRow base 3 1 (.slice (some ⟨g, 0, none⟩) n n) l.length (p.map (ix l.length))) {k : Nat} {a : Fin l.length} (h : p[k]? = some a) :
    w.cell? ⟨g, k, none⟩ = some (.int .i64 ((a : Nat) : Int)) := by
  rcases ho.2 with ⟨h', _⟩ | ⟨g', cap', cur, h', _, hg, _, _, _, htake⟩
  · simp at h'
  · simp only [Value.slice.injEq, Option.some.injEq, Addr.mk.injEq, and_true] at h'
    obtain ⟨rfl, hn, rfl⟩ := h'
    have hk : k < l.length * 1 := by
      obtain ⟨h1, _⟩ := List.getElem?_eq_some_iff.1 h
      have := congrArg List.length htake
      simp only [List.length_take, List.length_map] at this
      omega
    rw [cell_of_row w g k cur _ (0, 0) hg]
    have : (cur.toList.take (l.length * 1))[k]? = ((p.map (ix l.length))[k]?) := by rw [htake]
    rw [List.getElem?_take_of_lt hk, Array.getElem?_toList] at this
    rw [this, List.getElem?_map, h]
    rfl

set_option maxRecDepth 100000 in
set_option maxHeartbeats 2000000 in
theorem order_any (l : List ByteArray) (v : Value) (w : World) (hl : RdS w v l) (hn : l.length ≤ 100000) :
    Calls Tryd.prog 59 #[v] w fun e w' => RowKit.Below w.heap.size w w' ∧ ((e = .returned (.tuple #[.slice none 0 0, .int .i64 71]) ∧ ¬ l.Nodup) ∨
      ∃ v' p, e = .returned (.tuple #[v', .int .i64 0]) ∧ l.Nodup ∧ Asc l p ∧ w'.ownsRow w.heap.size 3 1 v' l.length (p.map (ix l.length))) := by
  have hcall := indices_any l v w hl hn
  obtain ⟨A, n, c, rfl, hln, hnc, hc, hsz, hA⟩ := hl.at
  go_enter Tryd.func59, Tryd.ntmps59
  go_wp2_with (go_at_call 86; refine hcall.mono ?_; clear hcall; rintro e w2 ⟨g, n', p, rfl, hn', hp, ho, hb⟩)
  have hnn : n' = n := by omega
  subst hnn
  clear hn'
  have HO := Lib.hid ho
  have HP := Lib.hid hp
  have HB := Lib.hid hb
  have HLN := Lib.hid hln
  have hpl : p.length = n' := by rw [hp.length, hln]
  have hn1 : n' ≤ 100000 := by omega
  clear ho hp hb hl hln
  go_loopw [5] (fun i wr => ∃ k : Nat, i = .int .i64 ((k : Int) + 1) ∧ Hid (Adj l p k) ∧ Hid (k + 1 ≤ n' ∨ k = 0) ∧ ∃ q, wr = w2.drewN q) (fun i _ => n' - (intOf i).toNat)
  case atStart => exact ⟨0, rfl, Lib.hid (fun j hj => by omega), Lib.hid (.inr rfl), 0, rfl⟩
  case round =>
    obtain ⟨k, rfl, HAdj, HK, q, rfl⟩ := hrel
    have HBq : ∀ q, Hid (RowKit.Below w.heap.size w (w2.drewN q)) := fun q => Lib.hid ⟨HB.out.os, HB.out.tape, HB.out.output, HB.out.size, HB.out.block⟩
    by_cases h1 : k + 1 < n'
    · obtain ⟨b, off, rfl, _, hc1⟩ := hA (by omega)
      obtain ⟨x, hx⟩ : ∃ x, p[k]? = some x := ⟨_, List.getElem?_eq_getElem (by omega)⟩
      obtain ⟨y, hy⟩ : ∃ y, p[k + 1]? = some y := ⟨_, List.getElem?_eq_getElem (by omega)⟩
      obtain ⟨sx, hsx⟩ : ∃ sx, l[x] = sx := ⟨_, rfl⟩
      obtain ⟨sy, hsy⟩ : ∃ sy, l[y] = sy := ⟨_, rfl⟩
      have HX : Hid (p[k]? = some x ∧ p[k + 1]? = some y ∧ l[x] = sx ∧ l[y] = sy) := Lib.hid ⟨hx, hy, hsx, hsy⟩
      obtain ⟨xn, hxn⟩ : ∃ xn : Nat, (x : Nat) = xn := ⟨_, rfl⟩
      obtain ⟨yn, hyn⟩ : ∃ yn : Nat, (y : Nat) = yn := ⟨_, rfl⟩
      have c1 : w2.cell? ⟨g, k, none⟩ = some (.int .i64 (xn : Int)) := by rw [← hxn]; exact row_at HO.out hx
      have c2 : w2.cell? ⟨g, k + 1, none⟩ = some (.int .i64 (yn : Int)) := by rw [← hyn]; exact row_at HO.out hy
      have c3 : w2.cell? ⟨b, off + xn, none⟩ = some (.string sx) := by rw [← hxn, ← hsx]; exact hc1 _ (HBq 0).out _ _ (by simp)
      have c4 : w2.cell? ⟨b, off + yn, none⟩ = some (.string sy) := by rw [← hyn, ← hsy]; exact hc1 _ (HBq 0).out _ _ (by simp)
      have hxl : xn < n' := by rw [← hxn, ← HLN.out]; exact x.2
      have hyl : yn < n' := by rw [← hyn, ← HLN.out]; exact y.2
      clear hc1 hx hy hsx hsy hA hsz hxn hyn
      have hall : ∀ W, (∃ q, W = w2.drewN q) → W.cell? ⟨g, k, none⟩ = some (.int .i64 (xn : Int)) ∧ W.cell? ⟨g, k + 1, none⟩ = some (.int .i64 (yn : Int)) ∧ W.cell? ⟨b, off + xn, none⟩ = some (.string sx) ∧ W.cell? ⟨b, off + yn, none⟩ = some (.string sy) := by
        rintro W ⟨q, rfl⟩
        exact ⟨c1, c2, c3, c4⟩
      have hq0 : ∃ q', (w2.drewN q).drew = w2.drewN q' := ⟨q + 1, rfl⟩
      have i1 : (k : Int) + 1 < (n' : Int) := by omega
      have i2 : (0 : Int) ≤ (k : Int) := by omega
      have i3 : (k : Int) < (n' : Int) := by omega
      have i4 : (0 : Int) ≤ (k : Int) + 1 := by omega
      have i5 : (0 : Int) ≤ (xn : Int) := by omega
      have i6 : (xn : Int) < (n' : Int) := by omega
      have i7 : (0 : Int) ≤ (yn : Int) := by omega
      have i8 : (yn : Int) < (n' : Int) := by omega
      have i9 : ((k : Int) + 1).toNat = k + 1 := by omega
      have i10 : IntKind.i64.wrap (k : Int) = (k : Int) := by
        have := HLN.out
        simp [IntKind.wrap, IntKind.bits, IntKind.signed]
        omega
      have i11 : IntKind.i64.wrap ((k : Int) + 1 - 1) = (k : Int) := by rw [Int.add_sub_cancel]; exact i10
      go_wp2_with fail
      go_region_held3 (fun W => (∃ q, W = w2.drewN q) ∧ W.cell? ⟨g, k, none⟩ = some (.int .i64 (xn : Int)) ∧ W.cell? ⟨g, k + 1, none⟩ = some (.int .i64 (yn : Int)) ∧ W.cell? ⟨b, off + xn, none⟩ = some (.string sx) ∧ W.cell? ⟨b, off + yn, none⟩ = some (.string sy)) (first | exact hall _ (by assumption) | exact ⟨hq0, c1, c2, c3, c4⟩) (fail)
      by_cases hxy : sx = sy
      · have hT := strEq_true hxy
        have HT : Hid (¬ l.Nodup) := Lib.hid (by
          obtain ⟨e1, e2, e3, e4⟩ := HX.out
          exact twice_of HP.out e1 e2 (by rw [e3, e4]; exact hxy))
        clear hxy
        rw [hT]
        go_wp2_with fail
        go_ret2
        exact ⟨(HBq (q + 1)).out, .inl ⟨rfl, HT.out⟩⟩
      · have hF := strEq_false hxy
        have HT : Hid (Adj l p (k + 1)) := Lib.hid (by
          obtain ⟨e1, e2, e3, e4⟩ := HX.out
          exact HAdj.out.step e1 e2 (by rw [e3, e4]; exact hxy))
        clear hxy
        rw [hF]
        go_wp2_with fail
        go_roundw
        case rel => exact ⟨k + 1, by simp, HT, Lib.hid (by omega), q + 1, rfl⟩
        case measure => simp [intOf]; omega
    · have hND : Hid l.Nodup := Lib.hid (nodup_of HP.out HAdj.out (by omega))
      have i1 : ¬ (k : Int) + 1 < (n' : Int) := by omega
      clear hA hsz
      go_wp2_with fail
      go_ret2
      exact ⟨(HBq _).out, .inr ⟨_, rfl, hND.out, p, HP.out, HO.out⟩⟩
end Go.Proofs.YtpcfpikflkjmjaaDoor
