/-
  What is proved here: a contract of key.Find: it answers what the binary search of the chapter answers; condition: the list is one that the form reads; and: what key.Order answers; condition: the list is one that the form reads; and: contracts of the law's own ordered and found; condition: lists that the form reads; and: the examples of the chapter: orders, searches, sorted trees; no condition; and: the law's works answers true; condition: the table of package tree holds what is laid.
-/
import Derived.Test.YtnplkamkeadlgaaDoorKBase
import Derived.Test.YtnplkamkeadlgaaDoorKSrtC
import Derived.Test.YtnplkamkeadlgaaDoorKIns
import Derived.Deep.RegionHeld3
import Derived.Test.YtnplkamkeadlgaaDoorKRefO
import Derived.Test.YtnplkamkeadlgaaDoorSorted
import Derived.Test.YtnplkamkeadlgaaDoorExB
namespace Go.Proofs.YtnplkamkeadlgaaDoor
open Go.RowKit

set_option maxRecDepth 100000 in
set_option maxHeartbeats 2000000 in
theorem find_any (l : List ByteArray) (v : Value) (k : ByteArray) (w : World) (hl : RdS w v l) (hn : l.length ≤ 100000) :
    Calls Tryd.prog 22 #[v, .string k] w fun e w' => e = .returned (.tuple #[.int .i64 ((fdN l k : Nat) : Int), .bool (fdB l k)]) ∧ Below w.heap.size w w' := by
  obtain ⟨A, n, c, rfl, hln, hnc, hc, hsz, hA⟩ := hl.at
  have hn1 : (n : Int) ≤ 100000 := by omega
  obtain ⟨R, hR⟩ : ∃ R, bsE l k = R := ⟨_, rfl⟩
  have HS : Hid (BS l k 0 n R) := Lib.hid (by rw [← hR, ← hln]; exact BS.start l k)
  have HR := Lib.hid hR
  have HLS : Hid (∀ W x, x.size ≤ maxLen → Calls Tryd.prog 4 #[.string x, .string k] W fun e w' => e = .returned (.bool (lt x k)) ∧ Below W.heap.size W w') := Lib.hid fun W x _ => (keyLess_any x k W).mono fun e w' h => ⟨h.1, by rw [h.2]; exact Below.refl _ _⟩
  clear hR
  go_enter Tryd.func22, Tryd.ntmps22
  go_wp2
  go_step3
  go_wp2
  go_step3
  go_wp2
  go_loopw [6, 7] (fun a b wr => ∃ lo hi : Nat, lo ≤ hi ∧ hi ≤ n ∧ a = .int .i64 (lo : Int) ∧ b = .int .i64 (hi : Int) ∧ Hid (BS l k lo hi R) ∧ Hid (Below w.heap.size w wr)) (fun a b _ => (intOf b).toNat - (intOf a).toNat)
  case atStart => exact ⟨0, n, Nat.zero_le _, Nat.le_refl _, rfl, rfl, HS, Lib.hid (Below.refl _ _)⟩
  case round =>
    obtain ⟨lo, hi, hlh, hhn, rfl, rfl, HB, HW⟩ := hrel
    by_cases h1 : lo < hi
    · obtain ⟨b1, off1, rfl, _, hc1⟩ := hA (by omega)
      obtain ⟨m, hm⟩ : ∃ m, lo + (hi - lo) / 2 = m := ⟨_, rfl⟩
      obtain ⟨x, hx⟩ : ∃ x, l[m]? = some x := ⟨_, List.getElem?_eq_getElem (by omega)⟩
      have hcell := hc1 wr HW.out m x hx
      have hxs := hsz x (List.mem_of_getElem? hx)
      have HST := Lib.hid (HB.out.step h1 (by rw [hm]; exact hx))
      rw [hm] at HST
      have hmi := mid_int hlh hm
      have hmr : lo ≤ m ∧ m < hi := by omega
      obtain ⟨β, hβ⟩ : ∃ β, lt x k = β := ⟨_, rfl⟩
      have hcall := HLS.out wr x hxs
      rw [hβ] at hcall HST
      clear hc1 hx hm hβ hA
      cases β with
      | true =>
        have HN := Lib.hid (HST.out.1 rfl)
        go_wp2_with (go_at_call 4; refine hcall.mono ?_; clear hcall; rintro e w2 ⟨rfl, hb2⟩)
        go_roundw
        case rel => exact ⟨m + 1, hi, by omega, by omega, by simp, rfl, HN, Lib.hid (HW.out.trans (hb2.mono HW.out.size))⟩
        case measure => simp [intOf]; omega
      | false =>
        have HN := Lib.hid (HST.out.2 rfl)
        go_wp2_with (go_at_call 4; refine hcall.mono ?_; clear hcall; rintro e w2 ⟨rfl, hb2⟩)
        go_roundw
        case rel => exact ⟨lo, m, by omega, by omega, rfl, rfl, HN, Lib.hid (HW.out.trans (hb2.mono HW.out.size))⟩
        case measure => simp [intOf]; omega
    · have hRl := HB.out.stop h1
      subst hRl
      by_cases h2 : R < n
      · obtain ⟨b1, off1, rfl, _, hc1⟩ := hA (by omega)
        obtain ⟨x, hx⟩ : ∃ x, l[R]? = some x := ⟨_, List.getElem?_eq_getElem (by omega)⟩
        have hcell := hc1 wr HW.out R x hx
        have hf := fd_at HR.out hx
        clear hc1 hx
        by_cases hxk : x = k
        · have hT := strEq_true hxk
          obtain ⟨f1, f2⟩ := hf.1 hxk
          have HF1 := Lib.hid f1
          have HF2 := Lib.hid f2
          clear hf hxk f1 f2
          go_wp2_with fail
          change bodyPost Tryd.prog Tryd.f22 (fun e w' => e = .returned (.tuple #[.int .i64 ((fdN l k : Nat) : Int), .bool (fdB l k)]) ∧ Below w.heap.size w w') Exit.ret _ _
          go_ret2
          exact ⟨by rw [HF1.out, HF2.out]; rfl, HW.out⟩
        · have hF := strEq_false hxk
          obtain ⟨f1, f2⟩ := hf.2 hxk
          have HF1 := Lib.hid f1
          have HF2 := Lib.hid f2
          clear hf hxk f1 f2
          go_wp2_with fail
          change bodyPost Tryd.prog Tryd.f22 (fun e w' => e = .returned (.tuple #[.int .i64 ((fdN l k : Nat) : Int), .bool (fdB l k)]) ∧ Below w.heap.size w w') Exit.ret _ _
          go_ret2
          exact ⟨by rw [HF1.out, HF2.out]; rfl, HW.out⟩
      · obtain ⟨f1, f2⟩ := fd_end HR.out (by omega)
        have HF1 := Lib.hid f1
        have HF2 := Lib.hid f2
        clear f1 f2
        go_wp2_with fail
        change bodyPost Tryd.prog Tryd.f22 (fun e w' => e = .returned (.tuple #[.int .i64 ((fdN l k : Nat) : Int), .bool (fdB l k)]) ∧ Below w.heap.size w w') Exit.ret _ _
        go_ret2
        exact ⟨by rw [HF1.out, HF2.out]; rfl, HW.out⟩
end Go.Proofs.YtnplkamkeadlgaaDoor
namespace Go.Proofs.YtnplkamkeadlgaaDoor
open Go.RowKit Go.Sort Go.Shelf

theorem row_at {w : World} {base : Nat} {g n : Nat} {l : List ByteArray} {p : List (Fin l.length)} (ho : w.ownsRow base 3 1 (.slice (some ⟨g, 0, none⟩) n n) l.length (p.map (ix l.length))) {k : Nat} {a : Fin l.length} (h : p[k]? = some a) :
    w.cell? ⟨g, k, none⟩ = some (.int .i64 ((a : Nat) : Int)) := by
  rcases ho.2 with ⟨h', _⟩ | ⟨g', cap', cur, h', _, hg, _, _, _, htake⟩
  · simp at h'
  · simp only [Value.slice.injEq, Option.some.injEq, Addr.mk.injEq, and_true] at h'
    obtain ⟨rfl, hn, rfl⟩ := h'
    have hk : k < l.length * 1 := by
      obtain ⟨h1, _⟩ := List.getElem?_eq_some_iff.1 h
      have := congrArg List.length htake
      simp only [List.length_take, List.length_map] at this
      omega
    rw [cell_of_row w g k cur _ (0, 0) hg]
    have : (cur.toList.take (l.length * 1))[k]? = ((p.map (ix l.length))[k]?) := by rw [htake]
    rw [List.getElem?_take_of_lt hk, Array.getElem?_toList] at this
    rw [this, List.getElem?_map, h]
    rfl

set_option maxRecDepth 100000 in
set_option maxHeartbeats 2000000 in
theorem order_any (l : List ByteArray) (v : Value) (w : World) (hl : RdS w v l) (hn : l.length ≤ 100000) :
    Calls Tryd.prog 15 #[v] w fun e w' => RowKit.Below w.heap.size w w' ∧ ((e = .returned (.tuple #[.slice none 0 0, .int .i64 71]) ∧ ¬ l.Nodup) ∨
      ∃ v' p, e = .returned (.tuple #[v', .int .i64 0]) ∧ l.Nodup ∧ Asc l p ∧ w'.ownsRow w.heap.size 3 1 v' l.length (p.map (ix l.length))) := by
  have hcall := indices_any l v w hl hn
  obtain ⟨A, n, c, rfl, hln, hnc, hc, hsz, hA⟩ := hl.at
  go_enter Tryd.func15, Tryd.ntmps15
  go_wp2_with (go_at_call 39; refine hcall.mono ?_; clear hcall; rintro e w2 ⟨g, n', p, rfl, hn', hp, ho, hb⟩)
  have hnn : n' = n := by omega
  subst hnn
  clear hn'
  have HO := Lib.hid ho
  have HP := Lib.hid hp
  have HB := Lib.hid hb
  have HLN := Lib.hid hln
  have hpl : p.length = n' := by rw [hp.length, hln]
  have hn1 : n' ≤ 100000 := by omega
  clear ho hp hb hl hln
  go_loopw [5] (fun i wr => ∃ k : Nat, i = .int .i64 ((k : Int) + 1) ∧ Hid (Adj l p k) ∧ Hid (k + 1 ≤ n' ∨ k = 0) ∧ ∃ q, wr = w2.drewN q) (fun i _ => n' - (intOf i).toNat)
  case atStart => exact ⟨0, rfl, Lib.hid (fun j hj => by omega), Lib.hid (.inr rfl), 0, rfl⟩
  case round =>
    obtain ⟨k, rfl, HAdj, HK, q, rfl⟩ := hrel
    have HBq : ∀ q, Hid (RowKit.Below w.heap.size w (w2.drewN q)) := fun q => Lib.hid ⟨HB.out.os, HB.out.tape, HB.out.output, HB.out.size, HB.out.block⟩
    by_cases h1 : k + 1 < n'
    · obtain ⟨b, off, rfl, _, hc1⟩ := hA (by omega)
      obtain ⟨x, hx⟩ : ∃ x, p[k]? = some x := ⟨_, List.getElem?_eq_getElem (by omega)⟩
      obtain ⟨y, hy⟩ : ∃ y, p[k + 1]? = some y := ⟨_, List.getElem?_eq_getElem (by omega)⟩
      obtain ⟨sx, hsx⟩ : ∃ sx, l[x] = sx := ⟨_, rfl⟩
      obtain ⟨sy, hsy⟩ : ∃ sy, l[y] = sy := ⟨_, rfl⟩
      have HX : Hid (p[k]? = some x ∧ p[k + 1]? = some y ∧ l[x] = sx ∧ l[y] = sy) := Lib.hid ⟨hx, hy, hsx, hsy⟩
      obtain ⟨xn, hxn⟩ : ∃ xn : Nat, (x : Nat) = xn := ⟨_, rfl⟩
      obtain ⟨yn, hyn⟩ : ∃ yn : Nat, (y : Nat) = yn := ⟨_, rfl⟩
      have c1 : w2.cell? ⟨g, k, none⟩ = some (.int .i64 (xn : Int)) := by rw [← hxn]; exact row_at HO.out hx
      have c2 : w2.cell? ⟨g, k + 1, none⟩ = some (.int .i64 (yn : Int)) := by rw [← hyn]; exact row_at HO.out hy
      have c3 : w2.cell? ⟨b, off + xn, none⟩ = some (.string sx) := by rw [← hxn, ← hsx]; exact hc1 _ (HBq 0).out _ _ (by simp)
      have c4 : w2.cell? ⟨b, off + yn, none⟩ = some (.string sy) := by rw [← hyn, ← hsy]; exact hc1 _ (HBq 0).out _ _ (by simp)
      have hxl : xn < n' := by rw [← hxn, ← HLN.out]; exact x.2
      have hyl : yn < n' := by rw [← hyn, ← HLN.out]; exact y.2
      clear hc1 hx hy hsx hsy hA hsz hxn hyn
      have hall : ∀ W, (∃ q, W = w2.drewN q) → W.cell? ⟨g, k, none⟩ = some (.int .i64 (xn : Int)) ∧ W.cell? ⟨g, k + 1, none⟩ = some (.int .i64 (yn : Int)) ∧ W.cell? ⟨b, off + xn, none⟩ = some (.string sx) ∧ W.cell? ⟨b, off + yn, none⟩ = some (.string sy) := by
        rintro W ⟨q, rfl⟩
        exact ⟨c1, c2, c3, c4⟩
      have hq0 : ∃ q', (w2.drewN q).drew = w2.drewN q' := ⟨q + 1, rfl⟩
      have i1 : (k : Int) + 1 < (n' : Int) := by omega
      have i2 : (0 : Int) ≤ (k : Int) := by omega
      have i3 : (k : Int) < (n' : Int) := by omega
      have i4 : (0 : Int) ≤ (k : Int) + 1 := by omega
      have i5 : (0 : Int) ≤ (xn : Int) := by omega
      have i6 : (xn : Int) < (n' : Int) := by omega
      have i7 : (0 : Int) ≤ (yn : Int) := by omega
      have i8 : (yn : Int) < (n' : Int) := by omega
      have i9 : ((k : Int) + 1).toNat = k + 1 := by omega
      have i10 : IntKind.i64.wrap (k : Int) = (k : Int) := by
        have := HLN.out
        simp [IntKind.wrap, IntKind.bits, IntKind.signed]
        omega
      have i11 : IntKind.i64.wrap ((k : Int) + 1 - 1) = (k : Int) := by rw [Int.add_sub_cancel]; exact i10
      go_wp2_with fail
      go_region_held3 (fun W => (∃ q, W = w2.drewN q) ∧ W.cell? ⟨g, k, none⟩ = some (.int .i64 (xn : Int)) ∧ W.cell? ⟨g, k + 1, none⟩ = some (.int .i64 (yn : Int)) ∧ W.cell? ⟨b, off + xn, none⟩ = some (.string sx) ∧ W.cell? ⟨b, off + yn, none⟩ = some (.string sy)) (first | exact hall _ (by assumption) | exact ⟨hq0, c1, c2, c3, c4⟩) (fail)
      by_cases hxy : sx = sy
      · have hT := strEq_true hxy
        have HT : Hid (¬ l.Nodup) := Lib.hid (by
          obtain ⟨e1, e2, e3, e4⟩ := HX.out
          exact twice_of HP.out e1 e2 (by rw [e3, e4]; exact hxy))
        clear hxy
        rw [hT]
        go_wp2_with fail
        go_ret2
        exact ⟨(HBq (q + 1)).out, .inl ⟨rfl, HT.out⟩⟩
      · have hF := strEq_false hxy
        have HT : Hid (Adj l p (k + 1)) := Lib.hid (by
          obtain ⟨e1, e2, e3, e4⟩ := HX.out
          exact HAdj.out.step e1 e2 (by rw [e3, e4]; exact hxy))
        clear hxy
        rw [hF]
        go_wp2_with fail
        go_roundw
        case rel => exact ⟨k + 1, by simp, HT, Lib.hid (by omega), q + 1, rfl⟩
        case measure => simp [intOf]; omega
    · have hND : Hid l.Nodup := Lib.hid (nodup_of HP.out HAdj.out (by omega))
      have i1 : ¬ (k : Int) + 1 < (n' : Int) := by omega
      clear hA hsz
      go_wp2_with fail
      go_ret2
      exact ⟨(HBq _).out, .inr ⟨_, rfl, hND.out, p, HP.out, HO.out⟩⟩
end Go.Proofs.YtnplkamkeadlgaaDoor
namespace Go.Proofs.YtnplkamkeadlgaaDoor
open Go.RowKit Go.Sort Go.Shelf

theorem order_ok (l : List ByteArray) (v : Value) (q : List Nat) (w : World) (hl : RdS w v l) (hn : l.length ≤ 60000) (hq : SQ l q l.length) :
    Calls Tryd.prog 15 #[v] w fun e w' => ∃ v', e = .returned (.tuple #[v', .int .i64 0]) ∧ Hid (w'.ownsRow w.heap.size 3 1 v' l.length (nb q)) ∧ Hid (RowKit.Below w.heap.size w w') := by
  refine (order_any l v w hl (by omega)).mono ?_
  rintro e w' ⟨hb, ⟨_, hnd⟩ | ⟨v', p, rfl, hnd, hp, ho⟩⟩
  · exact absurd hq.nodup hnd
  · obtain rfl := hq.unique (hp.sq hnd)
    refine ⟨v', rfl, Lib.hid ?_, Lib.hid hb⟩
    have e : p.map (ix l.length) = nb (p.map Fin.val) := by simp [nb, bv]
    rw [← e]
    exact ho
theorem order_twice (l : List ByteArray) (v : Value) (w : World) (hl : RdS w v l) (hn : l.length ≤ 60000) (hq : ¬ l.Nodup) :
    Calls Tryd.prog 15 #[v] w fun e w' => e = .returned (.tuple #[.slice none 0 0, .int .i64 71]) ∧ Hid (RowKit.Below w.heap.size w w') := by
  refine (order_any l v w hl (by omega)).mono ?_
  rintro e w' ⟨hb, ⟨rfl, _⟩ | ⟨v', p, _, hnd, _⟩⟩
  · exact ⟨rfl, Lib.hid hb⟩
  · exact absurd hnd hq
set_option maxRecDepth 100000 in
set_option maxHeartbeats 2000000 in
theorem ordered_ok (l : List ByteArray) (v wv : Value) (q : List Nat) (w : World) (hl : RdS w v l) (hn : l.length ≤ 60000) (hq : SQ l q l.length) (hw : Rd w wv (q.map Int.ofNat)) :
    Calls Tryd.prog 26 #[v, .int .i64 0, wv] w fun e w' => e = .returned (.bool true) ∧ RowKit.Below w.heap.size w w' := by
  have HO := Lib.hid (order_ok l v q w hl hn hq)
  have HW := Lib.hid hw
  have HL : Hid ((q.map Int.ofNat).length ≤ 60000) := Lib.hid (by rw [List.length_map, hq.length]; exact hn)
  clear hl hn hq hw
  go_enter Tryd.func26, Tryd.ntmps26
  go_wp2_with (first
    | (go_at_call 15; refine HO.out.mono ?_; rintro e w1 ⟨v', rfl, HR, HB⟩)
    | (go_at_call 20; refine (eqInts_same _ _ (q.map Int.ofNat) w1 (Rd.of_own HR.out) (HW.out.below HB.out) HL.out).mono ?_; rintro e w2 ⟨rfl, hb2⟩))
  go_ret
  exact ⟨rfl, HB.out.trans (hb2.mono HB.out.size)⟩
set_option maxRecDepth 100000 in
set_option maxHeartbeats 2000000 in
theorem ordered_twice (l : List ByteArray) (v : Value) (w : World) (hl : RdS w v l) (hn : l.length ≤ 60000) (hq : ¬ l.Nodup) :
    Calls Tryd.prog 26 #[v, .int .i64 71, .slice none 0 0] w fun e w' => e = .returned (.bool true) ∧ RowKit.Below w.heap.size w w' := by
  have HO := Lib.hid (order_twice l v w hl hn hq)
  clear hl hn hq
  go_enter Tryd.func26, Tryd.ntmps26
  go_wp2_with (first
    | (go_at_call 15; refine HO.out.mono ?_; rintro e w1 ⟨rfl, HB⟩)
    | (go_at_call 20; refine (eqInts_same _ _ [] w1 (Rd.nil _ _ _) (Rd.nil _ _ _) (by simp)).mono ?_; rintro e w2 ⟨rfl, hb2⟩))
  go_ret
  exact ⟨rfl, HB.out.trans (hb2.mono HB.out.size)⟩
set_option maxRecDepth 100000 in
set_option maxHeartbeats 2000000 in
theorem found_any (l : List ByteArray) (v : Value) (k : ByteArray) (n : Nat) (b : Bool) (w : World) (hl : RdS w v l) (hn : l.length ≤ 60000) (h1 : fdN l k = n) (h2 : fdB l k = b) :
    Calls Tryd.prog 25 #[v, .string k, .int .i64 (n : Int), .bool b] w fun e w' => e = .returned (.bool true) ∧ RowKit.Below w.heap.size w w' := by
  have HF := find_any l v k w hl (by omega)
  rw [h1, h2] at HF
  have HO := Lib.hid HF
  clear hl hn h1 h2 HF
  go_enter Tryd.func25, Tryd.ntmps25
  cases b <;>
  · go_wp2_with (first | (go_at_call 22; refine HO.out.mono ?_; rintro e w1 ⟨rfl, hb2⟩))
    go_ret
    exact ⟨by simp, hb2⟩
end Go.Proofs.YtnplkamkeadlgaaDoor
namespace Go.Proofs.YtnplkamkeadlgaaDoor
open Go.RowKit Go.Sort

def sE : ByteArray := ⟨#[]⟩
def sA : ByteArray := ⟨#[97]⟩
def sB : ByteArray := ⟨#[98]⟩
def sC : ByteArray := ⟨#[99]⟩
def sD : ByteArray := ⟨#[100]⟩
def sF : ByteArray := ⟨#[101]⟩
def sAB : ByteArray := ⟨#[97, 98]⟩
theorem lt_eq (a b : ByteArray) : lt a b = Op.bytesLess a.data.toList b.data.toList := by unfold lt; rw [ByteArray.toList_eq, ByteArray.toList_eq]
theorem sq4 : SQ [sB, sA, sE, sAB] [2, 1, 3, 0] 4 := ⟨by decide, by simp only [lt_eq]; decide +kernel⟩
theorem nd3 : ¬ [sA, sB, sA].Nodup := by decide +kernel
theorem sq0 : SQ [] [] 0 := ⟨by decide, List.Pairwise.nil⟩
theorem fdU1 : fdN [sA, sC, sF] sC = 1 ∧ fdB [sA, sC, sF] sC = true := by decide +kernel
theorem fdU2 : fdN [sA, sC, sF] sD = 0 ∧ fdB [sA, sC, sF] sD = false := by decide +kernel
theorem fdO1 : fdN [sC, sA, sB] sC = 0 ∧ fdB [sC, sA, sB] sC = false := by decide +kernel
theorem fdO2 : fdN [sC, sA, sB] sB = 2 ∧ fdB [sC, sA, sB] sB = true := by decide +kernel
theorem fdO3 : fdN [sC, sA, sB] sA = 0 ∧ fdB [sC, sA, sB] sA = false := by decide +kernel
def exI : T := tabT [sD, sC] [numT 1, numT 2]
def exM : T := tabT [sB, sA] [numT 5, exI]
def exV : T := vecT [exM]
def exW : T := vecT [tabT [sA, sB] [tabT [sC, sD] [numT 2, numT 1], numT 5]]
def exA : T := tabT [sA, sA] [numT 5, numT 5]
theorem chkV : chk exV = 0 := by decide +kernel
theorem chkA : chk exA = 71 := by decide +kernel
theorem qqV : QQ exV := ⟨by decide, by simp [sm, smL, numT, tabT, vecT, exV, exM, exI] <;> decide⟩
theorem qqW : QQ exW := ⟨by decide, by simp [sm, smL, numT, tabT, vecT, exW] <;> decide⟩
theorem qqA : QQ exA := ⟨by decide, by simp [sm, smL, numT, tabT, exA] <;> decide⟩
theorem srt_num (n : Int) : Srt (numT n) (numT n) := ⟨[], rfl, .inl ⟨by decide, rfl⟩⟩
theorem sq2 {x y : ByteArray} (h : lt y x = true) : SQ [x, y] [1, 0] 2 := ⟨by decide, by simpa [ky] using h⟩
theorem srtI : Srt exI (tabT [sC, sD] [numT 2, numT 1]) := ⟨[numT 1, numT 2], ⟨_, _, rfl, srt_num 1, _, _, rfl, srt_num 2, rfl⟩, .inr ⟨rfl, [1, 0], sq2 (by simp only [lt_eq]; decide +kernel), rfl⟩⟩
theorem srtM : Srt exM (tabT [sA, sB] [tabT [sC, sD] [numT 2, numT 1], numT 5]) := ⟨[numT 5, tabT [sC, sD] [numT 2, numT 1]], ⟨_, _, rfl, srt_num 5, _, _, rfl, srtI, rfl⟩, .inr ⟨rfl, [1, 0], sq2 (by simp only [lt_eq]; decide +kernel), rfl⟩⟩
theorem srtV : Srt exV exW := ⟨[tabT [sA, sB] [tabT [sC, sD] [numT 2, numT 1], numT 5]], ⟨_, _, rfl, srtM, rfl⟩, .inl ⟨by decide, rfl⟩⟩
theorem rds_blk {w : World} {g n : Nat} {xs : List ByteArray} {cs : Array Value} (hB : Blk w g 9 cs) (hc : cs = (xs.map Value.string).toArray) (hn : xs.length = n) (hm : n ≤ maxLen) (hs : ∀ x ∈ xs, x.size ≤ maxLen) : RdS w (.slice (some ⟨g, 0, none⟩) n n) xs := by
  subst hc
  refine ⟨_, n, n, rfl, hn, Nat.le_refl _, hm, hs, fun _ => ⟨g, 0, rfl, hB.lt, fun j s h => ?_⟩⟩
  rw [Nat.zero_add, Blk.cell hB]
  simp [h]
theorem rd_blk {w : World} {g n : Nat} {xs : List Int} {cs : Array Value} (hB : Blk w g 3 cs) (hc : cs = (bv xs).toArray) (hn : xs.length = n) : Rd w (.slice (some ⟨g, 0, none⟩) n n) xs := by
  subst hc
  refine ⟨_, n, n, rfl, hn, Nat.le_refl _, fun _ => ⟨g, 0, rfl, hB.lt, fun j s h => ?_⟩⟩
  rw [Nat.zero_add, Blk.cell hB]
  simp [bv, h]
theorem small1 {n : Nat} (h : n ≤ 10) : n ≤ maxLen := by unfold maxLen; omega
end Go.Proofs.YtnplkamkeadlgaaDoor
namespace Go.Proofs.YtnplkamkeadlgaaDoor
open Go.RowKit Go.Sort

theorem blk_new2 (w : World) (o : Obj) (t : TypeId) (cs : Array Value) : Blk ((w.alloc o).alloc (.cells cs t)) (w.heap.size + 1) t cs := by
  have := Blk.new (w.alloc o) t cs
  rwa [World.size_alloc] at this
theorem blk_new3 (w : World) (o o' : Obj) (t : TypeId) (cs : Array Value) : Blk (((w.alloc o).alloc o').alloc (.cells cs t)) (w.heap.size + 1 + 1) t cs := by
  have := blk_new2 (w.alloc o) o' t cs
  rwa [World.size_alloc] at this
theorem eq_same (t : T) (ca cb : List Value) (w : World) (hq : QQ t) (ha : Nd w t ca) (hb : Nd w t cb) : Calls Tryd.prog 28 #[.agg ca.toArray, .agg cb.toArray] w fun e w' => e = .returned (.bool true) ∧ Below w.heap.size w w' := by
  refine (eqNode_any (dp t) t t ca cb w (Nat.le_refl _) hq.1 hq.2 ha hb).mono ?_
  rintro e w' ⟨⟨β, rfl, h⟩, hb'⟩
  rw [h.2 rfl]
  exact ⟨rfl, hb'⟩
theorem bel1 (w : World) (o : Obj) : Below w.heap.size w (w.alloc o) := (Below.refl _ _).alloc (Nat.le_refl _) o
theorem bel2 (w : World) (o o' : Obj) : Below w.heap.size w ((w.alloc o).alloc o') := (bel1 w o).alloc (by simp) o'
theorem all_small {xs : List ByteArray} (h : xs.all (fun x => decide (x.size ≤ 10)) = true) : ∀ x ∈ xs, x.size ≤ maxLen := fun x hx => small1 (by have := List.all_eq_true.1 h x hx; simpa using this)

theorem sorted_ok (t t' : T) (cs : List Value) (w : World) (hT : Tab w) (hq : QQ t) (hc : chk t = 0) (hs : Srt t t') (hnd : Nd w t cs) :
    Calls Tryd.prog 27 #[.agg cs.toArray] w fun e w' => ∃ (k n u : Int) (s : ByteArray) (A1 : Option Addr) (m1 c1 : Nat) (A2 : Option Addr) (m2 c2 : Nat), e = .returned (.tuple #[.agg #[.int .i64 k, .int .i64 n, .int .u64 u, .string s, .slice A1 m1 c1, .slice A2 m2 c2], .int .i64 0]) ∧
      Hid (Nd w' t' [.int .i64 k, .int .i64 n, .int .u64 u, .string s, .slice A1 m1 c1, .slice A2 m2 c2]) ∧ Hid (Below w.heap.size w w') := by
  refine (sorted_any t cs w hT hq hnd).mono ?_
  rintro e w' ⟨hb, ⟨h, _⟩ | ⟨_, cs', t2, rfl, h2, h3⟩⟩
  · exact absurd hc h
  · obtain rfl := hs.unique h2
    obtain ⟨k, n, u, s, A1, m1, c1, A2, m2, c2, rfl⟩ := (NdS.ndo _ _ h3).shape6
    exact ⟨k, n, u, s, A1, m1, c1, A2, m2, c2, rfl, Lib.hid h3.nd, Lib.hid hb⟩
theorem sorted_err (t : T) (n : Nat) (cs : List Value) (w : World) (hT : Tab w) (hq : QQ t) (hc : chk t = n) (h0 : n ≠ 0) (hnd : Nd w t cs) :
    Calls Tryd.prog 27 #[.agg cs.toArray] w fun e w' => e = .returned (.tuple #[.agg #[.int .i64 0, .int .i64 0, .int .u64 0, .string ⟨#[]⟩, .slice none 0 0, .slice none 0 0], .int .i64 (n : Int)]) ∧ Hid (Below w.heap.size w w') := by
  subst hc
  refine (sorted_any t cs w hT hq hnd).mono ?_
  rintro e w' ⟨hb, ⟨_, rfl⟩ | ⟨h, _⟩⟩
  · exact ⟨rfl, Lib.hid hb⟩
  · exact absurd h h0
def PF (w : World) (g1 g2 : Nat) (W : World) : Prop := Below w.heap.size w W ∧ RdS W (.slice (some ⟨g1, 0, none⟩) 3 3) [sA, sC, sF] ∧ RdS W (.slice (some ⟨g2, 0, none⟩) 3 3) [sC, sA, sB]
theorem PF.below {w W W' : World} {g1 g2 : Nat} (h : PF w g1 g2 W) (hb : Below W.heap.size W W') : PF w g1 g2 W' := ⟨h.1.trans (hb.mono h.1.size), h.2.1.below hb, h.2.2.below hb⟩

set_option maxRecDepth 100000 in
set_option maxHeartbeats 400000 in
theorem works_true (w : World) (hT : Tab w) : Calls Tryd.prog 8 #[] w fun e w' => e = .returned (.bool true) ∧ Below w.heap.size w w' := by
  have HT := Lib.hid hT
  have hC : ∀ (s : ByteArray) (n : Int), keyZ s = n → ∀ W, Calls Tryd.prog 17 #[.string s] W fun e w' => e = .returned (.int .i64 n) ∧ W = w' := fun s n h W => by rw [← h]; exact (keyCheck_any s W).mono fun e w' h => ⟨h.1, h.2.symm⟩
  have hL : ∀ (a b : ByteArray) (r : Bool), Op.bytesLess a.toList b.toList = r → ∀ W, Calls Tryd.prog 4 #[.string a, .string b] W fun e w' => e = .returned (.bool r) ∧ W = w' := fun a b r h W => by rw [← h]; exact (keyLess_any a b W).mono fun e w' h => ⟨h.1, h.2.symm⟩
  have HC1 := Lib.hid (hC ⟨#[97]⟩ 0 (by decide +kernel))
  have HC2 := Lib.hid (hC ⟨#[]⟩ 0 (by decide +kernel))
  have HC3 := Lib.hid (hC ⟨#[97, 0]⟩ 70 (by decide +kernel))
  have HL1 := Lib.hid (hL ⟨#[97]⟩ ⟨#[97, 98]⟩ true (by decide +kernel))
  have HL2 := Lib.hid (hL ⟨#[97, 98]⟩ ⟨#[98]⟩ true (by decide +kernel))
  have HL3 := Lib.hid (hL ⟨#[122]⟩ ⟨#[195, 169]⟩ true (by decide +kernel))
  have HL4 := Lib.hid (hL ⟨#[97]⟩ ⟨#[97]⟩ false (by decide +kernel))
  clear hC hL hT
  go_enter Tryd.func8, Tryd.ntmps8
  go_wp2_with (first
    | (go_at_call 17; first | (with_reducible refine (HC1.out _).mono ?_; rintro e w' ⟨rfl, rfl⟩) | (with_reducible refine (HC2.out _).mono ?_; rintro e w' ⟨rfl, rfl⟩) | (with_reducible refine (HC3.out _).mono ?_; rintro e w' ⟨rfl, rfl⟩))
    | (go_at_call 4; first | (with_reducible refine (HL1.out _).mono ?_; rintro e w' ⟨rfl, rfl⟩) | (with_reducible refine (HL2.out _).mono ?_; rintro e w' ⟨rfl, rfl⟩) | (with_reducible refine (HL3.out _).mono ?_; rintro e w' ⟨rfl, rfl⟩) | (with_reducible refine (HL4.out _).mono ?_; rintro e w' ⟨rfl, rfl⟩)))
  with_reducible refine (ordered_ok [sB, sA, sE, sAB] _ _ [2, 1, 3, 0] _ ?a1 ?a2 ?a3 ?a4).mono ?a5
  case a1 => exact rds_blk ((Blk.new _ _ _).alloc _) rfl rfl (small1 (by decide)) (all_small (by decide))
  case a2 => decide
  case a3 => exact sq4
  case a4 => exact rd_blk (blk_new2 _ _ _ _) rfl rfl
  rintro e w1 ⟨rfl, hb1⟩
  have HB1 : Hid (Below w.heap.size w w1) := Lib.hid (al (al hb1))
  clear hb1
  go_wp2_with fail
  with_reducible refine (ordered_twice [sA, sB, sA] _ _ ?b1 ?b2 nd3).mono ?b5
  case b1 => exact rds_blk (Blk.new _ _ _) rfl rfl (small1 (by decide)) (all_small (by decide))
  case b2 => decide
  rintro e w2 ⟨rfl, hb2⟩
  have HB2 : Hid (Below w.heap.size w w2) := Lib.hid (HB1.out.trans ((al hb2).mono HB1.out.size))
  clear hb2
  go_wp2_with fail
  with_reducible refine (ordered_ok [] _ _ [] w2 (rds_nil _) ?c2 ?c3 (Rd.nil _ _ _)).mono ?c5
  case c2 => decide
  case c3 => exact sq0
  rintro e w3 ⟨rfl, hb3⟩
  have HB3 : Hid (Below w.heap.size w w3) := Lib.hid (HB2.out.trans (hb3.mono HB2.out.size))
  clear hb3 HC1 HC2 HC3 HL1 HL2 HL3 HL4
  go_wp2_with fail
  obtain ⟨W4, hW4⟩ : ∃ W4, ((w3.alloc (.cells #[.string ⟨#[97]⟩, .string ⟨#[99]⟩, .string ⟨#[101]⟩] 9)).alloc (.cells #[.string ⟨#[99]⟩, .string ⟨#[97]⟩, .string ⟨#[98]⟩] 9)) = W4 := ⟨_, rfl⟩
  rw [hW4]
  obtain ⟨g1, hg1⟩ : ∃ g, w3.heap.size = g := ⟨_, rfl⟩
  obtain ⟨g2, hg2⟩ : ∃ g, g1 + 1 = g := ⟨_, rfl⟩
  rw [hg1, hg2]
  have HP0 : Hid (PF w g1 g2 W4) := by
    rw [← hW4, ← hg2, ← hg1]
    exact Lib.hid ⟨HB3.out.trans ((bel2 w3 _ _).mono HB3.out.size), rds_blk ((Blk.new _ _ _).alloc _) rfl rfl (small1 (by decide)) (all_small (by decide)), rds_blk (blk_new2 _ _ _ _) rfl rfl (small1 (by decide)) (all_small (by decide))⟩
  clear hW4 hg1 hg2 HB1 HB2 HB3
  have HF1 : Hid (∀ W, Hid (PF w g1 g2 W) → Calls Tryd.prog 25 #[.slice (some ⟨g1, 0, none⟩) 3 3, .string ⟨#[99]⟩, .int .i64 1, .bool true] W fun e w' => e = .returned (.bool true) ∧ Hid (PF w g1 g2 w')) := Lib.hid fun W H => (found_any [sA, sC, sF] _ sC 1 true W H.out.2.1 (by decide) fdU1.1 fdU1.2).mono fun e w' h => ⟨h.1, Lib.hid (H.out.below h.2)⟩
  have HF2 : Hid (∀ W, Hid (PF w g1 g2 W) → Calls Tryd.prog 25 #[.slice (some ⟨g1, 0, none⟩) 3 3, .string ⟨#[100]⟩, .int .i64 0, .bool false] W fun e w' => e = .returned (.bool true) ∧ Hid (PF w g1 g2 w')) := Lib.hid fun W H => (found_any [sA, sC, sF] _ sD 0 false W H.out.2.1 (by decide) fdU2.1 fdU2.2).mono fun e w' h => ⟨h.1, Lib.hid (H.out.below h.2)⟩
  have HF3 : Hid (∀ W, Hid (PF w g1 g2 W) → Calls Tryd.prog 25 #[.slice (some ⟨g2, 0, none⟩) 3 3, .string ⟨#[99]⟩, .int .i64 0, .bool false] W fun e w' => e = .returned (.bool true) ∧ Hid (PF w g1 g2 w')) := Lib.hid fun W H => (found_any [sC, sA, sB] _ sC 0 false W H.out.2.2 (by decide) fdO1.1 fdO1.2).mono fun e w' h => ⟨h.1, Lib.hid (H.out.below h.2)⟩
  have HF4 : Hid (∀ W, Hid (PF w g1 g2 W) → Calls Tryd.prog 25 #[.slice (some ⟨g2, 0, none⟩) 3 3, .string ⟨#[98]⟩, .int .i64 2, .bool true] W fun e w' => e = .returned (.bool true) ∧ Hid (PF w g1 g2 w')) := Lib.hid fun W H => (found_any [sC, sA, sB] _ sB 2 true W H.out.2.2 (by decide) fdO2.1 fdO2.2).mono fun e w' h => ⟨h.1, Lib.hid (H.out.below h.2)⟩
  have HF5 : Hid (∀ W, Hid (PF w g1 g2 W) → Calls Tryd.prog 25 #[.slice (some ⟨g2, 0, none⟩) 3 3, .string ⟨#[97]⟩, .int .i64 0, .bool false] W fun e w' => e = .returned (.bool true) ∧ Hid (PF w g1 g2 w')) := Lib.hid fun W H => (found_any [sC, sA, sB] _ sA 0 false W H.out.2.2 (by decide) fdO3.1 fdO3.2).mono fun e w' h => ⟨h.1, Lib.hid (H.out.below h.2)⟩
  with_reducible refine (HF1.out _ HP0).mono ?_
  rintro e w4 ⟨rfl, HP1⟩
  go_wp2_with fail
  with_reducible refine (HF2.out _ HP1).mono ?_
  rintro e w5 ⟨rfl, HP2⟩
  go_wp2_with fail
  with_reducible refine (HF3.out _ HP2).mono ?_
  rintro e w6 ⟨rfl, HP3⟩
  go_wp2_with fail
  with_reducible refine (HF4.out _ HP3).mono ?_
  rintro e w7 ⟨rfl, HP4⟩
  go_wp2_with fail
  with_reducible refine (HF5.out _ HP4).mono ?_
  rintro e w8 ⟨rfl, HP5⟩
  have HB8 := Lib.hid HP5.out.1
  clear HP0 HP1 HP2 HP3 HP4 HP5 HF1 HF2 HF3 HF4 HF5
  go_wp2_with fail
  with_reducible refine (num_any 5 _).mono ?_
  rintro e w9 ⟨rfl, hb9⟩
  have A9 : Hid (Blk w9 w8.heap.size 9 #[.string ⟨#[98]⟩, .string ⟨#[97]⟩]) := Lib.hid ((Blk.new w8 _ _).below hb9 (by simp))
  have B9 : Hid (Below w.heap.size w w9) := Lib.hid (HB8.out.trans ((al hb9).mono HB8.out.size))
  clear hb9
  go_wp2_with fail
  with_reducible refine (num_any 1 _).mono ?_
  rintro e w10 ⟨rfl, hb10⟩
  have A10 := Lib.hid (A9.out.below (al hb10) A9.out.lt)
  have C10 : Hid (Blk w10 w9.heap.size 9 #[.string ⟨#[100]⟩, .string ⟨#[99]⟩]) := Lib.hid ((Blk.new w9 _ _).below hb10 (by simp))
  have B10 : Hid (Below w.heap.size w w10) := Lib.hid (B9.out.trans ((al hb10).mono B9.out.size))
  clear hb10 A9 B9
  go_wp2_with fail
  with_reducible refine (num_any 2 _).mono ?_
  rintro e w11 ⟨rfl, hb11⟩
  have A11 := Lib.hid (A10.out.below hb11 A10.out.lt)
  have C11 := Lib.hid (C10.out.below hb11 C10.out.lt)
  have B11 : Hid (Below w.heap.size w w11) := Lib.hid (B10.out.trans ((hb11).mono B10.out.size))
  clear hb11 A10 C10 B10
  go_wp2_with fail
  with_reducible refine (table_any _ _ _ _ _ _ _).mono ?_
  rintro e w12 ⟨rfl, hb12⟩
  have N12 : Hid (Nd w12 exI [.int .i64 17, .int .i64 0, .int .u64 0, .string ⟨#[]⟩, .slice (some ⟨w9.heap.size, 0, none⟩) 2 2, .slice (some ⟨w11.heap.size, 0, none⟩) 2 2]) :=
    Lib.hid ((nd_tab (rds_blk (C11.out.alloc _) rfl rfl (small1 (by decide)) (all_small (by decide))) rfl (Nat.le_refl _) (small1 (by decide)) (by simp) (two_row (Blk.new w11 _ _) (nd_num _ 1 (by decide) (by decide)) (nd_num _ 2 (by decide) (by decide)))).bel hb12)
  have A12 := Lib.hid (A11.out.below (al hb12) A11.out.lt)
  have B12 : Hid (Below w.heap.size w w12) := Lib.hid (B11.out.trans ((al hb12).mono B11.out.size))
  clear hb12 A11 C11 B11
  go_wp2_with fail
  with_reducible refine (table_any _ _ _ _ _ _ _).mono ?_
  rintro e w13 ⟨rfl, hb13⟩
  have N13 : Hid (Nd w13 exM [.int .i64 17, .int .i64 0, .int .u64 0, .string ⟨#[]⟩, .slice (some ⟨w8.heap.size, 0, none⟩) 2 2, .slice (some ⟨w12.heap.size, 0, none⟩) 2 2]) :=
    Lib.hid ((nd_tab (rds_blk (A12.out.alloc _) rfl rfl (small1 (by decide)) (all_small (by decide))) rfl (Nat.le_refl _) (small1 (by decide)) (by simp) (two_row (Blk.new w12 _ _) (nd_num _ 5 (by decide) (by decide)) (N12.out.bel (bel1 w12 _)))).bel hb13)
  have B13 : Hid (Below w.heap.size w w13) := Lib.hid (B12.out.trans ((al hb13).mono B12.out.size))
  clear hb13 A12 N12 B12
  go_wp2_with fail
  with_reducible refine (sorted_ok exV exW [.int .i64 10, .int .i64 0, .int .u64 0, .string ⟨#[]⟩, .slice none 0 0, .slice (some ⟨w13.heap.size, 0, none⟩) 1 1] _ ?d1 qqV chkV srtV ?d2).mono ?_
  case d1 => exact HT.out.keep (B13.out.trans ((bel1 w13 _).mono B13.out.size))
  case d2 => exact nd_vec rfl (Nat.le_refl _) (small1 (by decide)) (by simp) (one_row (Blk.new w13 _ _) (N13.out.bel (bel1 w13 _)))
  rintro e w14 ⟨k, n, u, s, A1, m1, c1, A2, m2, c2, rfl, HNW, HB14⟩
  have B14 : Hid (Below w.heap.size w w14) := Lib.hid (B13.out.trans ((al HB14.out).mono B13.out.size))
  clear HB14 N13 B13
  go_wp2_with fail
  obtain ⟨wB, hwB⟩ : ∃ wB, w14.alloc (.cells #[.int .i64 k, .int .i64 n, .int .u64 u, .string s, .slice A1 m1 c1, .slice A2 m2 c2] 31) = wB := ⟨_, rfl⟩
  rw [hwB]
  have HBB : Hid (Below w.heap.size w wB) := Lib.hid (by rw [← hwB]; exact B14.out.trans ((bel1 w14 _).mono B14.out.size))
  obtain ⟨bx, hbx⟩ : ∃ bx, w14.heap.size = bx := ⟨_, rfl⟩
  rw [hbx]
  have hBs : wB.heap.size = bx + 1 := by rw [← hwB, ← hbx]; simp
  have HBS := Lib.hid hBs
  clear hBs
  have X14 : Hid (Bx wB bx (.int .i64 k) (.int .i64 n) (.int .u64 u) (.string s) (.slice A1 m1 c1) (.slice A2 m2 c2)) := Lib.hid (by rw [← hwB, ← hbx]; exact Blk.new _ _ _)
  have Y14 : Hid (Nd wB exW [.int .i64 k, .int .i64 n, .int .u64 u, .string s, .slice A1 m1 c1, .slice A2 m2 c2]) := Lib.hid (by rw [← hwB]; exact HNW.out.bel (bel1 w14 _))
  clear hwB hbx B14 HNW
  with_reducible refine (num_any 5 _).mono ?_
  rintro e w15 ⟨rfl, hb15⟩
  have A15 : Hid (Blk w15 (bx + 1) 9 #[.string ⟨#[97]⟩, .string ⟨#[97]⟩]) := Lib.hid (by rw [← HBS.out]; exact (Blk.new wB _ _).below hb15 (by simp))
  have X15 := Lib.hid (X14.out.below (al hb15) X14.out.lt)
  have Y15 := Lib.hid (Y14.out.bel (al hb15))
  have B15 : Hid (Below w.heap.size w w15) := Lib.hid (HBB.out.trans ((al hb15).mono HBB.out.size))
  clear hb15 X14 Y14 HBB
  go_wp2_with fail
  with_reducible refine (num_any 5 _).mono ?_
  rintro e w16 ⟨rfl, hb16⟩
  have A16 := Lib.hid (A15.out.below hb16 A15.out.lt)
  have X16 := Lib.hid (X15.out.below (hb16) X15.out.lt)
  have Y16 := Lib.hid (Y15.out.bel (hb16))
  have B16 : Hid (Below w.heap.size w w16) := Lib.hid (B15.out.trans ((hb16).mono B15.out.size))
  clear hb16 A15 X15 Y15 B15
  go_wp2_with fail
  with_reducible refine (table_any _ _ _ _ _ _ _).mono ?_
  rintro e w17 ⟨rfl, hb17⟩
  have N17 : Hid (Nd w17 exA [.int .i64 17, .int .i64 0, .int .u64 0, .string ⟨#[]⟩, .slice (some ⟨bx + 1, 0, none⟩) 2 2, .slice (some ⟨w16.heap.size, 0, none⟩) 2 2]) :=
    Lib.hid ((nd_tab (rds_blk (A16.out.alloc _) rfl rfl (small1 (by decide)) (all_small (by decide))) rfl (Nat.le_refl _) (small1 (by decide)) (by simp) (two_row (Blk.new w16 _ _) (nd_num _ 5 (by decide) (by decide)) (nd_num _ 5 (by decide) (by decide)))).bel hb17)
  have X17 := Lib.hid (X16.out.below (al hb17) X16.out.lt)
  have Y17 := Lib.hid (Y16.out.bel (al hb17))
  have B17 : Hid (Below w.heap.size w w17) := Lib.hid (B16.out.trans ((al hb17).mono B16.out.size))
  clear hb17 A16 X16 Y16 B16
  go_wp2_with fail
  with_reducible refine (sorted_err exA 71 [.int .i64 17, .int .i64 0, .int .u64 0, .string ⟨#[]⟩, .slice (some ⟨bx + 1, 0, none⟩) 2 2, .slice (some ⟨w16.heap.size, 0, none⟩) 2 2] _ ?f1 qqA chkA ?f3 ?f2).mono ?_
  case f1 => exact HT.out.keep B17.out
  case f2 => exact N17.out
  case f3 => decide
  rintro e w18 ⟨rfl, HB18⟩
  have X18 := Lib.hid (X17.out.below (HB18.out) X17.out.lt)
  have Y18 := Lib.hid (Y17.out.bel (HB18.out))
  have B18 : Hid (Below w.heap.size w w18) := Lib.hid (B17.out.trans ((HB18.out).mono B17.out.size))
  clear HB18 N17 X17 Y17 B17
  go_wp2_with fail
  with_reducible refine (num_any 2 _).mono ?_
  rintro e w19 ⟨rfl, hb19⟩
  have D19 : Hid (Blk w19 (w18.heap.size + 1) 9 #[.string ⟨#[97]⟩, .string ⟨#[98]⟩]) := Lib.hid (((blk_new2 w18 _ _ _).alloc _).below hb19 (by simp))
  have E19 : Hid (Blk w19 (w18.heap.size + 1 + 1) 9 #[.string ⟨#[99]⟩, .string ⟨#[100]⟩]) := Lib.hid ((blk_new3 w18 _ _ _ _).below hb19 (by simp))
  have X19 := Lib.hid (X18.out.below (al (al (al hb19))) X18.out.lt)
  have Y19 := Lib.hid (Y18.out.bel (al (al (al hb19))))
  have B19 : Hid (Below w.heap.size w w19) := Lib.hid (B18.out.trans ((al (al (al hb19))).mono B18.out.size))
  clear hb19 X18 Y18 B18
  go_wp2_with fail
  with_reducible refine (num_any 1 _).mono ?_
  rintro e w20 ⟨rfl, hb20⟩
  have D20 := Lib.hid (D19.out.below (hb20) D19.out.lt)
  have E20 := Lib.hid (E19.out.below (hb20) E19.out.lt)
  have X20 := Lib.hid (X19.out.below (hb20) X19.out.lt)
  have Y20 := Lib.hid (Y19.out.bel (hb20))
  have B20 : Hid (Below w.heap.size w w20) := Lib.hid (B19.out.trans ((hb20).mono B19.out.size))
  clear hb20 D19 E19 X19 Y19 B19
  go_wp2_with fail
  with_reducible refine (table_any _ _ _ _ _ _ _).mono ?_
  rintro e w21 ⟨rfl, hb21⟩
  have N21 : Hid (Nd w21 (tabT [sC, sD] [numT 2, numT 1]) [.int .i64 17, .int .i64 0, .int .u64 0, .string ⟨#[]⟩, .slice (some ⟨w18.heap.size + 1 + 1, 0, none⟩) 2 2, .slice (some ⟨w20.heap.size, 0, none⟩) 2 2]) :=
    Lib.hid ((nd_tab (rds_blk (E20.out.alloc _) rfl rfl (small1 (by decide)) (all_small (by decide))) rfl (Nat.le_refl _) (small1 (by decide)) (by simp) (two_row (Blk.new w20 _ _) (nd_num _ 2 (by decide) (by decide)) (nd_num _ 1 (by decide) (by decide)))).bel hb21)
  have D21 := Lib.hid (D20.out.below (al hb21) D20.out.lt)
  have X21 := Lib.hid (X20.out.below (al hb21) X20.out.lt)
  have Y21 := Lib.hid (Y20.out.bel (al hb21))
  have B21 : Hid (Below w.heap.size w w21) := Lib.hid (B20.out.trans ((al hb21).mono B20.out.size))
  clear hb21 D20 E20 X20 Y20 B20
  go_wp2_with fail
  with_reducible refine (num_any 5 _).mono ?_
  rintro e w22 ⟨rfl, hb22⟩
  have N22 := Lib.hid (N21.out.bel hb22)
  have D22 := Lib.hid (D21.out.below (hb22) D21.out.lt)
  have X22 := Lib.hid (X21.out.below (hb22) X21.out.lt)
  have Y22 := Lib.hid (Y21.out.bel (hb22))
  have B22 : Hid (Below w.heap.size w w22) := Lib.hid (B21.out.trans ((hb22).mono B21.out.size))
  clear hb22 D21 N21 X21 Y21 B21
  go_wp2_with fail
  with_reducible refine (table_any _ _ _ _ _ _ _).mono ?_
  rintro e w23 ⟨rfl, hb23⟩
  have N23 : Hid (Nd w23 (tabT [sA, sB] [tabT [sC, sD] [numT 2, numT 1], numT 5]) [.int .i64 17, .int .i64 0, .int .u64 0, .string ⟨#[]⟩, .slice (some ⟨w18.heap.size + 1, 0, none⟩) 2 2, .slice (some ⟨w22.heap.size, 0, none⟩) 2 2]) :=
    Lib.hid ((nd_tab (rds_blk (D22.out.alloc _) rfl rfl (small1 (by decide)) (all_small (by decide))) rfl (Nat.le_refl _) (small1 (by decide)) (by simp) (two_row (Blk.new w22 _ _) (N22.out.bel (bel1 w22 _)) (nd_num _ 5 (by decide) (by decide)))).bel hb23)
  have X23 := Lib.hid (X22.out.below (al hb23) X22.out.lt)
  have Y23 := Lib.hid (Y22.out.bel (al hb23))
  have B23 : Hid (Below w.heap.size w w23) := Lib.hid (B22.out.trans ((al hb23).mono B22.out.size))
  clear hb23 D22 N22 X22 Y22 B22
  have X24 : Hid (Bx ((w23.alloc (.cells #[.int .i64 17, .int .i64 0, .int .u64 0, .string ⟨#[]⟩, .slice (some ⟨w18.heap.size + 1, 0, none⟩) 2 2, .slice (some ⟨w22.heap.size, 0, none⟩) 2 2] 31)).alloc (.cells #[.int .i64 10, .int .i64 0, .int .u64 0, .string ⟨#[]⟩, .slice none 0 0, .slice (some ⟨w23.heap.size, 0, none⟩) 1 1] 31)) bx (.int .i64 k) (.int .i64 n) (.int .u64 u) (.string s) (.slice A1 m1 c1) (.slice A2 m2 c2)) := Lib.hid (Blk.alloc (Blk.alloc X23.out _) _)
  obtain ⟨c0, c1', c2', c3, c4, c5⟩ := Bx.all X24.out
  go_wp2_with fail
  with_reducible refine (eq_same exW [.int .i64 k, .int .i64 n, .int .u64 u, .string s, .slice A1 m1 c1, .slice A2 m2 c2] [.int .i64 10, .int .i64 0, .int .u64 0, .string ⟨#[]⟩, .slice none 0 0, .slice (some ⟨w23.heap.size, 0, none⟩) 1 1] _ qqW ?h1 ?h2).mono ?_
  case h1 => exact Y23.out.bel (bel2 w23 _ _)
  case h2 => exact (nd_vec rfl (Nat.le_refl _) (small1 (by decide)) (by simp) (one_row (Blk.new w23 _ _) (N23.out.bel (bel1 w23 _)))).bel (bel1 _ _)
  rintro e w24 ⟨rfl, hb24⟩
  have B24 : Hid (Below w.heap.size w w24) := Lib.hid (B23.out.trans ((al (al hb24)).mono B23.out.size))
  clear hb24 c0 c1' c2' c3 c4 c5
  go_wp2_with fail
  go_ret
  exact ⟨rfl, B24.out⟩
end Go.Proofs.YtnplkamkeadlgaaDoor
