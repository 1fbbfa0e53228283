/-
  What is proved here: contracts of the law's own ordered and found; condition: lists that the form reads.
-/
import Derived.Test.YtpcfpikflkjmjaaDoorKRefO
import Derived.Test.YtpcfpikflkjmjaaDoorKOrdP
import Derived.Test.YtpcfpikflkjmjaaDoorKFindP
namespace Go.Proofs.YtpcfpikflkjmjaaDoor
open Go.RowKit Go.Sort Go.Shelf

theorem order_ok (l : List ByteArray) (v : Value) (q : List Nat) (w : World) (hl : RdS w v l) (hn : l.length ≤ 60000) (hq : SQ l q l.length) :
    Calls Tryd.prog 59 #[v] w fun e w' => ∃ v', e = .returned (.tuple #[v', .int .i64 0]) ∧ Hid (w'.ownsRow w.heap.size 3 1 v' l.length (nb q)) ∧ Hid (RowKit.Below w.heap.size w w') := by
  refine (order_any l v w hl (by omega)).mono ?_
  rintro e w' ⟨hb, ⟨_, hnd⟩ | ⟨v', p, rfl, hnd, hp, ho⟩⟩
  · exact absurd hq.nodup hnd
  · obtain rfl := hq.unique (hp.sq hnd)
    refine ⟨v', rfl, Lib.hid ?_, Lib.hid hb⟩
    have e : p.map (ix l.length) = nb (p.map Fin.val) := by simp [nb, bv]
    rw [← e]
    exact ho
theorem order_twice (l : List ByteArray) (v : Value) (w : World) (hl : RdS w v l) (hn : l.length ≤ 60000) (hq : ¬ l.Nodup) :
    Calls Tryd.prog 59 #[v] w fun e w' => e = .returned (.tuple #[.slice none 0 0, .int .i64 71]) ∧ Hid (RowKit.Below w.heap.size w w') := by
  refine (order_any l v w hl (by omega)).mono ?_
  rintro e w' ⟨hb, ⟨rfl, _⟩ | ⟨v', p, _, hnd, _⟩⟩
  · exact ⟨rfl, Lib.hid hb⟩
  · exact absurd hnd hq
set_option maxRecDepth 100000 in
set_option maxHeartbeats 2000000 in
theorem ordered_ok (l : List ByteArray) (v wv : Value) (q : List Nat) (w : World) (hl : RdS w v l) (hn : l.length ≤ 60000) (hq : SQ l q l.length) (hw : Rd w wv (q.map Int.ofNat)) :
    Calls Tryd.prog 50 #[v, .int .i64 0, wv] w fun e w' => e = .returned (.bool true) ∧ RowKit.Below w.heap.size w w' := by
  have HO := Lib.hid (order_ok l v q w hl hn hq)
  have HW := Lib.hid hw
  have HL : Hid ((q.map Int.ofNat).length ≤ 60000) := Lib.hid (by rw [List.length_map, hq.length]; exact hn)
  clear hl hn hq hw
  go_enter Tryd.func50, Tryd.ntmps50
  go_wp2_with (first
    | (go_at_call 59; refine HO.out.mono ?_; rintro e w1 ⟨v', rfl, HR, HB⟩)
    | (go_at_call 63; refine (eqInts_same _ _ (q.map Int.ofNat) w1 (Rd.of_own HR.out) (HW.out.below HB.out) HL.out).mono ?_; rintro e w2 ⟨rfl, hb2⟩))
  go_ret
  exact ⟨rfl, HB.out.trans (hb2.mono HB.out.size)⟩
set_option maxRecDepth 100000 in
set_option maxHeartbeats 2000000 in
theorem ordered_twice (l : List ByteArray) (v : Value) (w : World) (hl : RdS w v l) (hn : l.length ≤ 60000) (hq : ¬ l.Nodup) :
    Calls Tryd.prog 50 #[v, .int .i64 71, .slice none 0 0] w fun e w' => e = .returned (.bool true) ∧ RowKit.Below w.heap.size w w' := by
  have HO := Lib.hid (order_twice l v w hl hn hq)
  clear hl hn hq
  go_enter Tryd.func50, Tryd.ntmps50
  go_wp2_with (first
    | (go_at_call 59; refine HO.out.mono ?_; rintro e w1 ⟨rfl, HB⟩)
    | (go_at_call 63; refine (eqInts_same _ _ [] w1 (Rd.nil _ _ _) (Rd.nil _ _ _) (by simp)).mono ?_; rintro e w2 ⟨rfl, hb2⟩))
  go_ret
  exact ⟨rfl, HB.out.trans (hb2.mono HB.out.size)⟩
set_option maxRecDepth 100000 in
set_option maxHeartbeats 2000000 in
theorem found_any (l : List ByteArray) (v : Value) (k : ByteArray) (n : Nat) (b : Bool) (w : World) (hl : RdS w v l) (hn : l.length ≤ 60000) (h1 : fdN l k = n) (h2 : fdB l k = b) :
    Calls Tryd.prog 51 #[v, .string k, .int .i64 (n : Int), .bool b] w fun e w' => e = .returned (.bool true) ∧ RowKit.Below w.heap.size w w' := by
  have HF := find_any l v k w hl (by omega)
  rw [h1, h2] at HF
  have HO := Lib.hid HF
  clear hl hn h1 h2 HF
  go_enter Tryd.func51, Tryd.ntmps51
  cases b <;>
  · go_wp2_with (first | (go_at_call 64; refine HO.out.mono ?_; rintro e w1 ⟨rfl, hb2⟩))
    go_ret
    exact ⟨by simp, hb2⟩
end Go.Proofs.YtpcfpikflkjmjaaDoor
