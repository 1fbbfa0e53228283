/-
  What is proved here: the walk of accordionlaw05.B64Gets; no condition.
-/
import Derived.Test.YtddgmpmfdgfcdaaRefGet
import Derived.Test.YtddgmpmfdgfcdaaWOnly
namespace Go.Proofs.Ytddgmpmfdgfcdaa
open Go.RowKit Bs

set_option maxHeartbeats 4000000 in
set_option maxRecDepth 1000000 in
theorem b64Gets_walk (a : ByteArray) (w : World) (ha : a.size ≤ 9223372036854775807) :
    Calls Try.prog 4 #[.string a] w fun e w' => e = .returned (.bool true) ∧ Below w.heap.size w w' := by
  obtain ⟨l, hl⟩ : ∃ l, a.data.toList.take 400 = l := ⟨_, rfl⟩
  have hll : l.length ≤ 400 := by rw [← hl, List.length_take]; omega
  have hS0 := Below.refl w.heap.size w
  obtain ⟨at_, hat⟩ : ∃ k : Nat, (dec l).2 = k := ⟨_, rfl⟩
  obtain ⟨er, her⟩ : ∃ z : Int, (if (dec l).1.isSome then (0 : Int) else 50) = z := ⟨_, rfl⟩
  obtain ⟨xs, hxs⟩ : ∃ xs, (dec l).1.getD [] = xs := ⟨_, rfl⟩
  have G := fun (W : World) (h : Below w.heap.size w W) => get_S (w0 := w) (w := W) (str l) l (str_data l) (by rw [str_size]; omega) h
  have R := fun (W : World) => refGet_any (str l) W (by rw [str_size]; omega)
  rw [str_data] at R
  unfold DR at R
  rw [hat, her, hxs] at G R
  have HG := Lib.hid G
  have HR := Lib.hid R
  have HL := Lib.hid hl
  have HA := Lib.hid ha
  have q1 : (((at_ : Nat) : Int) == ((at_ : Nat) : Int)) = true := beq_self_eq_true _
  have q2 : (er == er) = true := beq_self_eq_true _
  clear hl hll G R hat her hxs ha
  go_enter Try.func4, Try.ntmps4
  go_wp2_with (first
    | (go_at_call 16; (with_reducible refine (short_S (w0 := w) a 400 400 rfl HA.out (by assumption)).mono ?_); rintro e w1 ⟨rfl, hS1⟩; rw [HL.out])
    | (go_at_call 17; (with_reducible refine (HG.out _ (by assumption)).mono ?_); rintro e w2 ⟨v, rfl, ho, _, hS2⟩; have HV := Lib.hid (Rd.of_own ho); clear ho)
    | (go_at_call 18; (with_reducible refine (HR.out _).mono ?_); rintro e w3 ⟨v3, rfl, ho3, hb3⟩; have HV1 := Lib.hid (HV.out.below hb3); have HV3 := Lib.hid (Rd.of_own ho3); have hS3 := hS2.trans (hb3.mono hS2.size); clear ho3 hb3)
    | (go_at_call 14; (with_reducible refine (eqBytes_any _ _ xs xs _ HV1.out HV3.out).mono ?_); rintro e w4 ⟨rfl, rfl⟩; rw [beq_self_eq_true])
    | (go_at_call 15; refine (works_S (w0 := w) (by assumption)).mono ?_; rintro e w5 ⟨rfl, hS5⟩))
  go_ret
  exact ⟨rfl, by assumption⟩
end Go.Proofs.Ytddgmpmfdgfcdaa
