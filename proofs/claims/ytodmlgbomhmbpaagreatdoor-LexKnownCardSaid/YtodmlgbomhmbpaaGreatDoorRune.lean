/-
  What is proved here: utf8.AppendRune onto an own row of bytes at every scalar value, with the place of the new row; conditions: those that each fact states.
-/
import Derived.Test.YtodmlgbomhmbpaaGreatDoorMem
namespace Go.Proofs.YtodmlgbomhmbpaaGreatDoor
open Go.RowKit Ut

theorem u8_of (n : Nat) (h : n < 256) : ((UInt8.ofNat n).toNat : Int) = n := by
  rw [UInt8.toNat_ofNat']
  omega
theorem bv_ascii {r : Nat} (hr : r < 128) : bv (enc r) = [.int .u8 ((r : Int))] := by
  have e : encN r = [r] := by
    unfold encN
    rw [if_pos (by omega)]
  unfold bv enc
  rw [e]
  simp only [List.map_cons, List.map_nil]
  rw [u8_of (r) (by omega)]
  try simp only [Int.natCast_add, Int.natCast_ediv, Int.natCast_emod, Int.cast_ofNat_Int]
theorem bv_two {r : Nat} (hr : 128 ≤ r ∧ r < 2048) : bv (enc r) = [.int .u8 (192 + (r : Int) / 64), .int .u8 (128 + (r : Int) % 64)] := by
  have e : encN r = [192 + r / 64, 128 + r % 64] := by
    unfold encN
    rw [if_neg (by omega), if_pos (by omega)]
  unfold bv enc
  rw [e]
  simp only [List.map_cons, List.map_nil]
  rw [u8_of (192 + r / 64) (by omega), u8_of (128 + r % 64) (by omega)]
  try simp only [Int.natCast_add, Int.natCast_ediv, Int.natCast_emod, Int.cast_ofNat_Int]
theorem bv_three {r : Nat} (hr : 2048 ≤ r ∧ r < 55296 ∨ 57343 < r ∧ r < 65536) : bv (enc r) = [.int .u8 (224 + (r : Int) / 4096), .int .u8 (128 + (r : Int) / 64 % 64), .int .u8 (128 + (r : Int) % 64)] := by
  have e : encN r = [224 + r / 4096, 128 + r / 64 % 64, 128 + r % 64] := by
    unfold encN
    rw [if_neg (by omega), if_neg (by omega), if_pos (by omega)]
  unfold bv enc
  rw [e]
  simp only [List.map_cons, List.map_nil]
  rw [u8_of (224 + r / 4096) (by omega), u8_of (128 + r / 64 % 64) (by omega), u8_of (128 + r % 64) (by omega)]
  try simp only [Int.natCast_add, Int.natCast_ediv, Int.natCast_emod, Int.cast_ofNat_Int]
theorem bv_four {r : Nat} (hr : 65536 ≤ r ∧ r ≤ 1114111) : bv (enc r) = [.int .u8 (240 + (r : Int) / 262144), .int .u8 (128 + (r : Int) / 4096 % 64), .int .u8 (128 + (r : Int) / 64 % 64), .int .u8 (128 + (r : Int) % 64)] := by
  have e : encN r = [240 + r / 262144, 128 + r / 4096 % 64, 128 + r / 64 % 64, 128 + r % 64] := by
    unfold encN
    rw [if_neg (by omega), if_neg (by omega), if_neg (by omega)]
  unfold bv enc
  rw [e]
  simp only [List.map_cons, List.map_nil]
  rw [u8_of (240 + r / 262144) (by omega), u8_of (128 + r / 4096 % 64) (by omega), u8_of (128 + r / 64 % 64) (by omega), u8_of (128 + r % 64) (by omega)]
  try simp only [Int.natCast_add, Int.natCast_ediv, Int.natCast_emod, Int.cast_ofNat_Int]
set_option maxHeartbeats 1000000 in
set_option maxRecDepth 1000000 in
theorem append_one (B : Nat) (v : Value) (xs : List UInt8) (r : Nat) (hr : r < 128) (w : World) (hown : Own w B v xs) (hlen : xs.length ≤ 900000) (hB : B ≤ w.heap.size) :
    Calls Tryz.prog 89 #[v, .int .i32 (r : Int)] w fun e w' => ∃ v', e = .returned v' ∧ Own w' B v' (xs ++ enc r) ∧ Gr w w' v v' := by
  have hbv := bv_ascii hr
  have hel := enc_len r
  have hl : (enc r).length = 1 := by have := congrArg List.length hbv; rwa [bv_length] at this
  have hsrc : ∀ j u, (bv (enc r))[j]? = some u → (w.alloc (.cells #[.int .u8 ((r : Int))] 5)).cell? ((⟨w.heap.size, 0, none⟩ : Addr).add j) = some u := by
    intro j u hj
    rw [hbv] at hj
    match j, hj with
    | 0, hj => simp at hj; subst hj; simp [Addr.add]
    | (j + 1), hj => simp at hj
  have hsz : B ≤ (w.alloc (.cells #[.int .u8 ((r : Int))] 5)).heap.size := by simp; omega
  have HB := Lib.hid hbv
  have HL := Lib.hid hl
  have HS := Lib.hid hsrc
  clear hbv hl hsrc
  go_enter Tryz.func89, Tryz.ntmps89
  go_wp2_with (at_builtin; refine wpList_app (B := B) (ys := enc r) (v := v) rfl (.tmp 8) (.tmp 11) rfl rfl rfl (HL.out.symm) (hown.alloc _) HS.out (by omega) hsz ?_)
  intro v' w2 hown' hgrow
  go_wp2
  go_ret
  exact ⟨_, rfl, hown', hgrow.alloc⟩
set_option maxHeartbeats 1000000 in
set_option maxRecDepth 1000000 in
theorem non_two (B : Nat) (v : Value) (xs : List UInt8) (r : Nat) (hr : 128 ≤ r ∧ r < 2048) (w : World) (hown : Own w B v xs) (hlen : xs.length ≤ 900000) (hB : B ≤ w.heap.size) :
    Calls Tryz.prog 92 #[v, .int .i32 (r : Int)] w fun e w' => ∃ v', e = .returned v' ∧ Own w' B v' (xs ++ enc r) ∧ Gr w w' v v' := by
  have hbv := bv_two hr
  have hel := enc_len r
  have hl : (enc r).length = 2 := by have := congrArg List.length hbv; rwa [bv_length] at this
  have hsrc : ∀ j u, (bv (enc r))[j]? = some u → (w.alloc (.cells #[.int .u8 (192 + (r : Int) / 64), .int .u8 (128 + (r : Int) % 64)] 5)).cell? ((⟨w.heap.size, 0, none⟩ : Addr).add j) = some u := by
    intro j u hj
    rw [hbv] at hj
    match j, hj with
    | 0, hj => simp at hj; subst hj; simp [Addr.add]
    | 1, hj => simp at hj; subst hj; simp [Addr.add]
    | (j + 2), hj => simp at hj
  have hsz : B ≤ (w.alloc (.cells #[.int .u8 (192 + (r : Int) / 64), .int .u8 (128 + (r : Int) % 64)] 5)).heap.size := by simp; omega
  have HB := Lib.hid hbv
  have HL := Lib.hid hl
  have HS := Lib.hid hsrc
  clear hbv hl hsrc
  obtain ⟨hr1, hr2⟩ := hr
  go_enter Tryz.func92, Tryz.ntmps92
  go_wp2_with (at_builtin; refine wpList_app (B := B) (ys := enc r) (v := v) rfl (.tmp 14) (.tmp 23) rfl rfl rfl (HL.out.symm) (hown.alloc _) HS.out (by omega) hsz ?_)
  intro v' w2 hown' hgrow
  go_wp2
  go_ret
  exact ⟨_, rfl, hown', hgrow.alloc⟩
set_option maxHeartbeats 1000000 in
set_option maxRecDepth 1000000 in
theorem non_three (B : Nat) (v : Value) (xs : List UInt8) (r : Nat) (hr : 2048 ≤ r ∧ r < 55296 ∨ 57343 < r ∧ r < 65536) (w : World) (hown : Own w B v xs) (hlen : xs.length ≤ 900000) (hB : B ≤ w.heap.size) :
    Calls Tryz.prog 92 #[v, .int .i32 (r : Int)] w fun e w' => ∃ v', e = .returned v' ∧ Own w' B v' (xs ++ enc r) ∧ Gr w w' v v' := by
  have hbv := bv_three hr
  have hel := enc_len r
  have hl : (enc r).length = 3 := by have := congrArg List.length hbv; rwa [bv_length] at this
  have hsrc : ∀ j u, (bv (enc r))[j]? = some u → (w.alloc (.cells #[.int .u8 (224 + (r : Int) / 4096), .int .u8 (128 + (r : Int) / 64 % 64), .int .u8 (128 + (r : Int) % 64)] 5)).cell? ((⟨w.heap.size, 0, none⟩ : Addr).add j) = some u := by
    intro j u hj
    rw [hbv] at hj
    match j, hj with
    | 0, hj => simp at hj; subst hj; simp [Addr.add]
    | 1, hj => simp at hj; subst hj; simp [Addr.add]
    | 2, hj => simp at hj; subst hj; simp [Addr.add]
    | (j + 3), hj => simp at hj
  have hsz : B ≤ (w.alloc (.cells #[.int .u8 (224 + (r : Int) / 4096), .int .u8 (128 + (r : Int) / 64 % 64), .int .u8 (128 + (r : Int) % 64)] 5)).heap.size := by simp; omega
  have HB := Lib.hid hbv
  have HL := Lib.hid hl
  have HS := Lib.hid hsrc
  clear hbv hl hsrc
  rcases hr with ⟨hr1, hr2⟩ | ⟨hr1, hr2⟩
  all_goals
   go_enter Tryz.func92, Tryz.ntmps92
   go_wp2_with (at_builtin; refine wpList_app (B := B) (ys := enc r) (v := v) rfl (.tmp 34) (.tmp 48) rfl rfl rfl (HL.out.symm) (hown.alloc _) HS.out (by omega) hsz ?_)
   intro v' w2 hown' hgrow
   go_wp2
   go_ret
   exact ⟨_, rfl, hown', hgrow.alloc⟩
set_option maxHeartbeats 1000000 in
set_option maxRecDepth 1000000 in
theorem non_four (B : Nat) (v : Value) (xs : List UInt8) (r : Nat) (hr : 65536 ≤ r ∧ r ≤ 1114111) (w : World) (hown : Own w B v xs) (hlen : xs.length ≤ 900000) (hB : B ≤ w.heap.size) :
    Calls Tryz.prog 92 #[v, .int .i32 (r : Int)] w fun e w' => ∃ v', e = .returned v' ∧ Own w' B v' (xs ++ enc r) ∧ Gr w w' v v' := by
  have hbv := bv_four hr
  have hel := enc_len r
  have hl : (enc r).length = 4 := by have := congrArg List.length hbv; rwa [bv_length] at this
  have hsrc : ∀ j u, (bv (enc r))[j]? = some u → (w.alloc (.cells #[.int .u8 (240 + (r : Int) / 262144), .int .u8 (128 + (r : Int) / 4096 % 64), .int .u8 (128 + (r : Int) / 64 % 64), .int .u8 (128 + (r : Int) % 64)] 5)).cell? ((⟨w.heap.size, 0, none⟩ : Addr).add j) = some u := by
    intro j u hj
    rw [hbv] at hj
    match j, hj with
    | 0, hj => simp at hj; subst hj; simp [Addr.add]
    | 1, hj => simp at hj; subst hj; simp [Addr.add]
    | 2, hj => simp at hj; subst hj; simp [Addr.add]
    | 3, hj => simp at hj; subst hj; simp [Addr.add]
    | (j + 4), hj => simp at hj
  have hsz : B ≤ (w.alloc (.cells #[.int .u8 (240 + (r : Int) / 262144), .int .u8 (128 + (r : Int) / 4096 % 64), .int .u8 (128 + (r : Int) / 64 % 64), .int .u8 (128 + (r : Int) % 64)] 5)).heap.size := by simp; omega
  have HB := Lib.hid hbv
  have HL := Lib.hid hl
  have HS := Lib.hid hsrc
  clear hbv hl hsrc
  obtain ⟨hr1, hr2⟩ := hr
  go_enter Tryz.func92, Tryz.ntmps92
  go_wp2_with (at_builtin; refine wpList_app (B := B) (ys := enc r) (v := v) rfl (.tmp 57) (.tmp 76) rfl rfl rfl (HL.out.symm) (hown.alloc _) HS.out (by omega) hsz ?_)
  intro v' w2 hown' hgrow
  go_wp2
  go_ret
  exact ⟨_, rfl, hown', hgrow.alloc⟩
theorem non_any (B : Nat) (v : Value) (xs : List UInt8) (r : Nat) (hs : scal r) (hr : 128 ≤ r) (w : World) (hown : Own w B v xs) (hlen : xs.length ≤ 900000) (hB : B ≤ w.heap.size) :
    Calls Tryz.prog 92 #[v, .int .i32 (r : Int)] w fun e w' => ∃ v', e = .returned v' ∧ Own w' B v' (xs ++ enc r) ∧ Gr w w' v v' := by
  unfold scal at hs
  by_cases h1 : r < 2048
  · exact non_two B v xs r ⟨hr, h1⟩ w hown hlen hB
  · by_cases h2 : r < 65536
    · exact non_three B v xs r (by omega) w hown hlen hB
    · exact non_four B v xs r ⟨by omega, hs.1⟩ w hown hlen hB
def AppE (w : World) (B : Nat) (v : Value) (xs : List UInt8) (r : Nat) (e : Ending) (w' : World) : Prop := ∃ v', e = .returned v' ∧ Own w' B v' (xs ++ enc r) ∧ Gr w w' v v'
theorem appendRune_any (B : Nat) (v : Value) (xs : List UInt8) (r : Nat) (hs : scal r) (w : World) (hown : Own w B v xs) (hlen : xs.length ≤ 900000) (hB : B ≤ w.heap.size) :
    Calls Tryz.prog 89 #[v, .int .i32 (r : Int)] w (AppE w B v xs r) := by
  by_cases h : r < 128
  · exact append_one B v xs r h w hown hlen hB
  · have C := non_any B v xs r hs (by omega) w hown hlen hB
    have h1 : 128 ≤ r := by omega
    have h2 := hs.1
    have HC := Lib.hid C
    clear C hown hlen hB
    go_enter Tryz.func89, Tryz.ntmps89
    go_wp2_with (go_at_call 92; refine HC.out.mono ?_; rintro e w1 ⟨v', rfl, h3, h4⟩)
    go_ret
    exact ⟨v', rfl, h3, h4⟩
end Go.Proofs.YtodmlgbomhmbpaaGreatDoor
