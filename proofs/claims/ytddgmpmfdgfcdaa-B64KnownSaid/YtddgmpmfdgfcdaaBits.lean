/-
  What is proved here: contracts of strings.IndexByte at the alphabet and of b64.getBits; no condition but those that each fact states.
-/
import Derived.Test.YtddgmpmfdgfcdaaMem
namespace Go.Proofs.Ytddgmpmfdgfcdaa
open Go.RowKit Bs

def alphaS : ByteArray := ⟨#[65, 66, 67, 68, 69, 70, 71, 72, 73, 74, 75, 76, 77, 78, 79, 80, 81, 82, 83, 84, 85, 86, 87, 88, 89, 90, 97, 98, 99, 100, 101, 102, 103, 104, 105, 106, 107, 108, 109, 110, 111, 112, 113, 114, 115, 116, 117, 118, 119, 120, 121, 122, 48, 49, 50, 51, 52, 53, 54, 55, 56, 57, 43, 47]⟩
def orI : Option Nat → Int
  | none => -1
  | some v => (v : Int)
def orN : Option Nat → Nat
  | none => 255
  | some v => v
def nuI (c : UInt8) : Int := orI (nu c)
theorem nuN_lt {c v : Nat} (h : nuN c = some v) : v < 64 := by
  unfold nuN at h
  repeat' split at h
  all_goals first | (injection h with h; omega) | cases h
def alphaN : List Nat := [65, 66, 67, 68, 69, 70, 71, 72, 73, 74, 75, 76, 77, 78, 79, 80, 81, 82, 83, 84, 85, 86, 87, 88, 89, 90, 97, 98, 99, 100, 101, 102, 103, 104, 105, 106, 107, 108, 109, 110, 111, 112, 113, 114, 115, 116, 117, 118, 119, 120, 121, 122, 48, 49, 50, 51, 52, 53, 54, 55, 56, 57, 43, 47]
theorem alpha_list : alphaS.data.toList = alphaN.map UInt8.ofNat := by decide +kernel
/-- Where a number stands in a list, k added; 255 if nowhere. -/
def idxN : List Nat → Nat → Nat → Nat
  | [], _, _ => 255
  | x :: l, c, k => bif Nat.beq x c then k else idxN l c (k + 1)
theorem idxN_all : ∀ n : Fin 256, idxN alphaN n.val 0 = orN (nuN n.val) := by decide +kernel
theorem alphaN_lt : ∀ x ∈ alphaN, x < 256 := by decide
theorem idxN_ge : ∀ (l : List Nat) (c k : Nat), k ≤ idxN l c k ∨ idxN l c k = 255
  | [], _, _ => .inr rfl
  | x :: l, c, k => by
    unfold idxN
    cases Nat.beq x c with
    | true => exact .inl (Nat.le_refl _)
    | false =>
      rcases idxN_ge l c (k + 1) with h | h
      · exact .inl (by simp only [cond_false]; omega)
      · exact .inr (by simpa using h)
theorem idx_gen : ∀ (l : List Nat) (c k : Nat), (∀ x ∈ l, x < 256) → c < 256 → k + l.length < 255 →
    Lib.indexByte (l.map UInt8.ofNat) (UInt8.ofNat c) = if idxN l c k = 255 then -1 else (idxN l c k : Int) - k
  | [], _, _, _, _, _ => by simp [Lib.indexByte, idxN]
  | x :: l, c, k, hl, hc, hk => by
    have ih := idx_gen l c (k + 1) (fun y hy => hl y (List.mem_cons_of_mem _ hy)) hc (by simp only [List.length_cons] at hk; omega)
    have hx := hl x (List.mem_cons_self ..)
    have e : (UInt8.ofNat x = UInt8.ofNat c) ↔ x = c := by
      constructor
      · intro h
        have := congrArg UInt8.toNat h
        rwa [tn hx, tn hc] at this
      · rintro rfl; rfl
    have g := idxN_ge l c (k + 1)
    simp only [List.map_cons, Lib.indexByte, idxN, ih]
    by_cases hxc : x = c
    · have hb : Nat.beq x c = true := by rw [hxc]; exact Nat.beq_refl c
      simp [hxc, Nat.beq_refl]
      omega
    · have hb : Nat.beq x c = false := by
        cases hb : Nat.beq x c with
        | false => rfl
        | true => exact absurd (Nat.eq_of_beq_eq_true hb) hxc
      simp only [hb, cond_false]
      by_cases h255 : idxN l c (k + 1) = 255
      · simp [h255, hxc, e]
      · simp [h255, hxc, e]
        omega
theorem idx_fin {X : Int} {r : Nat} {o : Option Nat} (h : X = if r = 255 then -1 else (r : Int) - (0 : Nat)) (h2 : r = orN o) (hv : ∀ v, o = some v → v < 64) : X = orI o := by
  subst h2
  rw [h]
  cases o with
  | none => rfl
  | some v =>
    have := hv v rfl
    show (if v = 255 then -1 else (v : Int) - (0 : Nat)) = (v : Int)
    rw [if_neg (by omega)]
    simp
theorem idx_one (c : Nat) (hc : c < 256) : Lib.indexByte (alphaN.map UInt8.ofNat) (UInt8.ofNat c) = orI (nuN c) :=
  idx_fin (idx_gen alphaN c 0 alphaN_lt hc (by decide)) (idxN_all ⟨c, hc⟩) (fun v hv => nuN_lt hv)
theorem idx_c (c : UInt8) : UInt8.ofNat c.toNat = c := UInt8.ofNat_toNat
theorem idx_l (l : List UInt8) (h : l = alphaN.map UInt8.ofNat) (c : Nat) (hc : c < 256) : Lib.indexByte l (UInt8.ofNat c) = orI (nuN c) := by
  subst h
  exact idx_one c hc
theorem idx_nu (c : UInt8) : Lib.indexByte alphaS.data.toList c = nuI c := by
  have h := idx_l alphaS.data.toList alpha_list c.toNat (lt256 c)
  rw [idx_c] at h
  exact h
theorem u8_back (c : UInt8) : ((c.toNat : Int)).toNat.toUInt8 = c := by simp
theorem index_any (c : UInt8) (w : World) : Calls Try.prog 36 #[.string alphaS, .int .u8 (c.toNat : Int)] w fun e w' => e = .returned (.int .i64 (nuI c)) ∧ w = w' := by
  refine (Try.strings_IndexByte alphaS (c.toNat : Int) w).mono ?_
  rintro e w' ⟨h, rfl⟩
  rw [u8_back, idx_nu] at h
  exact ⟨h, rfl⟩

/-- The numbers of the characters at the start, k at most. -/
def pre : Nat → List UInt8 → List Nat
  | 0, _ => []
  | _, [] => []
  | k + 1, c :: l => match nu c with
    | none => []
    | some v => v :: pre k l
theorem pre_len : ∀ (k : Nat) (l : List UInt8), (pre k l).length ≤ k ∧ (pre k l).length ≤ l.length
  | 0, l => by simp [pre]
  | k + 1, [] => by simp [pre]
  | k + 1, c :: l => by
    have := pre_len k l
    unfold pre
    cases nu c with
    | none => simp
    | some v => simp only [List.length_cons]; omega
theorem pre_at : ∀ (k : Nat) (l : List UInt8) (j : Nat), j < (pre k l).length → nu (l.getD j 0) = some ((pre k l).getD j 0)
  | 0, l, j, h => by simp [pre] at h
  | k + 1, [], j, h => by simp [pre] at h
  | k + 1, c :: l, j, h => by
    have ih := pre_at k l
    unfold pre at h ⊢
    cases hc : nu c with
    | none => simp [hc] at h
    | some v =>
      rw [hc] at h
      cases j with
      | zero => simpa using hc
      | succ j =>
        have := ih j (by simpa using h)
        simpa using this
theorem pre_end : ∀ (k : Nat) (l : List UInt8), (pre k l).length < k → (pre k l).length < l.length → nu (l.getD (pre k l).length 0) = none
  | 0, l, h, _ => by simp [pre] at h
  | k + 1, [], _, h => by simp [pre] at h
  | k + 1, c :: l, h, h2 => by
    have ih := pre_end k l
    unfold pre at h h2 ⊢
    cases hc : nu c with
    | none => simpa using hc
    | some v =>
      rw [hc] at h h2
      have := ih (by simpa using h) (by simpa using h2)
      simpa using this
/-- The bits of up to four numbers at the top of 32. -/
def bts (vs : List Nat) : Nat := vs.getD 0 0 * 67108864 + vs.getD 1 0 * 1048576 + vs.getD 2 0 * 16384 + vs.getD 3 0 * 256
theorem pre_lt (k : Nat) (l : List UInt8) (j : Nat) : (pre k l).getD j 0 < 64 := by
  rcases Nat.lt_or_ge j (pre k l).length with h | h
  · exact nu_lt (pre_at k l j h)
  · rw [List.getD_eq_getElem?_getD, List.getElem?_eq_none h]; decide
theorem take_getD (vs : List Nat) (k j : Nat) : (vs.take k).getD j 0 = if j < k then vs.getD j 0 else 0 := by
  rw [List.getD_eq_getElem?_getD, List.getElem?_take]
  split <;> simp [List.getD_eq_getElem?_getD]
theorem or_hi (a v k : Nat) (h : v < 64) (m : Nat) (ha : a = m * 2 ^ (k + 6)) : a ||| (v * 2 ^ k) = a + v * 2 ^ k := by
  subst ha
  have h2 : v * 2 ^ k < 2 ^ (k + 6) := by
    rw [Nat.pow_add, Nat.mul_comm (2 ^ k)]
    exact Nat.mul_lt_mul_of_pos_right (by omega) (Nat.pow_pos (by omega))
  rw [Nat.mul_comm m, ← Nat.two_pow_add_eq_or_of_lt h2]

theorem take_in {vs : List Nat} {k j : Nat} (h : j < k) : (vs.take k).getD j 0 = vs.getD j 0 := by rw [take_getD, if_pos h]
theorem take_out {vs : List Nat} {k j : Nat} (h : k ≤ j) : (vs.take k).getD j 0 = 0 := by rw [take_getD, if_neg (by omega)]
theorem sum1 (a : Nat) : a * 67108864 + 0 * 1048576 + 0 * 16384 + 0 * 256 = a * 67108864 := by omega
theorem sum2 (a b : Nat) : a * 67108864 + b * 1048576 + 0 * 16384 + 0 * 256 = a * 67108864 + b * 1048576 := by omega
theorem sum3 (a b c : Nat) : a * 67108864 + b * 1048576 + c * 16384 + 0 * 256 = a * 67108864 + b * 1048576 + c * 16384 := by omega
theorem bts_t1 (vs : List Nat) : bts (vs.take 1) = vs.getD 0 0 * 67108864 := by
  unfold bts
  rw [take_in (by decide), take_out (by decide), take_out (by decide), take_out (by decide), sum1]
theorem bts_t2 (vs : List Nat) : bts (vs.take 2) = vs.getD 0 0 * 67108864 + vs.getD 1 0 * 1048576 := by
  unfold bts
  rw [take_in (by decide), take_in (by decide), take_out (by decide), take_out (by decide), sum2]
theorem bts_t3 (vs : List Nat) : bts (vs.take 3) = vs.getD 0 0 * 67108864 + vs.getD 1 0 * 1048576 + vs.getD 2 0 * 16384 := by
  unfold bts
  rw [take_in (by decide), take_in (by decide), take_in (by decide), take_out (by decide), sum3]
theorem bts_t4 (vs : List Nat) : bts (vs.take 4) = vs.getD 0 0 * 67108864 + vs.getD 1 0 * 1048576 + vs.getD 2 0 * 16384 + vs.getD 3 0 * 256 := by
  unfold bts
  rw [take_in (by decide), take_in (by decide), take_in (by decide), take_in (by decide)]
theorem bts_t0 (vs : List Nat) : bts (vs.take 0) = 0 := by
  unfold bts
  rw [take_out (by decide), take_out (by decide), take_out (by decide), take_out (by decide)]
theorem bts_0 (vs : List Nat) : Value.int .u32 0 = Value.int .u32 (bts (vs.take 0) : Nat) := by rw [bts_t0]; rfl
theorem bits_key {B v j m n p q : Nat} (hp : 2 ^ j = p) (hq : 2 ^ (j + 6) = q) (h : v < 64) (hm : B = m * q) (hlt : B + v * p < 4294967296) (he : n = B + v * p) :
    Go.bits .or .u32 (B : Int) ((v : Int) * 2 ^ j % 4294967296) = (n : Int) := by
  subst hp hq
  rw [he, ← or_hi B v j h m hm]
  have e1 : ((v : Int) * 2 ^ j) = ((v * 2 ^ j : Nat) : Int) := by simp
  generalize v * 2 ^ j = x at e1 hlt ⊢
  have e2 : (x : Int) % 4294967296 = (x : Int) := by omega
  rw [e1, e2, u32_or_nat _ _ (by omega) (by omega)]
theorem lt0 {v : Nat} (h : v < 64) : 0 + v * 67108864 < 4294967296 := by omega
theorem lt1 {a B v : Nat} (ha : a < 64) (hB : a * 67108864 = B) (h : v < 64) : B + v * 1048576 < 4294967296 := by subst hB; omega
theorem lt2 {a b B v : Nat} (ha : a < 64) (hb : b < 64) (hB : a * 67108864 + b * 1048576 = B) (h : v < 64) : B + v * 16384 < 4294967296 := by subst hB; omega
theorem lt3 {a b c B v : Nat} (ha : a < 64) (hb : b < 64) (hc : c < 64) (hB : a * 67108864 + b * 1048576 + c * 16384 = B) (h : v < 64) : B + v * 256 < 4294967296 := by subst hB; omega
theorem m2 {a b B : Nat} (hB : a * 67108864 + b * 1048576 = B) : B = (a * 64 + b) * 1048576 := by rw [← hB]; omega
theorem m3 {a b c B : Nat} (hB : a * 67108864 + b * 1048576 + c * 16384 = B) : B = (a * 4096 + b * 64 + c) * 16384 := by rw [← hB]; omega
theorem bits_round {B v k : Nat} {vs : List Nat} (hB : bts (vs.take k) = B) (hv : vs.getD k 0 = v) (h : v < 64) (hk : k < 4) (ha : ∀ j, vs.getD j 0 < 64) :
    Go.bits .or .u32 (B : Int) ((v : Int) * 2 ^ (26 - 6 * k) % 4294967296) = ((bts (vs.take (k + 1)) : Nat) : Int) := by
  have h0 := ha 0
  have h1 := ha 1
  have h2 := ha 2
  have hk' : k = 0 ∨ k = 1 ∨ k = 2 ∨ k = 3 := by omega
  rcases hk' with rfl | rfl | rfl | rfl
  · rw [bts_t0] at hB
    subst hB
    rw [show 26 - 6 * 0 = 26 by decide, show 0 + 1 = 1 by decide, bts_t1, hv]
    exact bits_key (j := 26) (m := 0) (p := 67108864) (q := 4294967296) (by decide) (by decide) h rfl (lt0 h) (by rw [Nat.zero_add])
  · rw [bts_t1] at hB
    rw [show 26 - 6 * 1 = 20 by decide, show 1 + 1 = 2 by decide, bts_t2, hv]
    exact bits_key (j := 20) (m := vs.getD 0 0) (p := 1048576) (q := 67108864) (by decide) (by decide) h hB.symm (lt1 h0 hB h) (by rw [hB])
  · rw [bts_t2] at hB
    rw [show 26 - 6 * 2 = 14 by decide, show 2 + 1 = 3 by decide, bts_t3, hv]
    exact bits_key (j := 14) (m := vs.getD 0 0 * 64 + vs.getD 1 0) (p := 16384) (q := 1048576) (by decide) (by decide) h (m2 hB) (lt2 h0 h1 hB h) (by rw [hB])
  · rw [bts_t3] at hB
    rw [show 26 - 6 * 3 = 8 by decide, show 3 + 1 = 4 by decide, bts_t4, hv]
    exact bits_key (j := 8) (m := vs.getD 0 0 * 4096 + vs.getD 1 0 * 64 + vs.getD 2 0) (p := 256) (q := 16384) (by decide) (by decide) h (m3 hB) (lt3 h0 h1 h2 hB h) (by rw [hB])

set_option maxRecDepth 100000 in
set_option maxHeartbeats 4000000 in
theorem getBits_any (s : ByteArray) (w : World) :
    Calls Try.prog 32 #[.string s] w fun e w' => e = .returned (.tuple #[.int .u32 (bts (pre 4 s.data.toList) : Nat), .int .i64 ((pre 4 s.data.toList).length : Nat)]) ∧ w = w' := by
  obtain ⟨vs, hvs⟩ : ∃ vs, pre 4 s.data.toList = vs := ⟨_, rfl⟩
  rw [hvs]
  have hl4 := pre_len 4 s.data.toList
  rw [hvs] at hl4
  have HV := Lib.hid hvs
  clear hvs
  go_enter Try.func32, Try.ntmps32
  go_wp2
  go_loop [2, 3] (fun b n => ∃ k : Nat, k ≤ vs.length ∧ n = .int .i64 k ∧ b = .int .u32 (bts (vs.take k) : Nat)) (fun _ n => 5 - (intOf n).toNat)
  case atStart => exact ⟨0, Nat.zero_le _, rfl, bts_0 vs⟩
  case round =>
    obtain ⟨k, hk, rfl, rfl⟩ := hrel
    by_cases hlt : k < vs.length
    · have hk4 : k < 4 := by omega
      have hsz := Lib.size_eq s
      have hks : k < s.size := by omega
      have d1 : decide ((k : Int) < 4) = true := decide_eq_true (by omega)
      have d2 : decide ((k : Int) < (s.size : Int)) = true := decide_eq_true (by omega)
      have hat := pre_at 4 s.data.toList k (by rw [HV.out]; exact hlt)
      rw [HV.out] at hat
      have hg : s.data.toList.getD k 0 = s[k] := by
        rw [List.getD_eq_getElem?_getD, List.getElem?_eq_getElem (by simpa using hks)]
        rfl
      rw [hg] at hat
      obtain ⟨v, hv⟩ : ∃ v, vs.getD k 0 = v := ⟨_, rfl⟩
      rw [hv] at hat
      have hnu : nuI s[k] = (v : Int) := by unfold nuI; rw [hat]; rfl
      have hv64 := nu_lt hat
      have HN := Lib.hid hnu
      have HVV := Lib.hid hv
      clear hnu hat hg hv hl4 hsz
      obtain ⟨B, hB⟩ : ∃ B, bts (vs.take k) = B := ⟨_, rfl⟩
      have HBB := Lib.hid hB
      rw [hB]
      clear hB
      go_wp2_with (go_at_call 36; refine (index_any _ _).mono ?_; rintro e w' ⟨rfl, rfl⟩; rw [HN.out])
      go_round
      case rel => exact ⟨k + 1, by omega, by go_num, by rw [bits_round HBB.out HVV.out hv64 hk4 (fun j => by rw [← HV.out]; exact pre_lt _ _ _)]⟩
      case measure => simp [intOf]; omega
    · have hkn : k = vs.length := by omega
      subst hkn
      rw [List.take_length]
      clear hlt hk
      by_cases h4 : vs.length < 4
      · by_cases hz : vs.length < s.size
        · have he := pre_end 4 s.data.toList (by rw [HV.out]; exact h4) (by rw [HV.out, ← Lib.size_eq]; exact hz)
          rw [HV.out] at he
          have hg : s.data.toList.getD vs.length 0 = s[vs.length] := by
            rw [List.getD_eq_getElem?_getD, List.getElem?_eq_getElem (by simpa using hz)]
            rfl
          rw [hg] at he
          have hnu : nuI s[vs.length] = -1 := by unfold nuI; rw [he]; rfl
          have HN := Lib.hid hnu
          clear he hg hnu hl4
          have d1 : decide ((vs.length : Int) < 4) = true := decide_eq_true (by omega)
          have d2 : decide ((vs.length : Int) < (s.size : Int)) = true := decide_eq_true (by omega)
          go_wp2_with (go_at_call 36; refine (index_any _ _).mono ?_; rintro e w' ⟨rfl, rfl⟩; rw [HN.out])
          go_ret2
          exact ⟨rfl, rfl⟩
        · have d1 : decide ((vs.length : Int) < 4) = true := decide_eq_true (by omega)
          have d2 : decide ((vs.length : Int) < (s.size : Int)) = false := decide_eq_false (by omega)
          go_wp2
          go_ret2
          exact ⟨rfl, rfl⟩
      · have d1 : decide ((vs.length : Int) < 4) = false := decide_eq_false (by omega)
        go_wp2
        go_ret2
        exact ⟨rfl, rfl⟩
end Go.Proofs.Ytddgmpmfdgfcdaa
