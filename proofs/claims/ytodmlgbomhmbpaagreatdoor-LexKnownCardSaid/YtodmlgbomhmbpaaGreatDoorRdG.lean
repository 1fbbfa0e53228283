/-
  What is proved here: the contract of the reference's Unquote: it answers what the reader of literals answers; condition: a string of at most 60000 bytes; and: the walk of the reference's Unquote: it answers what the reader of literals answers; condition: a string of at most 60000 bytes.
-/
import Derived.Test.YtodmlgbomhmbpaaGreatDoorRdE
import Derived.Test.YtodmlgbomhmbpaaGreatDoorRdD
import Derived.Test.YtodmlgbomhmbpaaGreatDoorBack
namespace Go.Proofs.YtodmlgbomhmbpaaGreatDoor
open Go.RowKit Ut Go.Lib

theorem nx_split {l : List UInt8} (hne : l ≠ []) : (nx l = (0, 0, false) ∧ (decodeL l).1 = 65533 ∧ (decodeL l).2 = 1) ∨ (∃ r n : Nat, nx l = (r, n, true) ∧ scal r ∧ enc r = l.take n ∧ n ≤ l.length ∧ 1 ≤ n ∧ (enc r).length = n) := by
  have hd : dec l = decodeL l := by unfold dec; rw [if_neg hne]
  by_cases hv : (decodeL l).1 = 65533 ∧ (decodeL l).2 = 1
  · exact .inl ⟨by unfold nx; rw [hd, if_pos ⟨hv.1, by omega⟩], hv⟩
  · obtain ⟨hsc, henc, hle, h1⟩ := valid_head hne hv
    have h5 : l = enc (decodeL l).1 ++ l.drop (decodeL l).2 := by rw [henc, List.take_append_drop]
    have hlen : (enc (decodeL l).1).length = (decodeL l).2 := by rw [henc, List.length_take]; omega
    have h8 := nx_enc hsc (l.drop (decodeL l).2)
    rw [← h5, hlen] at h8
    exact .inr ⟨_, _, h8, hsc, henc, hle, h1, hlen⟩
/-- An encoding that stands for itself. -/
theorem go_self {l : List UInt8} {k r n : Nat} {c : UInt8} (hc : l[k]? = some c) (h34 : c.toNat ≠ 34) (h92 : c.toNat ≠ 92) (h32 : 32 ≤ c.toNat) (hs : scal r) (he : enc r = (l.drop k).take n) (hl : (enc r).length = n) (T : List UInt8) (h : Nat) :
    go (Q1 T h) (l.drop k) k = go (Q1 (T ++ (l.drop k).take n) h) (l.drop (k + n)) (k + n) := by
  have hd : l.drop k = enc r ++ l.drop (k + n) := by rw [he, ← List.drop_drop, List.take_append_drop]
  have hhead : r < 128 → c.toNat = r := by
    intro hr
    have e1 : enc r = [UInt8.ofNat r] := by unfold enc encN; rw [if_pos hr]; rfl
    have e2 := Ut.drop_at hc
    rw [hd, e1] at e2
    simp only [List.cons_append, List.nil_append, List.cons.injEq] at e2
    rw [← e2.1]
    exact ofNat_toNat (by omega)
  have := go_enc hs (by omega) (by omega) (by omega) T h (l.drop (k + n)) k
  rw [hl] at this
  rw [hd, this, ← hd, he]
/-- Within the first bytes of what is no encoding. -/
def BS (l T : List UInt8) (h k j : Nat) : Prop :=
  (0 < j → full ((l.drop k).take j) = false) ∧ go (Q1 T h) (l.drop k) k = if j = 0 then go (Q1 T h) (l.drop k) k else go ⟨2, T, (l.drop k).take j, 0, 0, h⟩ (l.drop (k + j)) (k + j)
theorem BS.start (l T : List UInt8) (h k : Nat) : BS l T h k 0 := ⟨by omega, rfl⟩
theorem take_j {l : List UInt8} {k j : Nat} {c : UInt8} (hc : l[k + j]? = some c) : (l.drop k).take (j + 1) = (l.drop k).take j ++ [c] := by
  rw [List.take_add_one, List.getElem?_drop, hc]
  rfl
theorem bs_step {l T : List UInt8} {h k j : Nat} {c : UInt8} (hb : BS l T h k j) (hc : l[k + j]? = some c) (hp : j = 0 → c.toNat ≠ 34 ∧ c.toNat ≠ 92 ∧ 32 ≤ c.toNat) :
    ∃ q : Q, q.st ≠ 8 ∧ Ut.step q c = encS ⟨2, T, (l.drop k).take j, 0, 0, h⟩ c ∧ go (Q1 T h) (l.drop k) k = go q (l.drop (k + j)) (k + j) := by
  by_cases hj : j = 0
  · subst hj
    obtain ⟨h1, h2, h3⟩ := hp rfl
    exact ⟨Q1 T h, by show 1 ≠ 8; decide, item_plain_step h1 h2 h3, rfl⟩
  · refine ⟨⟨2, T, (l.drop k).take j, 0, 0, h⟩, by show 2 ≠ 8; decide, rfl, ?_⟩
    have := hb.2
    rw [if_neg hj] at this
    exact this
theorem BS.next {l T : List UInt8} {h k j : Nat} {c : UInt8} (hb : BS l T h k j) (hc : l[k + j]? = some c) (hp : j = 0 → c.toNat ≠ 34 ∧ c.toNat ≠ 92 ∧ 32 ≤ c.toNat) (hf : full ((l.drop k).take (j + 1)) = false) : BS l T h k (j + 1) := by
  obtain ⟨q, hq, hst, hg⟩ := bs_step hb hc hp
  refine ⟨fun _ => hf, ?_⟩
  rw [if_neg (by omega), hg]
  rw [take_j hc] at hf ⊢
  have := encS_more (q := ⟨2, T, (l.drop k).take j, 0, 0, h⟩) (c := c) hf
  rw [this] at hst
  rw [go_one hq hc hst, Nat.add_assoc]
theorem BS.bad {l T : List UInt8} {h k j : Nat} {c : UInt8} (hb : BS l T h k j) (hc : l[k + j]? = some c) (hp : j = 0 → c.toNat ≠ 34 ∧ c.toNat ≠ 92 ∧ 32 ≤ c.toNat) (hf : full ((l.drop k).take (j + 1)) = true)
    (hd : (decodeL (l.drop k)).1 = 65533 ∧ (decodeL (l.drop k)).2 = 1) : go (Q1 T h) (l.drop k) k = er l (k + j) 40 := by
  obtain ⟨q, hq, hst, hg⟩ := bs_step hb hc hp
  have hlt : k + j < l.length := (List.getElem?_eq_some_iff.1 hc).1
  have hv : val ((l.drop k).take (j + 1)) = false := by
    rcases hv : val ((l.drop k).take (j + 1)) with _ | _
    · rfl
    · exact absurd hd (val_dec (by omega) (by rw [List.length_drop]; omega) hv)
  rw [take_j hc] at hf hv
  rw [hg]
  refine er_bad hq hc ?_ (by decide)
  rw [hst]
  unfold encS
  rw [if_neg (by rw [hf]; decide), if_pos hv]
theorem BS.stop {l T : List UInt8} {h k j : Nat} (hb : BS l T h k j) (hl : l.length ≤ k + j) : go (Q1 T h) (l.drop k) k = er l (k + j) 40 := by
  by_cases hj : j = 0
  · subst hj
    exact er_end (by show 1 ≠ 8; decide) hl
  · have := hb.2
    rw [if_neg hj] at this
    rw [this]
    exact er_end (by show 2 ≠ 8; decide) hl
theorem ctl_bad {l : List UInt8} {k : Nat} {c : UInt8} (hc : l[k]? = some c) (h34 : c.toNat ≠ 34) (h92 : c.toNat ≠ 92) (h32 : c.toNat < 32) (T : List UInt8) (h : Nat) : go (Q1 T h) (l.drop k) k = er l k 41 := by
  refine er_bad (q := Q1 T h) (by show 1 ≠ 8; decide) hc ?_ (by decide)
  rw [step_item]
  unfold itemS
  rw [if_neg h34, if_neg h92, if_pos h32]
theorem q0_bad {l : List UInt8} {c : UInt8} (hc : l[0]? = some c) (h34 : c.toNat ≠ 34) : unq l = er l 0 41 := by
  have := er_bad (q := q0) (e := 41) (by decide) hc (by show (expS q0 c.toNat 34 1).2 = 41; unfold expS; rw [if_neg h34]) (by decide)
  rw [List.drop_zero] at this
  exact this
theorem q0_open {l : List UInt8} {c : UInt8} (hc : l[0]? = some c) (h34 : c.toNat = 34) : unq l = go (Q1 [] 0) (l.drop 1) 1 := by
  have h1 := Ut.drop_at hc
  rw [List.drop_zero] at h1
  have e : c = 34 := UInt8.toNat_inj.1 h34
  rw [e] at h1
  rw [h1, unq_open]
  rfl
theorem q_close {l : List UInt8} {k : Nat} {c : UInt8} (hc : l[k]? = some c) (h34 : c.toNat = 34) (T : List UInt8) (h : Nat) : go (Q1 T h) (l.drop k) k = (T, k + 1, 0, 0) := by
  have e : c = 34 := UInt8.toNat_inj.1 h34
  rw [Ut.drop_at hc, e, go_close]
theorem extract_list (s : ByteArray) (l : List UInt8) (hl : s.data.toList = l) (k m : Nat) : (s.extract k m).data.toList = (l.drop k).take (m - k) := by
  subst hl
  rw [ByteArray.data_extract, Array.toList_extract, List.extract_eq_take_drop]
theorem extract_str2 (s : ByteArray) (l : List UInt8) (hl : s.data.toList = l) (k m : Nat) : s.extract k m = str ((l.drop k).take (m - k)) := by
  rw [← str_list (s.extract k m), extract_list s l hl]
end Go.Proofs.YtodmlgbomhmbpaaGreatDoor
namespace Go.Proofs.YtodmlgbomhmbpaaGreatDoor
open Go.RowKit Ut Go.Lib

/-- What Unquote answers. -/
def UQ (l : List UInt8) (w : World) (e : Ending) (w' : World) : Prop := e = .returned (uR (unq l)) ∧ Below w.heap.size w w'
theorem uq_er {l : List UInt8} {w w' : World} {k x E : Nat} (hb : Below w.heap.size w w') (hu : unq l = er l k x) (hE : (if l.length ≤ k then 3 else x) = E) :
    UQ l w (.returned (.tuple #[.string ⟨#[]⟩, .int .i64 0, .int .i64 (k : Nat), .int .i64 (E : Nat)])) w' := by
  refine ⟨?_, hb⟩
  rw [hu, uR_er l k x E hE]
theorem str_ne {s : ByteArray} (h : 0 < s.size) : ¬ s.toList = [] ∧ s.toList.isEmpty = false := by
  have h1 : ¬ s.toList = [] := by
    intro h2
    rw [Lib.toList_data] at h2
    have h3 := congrArg List.length h2
    rw [← Lib.size_eq] at h3
    have h4 : s.size = 0 := h3
    omega
  refine ⟨h1, ?_⟩
  rw [Bool.eq_false_iff, ne_eq, List.isEmpty_iff]
  exact h1
theorem wrong_lit (s : ByteArray) (l : List UInt8) (k e E : Nat) (x : Int) (hx : x = (e : Int)) (hl : s.data.toList = l) (hk : k ≤ l.length) (hE : (if l.length ≤ k then 3 else e) = E) (w : World) :
    Calls Tryz.prog 38 #[.string s, .int .i64 (k : Nat), .int .i64 x] w fun r w' => r = .returned (.tuple #[.string ⟨#[]⟩, .int .i64 0, .int .i64 (k : Nat), .int .i64 (E : Nat)]) ∧ w = w' := by
  subst hx
  exact wrong_any s l k e E hl hk hE w
set_option maxHeartbeats 8000000 in
set_option maxRecDepth 1000000 in
theorem refUnquote_open (s : ByteArray) (l : List UInt8) (hl : s.data.toList = l) (c0 : UInt8) (h0 : l[0]? = some c0) (h34 : c0.toNat = 34) (hs : s.size ≤ 60000) (w : World) :
    Calls Tryz.prog 28 #[.string s] w (UQ l w) := by
  have HSZ := Lib.hid (show s.size = l.length by rw [Lib.size_eq, hl])
  have hpos : 0 < s.size := by rw [HSZ.out]; exact (List.getElem?_eq_some_iff.1 h0).1
  have HL := Lib.hid hl
  have HO := Lib.hid (q0_open h0 h34)
  have hx0 : s[0] = c0 := byte_at hl h0 hpos
  obtain ⟨hse, hse2⟩ := str_ne hpos
  have q2 : ((c0.toNat : Int) != 34) = false := (u8Y h34).2
  clear hl h0 h34
  go_enter Tryz.func28, Tryz.ntmps28
  go_wp2
  clear hx0 q2
  go_loopw [6, 7] (fun v i wr => ∃ (k : Nat) (u : ByteArray) (T : List UInt8) (h : Nat), v = .string u ∧ i = .int .i64 k ∧ 1 ≤ k ∧ k ≤ s.size ∧ u.size ≤ 4 * k ∧ Hid (u = str T) ∧ Hid (unq l = go (Q1 T h) (l.drop k) k) ∧ Hid (Below w.heap.size w wr)) (fun _ i _ => s.size + 1 - (RowKit.intOf i).toNat)
  case atStart => exact ⟨1, ⟨#[]⟩, [], 0, rfl, rfl, Nat.le_refl _, hpos, by decide, rfl, HO.out, Below.refl _ _⟩
  case round =>
    clear hse hse2 HO
    obtain ⟨k, u, T, h, rfl, rfl, hk1, hks, hu, HU, HG, HB⟩ := hrel
    by_cases hlt : k < s.size
    · obtain ⟨c, hc⟩ := getN l (k := k) (by rw [← HSZ.out]; exact hlt)
      have hx : s[k] = c := byte_at HL.out hc hlt
      have HC := Lib.hid hc
      have d1 : decide ((k : Int) < (s.size : Int)) = true := decide_eq_true (by omega)
      have d2 : decide (k < s.size) = true := decide_eq_true (by omega)
      clear hc
      by_cases h34 : c.toNat = 34
      · have q1 : ((c.toNat : Int) == 34) = true := (u8Y h34).1
        have HR := Lib.hid (show uR (unq l) = .tuple #[.string u, .int .i64 ((k + 1 : Nat) : Int), .int .i64 0, .int .i64 0] by rw [HG.out, q_close HC.out h34, HU.out]; rfl)
        clear h34
        go_wp2
        exact bodyPost_ret (v := .tuple #[.string u, .int .i64 ((k + 1 : Nat) : Int), .int .i64 0, .int .i64 0]) (by simp [results, Tryz.results28, go_sem]) rfl ⟨by rw [HR.out], HB.out⟩
      · have q1 : ((c.toNat : Int) == 34) = false := (u8K h34).1
        by_cases h32 : c.toNat < 32
        · have q3 : decide ((c.toNat : Int) < 32) = true := decide_eq_true (by omega)
          obtain ⟨E, hE⟩ : ∃ E, (if l.length ≤ k then 3 else 41) = E := ⟨_, rfl⟩
          have HE := Lib.hid hE
          have HW := Lib.hid (fun W => wrong_lit s l k 41 E 41 rfl HL.out (by rw [← HSZ.out]; exact hks) hE W)
          have HR := Lib.hid (show unq l = er l k 41 by rw [HG.out, ctl_bad HC.out h34 (by omega) h32])
          clear h34 h32 hE
          go_wp2_with (go_at_call 38; (with_reducible refine (HW.out _).mono ?_); rintro e w2 ⟨rfl, rfl⟩)
          exact bodyPost_ret (v := .tuple #[.string ⟨#[]⟩, .int .i64 0, .int .i64 (k : Nat), .int .i64 (E : Nat)]) (by simp [results, Tryz.results28, go_sem]) rfl (uq_er HB.out HR.out HE.out)
        · have q3 : decide ((c.toNat : Int) < 32) = false := decide_eq_false (by omega)
          by_cases h92 : c.toNat = 92
          · have q4 : ((c.toNat : Int) == 92) = true := (u8Y h92).1
            have HES := Lib.hid (fun W => escape_any s l k HL.out c HC.out h92 hs W)
            clear h34 h32 h92
            go_wp2_with fail
            refine (HES.out _).mono ?_
            rintro e w2 ⟨hb2, ⟨j, rfl, hj, hg⟩ | ⟨B, j, rfl, hkj, hj, hB4, hg⟩⟩
            · have HB2 := Lib.hid (HB.out.trans (hb2.mono HB.out.size))
              obtain ⟨E, hE⟩ : ∃ E, (if l.length ≤ j then 3 else 41) = E := ⟨_, rfl⟩
              have HE := Lib.hid hE
              have HW := Lib.hid (fun W => wrong_lit s l j 41 E 41 rfl HL.out hj hE W)
              have HR := Lib.hid (show unq l = er l j 41 by rw [HG.out, hg])
              clear hE hj hg hb2
              go_wp2_with (go_at_call 38; (with_reducible refine (HW.out _).mono ?_); rintro e w3 ⟨rfl, rfl⟩)
              exact bodyPost_ret (v := .tuple #[.string ⟨#[]⟩, .int .i64 0, .int .i64 (j : Nat), .int .i64 (E : Nat)]) (by simp [results, Tryz.results28, go_sem]) rfl (uq_er HB2.out HR.out HE.out)
            · have HB2 := Lib.hid (HB.out.trans (hb2.mono HB.out.size))
              obtain ⟨h', hg'⟩ := hg T h
              have HR := Lib.hid (show unq l = go (Q1 (T ++ B) h') (l.drop j) j by rw [HG.out, hg'])
              have HJ := Lib.hid (show j ≤ s.size by rw [HSZ.out]; exact hj)
              have hbz : (str B).size ≤ 4 := by rw [str_size]; exact hB4
              obtain ⟨b, hb⟩ : ∃ b, str B = b := ⟨_, rfl⟩
              have HBB := Lib.hid hb
              rw [hb] at hbz ⊢
              clear hj hg hg' hb2 hB4 hb
              go_wp2
              go_roundw
              case rel =>
                refine ⟨j, u ++ b, T ++ B, h', rfl, rfl, by omega, HJ.out, ?_, ?_, HR.out, HB2.out⟩
                · rw [ByteArray.size_append]; omega
                · show u ++ b = str (T ++ B)
                  rw [HU.out, ← HBB.out, str_cat]
              case measure => have := HJ.out; simp [RowKit.intOf]; omega
          · have q4 : ((c.toNat : Int) == 92) = false := (u8K h92).1
            have hne : l.drop k ≠ [] := by rw [Ut.drop_at HC.out]; simp
            obtain ⟨z, hz⟩ : ∃ z, s.extract k s.size = z := ⟨_, rfl⟩
            have hzd : z.data.toList = l.drop k := by
              rw [← hz, extract_list s l HL.out, List.take_of_length_le (by rw [List.length_drop, HSZ.out]; exact Nat.le_refl _)]
            have HZ := Lib.hid hz
            rcases nx_split hne with ⟨hn, hd1, hd2⟩ | ⟨r, n, hn, hsc, henc, hnl, hn1, hlen⟩
            · have N := fun (W : World) => refNext_any z W
              rw [hzd, hn] at N
              unfold nxR at N
              have HN := Lib.hid N
              have HP := Lib.hid (show c.toNat ≠ 34 ∧ c.toNat ≠ 92 ∧ 32 ≤ c.toNat from ⟨h34, h92, by omega⟩)
              have HD := Lib.hid (show (decodeL (l.drop k)).1 = 65533 ∧ (decodeL (l.drop k)).2 = 1 from ⟨hd1, hd2⟩)
              clear N hn hd1 hd2 hne hz hzd h34 h32 h92
              go_wp2_with fail
              rw [HZ.out]
              refine (HN.out _).mono ?_
              rintro e w2 ⟨rfl, hb2⟩
              have HB2 := Lib.hid (HB.out.trans (hb2.mono HB.out.size))
              clear hb2
              go_wp2
              go_loopw [15] (fun v wq => ∃ j m : Nat, v = .int .i64 j ∧ m ≤ s.size ∧ Hid (k + j = m) ∧ Hid (BS l T h k j) ∧ Hid (Below w.heap.size w wq)) (fun v _ => s.size + 1 - (RowKit.intOf v).toNat)
              case atStart => exact ⟨0, k, rfl, hks, rfl, BS.start l T h k, HB2.out⟩
              case round =>
                clear HB2 HB
                obtain ⟨j, m, rfl, hms, HM, HS, HB⟩ := hrel
                have hm := HM.out
                have s7 : (k : Int) + (j : Int) = (m : Int) := by omega
                by_cases hml : m < s.size
                · obtain ⟨c2, hc2⟩ := getN l (k := m) (by rw [← HSZ.out]; exact hml)
                  have hc2' : l[k + j]? = some c2 := by rw [hm]; exact hc2
                  have d3 : decide ((m : Int) < (s.size : Int)) = true := decide_eq_true (by omega)
                  have d4 : decide (m < s.size) = true := decide_eq_true hml
                  have hp : j = 0 → c2.toNat ≠ 34 ∧ c2.toNat ≠ 92 ∧ 32 ≤ c2.toNat := by
                    rintro rfl
                    rw [Nat.add_zero] at hc2'
                    have : c2 = c := Option.some.inj (hc2'.symm.trans HC.out)
                    rw [this]
                    exact HP.out
                  obtain ⟨p, hp2⟩ : ∃ p, s.extract k (m + 1) = p := ⟨_, rfl⟩
                  have hpd : p.data.toList = (l.drop k).take (j + 1) := by rw [← hp2, extract_list s l HL.out, show m + 1 - k = j + 1 by omega]
                  have hps : 0 < p.size := by
                    rw [Lib.size_eq, hpd, List.length_take, List.length_drop]
                    have := HSZ.out
                    omega
                  have HBG := Lib.hid (fun W => begins_any p _ hpd hps W)
                  have HPE := Lib.hid hp2
                  have i1 : (k : Int) ≤ (m : Int) + 1 := by omega
                  have i2 : (m : Int) + 1 ≤ (s.size : Int) := by omega
                  rcases hf : full ((l.drop k).take (j + 1)) with _ | _
                  · have HS2 := Lib.hid (HS.out.next hc2' hp hf)
                    have HM2 := Lib.hid (show k + (j + 1) = m + 1 by omega)
                    rw [hf] at HBG
                    clear hc2 hc2' hp hp2 hpd hps hf hm
                    go_wp2_with fail
                    rw [HPE.out]
                    refine (HBG.out _).mono ?_
                    rintro e w3 ⟨rfl, hb3⟩
                    have HB3 := Lib.hid (HB.out.trans (hb3.mono HB.out.size))
                    clear hb3
                    go_wp2
                    go_roundw
                    case rel => exact ⟨j + 1, m + 1, by go_num, by omega, HM2.out, HS2.out, HB3.out⟩
                    case measure => have := HM.out; simp [RowKit.intOf]; omega
                  · obtain ⟨E, hE⟩ : ∃ E, (if l.length ≤ m then 3 else 40) = E := ⟨_, rfl⟩
                    have HE := Lib.hid hE
                    have HW := Lib.hid (fun W => wrong_lit s l m 40 E 40 rfl HL.out (by rw [← HSZ.out]; exact hms) hE W)
                    have HR := Lib.hid (show unq l = er l m 40 by rw [HG.out, HS.out.bad hc2' hp hf HD.out, hm])
                    rw [hf] at HBG
                    clear hc2 hc2' hp hp2 hpd hps hf hm hE
                    go_wp2_with fail
                    rw [HPE.out]
                    refine (HBG.out _).mono ?_
                    rintro e w3 ⟨rfl, hb3⟩
                    have HB3 := Lib.hid (HB.out.trans (hb3.mono HB.out.size))
                    clear hb3
                    go_wp2_with (go_at_call 38; (with_reducible refine (HW.out _).mono ?_); rintro e w4 ⟨rfl, rfl⟩)
                    exact bodyPost_ret (v := .tuple #[.string ⟨#[]⟩, .int .i64 0, .int .i64 (m : Nat), .int .i64 (E : Nat)]) (by simp [results, Tryz.results28, go_sem]) rfl (uq_er HB3.out HR.out HE.out)
                · have d3 : decide ((m : Int) < (s.size : Int)) = false := decide_eq_false (by omega)
                  have d4 : decide (m < s.size) = false := decide_eq_false hml
                  obtain ⟨E, hE⟩ : ∃ E, (if l.length ≤ m then 3 else 40) = E := ⟨_, rfl⟩
                  have HE := Lib.hid hE
                  have HW := Lib.hid (fun W => wrong_lit s l m 40 E 40 rfl HL.out (by rw [← HSZ.out]; exact hms) hE W)
                  have HR := Lib.hid (show unq l = er l m 40 by rw [HG.out, HS.out.stop (by rw [hm, ← HSZ.out]; omega), hm])
                  clear hm hE hml
                  go_wp2_with (go_at_call 38; (with_reducible refine (HW.out _).mono ?_); rintro e w4 ⟨rfl, rfl⟩)
                  exact bodyPost_ret (v := .tuple #[.string ⟨#[]⟩, .int .i64 0, .int .i64 (m : Nat), .int .i64 (E : Nat)]) (by simp [results, Tryz.results28, go_sem]) rfl (uq_er HB.out HR.out HE.out)
            · have N := fun (W : World) => refNext_any z W
              rw [hzd, hn] at N
              unfold nxR at N
              have HN := Lib.hid N
              obtain ⟨m, hm⟩ : ∃ m, k + n = m := ⟨_, rfl⟩
              rw [List.length_drop] at hnl
              have hml : m ≤ s.size := by rw [HSZ.out]; have := HSZ.out; omega
              have s7 : (k : Int) + (n : Int) = (m : Int) := by omega
              have HR := Lib.hid (show unq l = go (Q1 (T ++ (l.drop k).take n) h) (l.drop m) m by
                rw [HG.out, go_self HC.out h34 h92 (by omega) hsc henc hlen, hm])
              obtain ⟨b, hb⟩ : ∃ b, s.extract k m = b := ⟨_, rfl⟩
              have hbs : b = str ((l.drop k).take n) := by rw [← hb, extract_str2 s l HL.out, show m - k = n by omega]
              have hbz : b.size ≤ 4 := by
                rw [hbs, str_size, List.length_take]
                have := (enc_len r).2
                omega
              have HBS := Lib.hid hbs
              have HBE := Lib.hid hb
              have HM := Lib.hid (show k < m by omega)
              have i1 : (k : Int) ≤ (m : Int) := by omega
              have i2 : (m : Int) ≤ (s.size : Int) := by omega
              clear N hn hne hz hzd h34 h32 h92 hsc henc hnl hn1 hlen hm hb hbs
              go_wp2_with fail
              rw [HZ.out]
              refine (HN.out _).mono ?_
              rintro e w2 ⟨rfl, hb2⟩
              have HB2 := Lib.hid (HB.out.trans (hb2.mono HB.out.size))
              clear hb2
              have hb := HBE.out
              go_wp2
              go_roundw
              case rel =>
                refine ⟨m, u ++ b, T ++ (l.drop k).take n, h, rfl, rfl, by omega, hml, ?_, ?_, HR.out, HB2.out⟩
                · rw [ByteArray.size_append]; have := HM.out; omega
                · show u ++ b = str (T ++ (l.drop k).take n)
                  rw [HU.out, HBS.out, str_cat]
              case measure => have := HM.out; simp [RowKit.intOf]; omega
    · have hke : k = s.size := by omega
      have d1 : decide ((k : Int) < (s.size : Int)) = false := decide_eq_false (by omega)
      have d2 : decide (k < s.size) = false := decide_eq_false (by omega)
      obtain ⟨E, hE⟩ : ∃ E, (if l.length ≤ k then 3 else 3) = E := ⟨_, rfl⟩
      have HE := Lib.hid hE
      have HW := Lib.hid (fun W => wrong_lit s l k 3 E 3 rfl HL.out (by rw [← HSZ.out]; exact hks) hE W)
      have HR := Lib.hid (show unq l = er l k 3 by rw [HG.out]; exact er_end (by show 1 ≠ 8; decide) (by rw [hke, HSZ.out]; exact Nat.le_refl _))
      clear hE hke hlt
      go_wp2_with (go_at_call 38; (with_reducible refine (HW.out _).mono ?_); rintro e w2 ⟨rfl, rfl⟩)
      exact bodyPost_ret (v := .tuple #[.string ⟨#[]⟩, .int .i64 0, .int .i64 (k : Nat), .int .i64 (E : Nat)]) (by simp [results, Tryz.results28, go_sem]) rfl (uq_er HB.out HR.out HE.out)
set_option maxHeartbeats 2000000 in
set_option maxRecDepth 1000000 in
theorem refUnquote_nil (s : ByteArray) (hl : s.data.toList = []) (w : World) : Calls Tryz.prog 28 #[.string s] w (UQ [] w) := by
  have hse : s.toList = [] := by rw [Lib.toList_data]; exact hl
  have hse2 : s.toList.isEmpty = true := by rw [hse]; rfl
  have HW := Lib.hid (show ∀ W, Calls Tryz.prog 38 #[.string s, .int .i64 0, .int .i64 41] W fun r w' => r = .returned (.tuple #[.string ⟨#[]⟩, .int .i64 0, .int .i64 0, .int .i64 3]) ∧ W = w' from fun W => wrong_lit s [] 0 41 3 41 rfl hl (Nat.le_refl _) rfl W)
  have HR := Lib.hid (show unq [] = er [] 0 41 from rfl)
  clear hl
  go_enter Tryz.func28, Tryz.ntmps28
  go_wp2_with (go_at_call 38; (with_reducible refine (HW.out _).mono ?_); rintro e w4 ⟨rfl, rfl⟩)
  exact bodyPost_ret (v := .tuple #[.string ⟨#[]⟩, .int .i64 0, .int .i64 0, .int .i64 3]) (by simp [results, Tryz.results28, go_sem]) rfl (uq_er (k := 0) (x := 41) (E := 3) (Below.refl _ _) HR.out rfl)
set_option maxHeartbeats 2000000 in
set_option maxRecDepth 1000000 in
theorem refUnquote_no (s : ByteArray) (l : List UInt8) (hl : s.data.toList = l) (c0 : UInt8) (h0 : l[0]? = some c0) (h34 : c0.toNat ≠ 34) (w : World) :
    Calls Tryz.prog 28 #[.string s] w (UQ l w) := by
  have hpos : 0 < s.size := by rw [Lib.size_eq, hl]; exact (List.getElem?_eq_some_iff.1 h0).1
  have hx0 : s[0] = c0 := byte_at hl h0 hpos
  obtain ⟨hse, hse2⟩ := str_ne hpos
  have q2 : ((c0.toNat : Int) != 34) = true := (u8K h34).2
  have hln : ¬ l.length ≤ 0 := by have := (List.getElem?_eq_some_iff.1 h0).1; omega
  have HE := Lib.hid (show (if l.length ≤ 0 then 3 else 41) = 41 by rw [if_neg hln])
  have HW := Lib.hid (show ∀ W, Calls Tryz.prog 38 #[.string s, .int .i64 0, .int .i64 41] W fun r w' => r = .returned (.tuple #[.string ⟨#[]⟩, .int .i64 0, .int .i64 0, .int .i64 41]) ∧ W = w' from fun W => wrong_lit s l 0 41 41 41 rfl hl (Nat.zero_le _) HE.out W)
  have HR := Lib.hid (q0_bad h0 h34)
  clear hl h0 h34 hln
  go_enter Tryz.func28, Tryz.ntmps28
  go_wp2_with (go_at_call 38; (with_reducible refine (HW.out _).mono ?_); rintro e w4 ⟨rfl, rfl⟩)
  exact bodyPost_ret (v := .tuple #[.string ⟨#[]⟩, .int .i64 0, .int .i64 0, .int .i64 41]) (by simp [results, Tryz.results28, go_sem]) rfl (uq_er (k := 0) (x := 41) (E := 41) (Below.refl _ _) HR.out HE.out)
theorem refUnquote_any (s : ByteArray) (l : List UInt8) (hl : s.data.toList = l) (hs : s.size ≤ 60000) (w : World) : Calls Tryz.prog 28 #[.string s] w (UQ l w) := by
  rcases l with _ | ⟨c, r⟩
  · exact refUnquote_nil s hl w
  · by_cases h : c.toNat = 34
    · exact refUnquote_open s _ hl c rfl h hs w
    · exact refUnquote_no s _ hl c rfl h w
end Go.Proofs.YtodmlgbomhmbpaaGreatDoor
