/-
  What is proved here: the contract of utf.Quote: ErrUtf for what is no valid UTF-8, else the short literal, byte by byte; conditions: the library's two tables hold what is laid, and the string has at most 65536 bytes.
-/
import Derived.Test.YtodmlgbomhmbpaaDoorItem
namespace Go.Proofs.YtodmlgbomhmbpaaDoor
open Go.RowKit Ut Go.Lib

/-- The short literal, byte by byte. -/
def quo (l : List UInt8) : List UInt8 := 34 :: (l.flatMap fun b => itemN b.toNat) ++ [34]
def quR (l : List UInt8) : Value := if validD l = true then .tuple #[.string (str (quo l)), .int .i64 0] else .tuple #[.string ⟨#[]⟩, .int .i64 40]

theorem item_high {b : UInt8} (h : 128 ≤ b.toNat) : itemN b.toNat = [b] := by
  unfold itemN
  repeat rw [if_neg (by omega)]
  simp
theorem items_high : ∀ (l : List UInt8), (∀ b ∈ l, 128 ≤ b.toNat) → (l.flatMap fun b => itemN b.toNat) = l := by
  intro l
  induction l with
  | nil => intro _; rfl
  | cons a r ih =>
    intro h
    rw [List.flatMap_cons, item_high (h a (List.mem_cons_self ..)), ih fun b hb => h b (List.mem_cons_of_mem _ hb)]
    rfl
theorem enc_high {r : Nat} (h : 128 ≤ r) (hs : scal r) : ∀ b ∈ enc r, 128 ≤ b.toNat := by
  unfold scal at hs
  unfold enc encN
  rw [if_neg (by omega)]
  intro b hb
  simp only [List.mem_map] at hb
  obtain ⟨n, hn, rfl⟩ := hb
  rw [UInt8.toNat_ofNat']
  split at hn
  · simp at hn; omega
  · split at hn
    · simp at hn; omega
    · simp at hn; omega
theorem item_enc {r : Nat} (hs : scal r) : itemR r = (enc r).flatMap fun b => itemN b.toNat := by
  unfold itemR
  by_cases h : r < 128
  · rw [if_pos h]
    have : enc r = [UInt8.ofNat r] := by unfold enc encN; rw [if_pos h]; rfl
    rw [this]
    have h2 : (UInt8.ofNat r).toNat = r := by rw [UInt8.toNat_ofNat']; omega
    simp [h2]
  · rw [if_neg h, items_high _ (enc_high (by omega) hs)]

theorem validGoD_step (n : Nat) (l : List UInt8) (hl : l.length ≤ n) (h : validGoD n l = true) (hne : l ≠ []) : ¬ ((decodeL l).1 = 65533 ∧ (decodeL l).2 = 1) ∧ validGoD (n - 1) (l.drop (decodeL l).2) = true := by
  cases n with
  | zero => exact absurd (List.eq_nil_of_length_eq_zero (by omega)) hne
  | succ n =>
    unfold validGoD at h
    rw [if_neg hne] at h
    split at h
    · cases h
    · rename_i h1; exact ⟨h1, h⟩
/-- A first encoding of valid bytes. -/
theorem valid_head {l : List UInt8} (hne : l ≠ []) (hv : ¬ ((decodeL l).1 = 65533 ∧ (decodeL l).2 = 1)) : scal (decodeL l).1 ∧ enc (decodeL l).1 = l.take (decodeL l).2 ∧ (decodeL l).2 ≤ l.length ∧ 1 ≤ (decodeL l).2 := by
  have hE := encode_decode l hne hv
  have hle := decodeL_le l hne
  have hw := decodeL_width l
  have hs : scal (decodeL l).1 := by
    rw [decodeL_N] at hv ⊢
    have hb : ∀ j, (l.getD j 0).toNat < 256 := fun j => (l.getD j 0).toNat_lt
    have h0 := hb 0; have h1 := hb 1; have h2 := hb 2; have h3 := hb 3
    generalize (l.getD 0 0).toNat = b0 at *
    generalize (l.getD 1 0).toNat = b1 at *
    generalize (l.getD 2 0).toNat = b2 at *
    generalize (l.getD 3 0).toNat = b3 at *
    unfold scal
    unfold decodeN at hv ⊢
    repeat' split
    all_goals first | (simp only; omega) | (simp_all <;> omega)
  refine ⟨hs, ?_, hle, hw⟩
  rw [← hE]
  unfold encodeRune enc encodeRuneZ encN
  unfold scal at hs
  generalize (decodeL l).1 = r at *
  by_cases h1 : r < 128
  · rw [if_pos h1, if_pos (show 0 ≤ (r : Int) ∧ (r : Int) ≤ 127 by omega)]; simp [Nat.toUInt8]
  · rw [if_neg h1, if_neg (show ¬ (0 ≤ (r : Int) ∧ (r : Int) ≤ 127) by omega)]
    by_cases h2 : r < 2048
    · rw [if_pos h2, if_pos (show 128 ≤ (r : Int) ∧ (r : Int) ≤ 2047 by omega)]
      simp only [List.map_cons, List.map_nil]
      have e1 : ((192 : Int) + (r : Int) / 64).toNat = 192 + r / 64 := by omega
      have e2 : ((128 : Int) + (r : Int) % 64).toNat = 128 + r % 64 := by omega
      rw [e1, e2]
    · rw [if_neg h2, if_neg (show ¬ (128 ≤ (r : Int) ∧ (r : Int) ≤ 2047) by omega)]
      by_cases h3 : r < 65536
      · rw [if_pos h3, if_pos (show (2048 ≤ (r : Int) ∧ (r : Int) < 55296) ∨ (57343 < (r : Int) ∧ (r : Int) ≤ 65535) by omega)]
        simp only [List.map_cons, List.map_nil]
        have e1 : ((224 : Int) + (r : Int) / 4096).toNat = 224 + r / 4096 := by omega
        have e2 : ((128 : Int) + (r : Int) / 64 % 64).toNat = 128 + r / 64 % 64 := by omega
        have e3 : ((128 : Int) + (r : Int) % 64).toNat = 128 + r % 64 := by omega
        rw [e1, e2, e3]
      · rw [if_neg h3, if_neg (show ¬ ((2048 ≤ (r : Int) ∧ (r : Int) < 55296) ∨ (57343 < (r : Int) ∧ (r : Int) ≤ 65535)) by omega), if_pos (show 65536 ≤ (r : Int) ∧ (r : Int) ≤ 1114111 by omega)]
        simp only [List.map_cons, List.map_nil]
        have e1 : ((240 : Int) + (r : Int) / 262144).toNat = 240 + r / 262144 := by omega
        have e2 : ((128 : Int) + (r : Int) / 4096 % 64).toNat = 128 + r / 4096 % 64 := by omega
        have e3 : ((128 : Int) + (r : Int) / 64 % 64).toNat = 128 + r / 64 % 64 := by omega
        have e4 : ((128 : Int) + (r : Int) % 64).toNat = 128 + r % 64 := by omega
        rw [e1, e2, e3, e4]

set_option maxHeartbeats 1000000 in
theorem quote_no (s : ByteArray) (w : World) (hT : TB w.heap.size w) (hs : s.size ≤ 65536) (hv : validD s.data.toList = false) :
    Calls Tryd.prog 31 #[.string s] w fun e w' => e = .returned (.tuple #[.string ⟨#[]⟩, .int .i64 40]) ∧ Below w.heap.size w w' := by
  have C := valid_any s w hT.2.2 (by omega)
  rw [hv] at C
  have HC := Lib.hid C
  clear C hT hs hv
  go_enter Tryd.func31, Tryd.ntmps31
  go_wp2_with (go_at_call 50; refine HC.out.mono ?_; rintro e w1 ⟨rfl, hb⟩; have HB := Lib.hid hb; clear hb)
  go_ret2
  exact ⟨rfl, HB.out⟩

/-- The round's head of Quote: the literal so far, the iterator at block k. -/
def QH (w0 : World) (k : Nat) (s : ByteArray) (b : Value) (wr : World) : Prop :=
  ∃ (pos : Nat) (vb : Value), vb = b ∧ pos ≤ s.size ∧ wr.heap[k]? = some (.stringIter s pos) ∧ Own wr w0.heap.size vb (34 :: ((s.data.toList.take pos).flatMap fun b => itemN b.toNat)) ∧ Below w0.heap.size w0 wr ∧ validGoD (s.size - pos) (s.data.toList.drop pos) = true
theorem itemN_len (n : Nat) : (itemN n).length ≤ 6 := by
  unfold itemN
  repeat' split
  all_goals simp
theorem items_len : ∀ (l : List UInt8), (l.flatMap fun b => itemN b.toNat).length ≤ 6 * l.length := by
  intro l
  induction l with
  | nil => simp
  | cons a r ih => rw [List.flatMap_cons, List.length_append, List.length_cons]; have := itemN_len a.toNat; omega

theorem own_made (w : World) {B : Nat} (hB : B ≤ w.heap.size) : Own (w.alloc (.cells #[.int .u8 34] 5)) B (.slice (some ⟨w.heap.size, 0, none⟩) 1 1) [34] :=
  ⟨by simp [bv], Or.inr ⟨w.heap.size, 1, #[.int .u8 34], rfl, hB, heap_alloc_new w _, by simp, by unfold maxLen; omega, rfl, rfl⟩⟩
theorem validGoD_more {n : Nat} {l : List UInt8} : ∀ {m : Nat}, validGoD n l = true → l.length ≤ n → validGoD m l = true := by
  induction n generalizing l with
  | zero =>
    intro m _ hl
    have : l = [] := List.eq_nil_of_length_eq_zero (by omega)
    subst this
    cases m <;> simp [validGoD]
  | succ n ih =>
    intro m h hl
    cases m with
    | zero => rfl
    | succ m =>
      by_cases hne : l = []
      · subst hne; simp [validGoD]
      · obtain ⟨h1, h2⟩ := validGoD_step (n + 1) l hl h hne
        unfold validGoD
        rw [if_neg hne, if_neg h1]
        have hw := decodeL_width l
        exact ih h2 (by rw [List.length_drop]; omega)
set_option maxHeartbeats 2000000 in
set_option maxRecDepth 1000000 in
theorem quote_yes (s : ByteArray) (w : World) (hT : TB w.heap.size w) (hs : s.size ≤ 65536) (hv : validD s.data.toList = true) :
    Calls Tryd.prog 31 #[.string s] w fun e w' => e = .returned (.tuple #[.string (str (quo s.data.toList)), .int .i64 0]) ∧ Below w.heap.size w w' := by
  have C := valid_any s w hT.2.2 (by omega)
  rw [hv] at C
  have HC := Lib.hid C
  have HV := Lib.hid hv
  have HS := Lib.hid hs
  clear C hT hs hv
  go_enter Tryd.func31, Tryd.ntmps31
  go_wp2_with (go_at_call 50; refine HC.out.mono ?_; rintro e w1 ⟨rfl, hb⟩; have HB := Lib.hid hb; clear hb)
  go_loopw [4] (fun b wr => QH w (w1.heap.size + 1) s b wr) (fun _ wr => s.size + 1 - wr.iterPos (w1.heap.size + 1))
  case atStart =>
    refine ⟨0, _, rfl, Nat.zero_le _, ?_, ?_, ?_, ?_⟩
    · have := World.iter_heap (w1.alloc (.cells #[.int .u8 34] 5)) s 0
      simpa using this
    · refine own_keep (w := w1.alloc (.cells #[.int .u8 34] 5)) (own_made w1 HB.out.size) fun k hk => ?_
      have hk1 : w1.heap.size = k := by simpa [Value.ownBlock] using hk
      exact Below.heap_alloc _ _ _ (by simp; omega)
    · exact (HB.out.alloc HB.out.size _).alloc (by simp; have := HB.out.size; omega) _
    · have h1 := HV.out
      unfold validD at h1
      rw [← Lib.size_eq] at h1
      exact h1
  case round =>
    obtain ⟨pos, vb, rfl, hp, hit, hown, hbel, hval⟩ := hrel
    have hkb : ∀ k, vb.ownBlock = some k → k ≠ w1.heap.size + 1 := by
      intro k hk he
      subst he
      rcases hown.2 with ⟨rfl, _⟩ | ⟨g, c, cur, rfl, _, hh, _⟩
      · simp [Value.ownBlock] at hk
      · have : g = w1.heap.size + 1 := by simpa [Value.ownBlock] using hk
        subst this
        rw [hit] at hh
        injection hh with hh
        cases hh
    have hBs := HB.out.size
    by_cases h7 : pos < s.size
    · have hne : s.data.toList.drop pos ≠ [] := by
        intro h0
        have := congrArg List.length h0
        rw [List.length_drop, ← Lib.size_eq] at this
        simp at this; omega
      have hll : (s.data.toList.drop pos).length ≤ s.size - pos := by rw [List.length_drop, ← Lib.size_eq]; exact Nat.le_refl _
      obtain ⟨hv1, hv2⟩ := validGoD_step _ _ hll hval hne
      obtain ⟨hsc, henc, hle, hw1⟩ := valid_head hne hv1
      have hdd := decodeL_drop s pos
      have hnx0 := fun ty => Lib.run_next_any_at (P := Tryd.prog) wr (w1.heap.size + 1) s pos ty hit h7
      rw [← hdd] at hnx0
      obtain ⟨r, hr⟩ : ∃ r, (decodeL (s.data.toList.drop pos)).1 = r := ⟨_, rfl⟩
      obtain ⟨n, hn⟩ : ∃ n, (decodeL (s.data.toList.drop pos)).2 = n := ⟨_, rfl⟩
      rw [hr] at hsc henc
      rw [hn] at henc hle hw1 hv2
      rw [hr, hn] at hnx0
      have hnx : ∀ ty, (Instr.next (.pointer (some ⟨w1.heap.size + 1, 0, none⟩)) true ty).run Tryd.prog wr = _ := hnx0
      have hlen : pos + n ≤ s.size := by rw [List.length_drop, ← Lib.size_eq] at hle; omega
      have hit2 := Lib.iterAt_heap wr (w1.heap.size + 1) s pos (pos + n) hit
      have hb2 := Lib.below_iterAt hbel (k := w1.heap.size + 1) (by omega) s (pos + n)
      have hown2 : Own (wr.iterAt (w1.heap.size + 1) s (pos + n)) w.heap.size vb _ := own_keep hown fun k hk => Lib.iterAt_other wr _ k s _ (hkb k hk)
      have hsz2 : w.heap.size ≤ (wr.iterAt (w1.heap.size + 1) s (pos + n)).heap.size := by rw [Lib.iterAt_size]; exact hbel.size
      have hxl : (34 :: ((s.data.toList.take pos).flatMap fun b => itemN b.toNat)).length ≤ 900000 := by
        have h1 := items_len (s.data.toList.take pos)
        have h2 := HS.out
        rw [List.length_take] at h1
        rw [List.length_cons]
        omega
      have htk : 34 :: ((s.data.toList.take (pos + n)).flatMap fun b => itemN b.toNat) = (34 :: ((s.data.toList.take pos).flatMap fun b => itemN b.toNat)) ++ itemR r := by
        rw [List.take_add, ← henc, List.flatMap_append, ← item_enc hsc]; rfl
      have HC2 := Lib.hid (item_any w.heap.size vb _ r hsc _ hown2 hxl hsz2)
      have HI2 := Lib.hid hit2
      have HI := Lib.hid hit
      have HB2 := Lib.hid hb2
      have HK := Lib.hid hkb
      have HT := Lib.hid htk
      have HV2 := Lib.hid hv2
      have HSZ := Lib.hid hsz2
      have HO2 := Lib.hid hown2
      clear hit hit2 hb2 hkb htk hv2 hval hown hown2 hbel hdd hnx0 hr hn henc hsc hxl hsz2 hv1 hne hll
      go_wp2_with (go_at_call 51; refine HC2.out.mono ?_; rintro e w2 ⟨v2, rfl, hown3, hgr3⟩; have HO3 := Lib.hid hown3; have HG3 := Lib.hid hgr3; clear hown3 hgr3)
      have hk2 : w2.heap[w1.heap.size + 1]? = some (.stringIter s (pos + n)) := (HG3.out.1.block _ (by have := (Array.getElem?_eq_some_iff.1 HI2.out).1; exact this) (fun he => HK.out _ he.symm rfl)).trans HI2.out
      refine ⟨⟨pos + n, v2, rfl, hlen, hk2, by rw [HT.out]; exact HO3.out, HG3.out.below HB2.out HSZ.out (own_base HO2.out), ?_⟩, ?_⟩
      · have h3 := HV2.out
        rw [List.drop_drop] at h3
        exact validGoD_more h3 (by rw [List.length_drop, ← Lib.size_eq]; omega)
      · rw [iter_pos hk2, iter_pos HI.out]; omega
    · have hnx : ∀ ty, (Instr.next (.pointer (some ⟨w1.heap.size + 1, 0, none⟩)) true ty).run Tryd.prog wr = _ := fun ty => Lib.run_next_end_at wr (w1.heap.size + 1) s pos ty hit (by exact h7)
      have hps : pos = s.size := by omega
      have hxl : (34 :: ((s.data.toList.take pos).flatMap fun b => itemN b.toNat)).length ≤ 900000 := by
        have h1 := items_len (s.data.toList.take pos)
        have h2 := HS.out
        rw [List.length_take] at h1
        rw [List.length_cons]
        omega
      have hq : (34 :: ((s.data.toList.take pos).flatMap fun b => itemN b.toNat)) ++ [34] = quo s.data.toList := by
        rw [hps, Lib.size_eq, List.take_length]; rfl
      have HO := Lib.hid hown
      have HQ := Lib.hid hq
      have HBL := Lib.hid hbel
      have HXL := Lib.hid hxl
      clear hown hq hbel hxl hit hval hps hkb
      go_wp2_with (at_builtin; refine wpList_app (B := w.heap.size) (xs := (34 :: ((s.data.toList.take pos).flatMap fun b => itemN b.toNat))) (ys := [34]) (v := vb) rfl (.tmp 19) (.tmp 20) rfl rfl rfl rfl (HO.out.alloc _) (src_list wr [34] _ rfl) (by have := HXL.out; simp only [List.length_cons, List.length_nil] at this ⊢; omega) (by have := HBL.out.size; simp; omega) ?_; intro v2 w2 hown2 hgr2; have hcv := own_str hown2; rw [HQ.out] at hcv; have HG2 := Lib.hid hgr2; clear hown2 hgr2)
      go_ret2
      exact ⟨rfl, HG2.out.alloc.below HBL.out HBL.out.size (own_base HO.out)⟩

theorem quote_any (s : ByteArray) (w : World) (hT : TB w.heap.size w) (hs : s.size ≤ 65536) :
    Calls Tryd.prog 31 #[.string s] w fun e w' => e = .returned (quR s.data.toList) ∧ Below w.heap.size w w' := by
  unfold quR
  cases hv : validD s.data.toList with
  | true => rw [if_pos rfl]; exact quote_yes s w hT hs hv
  | false => rw [if_neg (by decide)]; exact quote_no s w hT hs hv
end Go.Proofs.YtodmlgbomhmbpaaDoor
