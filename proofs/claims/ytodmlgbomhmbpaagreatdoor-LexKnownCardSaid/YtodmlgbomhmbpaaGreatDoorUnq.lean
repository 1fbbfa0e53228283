/-
  What is proved here: the contract of utf.Unquote: it answers as the machine over the bytes of its argument; conditions: the library's two tables hold what is laid, and the string has at most 65536 bytes.
-/
import Derived.Test.YtodmlgbomhmbpaaGreatDoorReadA
namespace Go.Proofs.YtodmlgbomhmbpaaGreatDoor
open Go.RowKit Ut Go.Lib

/-- The string of the bytes. -/
def str (xs : List UInt8) : ByteArray := ⟨xs.toArray⟩
theorem str_list (s : ByteArray) : str s.data.toList = s := by cases s; simp [str]
theorem str_data (xs : List UInt8) : (str xs).data.toList = xs := by simp [str]
theorem fold_push (xs : List UInt8) (s : ByteArray) : (xs.map (fun b : UInt8 => (b.toNat : Int))).foldl (fun r n => r.push (UInt8.ofNat n.toNat)) s = ⟨s.data ++ xs.toArray⟩ := by
  induction xs generalizing s with
  | nil => simp
  | cons x xs ih =>
    simp only [List.map_cons, List.foldl_cons, ih]
    congr 1
    simp [ByteArray.push]
theorem own_str {w : World} {B : Nat} {v : Value} {xs : List UInt8} (h : Own w B v xs) : (convert 23 9 v).run Tryz.prog w = .ok (.string (str xs)) w := by
  rcases h.2 with ⟨rfl, h0⟩ | ⟨g, c, cur, rfl, _⟩
  · have hx : xs = [] := List.eq_nil_of_length_eq_zero h0
    subst hx
    rw [run_convert_bytes_string w 23 9 5 none 0 0 Tryz.underlying23 Tryz.underlying5 Tryz.underlying9]
    rfl
  · rw [run_convert_bytes_string w 23 9 5 _ _ c Tryz.underlying23 Tryz.underlying5 Tryz.underlying9]
    have hl := run_loadCells_list (P := Tryz.prog) (w := w) ⟨g, 0, none⟩ (bv xs) (own_src h)
    have e : (bv xs) = (xs.map (fun b : UInt8 => (b.toNat : Int))).map (Value.int .u8) := by simp [bv]
    rw [bv_length, e] at hl
    rw [run_bytesToString w ⟨g, 0, none⟩ _ c _ hl, fold_push]
    simp [str]
theorem RS.text {w : World} {B R : Nat} {q : Q} (h : RS w B R q) : ∃ vt, w.cell? ⟨R, 1, none⟩ = some vt ∧ (convert 23 9 vt).run Tryz.prog w = .ok (.string (str q.text)) w := by
  obtain ⟨_, _, vt, vp, h3, h4, _⟩ := h
  exact ⟨vt, h3.cell 1, own_str h4⟩
theorem RS.new (w : World) : RS (w.alloc (.cells #[.int .i64 0, .slice none 0 0, .slice none 0 0, .int .i32 0, .int .i64 0, .int .i32 0] 111)) w.heap.size w.heap.size q0 :=
  ⟨Nat.le_refl _, by simp, .slice none 0 0, .slice none 0 0, Blk.new w _ _, World.ownsRow_nil _ _ _ _, World.ownsRow_nil _ _ _ _, fun k hk => by simp [Value.ownBlock] at hk⟩

/-- What Unquote hands back. -/
def uR (r : List UInt8 × Nat × Nat × Nat) : Value := .tuple #[.string (str r.1), .int .i64 (r.2.1 : Int), .int .i64 (r.2.2.1 : Int), .int .i64 (r.2.2.2 : Int)]
def UE (w : World) (r : List UInt8 × Nat × Nat × Nat) (e : Ending) (w' : World) : Prop := e = .returned (uR r) ∧ Below w.heap.size w w'

/-- The round's head. -/
def UH (w : World) (s : ByteArray) (n e : Value) (wr : World) : Prop :=
  ∃ (k : Nat) (q : Q), k ≤ s.size ∧ n = .int .i64 k ∧ e = .int .i64 0 ∧ WF q ∧ RS wr w.heap.size w.heap.size q ∧ Below w.heap.size w wr ∧ q.text.length ≤ 4 * k ∧ unq s.data.toList = go q (s.data.toList.drop k) k

set_option maxHeartbeats 1000000 in
set_option maxRecDepth 1000000 in
theorem unquote_any (s : ByteArray) (w : World) (hT : TB w.heap.size w) (hs : s.size ≤ 65536) :
    Calls Tryz.prog 55 #[.string s] w (UE w (unq s.data.toList)) := by
  have HT := Lib.hid hT
  clear hT
  have HN := Lib.hid (RS.new w)
  go_enter Tryz.func55, Tryz.ntmps55
  go_wp2
  go_loopw [3, 5] (fun n e wr => UH w s n e wr) (fun n _ _ => s.size + 1 - (RowKit.intOf n).toNat)
  case atStart => exact ⟨0, q0, Nat.zero_le _, rfl, rfl, wf0, HN.out, (Below.refl _ _).alloc (Nat.le_refl _) _, by simp [q0], rfl⟩
  case round =>
    obtain ⟨k, q, hk, rfl, rfl, hwf, hr, hb, hlen, hgo⟩ := hrel
    have c0 := hr.c0
    obtain ⟨vt, c1, hcv⟩ := hr.text
    have HW := Lib.hid hwf
    have HR := Lib.hid hr
    have HB := Lib.hid hb
    have HG := Lib.hid hgo
    clear hwf hr hb hgo
    by_cases h8 : q.st = 8
    · rw [h8] at c0
      have HR8 := Lib.hid (go_8 h8 (s.data.toList.drop k) k)
      clear h8
      go_wp2
      exact bodyPost_ret (v := uR (q.text, k, 0, 0)) (by simp [results, Tryz.results55, go_sem, uR, str]) rfl ⟨by rw [HG.out, HR8.out], HB.out⟩
    · have i8 : ((q.st : Int) == 8) = false := by simp; omega
      have j8 : ((q.st : Int) != 8) = true := by simp; omega
      by_cases hlt : k < s.size
      · have HC := Lib.hid (read_any _ _ _ q (s[k]) HR.out (HT.out.below HB.out) HW.out h8 (by omega))
        have hdrop : s.data.toList.drop k = s[k] :: s.data.toList.drop (k + 1) := by rw [List.drop_eq_getElem_cons (by rw [← Lib.size_eq]; exact hlt)]; rfl
        have HDR := Lib.hid hdrop
        clear hdrop
        have H8 := Lib.hid h8
        clear h8
        go_wp2_with (go_at_call 64; refine HC.out.mono ?_; rintro e w1 ⟨rfl, hg, hb1⟩; have HG1 := Lib.hid hg; have HB1 := Lib.hid (HB.out.trans hb1); clear hg hb1)
        · have hne : (Ut.step q s[k]).2 ≠ 0 := by intro h; simp_all
          exact bodyPost_ret (v := uR ([], 0, k, (Ut.step q s[k]).2)) (by simp [results, Tryz.results55, go_sem, uR, str]) rfl ⟨by rw [HG.out, HDR.out, go_err H8.out hne], HB1.out⟩
        · have he0 : (Ut.step q s[k]).2 = 0 := by
            have h := (show ∀ n : Nat, ((n : Int) != 0) = false → n = 0 by intro n h; simp at h; omega)
            first
              | assumption
              | (apply h; assumption)
              | simp_all
          have hk1 : ((k + 1 : Nat) : Int) = (k : Int) + 1 := by omega
          refine ⟨⟨k + 1, (Ut.step q s[k]).1, by omega, by rw [hk1], by rw [he0]; rfl, step_wf HW.out H8.out _ he0, HG1.out he0, HB1.out, ?_, ?_⟩, ?_⟩
          · have := step_len HW.out s[k]; omega
          · rw [HG.out, HDR.out, go_ok H8.out he0]
          · simp [RowKit.intOf]; omega
      · have hks : k = s.size := by omega
        have HN8 := Lib.hid (go_nil h8 k)
        have hdrop : s.data.toList.drop k = [] := by rw [hks]; exact List.drop_of_length_le (Nat.le_of_eq (Lib.size_eq s).symm)
        have HD := Lib.hid hdrop
        have HK := Lib.hid hks
        have hke : (k : Int) = (s.size : Int) := by omega
        have dke : ((k : Int) == (s.size : Int)) = true := by simp; omega
        clear hdrop h8 hlt hke
        go_wp2
        exact bodyPost_ret (v := uR ([], 0, k, 3)) (by simp [results, Tryz.results55, go_sem, uR, str]) rfl ⟨by rw [HG.out, HD.out, HN8.out], HB.out⟩
end Go.Proofs.YtodmlgbomhmbpaaGreatDoor
