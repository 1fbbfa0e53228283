/-
  What is proved here: the contract of the reader's method readEncoding: it takes the reader from one state to that of the machine; conditions: the library's two tables hold what is laid, and those that each fact states.
-/
import Derived.Test.YtodmlgbomhmbpaaGreatDoorReadD
import Derived.Test.YtodmlgbomhmbpaaGreatDoorFull
import Derived.Test.YtodmlgbomhmbpaaGreatDoorValidE
import Derived.Deep.RegionLaw
namespace Go.Proofs.YtodmlgbomhmbpaaGreatDoor
open Go.RowKit Ut Go.Lib

theorem Gr.undrew {w w' : World} {v v' : Value} (h : Gr w.drew w' v v') : Gr w w' v v' := ⟨⟨h.1.os, h.1.tape, h.1.output, h.1.size, h.1.block⟩, h.2⟩
/-- append onto an own row as a step of a statement whose order is open. -/
theorem step_app {ops : Array Oper} {o : Oper} {a : Act} {w : World} {K : Act → World → Prop} {Q : Exit → Act → World → Prop} {E : Prop} {B m c : Nat} {v : Value} {xs ys : List UInt8} {ad : Addr}
    (hgd : o.guard = none) (s x : Operand) (ho : o.op = .call { callee := .builtin .append, args := #[s, x], argTypes := #[23, 23] })
    (hs : a.eval s = v) (hx : a.eval x = .slice (some ad) m c) (hm : m = ys.length) (hown : Own w B v xs) (hr : ∀ j u, (bv ys)[j]? = some u → w.cell? (ad.add j) = some u) (hb : xs.length + ys.length ≤ 1000000) (hB : B ≤ w.heap.size)
    (h : ∀ v' w', Own w' B v' (xs ++ ys) → Gr w w' v v' → K (a.put o.dst v') w') :
    if Region.wanted o (yielded ops a.tmps) = true then Oper.wp Tryz.prog o a w K Q else E := by
  subst hm
  have hw : Region.wanted o (yielded ops a.tmps) = true := by simp [Region.wanted, hgd]
  rw [if_pos hw]
  obtain ⟨v', w', hrun, h2, h3⟩ := run_app o.type hown hr hb hB
  unfold Oper.wp execOp
  simp only [ho, resolve, invoke, builtin, Sem.run_bind, Sem.run_pure, Result.andThen_ok, List.map_toArray, List.map_cons, List.map_nil, hs, hx]
  rw [hrun]
  exact h v' w' h2 h3
theorem own_form_n {w : World} {B n : Nat} {v : Value} {xs : List UInt8} (h : Own w B v xs) (hl : xs.length = n) (hn : 0 < n) : ∃ g c, v = .slice (some ⟨g, 0, none⟩) n c ∧ n ≤ c ∧ g < w.heap.size ∧ B ≤ g := by
  subst hl
  obtain ⟨g, c, rfl, h1⟩ := own_form h hn
  exact ⟨g, c, rfl, h1, (h.lt g rfl).2, (h.lt g rfl).1⟩
theorem own_cells {w : World} {B g n c : Nat} {xs : List UInt8} (h : Own w B (.slice (some ⟨g, 0, none⟩) n c) xs) : ∀ j, j < xs.length → w.cell? ⟨g, j, none⟩ = some (.int .u8 ((xs.getD j 0).toNat : Int)) := by
  intro j hj
  have := h.cells (g := g) rfl j _ (bv_at hj)
  have e : ((⟨g, 0, none⟩ : Addr).add j) = ⟨g, j, none⟩ := by
    unfold Addr.add
    by_cases h : j = 0 <;> simp [h]
  rwa [e] at this
theorem own_src {w : World} {B g n c : Nat} {xs : List UInt8} (h : Own w B (.slice (some ⟨g, 0, none⟩) n c) xs) : ∀ j u, (bv xs)[j]? = some u → w.cell? ((⟨g, 0, none⟩ : Addr).add j) = some u := h.cells (g := g) rfl
theorem src_one (w : World) (c : UInt8) : ∀ j u, (bv [c])[j]? = some u → (w.alloc (.cells #[.int .u8 (c.toNat : Int)] 5)).cell? ((⟨w.heap.size, 0, none⟩ : Addr).add j) = some u := by
  intro j u hj
  match j, hj with
  | 0, hj => simp [bv] at hj; subst hj; simp [Addr.add]
  | (j + 1), hj => simp [bv] at hj

/-- The reader with its rows named. -/
def RV (w : World) (B R : Nat) (q : Q) (vt vp : Value) : Prop :=
  B ≤ R ∧ B ≤ w.heap.size ∧ Blk w R 111 #[.int .i64 q.st, vt, vp, .int .i32 q.code, .int .i64 q.dig, .int .i32 q.high] ∧ Own w B vt q.text ∧ Own w B vp q.part ∧ (∀ k, vt.ownBlock = some k → vp.ownBlock ≠ some k)
theorem RV.rs {w : World} {B R : Nat} {q : Q} {vt vp : Value} (h : RV w B R q vt vp) : RS w B R q := ⟨h.1, h.2.1, vt, vp, h.2.2⟩
theorem RV.below {w w' : World} {B R B' : Nat} {q : Q} {vt vp : Value} (h : RV w B R q vt vp) (hb : Below B' w w') (hB : w.heap.size ≤ B') : RV w' B R q vt vp := by
  obtain ⟨h1, h2, h3, h4, h5, h6⟩ := h
  have hs := hb.size
  exact ⟨h1, by omega, h3.below hb (by have := h3.lt; omega), own_below h4 hb hB, own_below h5 hb hB, h6⟩
theorem RV.part {w : World} {B R : Nat} {q : Q} {vt vp v' : Value} {ys : List UInt8} (h : RV w B R q vt vp) (h5 : Own w B v' ys) (h6 : ∀ k, vt.ownBlock = some k → v'.ownBlock ≠ some k) : RV (w.setCell ⟨R, 2, none⟩ v') B R { q with part := ys } vt v' := by
  obtain ⟨h1, h2, h3, h4, _, _⟩ := h
  exact ⟨h1, by simpa using h2, h3.put 2 _, own_put h4 (own_ne h4 h3 (by decide)) _, own_put h5 (own_ne h5 h3 (by decide)) _, h6⟩
/-- The row of the incomplete encoding is appended to. -/
theorem RV.more {w w1 : World} {B R : Nat} {q : Q} {vt vp v' : Value} (h : RV w B R q vt vp) (hgr : Gr w w1 vp v') :
    Blk w1 R 111 #[.int .i64 q.st, vt, vp, .int .i32 q.code, .int .i64 q.dig, .int .i32 q.high] ∧ Own w1 B vt q.text ∧ (∀ k, vt.ownBlock = some k → v'.ownBlock ≠ some k) := by
  obtain ⟨h1, h2, h3, h4, h5, h6⟩ := h
  refine ⟨h3.grown hgr.1 (fun he => own_ne h5 h3 (by decide) he.symm), own_keep h4 fun k hk => hgr.1.block k (h4.lt k hk).2 (fun he => h6 k hk he.symm), fun k hk hk' => ?_⟩
  rcases hgr.2 with h | ⟨j, hj, hl⟩
  · exact h6 k hk (by rw [← h]; exact hk')
  · have := (h4.lt k hk).2
    rw [hk'] at hj
    injection hj with hj
    omega

theorem RV.parted' {w : World} {B R : Nat} {q : Q} {vt vp v' : Value} {ys : List UInt8} (h1 : B ≤ R) (h2 : B ≤ w.heap.size) (h3 : Blk w R 111 #[.int .i64 q.st, vt, vp, .int .i32 q.code, .int .i64 q.dig, .int .i32 q.high])
    (h4 : Own w B vt q.text) (h5 : Own w B v' ys) (h6 : ∀ k, vt.ownBlock = some k → v'.ownBlock ≠ some k) : RV (w.setCell ⟨R, 2, none⟩ v') B R { q with part := ys } vt v' :=
  ⟨h1, by simpa using h2, h3.put 2 _, own_put h4 (own_ne h4 h3 (by decide)) _, own_put h5 (own_ne h5 h3 (by decide)) _, h6⟩
theorem RV.texted' {w : World} {B R : Nat} {q : Q} {vt vp v' : Value} {ys : List UInt8} (h1 : B ≤ R) (h2 : B ≤ w.heap.size) (h3 : Blk w R 111 #[.int .i64 q.st, vt, vp, .int .i32 q.code, .int .i64 q.dig, .int .i32 q.high])
    (h4 : Own w B v' ys) (h5 : Own w B vp q.part) (h6 : ∀ k, v'.ownBlock = some k → vp.ownBlock ≠ some k) : RV (w.setCell ⟨R, 1, none⟩ v') B R { q with text := ys } v' vp :=
  ⟨h1, by simpa using h2, h3.put 1 _, own_put h4 (own_ne h4 h3 (by decide)) _, own_put h5 (own_ne h5 h3 (by decide)) _, h6⟩
theorem fullRune_n (g c n : Nat) (l : List UInt8) (w : World) (hn : l.length = n) (h1 : 0 < n) (h4 : n ≤ 4) (hT : Utf8Tabs 4 5 w) (hc : ∀ j, j < l.length → w.cell? ⟨g, j, none⟩ = some (.int .u8 ((l.getD j 0).toNat : Int))) (hg : g < w.heap.size) :
    Calls Tryz.prog 81 #[.slice (some ⟨g, 0, none⟩) n c] w fun e w' => e = .returned (.bool (full l)) ∧ Below w.heap.size w w' := by
  subst hn
  exact fullRune_any g c l w h1 h4 hT hc hg
set_option maxHeartbeats 4000000 in
theorem readEncoding_no (w : World) (B R : Nat) (q : Q) (c : UInt8) (h : RS w B R q) (hT : TB B w) (hp : q.part.length ≤ 3) (hf : full (q.part ++ [c]) = false) :
    Calls Tryz.prog 74 #[.pointer (some ⟨R, 0, none⟩), .int .u8 (c.toNat : Int)] w (Got w B R ({ q with part := q.part ++ [c] }, 0)) := by
  obtain ⟨h1, h2, vt, vp, h3, h4, h5, h6⟩ := h
  have hV : RV (w.alloc (.cells #[.int .u8 (c.toNat : Int)] 5)) B R q vt vp := RV.below ⟨h1, h2, h3, h4, h5, h6⟩ ((Below.refl _ _).alloc (Nat.le_refl _) _) (Nat.le_refl _)
  have hc2 : w.cell? ⟨R, 2, none⟩ = some vp := h3.cell 2
  have hRs := h3.lt
  obtain ⟨n, hn⟩ : ∃ n, (q.part ++ [c]).length = n := ⟨_, rfl⟩
  have hn1 : 0 < n ∧ n ≤ 4 := by simp at hn; omega
  have hsrc := src_one w c
  have hsz : B ≤ (w.alloc (.cells #[.int .u8 (c.toNat : Int)] 5)).heap.size := hV.2.1
  have HN := Lib.hid hn
  have HF := Lib.hid hf
  have HV := Lib.hid hV
  have HS := Lib.hid hsrc
  have HT := Lib.hid hT
  have HP := Lib.hid hp
  clear h3 h4 h5 h6 hn hf hV hsrc hT hp
  go_enter Tryz.func74, Tryz.ntmps74
  go_wp2_with (first
    | (at_builtin; refine wpList_app (B := B) (v := vp) (xs := q.part) (ys := [c]) rfl (.tmp 9) (.tmp 11) rfl rfl rfl rfl HV.out.2.2.2.2.1 HS.out (by have := HP.out; simp; omega) hsz ?_; intro v1 w1 hown hgr; obtain ⟨g, k, rfl, hnk, hgl, hgB⟩ := own_form_n hown HN.out hn1.1; obtain ⟨hbk, hot, hd⟩ := HV.out.more hgr; obtain ⟨k0, k1, k2, k3, k4, k5, f0, f1, f2, f3, f4, f5⟩ := hbk.six; have HRV := Lib.hid (RV.parted' h1 (Nat.le_trans hsz hgr.1.size) hbk hot hown hd); have HBEL := Lib.hid ((hgr.below ((Below.refl _ _).alloc h2 (.cells #[.int .u8 (c.toNat : Int)] 5)) hsz (own_base HV.out.2.2.2.2.1)).setCell (p := ⟨R, 2, none⟩) h1 (.slice (some ⟨g, 0, none⟩) n k)); have HC := Lib.hid (fullRune_n g k n _ _ HN.out hn1.1 hn1.2 (HT.out.below HBEL.out).2.2 (own_cells HRV.out.2.2.2.2.1) (by simpa using hgl)); clear hown hgr hbk hot hd)
    | (go_at_call 81; refine HC.out.mono ?_; rintro e w3 ⟨rfl, hb3⟩; rw [HF.out]; have HRV3 := Lib.hid (HRV.out.below hb3 (Nat.le_refl _)); have HB3 := Lib.hid (HBEL.out.trans (hb3.mono HRV.out.2.1)); clear hb3))
  go_ret
  exact ⟨rfl, fun _ => HRV3.out.rs, HB3.out⟩

set_option maxHeartbeats 4000000 in
theorem readEncoding_bad (w : World) (B R : Nat) (q : Q) (c : UInt8) (h : RS w B R q) (hT : TB B w) (hp : q.part.length ≤ 3) (hf : full (q.part ++ [c]) = true) (hv : val (q.part ++ [c]) = false)
    (ha : ((q.part ++ [c]).getD 0 0).toNat < 128 → (q.part ++ [c]).length = 1) (hx : 1 < firstT ((q.part ++ [c]).getD 0 0).toNat % 8 → (q.part ++ [c]).length ≤ firstT ((q.part ++ [c]).getD 0 0).toNat % 8) :
    Calls Tryz.prog 74 #[.pointer (some ⟨R, 0, none⟩), .int .u8 (c.toNat : Int)] w (Got w B R ({ q with part := q.part ++ [c] }, 40)) := by
  obtain ⟨h1, h2, vt, vp, h3, h4, h5, h6⟩ := h
  have hV : RV (w.alloc (.cells #[.int .u8 (c.toNat : Int)] 5)) B R q vt vp := RV.below ⟨h1, h2, h3, h4, h5, h6⟩ ((Below.refl _ _).alloc (Nat.le_refl _) _) (Nat.le_refl _)
  have hc2 : w.cell? ⟨R, 2, none⟩ = some vp := h3.cell 2
  have hRs := h3.lt
  obtain ⟨n, hn⟩ : ∃ n, (q.part ++ [c]).length = n := ⟨_, rfl⟩
  have hn1 : 0 < n ∧ n ≤ 4 := by simp at hn; omega
  have hsrc := src_one w c
  have hsz : B ≤ (w.alloc (.cells #[.int .u8 (c.toNat : Int)] 5)).heap.size := hV.2.1
  rw [hn] at ha hx
  have HN := Lib.hid hn
  have HF := Lib.hid hf
  have HVAL := Lib.hid hv
  have HA := Lib.hid ha
  have HX := Lib.hid hx
  have HV := Lib.hid hV
  have HS := Lib.hid hsrc
  have HT := Lib.hid hT
  have HP := Lib.hid hp
  clear h3 h4 h5 h6 hn hf hV hsrc hT hp hv ha hx
  go_enter Tryz.func74, Tryz.ntmps74
  go_wp2_with (first
    | (at_builtin; refine wpList_app (B := B) (v := vp) (xs := q.part) (ys := [c]) rfl (.tmp 9) (.tmp 11) rfl rfl rfl rfl HV.out.2.2.2.2.1 HS.out (by have := HP.out; simp; omega) hsz ?_; intro v1 w1 hown hgr; obtain ⟨g, k, rfl, hnk, hgl, hgB⟩ := own_form_n hown HN.out hn1.1; obtain ⟨hbk, hot, hd⟩ := HV.out.more hgr; obtain ⟨k0, k1, k2, k3, k4, k5, f0, f1, f2, f3, f4, f5⟩ := hbk.six; have HRV := Lib.hid (RV.parted' h1 (Nat.le_trans hsz hgr.1.size) hbk hot hown hd); have HBEL := Lib.hid ((hgr.below ((Below.refl _ _).alloc h2 (.cells #[.int .u8 (c.toNat : Int)] 5)) hsz (own_base HV.out.2.2.2.2.1)).setCell (p := ⟨R, 2, none⟩) h1 (.slice (some ⟨g, 0, none⟩) n k)); have HC := Lib.hid (fullRune_n g k n _ _ HN.out hn1.1 hn1.2 (HT.out.below HBEL.out).2.2 (own_cells HRV.out.2.2.2.2.1) (by simpa using hgl)); clear hown hgr hbk hot hd)
    | (go_at_call 81; refine HC.out.mono ?_; rintro e w3 ⟨rfl, hb3⟩; rw [HF.out]; have HRV3 := Lib.hid (HRV.out.below hb3 (Nat.le_refl _)); have HB3 := Lib.hid (HBEL.out.trans (hb3.mono HRV.out.2.1)); clear hb3; obtain ⟨k0, k1, k2, k3, k4, k5, f0, f1, f2, f3, f4, f5⟩ := HRV3.out.2.2.1.six; have HCV := Lib.hid (valid_n g k n _ _ HN.out hn1.1 hn1.2 HA.out HX.out (HT.out.below HB3.out).2.2 (own_cells HRV3.out.2.2.2.2.1) (HRV3.out.2.2.2.2.1.lt g rfl).2 hnk))
    | (go_at_call 82; refine HCV.out.mono ?_; rintro e w4 ⟨rfl, hb4⟩; rw [HVAL.out]; have HRV4 := Lib.hid (HRV3.out.below hb4 (Nat.le_refl _)); have HB4 := Lib.hid (HB3.out.trans (hb4.mono HRV3.out.2.1)); clear hb4; obtain ⟨k0, k1, k2, k3, k4, k5, f0, f1, f2, f3, f4, f5⟩ := HRV4.out.2.2.1.six))
  go_ret
  exact ⟨rfl, (fun h => by simp at h), HB4.out⟩

set_option maxHeartbeats 4000000 in
theorem readEncoding_yes (w : World) (B R : Nat) (q : Q) (c : UInt8) (h : RS w B R q) (hT : TB B w) (hp : q.part.length ≤ 3) (hf : full (q.part ++ [c]) = true) (hv : val (q.part ++ [c]) = true)
    (ha : ((q.part ++ [c]).getD 0 0).toNat < 128 → (q.part ++ [c]).length = 1) (hx : 1 < firstT ((q.part ++ [c]).getD 0 0).toNat % 8 → (q.part ++ [c]).length ≤ firstT ((q.part ++ [c]).getD 0 0).toNat % 8) (hl : q.text.length ≤ 900000) :
    Calls Tryz.prog 74 #[.pointer (some ⟨R, 0, none⟩), .int .u8 (c.toNat : Int)] w (Got w B R ({ q with st := 1, text := q.text ++ (q.part ++ [c]), part := [] }, 0)) := by
  obtain ⟨h1, h2, vt, vp, h3, h4, h5, h6⟩ := h
  have hV : RV (w.alloc (.cells #[.int .u8 (c.toNat : Int)] 5)) B R q vt vp := RV.below ⟨h1, h2, h3, h4, h5, h6⟩ ((Below.refl _ _).alloc (Nat.le_refl _) _) (Nat.le_refl _)
  have hc2 : w.cell? ⟨R, 2, none⟩ = some vp := h3.cell 2
  have hRs := h3.lt
  obtain ⟨n, hn⟩ : ∃ n, (q.part ++ [c]).length = n := ⟨_, rfl⟩
  have hn1 : 0 < n ∧ n ≤ 4 := by simp at hn; omega
  have hsrc := src_one w c
  have hsz : B ≤ (w.alloc (.cells #[.int .u8 (c.toNat : Int)] 5)).heap.size := hV.2.1
  rw [hn] at ha hx
  have HN := Lib.hid hn
  have HF := Lib.hid hf
  have HVAL := Lib.hid hv
  have HA := Lib.hid ha
  have HX := Lib.hid hx
  have HV := Lib.hid hV
  have HS := Lib.hid hsrc
  have HT := Lib.hid hT
  have HP := Lib.hid hp
  clear h3 h4 h5 h6 hn hf hV hsrc hT hp hv ha hx
  go_enter Tryz.func74, Tryz.ntmps74
  go_wp2_with (first
    | (at_builtin; refine wpList_app (B := B) (v := vp) (xs := q.part) (ys := [c]) rfl (.tmp 9) (.tmp 11) rfl rfl rfl rfl HV.out.2.2.2.2.1 HS.out (by have := HP.out; simp; omega) hsz ?_; intro v1 w1 hown hgr; obtain ⟨g, k, rfl, hnk, hgl, hgB⟩ := own_form_n hown HN.out hn1.1; obtain ⟨hbk, hot, hd⟩ := HV.out.more hgr; obtain ⟨k0, k1, k2, k3, k4, k5, f0, f1, f2, f3, f4, f5⟩ := hbk.six; have HRV := Lib.hid (RV.parted' h1 (Nat.le_trans hsz hgr.1.size) hbk hot hown hd); have HBEL := Lib.hid ((hgr.below ((Below.refl _ _).alloc h2 (.cells #[.int .u8 (c.toNat : Int)] 5)) hsz (own_base HV.out.2.2.2.2.1)).setCell (p := ⟨R, 2, none⟩) h1 (.slice (some ⟨g, 0, none⟩) n k)); have HC := Lib.hid (fullRune_n g k n _ _ HN.out hn1.1 hn1.2 (HT.out.below HBEL.out).2.2 (own_cells HRV.out.2.2.2.2.1) (by simpa using hgl)); clear hown hgr hbk hot hd)
    | (go_at_call 81; refine HC.out.mono ?_; rintro e w3 ⟨rfl, hb3⟩; rw [HF.out]; have HRV3 := Lib.hid (HRV.out.below hb3 (Nat.le_refl _)); have HB3 := Lib.hid (HBEL.out.trans (hb3.mono HRV.out.2.1)); clear hb3; obtain ⟨k0, k1, k2, k3, k4, k5, f0, f1, f2, f3, f4, f5⟩ := HRV3.out.2.2.1.six; have HCV := Lib.hid (valid_n g k n _ _ HN.out hn1.1 hn1.2 HA.out HX.out (HT.out.below HB3.out).2.2 (own_cells HRV3.out.2.2.2.2.1) (HRV3.out.2.2.2.2.1.lt g rfl).2 hnk))
    | (go_at_call 82; refine HCV.out.mono ?_; rintro e w4 ⟨rfl, hb4⟩; rw [HVAL.out]; have HRV4 := Lib.hid (HRV3.out.below hb4 (Nat.le_refl _)); have HB4 := Lib.hid (HB3.out.trans (hb4.mono HRV3.out.2.1)); clear hb4; obtain ⟨k0, k1, k2, k3, k4, k5, f0, f1, f2, f3, f4, f5⟩ := HRV4.out.2.2.1.six))
  go_region_law (refine step_app (B := B) (v := vt) (xs := q.text) (ys := q.part ++ [c]) rfl (.tmp 31) (.tmp 35) rfl rfl rfl HN.out.symm HRV4.out.2.2.2.1 (own_src HRV4.out.2.2.2.2.1) (by rw [HN.out]; omega) HRV4.out.2.1 ?_; intro v5 w5 hown hgr0; have hgr := hgr0.undrew; clear hgr0; obtain ⟨nt, hnt⟩ : ∃ nt, (q.text ++ (q.part ++ [c])).length = nt := ⟨_, rfl⟩; obtain ⟨g5, c5, rfl, hn5, hgl5, hgB5⟩ := own_form_n hown hnt (by simp at hnt; omega); obtain ⟨hbk, hop, hd⟩ := RS.texted (q := { q with part := q.part ++ [c] }) HRV4.out.2.2.1 HRV4.out.2.2.2.1 HRV4.out.2.2.2.2.1 HRV4.out.2.2.2.2.2 hgr; obtain ⟨k0, k1, k2, k3, k4, k5, f0, f1, f2, f3, f4, f5⟩ := hbk.six; have HO5 := Lib.hid hown; have HG5 := Lib.hid hgr; have HK5 := Lib.hid hbk; have HP5 := Lib.hid hop; have HD5 := Lib.hid hd; have HNT := Lib.hid hnt; clear hown hgr hbk hop hd hnt)
  all_goals
    have HRV5 := Lib.hid (RV.texted' (q := { q with part := q.part ++ [c] }) h1 (Nat.le_trans HRV4.out.2.1 HG5.out.1.size) HK5.out HO5.out HP5.out HD5.out)
    have HOWN5 := HRV5.out.2.2.2.2.1
    unfold Own at HOWN5
    rw [show ({ q with part := q.part ++ [c], text := q.text ++ (q.part ++ [c]) } : Q).part.length = n from HN.out] at HOWN5
    have HB5 := Lib.hid (HG5.out.below HB4.out HRV4.out.2.1 (own_base HRV4.out.2.2.2.1))
    go_wp2
    go_ret
    exact ⟨rfl, fun _ => ((HRV5.out.part (v' := .slice (some ⟨g, 0, none⟩) 0 k) (ys := []) (own_cut (n := n) (xs := bv (q.part ++ [c])) HOWN5) HRV5.out.2.2.2.2.2).rs).st 1, ((HB5.out.setCell h1 _).setCell h1 _).setCell h1 _⟩
end Go.Proofs.YtodmlgbomhmbpaaGreatDoor
