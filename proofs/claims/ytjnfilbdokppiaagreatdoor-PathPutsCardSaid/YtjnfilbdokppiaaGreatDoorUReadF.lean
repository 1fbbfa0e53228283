/-
  What is proved here: the contract of the reader's method readEncoding: it takes the reader from one state to that of the machine; conditions: the library's two tables hold what is laid, and those that each fact states; and: contracts of the reader's methods readItem, readEscape, readFirst, readSecond: each takes the reader from one state to that of the machine; conditions: the library's two tables hold what is laid, and those that each fact states; and: contracts of the reader's methods readEscape, readFirst and readSecond: each takes the reader from one state to that of the machine; conditions: those that each fact states.
-/
import Derived.Test.YtjnfilbdokppiaaGreatDoorUReadD
import Derived.Test.YtjnfilbdokppiaaGreatDoorUFull
import Derived.Test.YtjnfilbdokppiaaGreatDoorUValidE
import Derived.Deep.RegionLaw
import Derived.Test.YtjnfilbdokppiaaGreatDoorUReadN
namespace Go.Proofs.YtjnfilbdokppiaaGreatDoor.U
open Go.RowKit Ut Go.Lib

theorem Gr.undrew {w w' : World} {v v' : Value} (h : Gr w.drew w' v v') : Gr w w' v v' := ⟨⟨h.1.os, h.1.tape, h.1.output, h.1.size, h.1.block⟩, h.2⟩
/-- append onto an own row as a step of a statement whose order is open. -/
theorem step_app {ops : Array Oper} {o : Oper} {a : Act} {w : World} {K : Act → World → Prop} {Q : Exit → Act → World → Prop} {E : Prop} {B m c : Nat} {v : Value} {xs ys : List UInt8} {ad : Addr}
    (hgd : o.guard = none) (s x : Operand) (ho : o.op = .call { callee := .builtin .append, args := #[s, x], argTypes := #[61, 61] })
    (hs : a.eval s = v) (hx : a.eval x = .slice (some ad) m c) (hm : m = ys.length) (hown : Own w B v xs) (hr : ∀ j u, (bv ys)[j]? = some u → w.cell? (ad.add j) = some u) (hb : xs.length + ys.length ≤ 1000000) (hB : B ≤ w.heap.size)
    (h : ∀ v' w', Own w' B v' (xs ++ ys) → Gr w w' v v' → K (a.put o.dst v') w') :
    if Region.wanted o (yielded ops a.tmps) = true then Oper.wp Tryz.prog o a w K Q else E := by
  subst hm
  have hw : Region.wanted o (yielded ops a.tmps) = true := by simp [Region.wanted, hgd]
  rw [if_pos hw]
  obtain ⟨v', w', hrun, h2, h3⟩ := run_app o.type hown hr hb hB
  unfold Oper.wp execOp
  simp only [ho, resolve, invoke, builtin, Sem.run_bind, Sem.run_pure, Result.andThen_ok, List.map_toArray, List.map_cons, List.map_nil, hs, hx]
  rw [hrun]
  exact h v' w' h2 h3
theorem own_form_n {w : World} {B n : Nat} {v : Value} {xs : List UInt8} (h : Own w B v xs) (hl : xs.length = n) (hn : 0 < n) : ∃ g c, v = .slice (some ⟨g, 0, none⟩) n c ∧ n ≤ c ∧ g < w.heap.size ∧ B ≤ g := by
  subst hl
  obtain ⟨g, c, rfl, h1⟩ := own_form h hn
  exact ⟨g, c, rfl, h1, (h.lt g rfl).2, (h.lt g rfl).1⟩
theorem own_cells {w : World} {B g n c : Nat} {xs : List UInt8} (h : Own w B (.slice (some ⟨g, 0, none⟩) n c) xs) : ∀ j, j < xs.length → w.cell? ⟨g, j, none⟩ = some (.int .u8 ((xs.getD j 0).toNat : Int)) := by
  intro j hj
  have := h.cells (g := g) rfl j _ (bv_at hj)
  have e : ((⟨g, 0, none⟩ : Addr).add j) = ⟨g, j, none⟩ := by
    unfold Addr.add
    by_cases h : j = 0 <;> simp [h]
  rwa [e] at this
theorem own_src {w : World} {B g n c : Nat} {xs : List UInt8} (h : Own w B (.slice (some ⟨g, 0, none⟩) n c) xs) : ∀ j u, (bv xs)[j]? = some u → w.cell? ((⟨g, 0, none⟩ : Addr).add j) = some u := h.cells (g := g) rfl
theorem src_one (w : World) (c : UInt8) : ∀ j u, (bv [c])[j]? = some u → (w.alloc (.cells #[.int .u8 (c.toNat : Int)] 5)).cell? ((⟨w.heap.size, 0, none⟩ : Addr).add j) = some u := by
  intro j u hj
  match j, hj with
  | 0, hj => simp [bv] at hj; subst hj; simp [Addr.add]
  | (j + 1), hj => simp [bv] at hj

/-- The reader with its rows named. -/
def RV (w : World) (B R : Nat) (q : Q) (vt vp : Value) : Prop :=
  B ≤ R ∧ B ≤ w.heap.size ∧ Blk w R 106 #[.int .i64 q.st, vt, vp, .int .i32 q.code, .int .i64 q.dig, .int .i32 q.high] ∧ Own w B vt q.text ∧ Own w B vp q.part ∧ (∀ k, vt.ownBlock = some k → vp.ownBlock ≠ some k)
theorem RV.rs {w : World} {B R : Nat} {q : Q} {vt vp : Value} (h : RV w B R q vt vp) : RS w B R q := ⟨h.1, h.2.1, vt, vp, h.2.2⟩
theorem RV.below {w w' : World} {B R B' : Nat} {q : Q} {vt vp : Value} (h : RV w B R q vt vp) (hb : Below B' w w') (hB : w.heap.size ≤ B') : RV w' B R q vt vp := by
  obtain ⟨h1, h2, h3, h4, h5, h6⟩ := h
  have hs := hb.size
  exact ⟨h1, by omega, h3.below hb (by have := h3.lt; omega), own_below h4 hb hB, own_below h5 hb hB, h6⟩
theorem RV.part {w : World} {B R : Nat} {q : Q} {vt vp v' : Value} {ys : List UInt8} (h : RV w B R q vt vp) (h5 : Own w B v' ys) (h6 : ∀ k, vt.ownBlock = some k → v'.ownBlock ≠ some k) : RV (w.setCell ⟨R, 2, none⟩ v') B R { q with part := ys } vt v' := by
  obtain ⟨h1, h2, h3, h4, _, _⟩ := h
  exact ⟨h1, by simpa using h2, h3.put 2 _, own_put h4 (own_ne h4 h3 (by decide)) _, own_put h5 (own_ne h5 h3 (by decide)) _, h6⟩
/-- The row of the incomplete encoding is appended to. -/
theorem RV.more {w w1 : World} {B R : Nat} {q : Q} {vt vp v' : Value} (h : RV w B R q vt vp) (hgr : Gr w w1 vp v') :
    Blk w1 R 106 #[.int .i64 q.st, vt, vp, .int .i32 q.code, .int .i64 q.dig, .int .i32 q.high] ∧ Own w1 B vt q.text ∧ (∀ k, vt.ownBlock = some k → v'.ownBlock ≠ some k) := by
  obtain ⟨h1, h2, h3, h4, h5, h6⟩ := h
  refine ⟨h3.grown hgr.1 (fun he => own_ne h5 h3 (by decide) he.symm), own_keep h4 fun k hk => hgr.1.block k (h4.lt k hk).2 (fun he => h6 k hk he.symm), fun k hk hk' => ?_⟩
  rcases hgr.2 with h | ⟨j, hj, hl⟩
  · exact h6 k hk (by rw [← h]; exact hk')
  · have := (h4.lt k hk).2
    rw [hk'] at hj
    injection hj with hj
    omega

theorem RV.parted' {w : World} {B R : Nat} {q : Q} {vt vp v' : Value} {ys : List UInt8} (h1 : B ≤ R) (h2 : B ≤ w.heap.size) (h3 : Blk w R 106 #[.int .i64 q.st, vt, vp, .int .i32 q.code, .int .i64 q.dig, .int .i32 q.high])
    (h4 : Own w B vt q.text) (h5 : Own w B v' ys) (h6 : ∀ k, vt.ownBlock = some k → v'.ownBlock ≠ some k) : RV (w.setCell ⟨R, 2, none⟩ v') B R { q with part := ys } vt v' :=
  ⟨h1, by simpa using h2, h3.put 2 _, own_put h4 (own_ne h4 h3 (by decide)) _, own_put h5 (own_ne h5 h3 (by decide)) _, h6⟩
theorem RV.texted' {w : World} {B R : Nat} {q : Q} {vt vp v' : Value} {ys : List UInt8} (h1 : B ≤ R) (h2 : B ≤ w.heap.size) (h3 : Blk w R 106 #[.int .i64 q.st, vt, vp, .int .i32 q.code, .int .i64 q.dig, .int .i32 q.high])
    (h4 : Own w B v' ys) (h5 : Own w B vp q.part) (h6 : ∀ k, v'.ownBlock = some k → vp.ownBlock ≠ some k) : RV (w.setCell ⟨R, 1, none⟩ v') B R { q with text := ys } v' vp :=
  ⟨h1, by simpa using h2, h3.put 1 _, own_put h4 (own_ne h4 h3 (by decide)) _, own_put h5 (own_ne h5 h3 (by decide)) _, h6⟩
theorem fullRune_n (g c n : Nat) (l : List UInt8) (w : World) (hn : l.length = n) (h1 : 0 < n) (h4 : n ≤ 4) (hT : Utf8Tabs 2 3 w) (hc : ∀ j, j < l.length → w.cell? ⟨g, j, none⟩ = some (.int .u8 ((l.getD j 0).toNat : Int))) (hg : g < w.heap.size) :
    Calls Tryz.prog 137 #[.slice (some ⟨g, 0, none⟩) n c] w fun e w' => e = .returned (.bool (full l)) ∧ Below w.heap.size w w' := by
  subst hn
  exact fullRune_any g c l w h1 h4 hT hc hg
set_option maxHeartbeats 4000000 in
theorem readEncoding_no (w : World) (B R : Nat) (q : Q) (c : UInt8) (h : RS w B R q) (hT : TB B w) (hp : q.part.length ≤ 3) (hf : full (q.part ++ [c]) = false) :
    Calls Tryz.prog 114 #[.pointer (some ⟨R, 0, none⟩), .int .u8 (c.toNat : Int)] w (Got w B R ({ q with part := q.part ++ [c] }, 0)) := by
  obtain ⟨h1, h2, vt, vp, h3, h4, h5, h6⟩ := h
  have hV : RV (w.alloc (.cells #[.int .u8 (c.toNat : Int)] 5)) B R q vt vp := RV.below ⟨h1, h2, h3, h4, h5, h6⟩ ((Below.refl _ _).alloc (Nat.le_refl _) _) (Nat.le_refl _)
  have hc2 : w.cell? ⟨R, 2, none⟩ = some vp := h3.cell 2
  have hRs := h3.lt
  obtain ⟨n, hn⟩ : ∃ n, (q.part ++ [c]).length = n := ⟨_, rfl⟩
  have hn1 : 0 < n ∧ n ≤ 4 := by simp at hn; omega
  have hsrc := src_one w c
  have hsz : B ≤ (w.alloc (.cells #[.int .u8 (c.toNat : Int)] 5)).heap.size := hV.2.1
  have HN := Lib.hid hn
  have HF := Lib.hid hf
  have HV := Lib.hid hV
  have HS := Lib.hid hsrc
  have HT := Lib.hid hT
  have HP := Lib.hid hp
  clear h3 h4 h5 h6 hn hf hV hsrc hT hp
  go_enter Tryz.func114, Tryz.ntmps114
  go_wp2_with (first
    | (at_builtin; refine wpList_app (B := B) (v := vp) (xs := q.part) (ys := [c]) rfl (.tmp 9) (.tmp 11) rfl rfl rfl rfl HV.out.2.2.2.2.1 HS.out (by have := HP.out; simp; omega) hsz ?_; intro v1 w1 hown hgr; obtain ⟨g, k, rfl, hnk, hgl, hgB⟩ := own_form_n hown HN.out hn1.1; obtain ⟨hbk, hot, hd⟩ := HV.out.more hgr; obtain ⟨k0, k1, k2, k3, k4, k5, f0, f1, f2, f3, f4, f5⟩ := hbk.six; have HRV := Lib.hid (RV.parted' h1 (Nat.le_trans hsz hgr.1.size) hbk hot hown hd); have HBEL := Lib.hid ((hgr.below ((Below.refl _ _).alloc h2 (.cells #[.int .u8 (c.toNat : Int)] 5)) hsz (own_base HV.out.2.2.2.2.1)).setCell (p := ⟨R, 2, none⟩) h1 (.slice (some ⟨g, 0, none⟩) n k)); have HC := Lib.hid (fullRune_n g k n _ _ HN.out hn1.1 hn1.2 (HT.out.below HBEL.out).2.2 (own_cells HRV.out.2.2.2.2.1) (by simpa using hgl)); clear hown hgr hbk hot hd)
    | (go_at_call 137; refine HC.out.mono ?_; rintro e w3 ⟨rfl, hb3⟩; rw [HF.out]; have HRV3 := Lib.hid (HRV.out.below hb3 (Nat.le_refl _)); have HB3 := Lib.hid (HBEL.out.trans (hb3.mono HRV.out.2.1)); clear hb3))
  go_ret
  exact ⟨rfl, fun _ => HRV3.out.rs, HB3.out⟩

set_option maxHeartbeats 4000000 in
theorem readEncoding_bad (w : World) (B R : Nat) (q : Q) (c : UInt8) (h : RS w B R q) (hT : TB B w) (hp : q.part.length ≤ 3) (hf : full (q.part ++ [c]) = true) (hv : val (q.part ++ [c]) = false)
    (ha : ((q.part ++ [c]).getD 0 0).toNat < 128 → (q.part ++ [c]).length = 1) (hx : 1 < firstT ((q.part ++ [c]).getD 0 0).toNat % 8 → (q.part ++ [c]).length ≤ firstT ((q.part ++ [c]).getD 0 0).toNat % 8) :
    Calls Tryz.prog 114 #[.pointer (some ⟨R, 0, none⟩), .int .u8 (c.toNat : Int)] w (Got w B R ({ q with part := q.part ++ [c] }, 40)) := by
  obtain ⟨h1, h2, vt, vp, h3, h4, h5, h6⟩ := h
  have hV : RV (w.alloc (.cells #[.int .u8 (c.toNat : Int)] 5)) B R q vt vp := RV.below ⟨h1, h2, h3, h4, h5, h6⟩ ((Below.refl _ _).alloc (Nat.le_refl _) _) (Nat.le_refl _)
  have hc2 : w.cell? ⟨R, 2, none⟩ = some vp := h3.cell 2
  have hRs := h3.lt
  obtain ⟨n, hn⟩ : ∃ n, (q.part ++ [c]).length = n := ⟨_, rfl⟩
  have hn1 : 0 < n ∧ n ≤ 4 := by simp at hn; omega
  have hsrc := src_one w c
  have hsz : B ≤ (w.alloc (.cells #[.int .u8 (c.toNat : Int)] 5)).heap.size := hV.2.1
  rw [hn] at ha hx
  have HN := Lib.hid hn
  have HF := Lib.hid hf
  have HVAL := Lib.hid hv
  have HA := Lib.hid ha
  have HX := Lib.hid hx
  have HV := Lib.hid hV
  have HS := Lib.hid hsrc
  have HT := Lib.hid hT
  have HP := Lib.hid hp
  clear h3 h4 h5 h6 hn hf hV hsrc hT hp hv ha hx
  go_enter Tryz.func114, Tryz.ntmps114
  go_wp2_with (first
    | (at_builtin; refine wpList_app (B := B) (v := vp) (xs := q.part) (ys := [c]) rfl (.tmp 9) (.tmp 11) rfl rfl rfl rfl HV.out.2.2.2.2.1 HS.out (by have := HP.out; simp; omega) hsz ?_; intro v1 w1 hown hgr; obtain ⟨g, k, rfl, hnk, hgl, hgB⟩ := own_form_n hown HN.out hn1.1; obtain ⟨hbk, hot, hd⟩ := HV.out.more hgr; obtain ⟨k0, k1, k2, k3, k4, k5, f0, f1, f2, f3, f4, f5⟩ := hbk.six; have HRV := Lib.hid (RV.parted' h1 (Nat.le_trans hsz hgr.1.size) hbk hot hown hd); have HBEL := Lib.hid ((hgr.below ((Below.refl _ _).alloc h2 (.cells #[.int .u8 (c.toNat : Int)] 5)) hsz (own_base HV.out.2.2.2.2.1)).setCell (p := ⟨R, 2, none⟩) h1 (.slice (some ⟨g, 0, none⟩) n k)); have HC := Lib.hid (fullRune_n g k n _ _ HN.out hn1.1 hn1.2 (HT.out.below HBEL.out).2.2 (own_cells HRV.out.2.2.2.2.1) (by simpa using hgl)); clear hown hgr hbk hot hd)
    | (go_at_call 137; refine HC.out.mono ?_; rintro e w3 ⟨rfl, hb3⟩; rw [HF.out]; have HRV3 := Lib.hid (HRV.out.below hb3 (Nat.le_refl _)); have HB3 := Lib.hid (HBEL.out.trans (hb3.mono HRV.out.2.1)); clear hb3; obtain ⟨k0, k1, k2, k3, k4, k5, f0, f1, f2, f3, f4, f5⟩ := HRV3.out.2.2.1.six; have HCV := Lib.hid (valid_n g k n _ _ HN.out hn1.1 hn1.2 HA.out HX.out (HT.out.below HB3.out).2.2 (own_cells HRV3.out.2.2.2.2.1) (HRV3.out.2.2.2.2.1.lt g rfl).2 hnk))
    | (go_at_call 138; refine HCV.out.mono ?_; rintro e w4 ⟨rfl, hb4⟩; rw [HVAL.out]; have HRV4 := Lib.hid (HRV3.out.below hb4 (Nat.le_refl _)); have HB4 := Lib.hid (HB3.out.trans (hb4.mono HRV3.out.2.1)); clear hb4; obtain ⟨k0, k1, k2, k3, k4, k5, f0, f1, f2, f3, f4, f5⟩ := HRV4.out.2.2.1.six))
  go_ret
  exact ⟨rfl, (fun h => by simp at h), HB4.out⟩

set_option maxHeartbeats 4000000 in
theorem readEncoding_yes (w : World) (B R : Nat) (q : Q) (c : UInt8) (h : RS w B R q) (hT : TB B w) (hp : q.part.length ≤ 3) (hf : full (q.part ++ [c]) = true) (hv : val (q.part ++ [c]) = true)
    (ha : ((q.part ++ [c]).getD 0 0).toNat < 128 → (q.part ++ [c]).length = 1) (hx : 1 < firstT ((q.part ++ [c]).getD 0 0).toNat % 8 → (q.part ++ [c]).length ≤ firstT ((q.part ++ [c]).getD 0 0).toNat % 8) (hl : q.text.length ≤ 900000) :
    Calls Tryz.prog 114 #[.pointer (some ⟨R, 0, none⟩), .int .u8 (c.toNat : Int)] w (Got w B R ({ q with st := 1, text := q.text ++ (q.part ++ [c]), part := [] }, 0)) := by
  obtain ⟨h1, h2, vt, vp, h3, h4, h5, h6⟩ := h
  have hV : RV (w.alloc (.cells #[.int .u8 (c.toNat : Int)] 5)) B R q vt vp := RV.below ⟨h1, h2, h3, h4, h5, h6⟩ ((Below.refl _ _).alloc (Nat.le_refl _) _) (Nat.le_refl _)
  have hc2 : w.cell? ⟨R, 2, none⟩ = some vp := h3.cell 2
  have hRs := h3.lt
  obtain ⟨n, hn⟩ : ∃ n, (q.part ++ [c]).length = n := ⟨_, rfl⟩
  have hn1 : 0 < n ∧ n ≤ 4 := by simp at hn; omega
  have hsrc := src_one w c
  have hsz : B ≤ (w.alloc (.cells #[.int .u8 (c.toNat : Int)] 5)).heap.size := hV.2.1
  rw [hn] at ha hx
  have HN := Lib.hid hn
  have HF := Lib.hid hf
  have HVAL := Lib.hid hv
  have HA := Lib.hid ha
  have HX := Lib.hid hx
  have HV := Lib.hid hV
  have HS := Lib.hid hsrc
  have HT := Lib.hid hT
  have HP := Lib.hid hp
  clear h3 h4 h5 h6 hn hf hV hsrc hT hp hv ha hx
  go_enter Tryz.func114, Tryz.ntmps114
  go_wp2_with (first
    | (at_builtin; refine wpList_app (B := B) (v := vp) (xs := q.part) (ys := [c]) rfl (.tmp 9) (.tmp 11) rfl rfl rfl rfl HV.out.2.2.2.2.1 HS.out (by have := HP.out; simp; omega) hsz ?_; intro v1 w1 hown hgr; obtain ⟨g, k, rfl, hnk, hgl, hgB⟩ := own_form_n hown HN.out hn1.1; obtain ⟨hbk, hot, hd⟩ := HV.out.more hgr; obtain ⟨k0, k1, k2, k3, k4, k5, f0, f1, f2, f3, f4, f5⟩ := hbk.six; have HRV := Lib.hid (RV.parted' h1 (Nat.le_trans hsz hgr.1.size) hbk hot hown hd); have HBEL := Lib.hid ((hgr.below ((Below.refl _ _).alloc h2 (.cells #[.int .u8 (c.toNat : Int)] 5)) hsz (own_base HV.out.2.2.2.2.1)).setCell (p := ⟨R, 2, none⟩) h1 (.slice (some ⟨g, 0, none⟩) n k)); have HC := Lib.hid (fullRune_n g k n _ _ HN.out hn1.1 hn1.2 (HT.out.below HBEL.out).2.2 (own_cells HRV.out.2.2.2.2.1) (by simpa using hgl)); clear hown hgr hbk hot hd)
    | (go_at_call 137; refine HC.out.mono ?_; rintro e w3 ⟨rfl, hb3⟩; rw [HF.out]; have HRV3 := Lib.hid (HRV.out.below hb3 (Nat.le_refl _)); have HB3 := Lib.hid (HBEL.out.trans (hb3.mono HRV.out.2.1)); clear hb3; obtain ⟨k0, k1, k2, k3, k4, k5, f0, f1, f2, f3, f4, f5⟩ := HRV3.out.2.2.1.six; have HCV := Lib.hid (valid_n g k n _ _ HN.out hn1.1 hn1.2 HA.out HX.out (HT.out.below HB3.out).2.2 (own_cells HRV3.out.2.2.2.2.1) (HRV3.out.2.2.2.2.1.lt g rfl).2 hnk))
    | (go_at_call 138; refine HCV.out.mono ?_; rintro e w4 ⟨rfl, hb4⟩; rw [HVAL.out]; have HRV4 := Lib.hid (HRV3.out.below hb4 (Nat.le_refl _)); have HB4 := Lib.hid (HB3.out.trans (hb4.mono HRV3.out.2.1)); clear hb4; obtain ⟨k0, k1, k2, k3, k4, k5, f0, f1, f2, f3, f4, f5⟩ := HRV4.out.2.2.1.six))
  go_region_law (refine step_app (B := B) (v := vt) (xs := q.text) (ys := q.part ++ [c]) rfl (.tmp 31) (.tmp 35) rfl rfl rfl HN.out.symm HRV4.out.2.2.2.1 (own_src HRV4.out.2.2.2.2.1) (by rw [HN.out]; omega) HRV4.out.2.1 ?_; intro v5 w5 hown hgr0; have hgr := hgr0.undrew; clear hgr0; obtain ⟨nt, hnt⟩ : ∃ nt, (q.text ++ (q.part ++ [c])).length = nt := ⟨_, rfl⟩; obtain ⟨g5, c5, rfl, hn5, hgl5, hgB5⟩ := own_form_n hown hnt (by simp at hnt; omega); obtain ⟨hbk, hop, hd⟩ := RS.texted (q := { q with part := q.part ++ [c] }) HRV4.out.2.2.1 HRV4.out.2.2.2.1 HRV4.out.2.2.2.2.1 HRV4.out.2.2.2.2.2 hgr; obtain ⟨k0, k1, k2, k3, k4, k5, f0, f1, f2, f3, f4, f5⟩ := hbk.six; have HO5 := Lib.hid hown; have HG5 := Lib.hid hgr; have HK5 := Lib.hid hbk; have HP5 := Lib.hid hop; have HD5 := Lib.hid hd; have HNT := Lib.hid hnt; clear hown hgr hbk hop hd hnt)
  all_goals
    have HRV5 := Lib.hid (RV.texted' (q := { q with part := q.part ++ [c] }) h1 (Nat.le_trans HRV4.out.2.1 HG5.out.1.size) HK5.out HO5.out HP5.out HD5.out)
    have HOWN5 := HRV5.out.2.2.2.2.1
    unfold Own at HOWN5
    rw [show ({ q with part := q.part ++ [c], text := q.text ++ (q.part ++ [c]) } : Q).part.length = n from HN.out] at HOWN5
    have HB5 := Lib.hid (HG5.out.below HB4.out HRV4.out.2.1 (own_base HRV4.out.2.2.2.1))
    go_wp2
    go_ret
    exact ⟨rfl, fun _ => ((HRV5.out.part (v' := .slice (some ⟨g, 0, none⟩) 0 k) (ys := []) (own_cut (n := n) (xs := bv (q.part ++ [c])) HOWN5) HRV5.out.2.2.2.2.2).rs).st 1, ((HB5.out.setCell h1 _).setCell h1 _).setCell h1 _⟩
end Go.Proofs.YtjnfilbdokppiaaGreatDoor.U
namespace Go.Proofs.YtjnfilbdokppiaaGreatDoor.U
open Go.RowKit Ut Go.Lib

theorem full_ascii {l : List UInt8} (h : full l = false) (hn : 0 < l.length) : 128 ≤ (l.getD 0 0).toNat := by
  rcases Nat.lt_or_ge (l.getD 0 0).toNat 128 with h1 | h1
  · exfalso
    unfold full fullN at h
    have : firstT (l.getD 0 0).toNat = 240 := by unfold firstT; rw [if_pos h1]
    rw [decide_eq_true hn, this, decide_eq_true (show 240 % 8 ≤ l.length by omega)] at h
    cases h
  · exact h1
theorem full_size {l : List UInt8} (h : full l = false) (hn : 0 < l.length) : l.length < firstT (l.getD 0 0).toNat % 8 := by
  rcases Nat.lt_or_ge l.length (firstT (l.getD 0 0).toNat % 8) with h1 | h1
  · exact h1
  · exfalso
    unfold full fullN at h
    rw [decide_eq_true hn, decide_eq_true h1] at h
    cases h
/-- The bytes of an incomplete encoding, or none. -/
def Inc (l : List UInt8) : Prop := l = [] ∨ (0 < l.length ∧ full l = false)
theorem Inc.len {l : List UInt8} (h : Inc l) : l.length ≤ 3 := by
  rcases h with rfl | ⟨_, h⟩
  · simp
  · exact full_len h
theorem Inc.a {l : List UInt8} (h : Inc l) (c : UInt8) : ((l ++ [c]).getD 0 0).toNat < 128 → (l ++ [c]).length = 1 := by
  rcases h with rfl | ⟨h0, h⟩
  · intro _; rfl
  · intro hlt
    exfalso
    have := full_ascii h h0
    rw [List.getD_eq_getElem?_getD, List.getElem?_append_left h0, ← List.getD_eq_getElem?_getD] at hlt
    omega
theorem Inc.x {l : List UInt8} (h : Inc l) (c : UInt8) : 1 < firstT ((l ++ [c]).getD 0 0).toNat % 8 → (l ++ [c]).length ≤ firstT ((l ++ [c]).getD 0 0).toNat % 8 := by
  rcases h with rfl | ⟨h0, h⟩
  · intro h1; show 1 ≤ _; exact Nat.le_of_lt h1
  · intro _
    have := full_size h h0
    rw [List.getD_eq_getElem?_getD, List.getElem?_append_left h0, ← List.getD_eq_getElem?_getD, List.length_append]
    exact this

theorem readEncoding_any (w : World) (B R : Nat) (q : Q) (c : UInt8) (h : RS w B R q) (hT : TB B w) (hp : Inc q.part) (hl : q.text.length ≤ 900000) :
    Calls Tryz.prog 114 #[.pointer (some ⟨R, 0, none⟩), .int .u8 (c.toNat : Int)] w (Got w B R (encS q c)) := by
  unfold encS
  cases hf : full (q.part ++ [c]) with
  | false => rw [if_pos rfl]; exact readEncoding_no w B R q c h hT hp.len hf
  | true =>
    rw [if_neg (by decide)]
    cases hv : val (q.part ++ [c]) with
    | false => rw [if_pos rfl]; exact readEncoding_bad w B R q c h hT hp.len hf hv (hp.a c) (hp.x c)
    | true => rw [if_neg (by decide)]; exact readEncoding_yes w B R q c h hT hp.len hf hv (hp.a c) (hp.x c) hl

theorem readItem_any (w : World) (B R : Nat) (q : Q) (c : UInt8) (h : RS w B R q) (hT : TB B w) (hp : q.part = []) (hl : q.text.length ≤ 900000) :
    Calls Tryz.prog 113 #[.pointer (some ⟨R, 0, none⟩), .int .u8 (c.toNat : Int)] w (Got w B R (itemS q c)) := by
  have h0 := h.c0
  have hf := h.fz 0
  have HR := Lib.hid h
  have HT := Lib.hid hT
  have HP := Lib.hid hp
  clear h hT hp
  have hlt := c.toNat_lt
  obtain ⟨x, hx⟩ : ∃ x, c.toNat = x := ⟨_, rfl⟩
  unfold itemS
  rw [hx] at hlt ⊢
  by_cases h34 : x = 34
  · rw [if_pos h34]
    subst h34
    clear hx
    go_enter Tryz.func113, Tryz.ntmps113
    go_wp2
    go_ret
    exact ⟨rfl, fun _ => HR.out.st 8, (Below.refl _ _).setCell HR.out.rb _⟩
  rw [if_neg h34]
  have i34 : ((x : Int) == 34) = false := by simp; omega
  by_cases h92 : x = 92
  · rw [if_pos h92]
    subst h92
    clear hx i34 h34
    go_enter Tryz.func113, Tryz.ntmps113
    go_wp2
    go_ret
    exact ⟨rfl, fun _ => HR.out.st 3, (Below.refl _ _).setCell HR.out.rb _⟩
  rw [if_neg h92]
  have i92 : ((x : Int) == 92) = false := by simp; omega
  by_cases h32 : x < 32
  · rw [if_pos h32]
    clear hx h34 h92
    go_enter Tryz.func113, Tryz.ntmps113
    go_wp2
    go_ret
    exact ⟨rfl, (fun h => by simp at h), Below.refl _ _⟩
  · rw [if_neg h32]
    have hRS2 := HR.out.st 2
    have hB2 : Below B w (w.setCell ⟨R, 0, none⟩ (.int .i64 2)) := (Below.refl _ _).setCell HR.out.rb _
    have C := readEncoding_any (w.setCell ⟨R, 0, none⟩ (.int .i64 2)) B R { q with st := 2 } c hRS2 (HT.out.below hB2) (Or.inl HP.out) hl
    rw [hx] at C
    have HC := Lib.hid C
    have HB := Lib.hid hB2
    clear C hRS2 hB2 hx h34 h92
    go_enter Tryz.func113, Tryz.ntmps113
    go_wp2_with (go_at_call 114; refine HC.out.mono ?_; rintro e w1 ⟨rfl, hg, hb⟩; have HG := Lib.hid hg; have HB1 := Lib.hid hb; clear hg hb)
    go_ret
    exact ⟨rfl, HG.out, HB.out.trans HB1.out⟩
end Go.Proofs.YtjnfilbdokppiaaGreatDoor.U
namespace Go.Proofs.YtjnfilbdokppiaaGreatDoor.U
open Go.RowKit Ut Go.Lib

theorem readFirst_no (w : World) (B R c : Nat) (q : Q) (hc : c < 256) (hd : dv c = none) :
    Calls Tryz.prog 116 #[.pointer (some ⟨R, 0, none⟩), .int .u8 (c : Int)] w (Got w B R (firstS q c)) := by
  have hres : firstS q c = (q, 41) := by unfold firstS; rw [hd]
  rw [hres]
  have HA := Lib.hid (add_no R 3 c w hc hd)
  clear hres hd
  go_enter Tryz.func116, Tryz.ntmps116
  go_wp2_with (go_at_call 140; refine HA.out.mono ?_; rintro e w1 ⟨rfl, rfl⟩)
  go_ret
  exact ⟨rfl, (fun h => by simp at h), Below.refl _ _⟩

set_option maxHeartbeats 4000000 in
set_option maxRecDepth 1000000 in
theorem readFirst_bad (w : World) (B R c d : Nat) (q : Q) (h : RS w B R q) (hc : c < 256) (hdv : dv c = some d) (hcode : q.code < 4096) (hdig : q.dig < 4) (hlt : q.code * 16 + d < 16 ^ (q.dig + 1)) (hb : 56320 ≤ lo (q.code * 16 + d) (q.dig + 1) ∧ hi (q.code * 16 + d) (q.dig + 1) ≤ 57343) :
    Calls Tryz.prog 116 #[.pointer (some ⟨R, 0, none⟩), .int .u8 (c : Int)] w (Got w B R ({ q with code := q.code * 16 + d, dig := q.dig + 1 }, 41)) := by
  have hd16 := dv_lt hdv
  have A := add_yes_rs w B R c d q h hc hdv hcode hdig
  obtain ⟨C1, hC1⟩ : ∃ C1, q.code * 16 + d = C1 := ⟨_, rfl⟩
  obtain ⟨D1, hD1⟩ : ∃ D1, q.dig + 1 = D1 := ⟨_, rfl⟩
  have hC65 : C1 < 65536 := by omega
  have hD4 : D1 = 1 ∨ D1 = 2 ∨ D1 = 3 ∨ D1 = 4 := by omega
  rw [hC1, hD1] at A hlt
  (try rw [hC1] at hb); (try rw [hD1] at hb)
  (try rw [hC1]); (try rw [hD1])
  obtain ⟨L, hL⟩ : ∃ L, lo C1 D1 = L := ⟨_, rfl⟩
  obtain ⟨U, hU⟩ : ∃ U, hi C1 D1 = U := ⟨_, rfl⟩
  (try rw [hL] at hb); (try rw [hU] at hb)
  (try rw [hL]); (try rw [hU])
  obtain ⟨hb1, hb2⟩ := hb
  have hi1 : decide (56320 ≤ (L : Int)) = true := decide_eq_true (by omega)
  have hi2 : decide ((U : Int) ≤ 57343) = true := decide_eq_true (by omega)
  have H_hb1 := Lib.hid hb1
  clear hb1
  have H_hb2 := Lib.hid hb2
  clear hb2
  have HA := Lib.hid A
  have HC65 := Lib.hid hC65
  clear hC65
  have HL := Lib.hid hL
  have HU := Lib.hid hU
  have HLT := Lib.hid hlt
  have HD4 := Lib.hid hD4
  clear A hL hU hlt h hdv hC1 hD1 hD4
  go_enter Tryz.func116, Tryz.ntmps116
  go_wp2_with (first
    | (go_at_call 140; refine HA.out.mono ?_; rintro e w1 ⟨rfl, hr1, hb1⟩; have k0 := hr1.c0; have k3 := hr1.c3; have k4 := hr1.c4; have k5 := hr1.c5; have HR1 := Lib.hid hr1; have HB1 := Lib.hid hb1; clear hr1 hb1; dsimp only at k0 k3 k4 k5)
    | (go_at_call 141; refine (bounds_any C1 D1 _ HC65.out HD4.out HLT.out).mono ?_; rintro e w2 ⟨rfl, hb2⟩; rw [HL.out, HU.out]; have HR2 := Lib.hid (HR1.out.below hb2 (Nat.le_refl _)); have HB2 := Lib.hid (HB1.out.trans (hb2.mono (Nat.le_trans HR1.out.rb (Nat.le_of_lt HR1.out.lt)))); clear hb2; have m0 := HR2.out.c0; have m3 := HR2.out.c3; have m4 := HR2.out.c4; have m5 := HR2.out.c5; dsimp only at m0 m3 m4 m5)
    | (go_at_call 142; refine (complete_any C1 D1 _).mono ?_; rintro e w3 ⟨rfl, hb3⟩; have HR3 := Lib.hid (HR2.out.below hb3 (Nat.le_refl _)); have HB3 := Lib.hid (HB2.out.trans (hb3.mono (Nat.le_trans HR2.out.rb (Nat.le_of_lt HR2.out.lt)))); clear hb3; have p0 := HR3.out.c0; have p3 := HR3.out.c3; have p4 := HR3.out.c4; have p5 := HR3.out.c5; have fz := HR3.out.fz; have f0 := fz 0; have f3 := fz 3; have f4 := fz 4; have f5 := fz 5; clear fz; dsimp only at p0 p3 p4 p5))
  go_ret
  exact ⟨rfl, (fun h => by simp at h), HB2.out⟩

set_option maxHeartbeats 4000000 in
set_option maxRecDepth 1000000 in
theorem readFirst_morea (w : World) (B R c d : Nat) (q : Q) (h : RS w B R q) (hc : c < 256) (hdv : dv c = some d) (hcode : q.code < 4096) (hdig : q.dig < 4) (hlt : q.code * 16 + d < 16 ^ (q.dig + 1)) (hb : lo (q.code * 16 + d) (q.dig + 1) < 56320) (h4 : q.dig + 1 ≠ 4) :
    Calls Tryz.prog 116 #[.pointer (some ⟨R, 0, none⟩), .int .u8 (c : Int)] w (Got w B R ({ q with code := q.code * 16 + d, dig := q.dig + 1 }, 0)) := by
  have hd16 := dv_lt hdv
  have A := add_yes_rs w B R c d q h hc hdv hcode hdig
  obtain ⟨C1, hC1⟩ : ∃ C1, q.code * 16 + d = C1 := ⟨_, rfl⟩
  obtain ⟨D1, hD1⟩ : ∃ D1, q.dig + 1 = D1 := ⟨_, rfl⟩
  have hC65 : C1 < 65536 := by omega
  have hD4 : D1 = 1 ∨ D1 = 2 ∨ D1 = 3 ∨ D1 = 4 := by omega
  rw [hC1, hD1] at A hlt
  (try rw [hC1] at hb); (try rw [hD1] at hb)
  (try rw [hC1] at h4); (try rw [hD1] at h4)
  (try rw [hC1]); (try rw [hD1])
  obtain ⟨L, hL⟩ : ∃ L, lo C1 D1 = L := ⟨_, rfl⟩
  obtain ⟨U, hU⟩ : ∃ U, hi C1 D1 = U := ⟨_, rfl⟩
  (try rw [hL] at hb); (try rw [hU] at hb)
  (try rw [hL] at h4); (try rw [hU] at h4)
  (try rw [hL]); (try rw [hU])
  have hi1 : decide (56320 ≤ (L : Int)) = false := decide_eq_false (by omega)
  have hi3 : decide ((L : Int) < 56320) = true := decide_eq_true (by omega)
  have hd4 : ((D1 : Int) == 4) = false := by simp; omega
  have H_hb := Lib.hid hb
  clear hb
  have H_h4 := Lib.hid h4
  clear h4
  have HA := Lib.hid A
  have HC65 := Lib.hid hC65
  clear hC65
  have HL := Lib.hid hL
  have HU := Lib.hid hU
  have HLT := Lib.hid hlt
  have HD4 := Lib.hid hD4
  clear A hL hU hlt h hdv hC1 hD1 hD4
  go_enter Tryz.func116, Tryz.ntmps116
  go_wp2_with (first
    | (go_at_call 140; refine HA.out.mono ?_; rintro e w1 ⟨rfl, hr1, hb1⟩; have k0 := hr1.c0; have k3 := hr1.c3; have k4 := hr1.c4; have k5 := hr1.c5; have HR1 := Lib.hid hr1; have HB1 := Lib.hid hb1; clear hr1 hb1; dsimp only at k0 k3 k4 k5)
    | (go_at_call 141; refine (bounds_any C1 D1 _ HC65.out HD4.out HLT.out).mono ?_; rintro e w2 ⟨rfl, hb2⟩; rw [HL.out, HU.out]; have HR2 := Lib.hid (HR1.out.below hb2 (Nat.le_refl _)); have HB2 := Lib.hid (HB1.out.trans (hb2.mono (Nat.le_trans HR1.out.rb (Nat.le_of_lt HR1.out.lt)))); clear hb2; have m0 := HR2.out.c0; have m3 := HR2.out.c3; have m4 := HR2.out.c4; have m5 := HR2.out.c5; dsimp only at m0 m3 m4 m5)
    | (go_at_call 142; refine (complete_any C1 D1 _).mono ?_; rintro e w3 ⟨rfl, hb3⟩; have HR3 := Lib.hid (HR2.out.below hb3 (Nat.le_refl _)); have HB3 := Lib.hid (HB2.out.trans (hb3.mono (Nat.le_trans HR2.out.rb (Nat.le_of_lt HR2.out.lt)))); clear hb3; have p0 := HR3.out.c0; have p3 := HR3.out.c3; have p4 := HR3.out.c4; have p5 := HR3.out.c5; have fz := HR3.out.fz; have f0 := fz 0; have f3 := fz 3; have f4 := fz 4; have f5 := fz 5; clear fz; dsimp only at p0 p3 p4 p5))
  go_ret
  exact ⟨rfl, fun _ => HR3.out, HB3.out⟩

set_option maxHeartbeats 4000000 in
set_option maxRecDepth 1000000 in
theorem readFirst_high (w : World) (B R c d : Nat) (q : Q) (h : RS w B R q) (hc : c < 256) (hdv : dv c = some d) (hcode : q.code < 4096) (hdig : q.dig < 4) (hlt : q.code * 16 + d < 16 ^ (q.dig + 1)) (hb : lo (q.code * 16 + d) (q.dig + 1) < 56320) (h4 : q.dig + 1 = 4) (hh : 55296 ≤ lo (q.code * 16 + d) (q.dig + 1)) :
    Calls Tryz.prog 116 #[.pointer (some ⟨R, 0, none⟩), .int .u8 (c : Int)] w (Got w B R ({ q with st := 5, code := 0, dig := 0, high := lo (q.code * 16 + d) (q.dig + 1) }, 0)) := by
  have hd16 := dv_lt hdv
  have A := add_yes_rs w B R c d q h hc hdv hcode hdig
  obtain ⟨C1, hC1⟩ : ∃ C1, q.code * 16 + d = C1 := ⟨_, rfl⟩
  obtain ⟨D1, hD1⟩ : ∃ D1, q.dig + 1 = D1 := ⟨_, rfl⟩
  have hC65 : C1 < 65536 := by omega
  have hD4 : D1 = 1 ∨ D1 = 2 ∨ D1 = 3 ∨ D1 = 4 := by omega
  rw [hC1, hD1] at A hlt
  (try rw [hC1] at hb); (try rw [hD1] at hb)
  (try rw [hC1] at h4); (try rw [hD1] at h4)
  (try rw [hC1] at hh); (try rw [hD1] at hh)
  (try rw [hC1]); (try rw [hD1])
  obtain ⟨L, hL⟩ : ∃ L, lo C1 D1 = L := ⟨_, rfl⟩
  obtain ⟨U, hU⟩ : ∃ U, hi C1 D1 = U := ⟨_, rfl⟩
  (try rw [hL] at hb); (try rw [hU] at hb)
  (try rw [hL] at h4); (try rw [hU] at h4)
  (try rw [hL] at hh); (try rw [hU] at hh)
  (try rw [hL]); (try rw [hU])
  have hi1 : decide (56320 ≤ (L : Int)) = false := decide_eq_false (by omega)
  have hi3 : decide ((L : Int) < 56320) = true := decide_eq_true (by omega)
  have hd4 : ((D1 : Int) == 4) = true := by simp; omega
  have hh1 : decide (55296 ≤ (L : Int)) = true := decide_eq_true (by omega)
  have H_hb := Lib.hid hb
  clear hb
  have H_h4 := Lib.hid h4
  clear h4
  have H_hh := Lib.hid hh
  clear hh
  have HA := Lib.hid A
  have HC65 := Lib.hid hC65
  clear hC65
  have HL := Lib.hid hL
  have HU := Lib.hid hU
  have HLT := Lib.hid hlt
  have HD4 := Lib.hid hD4
  clear A hL hU hlt h hdv hC1 hD1 hD4
  go_enter Tryz.func116, Tryz.ntmps116
  go_wp2_with (first
    | (go_at_call 140; refine HA.out.mono ?_; rintro e w1 ⟨rfl, hr1, hb1⟩; have k0 := hr1.c0; have k3 := hr1.c3; have k4 := hr1.c4; have k5 := hr1.c5; have HR1 := Lib.hid hr1; have HB1 := Lib.hid hb1; clear hr1 hb1; dsimp only at k0 k3 k4 k5)
    | (go_at_call 141; refine (bounds_any C1 D1 _ HC65.out HD4.out HLT.out).mono ?_; rintro e w2 ⟨rfl, hb2⟩; rw [HL.out, HU.out]; have HR2 := Lib.hid (HR1.out.below hb2 (Nat.le_refl _)); have HB2 := Lib.hid (HB1.out.trans (hb2.mono (Nat.le_trans HR1.out.rb (Nat.le_of_lt HR1.out.lt)))); clear hb2; have m0 := HR2.out.c0; have m3 := HR2.out.c3; have m4 := HR2.out.c4; have m5 := HR2.out.c5; dsimp only at m0 m3 m4 m5)
    | (go_at_call 142; refine (complete_any C1 D1 _).mono ?_; rintro e w3 ⟨rfl, hb3⟩; have HR3 := Lib.hid (HR2.out.below hb3 (Nat.le_refl _)); have HB3 := Lib.hid (HB2.out.trans (hb3.mono (Nat.le_trans HR2.out.rb (Nat.le_of_lt HR2.out.lt)))); clear hb3; have p0 := HR3.out.c0; have p3 := HR3.out.c3; have p4 := HR3.out.c4; have p5 := HR3.out.c5; have fz := HR3.out.fz; have f0 := fz 0; have f3 := fz 3; have f4 := fz 4; have f5 := fz 5; clear fz; dsimp only at p0 p3 p4 p5))
  go_ret
  exact ⟨rfl, fun _ => ((HR3.out.hi L).num 0 0).st 5, (((HB3.out.setCell HR3.out.rb _).setCell HR3.out.rb _).setCell HR3.out.rb _).setCell HR3.out.rb _⟩

set_option maxHeartbeats 4000000 in
set_option maxRecDepth 1000000 in
theorem readFirst_dena (w : World) (B R c d : Nat) (q : Q) (h : RS w B R q) (hc : c < 256) (hdv : dv c = some d) (hcode : q.code < 4096) (hdig : q.dig < 4) (hlt : q.code * 16 + d < 16 ^ (q.dig + 1)) (hb : lo (q.code * 16 + d) (q.dig + 1) < 56320) (h4 : q.dig + 1 = 4) (hh : lo (q.code * 16 + d) (q.dig + 1) < 55296) (htl : q.text.length ≤ 900000) :
    Calls Tryz.prog 116 #[.pointer (some ⟨R, 0, none⟩), .int .u8 (c : Int)] w (Got w B R (den q (lo (q.code * 16 + d) (q.dig + 1)), 0)) := by
  have hd16 := dv_lt hdv
  have A := add_yes_rs w B R c d q h hc hdv hcode hdig
  obtain ⟨C1, hC1⟩ : ∃ C1, q.code * 16 + d = C1 := ⟨_, rfl⟩
  obtain ⟨D1, hD1⟩ : ∃ D1, q.dig + 1 = D1 := ⟨_, rfl⟩
  have hC65 : C1 < 65536 := by omega
  have hD4 : D1 = 1 ∨ D1 = 2 ∨ D1 = 3 ∨ D1 = 4 := by omega
  rw [hC1, hD1] at A hlt
  (try rw [hC1] at hb); (try rw [hD1] at hb)
  (try rw [hC1] at h4); (try rw [hD1] at h4)
  (try rw [hC1] at hh); (try rw [hD1] at hh)
  (try rw [hC1]); (try rw [hD1])
  obtain ⟨L, hL⟩ : ∃ L, lo C1 D1 = L := ⟨_, rfl⟩
  obtain ⟨U, hU⟩ : ∃ U, hi C1 D1 = U := ⟨_, rfl⟩
  (try rw [hL] at hb); (try rw [hU] at hb)
  (try rw [hL] at h4); (try rw [hU] at h4)
  (try rw [hL] at hh); (try rw [hU] at hh)
  (try rw [hL]); (try rw [hU])
  have hi1 : decide (56320 ≤ (L : Int)) = false := decide_eq_false (by omega)
  have hi3 : decide ((L : Int) < 56320) = true := decide_eq_true (by omega)
  have hd4 : ((D1 : Int) == 4) = true := by simp; omega
  have hh1 : decide (55296 ≤ (L : Int)) = false := decide_eq_false (by omega)
  have hsc : scal L := by unfold scal; omega
  have HTL := Lib.hid htl
  clear htl
  have H_hb := Lib.hid hb
  clear hb
  have H_h4 := Lib.hid h4
  clear h4
  have H_hh := Lib.hid hh
  clear hh
  have H_hsc := Lib.hid hsc
  clear hsc
  have HA := Lib.hid A
  have HC65 := Lib.hid hC65
  clear hC65
  have HL := Lib.hid hL
  have HU := Lib.hid hU
  have HLT := Lib.hid hlt
  have HD4 := Lib.hid hD4
  clear A hL hU hlt h hdv hC1 hD1 hD4
  go_enter Tryz.func116, Tryz.ntmps116
  go_wp2_with (first
    | (go_at_call 140; refine HA.out.mono ?_; rintro e w1 ⟨rfl, hr1, hb1⟩; have k0 := hr1.c0; have k3 := hr1.c3; have k4 := hr1.c4; have k5 := hr1.c5; have HR1 := Lib.hid hr1; have HB1 := Lib.hid hb1; clear hr1 hb1; dsimp only at k0 k3 k4 k5)
    | (go_at_call 141; refine (bounds_any C1 D1 _ HC65.out HD4.out HLT.out).mono ?_; rintro e w2 ⟨rfl, hb2⟩; rw [HL.out, HU.out]; have HR2 := Lib.hid (HR1.out.below hb2 (Nat.le_refl _)); have HB2 := Lib.hid (HB1.out.trans (hb2.mono (Nat.le_trans HR1.out.rb (Nat.le_of_lt HR1.out.lt)))); clear hb2; have m0 := HR2.out.c0; have m3 := HR2.out.c3; have m4 := HR2.out.c4; have m5 := HR2.out.c5; dsimp only at m0 m3 m4 m5)
    | (go_at_call 142; refine (complete_any C1 D1 _).mono ?_; rintro e w3 ⟨rfl, hb3⟩; have HR3 := Lib.hid (HR2.out.below hb3 (Nat.le_refl _)); have HB3 := Lib.hid (HB2.out.trans (hb3.mono (Nat.le_trans HR2.out.rb (Nat.le_of_lt HR2.out.lt)))); clear hb3; have p0 := HR3.out.c0; have p3 := HR3.out.c3; have p4 := HR3.out.c4; have p5 := HR3.out.c5; have fz := HR3.out.fz; have f0 := fz 0; have f3 := fz 3; have f4 := fz 4; have f5 := fz 5; clear fz; dsimp only at p0 p3 p4 p5)
    | (go_at_call 139; refine (denote_any _ B R L _ HR3.out H_hsc.out HTL.out).mono ?_; rintro e w4 ⟨rfl, hr4, hb4⟩; have HR4 := Lib.hid hr4; have HB4 := Lib.hid (HB3.out.trans hb4); clear hr4 hb4))
  go_ret
  exact ⟨rfl, fun _ => HR4.out, HB4.out⟩

set_option maxHeartbeats 4000000 in
set_option maxRecDepth 1000000 in
theorem readFirst_moreb (w : World) (B R c d : Nat) (q : Q) (h : RS w B R q) (hc : c < 256) (hdv : dv c = some d) (hcode : q.code < 4096) (hdig : q.dig < 4) (hlt : q.code * 16 + d < 16 ^ (q.dig + 1)) (hb : 56320 ≤ lo (q.code * 16 + d) (q.dig + 1) ∧ 57343 < hi (q.code * 16 + d) (q.dig + 1)) (h4 : q.dig + 1 ≠ 4) :
    Calls Tryz.prog 116 #[.pointer (some ⟨R, 0, none⟩), .int .u8 (c : Int)] w (Got w B R ({ q with code := q.code * 16 + d, dig := q.dig + 1 }, 0)) := by
  have hd16 := dv_lt hdv
  have A := add_yes_rs w B R c d q h hc hdv hcode hdig
  obtain ⟨C1, hC1⟩ : ∃ C1, q.code * 16 + d = C1 := ⟨_, rfl⟩
  obtain ⟨D1, hD1⟩ : ∃ D1, q.dig + 1 = D1 := ⟨_, rfl⟩
  have hC65 : C1 < 65536 := by omega
  have hD4 : D1 = 1 ∨ D1 = 2 ∨ D1 = 3 ∨ D1 = 4 := by omega
  rw [hC1, hD1] at A hlt
  (try rw [hC1] at hb); (try rw [hD1] at hb)
  (try rw [hC1] at h4); (try rw [hD1] at h4)
  (try rw [hC1]); (try rw [hD1])
  obtain ⟨L, hL⟩ : ∃ L, lo C1 D1 = L := ⟨_, rfl⟩
  obtain ⟨U, hU⟩ : ∃ U, hi C1 D1 = U := ⟨_, rfl⟩
  (try rw [hL] at hb); (try rw [hU] at hb)
  (try rw [hL] at h4); (try rw [hU] at h4)
  (try rw [hL]); (try rw [hU])
  obtain ⟨hb1, hb2⟩ := hb
  have hi1 : decide (56320 ≤ (L : Int)) = true := decide_eq_true (by omega)
  have hi2 : decide ((U : Int) ≤ 57343) = false := decide_eq_false (by omega)
  have hi3 : decide ((L : Int) < 56320) = false := decide_eq_false (by omega)
  have hi4 : decide (55296 ≤ (L : Int)) = true := decide_eq_true (by omega)
  have hd4 : ((D1 : Int) == 4) = false := by simp; omega
  have H_hb1 := Lib.hid hb1
  clear hb1
  have H_hb2 := Lib.hid hb2
  clear hb2
  have H_h4 := Lib.hid h4
  clear h4
  have HA := Lib.hid A
  have HC65 := Lib.hid hC65
  clear hC65
  have HL := Lib.hid hL
  have HU := Lib.hid hU
  have HLT := Lib.hid hlt
  have HD4 := Lib.hid hD4
  clear A hL hU hlt h hdv hC1 hD1 hD4
  go_enter Tryz.func116, Tryz.ntmps116
  go_wp2_with (first
    | (go_at_call 140; refine HA.out.mono ?_; rintro e w1 ⟨rfl, hr1, hb1⟩; have k0 := hr1.c0; have k3 := hr1.c3; have k4 := hr1.c4; have k5 := hr1.c5; have HR1 := Lib.hid hr1; have HB1 := Lib.hid hb1; clear hr1 hb1; dsimp only at k0 k3 k4 k5)
    | (go_at_call 141; refine (bounds_any C1 D1 _ HC65.out HD4.out HLT.out).mono ?_; rintro e w2 ⟨rfl, hb2⟩; rw [HL.out, HU.out]; have HR2 := Lib.hid (HR1.out.below hb2 (Nat.le_refl _)); have HB2 := Lib.hid (HB1.out.trans (hb2.mono (Nat.le_trans HR1.out.rb (Nat.le_of_lt HR1.out.lt)))); clear hb2; have m0 := HR2.out.c0; have m3 := HR2.out.c3; have m4 := HR2.out.c4; have m5 := HR2.out.c5; dsimp only at m0 m3 m4 m5)
    | (go_at_call 142; refine (complete_any C1 D1 _).mono ?_; rintro e w3 ⟨rfl, hb3⟩; have HR3 := Lib.hid (HR2.out.below hb3 (Nat.le_refl _)); have HB3 := Lib.hid (HB2.out.trans (hb3.mono (Nat.le_trans HR2.out.rb (Nat.le_of_lt HR2.out.lt)))); clear hb3; have p0 := HR3.out.c0; have p3 := HR3.out.c3; have p4 := HR3.out.c4; have p5 := HR3.out.c5; have fz := HR3.out.fz; have f0 := fz 0; have f3 := fz 3; have f4 := fz 4; have f5 := fz 5; clear fz; dsimp only at p0 p3 p4 p5))
  go_ret
  exact ⟨rfl, fun _ => HR3.out, HB3.out⟩

set_option maxHeartbeats 4000000 in
set_option maxRecDepth 1000000 in
theorem readFirst_denb (w : World) (B R c d : Nat) (q : Q) (h : RS w B R q) (hc : c < 256) (hdv : dv c = some d) (hcode : q.code < 4096) (hdig : q.dig < 4) (hlt : q.code * 16 + d < 16 ^ (q.dig + 1)) (hb : 56320 ≤ lo (q.code * 16 + d) (q.dig + 1) ∧ 57343 < hi (q.code * 16 + d) (q.dig + 1)) (h4 : q.dig + 1 = 4) (htl : q.text.length ≤ 900000) (hle : lo (q.code * 16 + d) (q.dig + 1) ≤ 65535) :
    Calls Tryz.prog 116 #[.pointer (some ⟨R, 0, none⟩), .int .u8 (c : Int)] w (Got w B R (den q (lo (q.code * 16 + d) (q.dig + 1)), 0)) := by
  have hd16 := dv_lt hdv
  have A := add_yes_rs w B R c d q h hc hdv hcode hdig
  obtain ⟨C1, hC1⟩ : ∃ C1, q.code * 16 + d = C1 := ⟨_, rfl⟩
  obtain ⟨D1, hD1⟩ : ∃ D1, q.dig + 1 = D1 := ⟨_, rfl⟩
  have hC65 : C1 < 65536 := by omega
  have hD4 : D1 = 1 ∨ D1 = 2 ∨ D1 = 3 ∨ D1 = 4 := by omega
  rw [hC1, hD1] at A hlt
  (try rw [hC1] at hb); (try rw [hD1] at hb)
  (try rw [hC1] at h4); (try rw [hD1] at h4)
  (try rw [hC1] at hle); (try rw [hD1] at hle)
  (try rw [hC1]); (try rw [hD1])
  obtain ⟨L, hL⟩ : ∃ L, lo C1 D1 = L := ⟨_, rfl⟩
  obtain ⟨U, hU⟩ : ∃ U, hi C1 D1 = U := ⟨_, rfl⟩
  (try rw [hL] at hb); (try rw [hU] at hb)
  (try rw [hL] at h4); (try rw [hU] at h4)
  (try rw [hL] at hle); (try rw [hU] at hle)
  (try rw [hL]); (try rw [hU])
  obtain ⟨hb1, hb2⟩ := hb
  have hi1 : decide (56320 ≤ (L : Int)) = true := decide_eq_true (by omega)
  have hi2 : decide ((U : Int) ≤ 57343) = false := decide_eq_false (by omega)
  have hi3 : decide ((L : Int) < 56320) = false := decide_eq_false (by omega)
  have hi4 : decide (55296 ≤ (L : Int)) = true := decide_eq_true (by omega)
  have hd4 : ((D1 : Int) == 4) = true := by simp; omega
  have hsc : scal L := by
    have : L = C1 := by rw [← hL]; unfold lo; rw [h4]; simp
    have : U = C1 := by rw [← hU]; unfold hi; rw [h4]; simp
    unfold scal; omega
  have HTL := Lib.hid htl
  clear htl
  have H_hb1 := Lib.hid hb1
  clear hb1
  have H_hb2 := Lib.hid hb2
  clear hb2
  have H_h4 := Lib.hid h4
  clear h4
  have H_hle := Lib.hid hle
  clear hle
  have H_hsc := Lib.hid hsc
  clear hsc
  have HA := Lib.hid A
  have HC65 := Lib.hid hC65
  clear hC65
  have HL := Lib.hid hL
  have HU := Lib.hid hU
  have HLT := Lib.hid hlt
  have HD4 := Lib.hid hD4
  clear A hL hU hlt h hdv hC1 hD1 hD4
  go_enter Tryz.func116, Tryz.ntmps116
  go_wp2_with (first
    | (go_at_call 140; refine HA.out.mono ?_; rintro e w1 ⟨rfl, hr1, hb1⟩; have k0 := hr1.c0; have k3 := hr1.c3; have k4 := hr1.c4; have k5 := hr1.c5; have HR1 := Lib.hid hr1; have HB1 := Lib.hid hb1; clear hr1 hb1; dsimp only at k0 k3 k4 k5)
    | (go_at_call 141; refine (bounds_any C1 D1 _ HC65.out HD4.out HLT.out).mono ?_; rintro e w2 ⟨rfl, hb2⟩; rw [HL.out, HU.out]; have HR2 := Lib.hid (HR1.out.below hb2 (Nat.le_refl _)); have HB2 := Lib.hid (HB1.out.trans (hb2.mono (Nat.le_trans HR1.out.rb (Nat.le_of_lt HR1.out.lt)))); clear hb2; have m0 := HR2.out.c0; have m3 := HR2.out.c3; have m4 := HR2.out.c4; have m5 := HR2.out.c5; dsimp only at m0 m3 m4 m5)
    | (go_at_call 142; refine (complete_any C1 D1 _).mono ?_; rintro e w3 ⟨rfl, hb3⟩; have HR3 := Lib.hid (HR2.out.below hb3 (Nat.le_refl _)); have HB3 := Lib.hid (HB2.out.trans (hb3.mono (Nat.le_trans HR2.out.rb (Nat.le_of_lt HR2.out.lt)))); clear hb3; have p0 := HR3.out.c0; have p3 := HR3.out.c3; have p4 := HR3.out.c4; have p5 := HR3.out.c5; have fz := HR3.out.fz; have f0 := fz 0; have f3 := fz 3; have f4 := fz 4; have f5 := fz 5; clear fz; dsimp only at p0 p3 p4 p5)
    | (go_at_call 139; refine (denote_any _ B R L _ HR3.out H_hsc.out HTL.out).mono ?_; rintro e w4 ⟨rfl, hr4, hb4⟩; have HR4 := Lib.hid hr4; have HB4 := Lib.hid (HB3.out.trans hb4); clear hr4 hb4))
  go_ret
  exact ⟨rfl, fun _ => HR4.out, HB4.out⟩

end Go.Proofs.YtjnfilbdokppiaaGreatDoor.U
