/-
  What is proved here: contracts of Short and Texts as the law calls them, and of Cut; no condition but those that each fact states; and: contracts of (*room).cut, Cut and few: a copy within the limits in memory of the call's own; no condition.
-/
import Derived.Test.YtnplkamkeadlgaaDoorMake
namespace Go.Proofs.YtnplkamkeadlgaaDoor
open Go.RowKit

def shortS (s : ByteArray) : ByteArray := s.extract 0 (min s.size 60)
theorem shortS_size (s : ByteArray) : (shortS s).size ≤ 60 := by
  unfold shortS
  rw [ByteArray.size_extract]
  omega
theorem short_any (s : ByteArray) (w : World) (hs : s.size ≤ maxLen) : Calls Tryd.prog 13 #[.string s, .int .i64 60] w fun e w' => e = .returned (.string (shortS s)) ∧ Below w.heap.size w w' := by
  have hm : s.size ≤ 9223372036854775807 := hs
  have HE : Hid ((min (s.size : Int) 60).toNat = min s.size 60) := Lib.hid (by omega)
  go_enter Tryd.func13, Tryd.ntmps13
  go_wp2
  go_ret
  exact ⟨by unfold shortS; rw [← HE.out]; rfl, Below.refl _ _⟩

theorem own_bel {w w' : World} {B : Nat} {e : TypeId} {size n : Nat} {v : Value} {xs : List Value} (h : w.ownsRow B e size v n xs) (hb : Below w.heap.size w w') : w'.ownsRow B e size v n xs :=
  h.kept (row := none) ⟨hb.os, hb.tape, hb.output, hb.size, fun k hk _ => hb.block k hk⟩ (by by_cases h : v.ownBlock = none; (· exact .inl h); (· exact .inr h))
def cutK (ks : List ByteArray) : List ByteArray := (ks.take 64).map shortS
theorem infoS : (Tryd.prog.info? 9).map (fun i => (i.zero, i.size, i.bytes)) = some (some (.string ⟨#[]⟩), 1, 16) := by kernel_rfl
set_option maxRecDepth 100000 in
set_option maxHeartbeats 4000000 in
theorem texts_any (ks : List ByteArray) (kv : Value) (w : World) (h : RdS w kv ks) :
    Calls Tryd.prog 38 #[kv, .int .i64 64, .int .i64 60] w fun e w' => (∃ v', e = .returned v' ∧ Ow (fun b => w.heap.size ≤ b) w' 9 1 v' (cutK ks).length ((cutK ks).map Value.string)) ∧ Below w.heap.size w w' := by
  obtain ⟨A, n, c, rfl, hn, hnc, hc, hsz, hA⟩ := h.at
  have hmx : n ≤ 9223372036854775807 := Nat.le_trans hnc hc
  obtain ⟨i0, hi, hz0, hz1, hz2⟩ := info_parts infoS
  go_enter Tryd.func38, Tryd.ntmps38
  go_wp2
  go_loopw [7, 8] (fun v i wr => ∃ j : Nat, j ≤ n ∧ j ≤ 64 ∧ i = .int .i64 (j : Int) ∧ Hid (wr.ownsRow w.heap.size 9 1 v j ((ks.take j).map fun s => Value.string (shortS s))) ∧ Hid (Below w.heap.size w wr)) (fun v i _ => 64 - (intOf i).toNat)
  case atStart => exact ⟨0, Nat.zero_le _, Nat.zero_le _, rfl, World.ownsRow_nil _ _ _ _, Below.refl _ _⟩
  case round =>
    obtain ⟨j, hj, hj64, rfl, HO, HB⟩ := hrel
    by_cases hjn : j < n
    · by_cases hj6 : j < 64
      · obtain ⟨x, hx⟩ : ∃ x, ks[j]? = some x := ⟨_, List.getElem?_eq_getElem (by omega)⟩
        obtain ⟨b1, off1, rfl, _, hc1⟩ := hA (by omega)
        have hcell := hc1 wr HB.out j x hx
        have hxs := hsz x (List.mem_of_getElem? hx)
        have HT : Hid ((ks.take (j + 1)).map (fun s => Value.string (shortS s)) = (ks.take j).map (fun s => Value.string (shortS s)) ++ [Value.string (shortS x)]) := Lib.hid (by rw [List.take_add_one, hx]; simp)
        have HSZ : Hid (w.heap.size ≤ wr.heap.size) := Lib.hid HB.out.size
        clear hc1 hx
        go_wp2_with (first
          | (go_at_call 13; refine (short_any x _ hxs).mono ?_; rintro e w2 ⟨rfl, hb2⟩; have HB2 := Lib.hid hb2; have HO2 := Lib.hid (own_bel HO.out hb2); have HS2 := Lib.hid (Nat.le_trans HSZ.out hb2.size); clear hb2)
          | (at_builtin; refine wpList_append_own _ rfl _ _ 22 rfl w.heap.size 9 i0 (.string ⟨#[]⟩) 1 16 Tryd.underlying22 hi hz0 hz1 hz2 rfl (by decide) _ _ _ rfl (HO2.out.alloc _) ⟨w2.heap.size, 0, none⟩ 1 1 [.string (shortS x)] rfl rfl (cell_one_new _ _ _) ?q2 ?q3 ?q4 ?q5 ?_; rotate_left 4; intro v' w3 hown3 hgrow3 hnil3))
        · have HB3 : Below w.heap.size w w3 := ((HB.out.trans (HB2.out.mono HSZ.out)).alloc HS2.out _).grown hgrow3 (by rw [World.size_alloc]; have := HS2.out; omega) (fun k hk => (HO2.out.lt k hk).1)
          have HO3 : Hid (w3.ownsRow w.heap.size 9 1 v' (j + 1) ((ks.take (j + 1)).map fun s => Value.string (shortS s))) := Lib.hid (by rw [HT.out]; exact hown3)
          go_roundw
          case rel => exact ⟨j + 1, by omega, by omega, by simp, HO3, Lib.hid HB3⟩
          case measure => simp [intOf]; omega
        case q2 => intro u hu; simp only [List.mem_cons, List.not_mem_nil, or_false] at hu; subst hu; rfl
        case q3 => unfold maxLen; omega
        case q4 => omega
        case q5 => rw [World.size_alloc]; have := HS2.out; omega
      · go_wp2
        go_ret
        obtain rfl : j = 64 := by omega
        have e : (cutK ks).length = 64 := by unfold cutK; rw [List.length_map, List.length_take]; omega
        refine ⟨⟨_, rfl, ?_⟩, HB.out⟩
        rw [e]
        have := Ow.of HO.out
        unfold cutK
        rw [List.map_map]
        exact this
    · go_wp2
      go_ret
      obtain rfl : j = n := by omega
      have e : (cutK ks).length = j := by unfold cutK; rw [List.length_map, List.length_take]; omega
      refine ⟨⟨_, rfl, ?_⟩, HB.out⟩
      rw [e]
      have := Ow.of HO.out
      unfold cutK
      rw [List.map_map, List.take_of_length_le (i := 64) (by omega)]
      rw [List.take_of_length_le (i := j) (by omega)] at this
      exact this
end Go.Proofs.YtnplkamkeadlgaaDoor
namespace Go.Proofs.YtnplkamkeadlgaaDoor
open Go.RowKit

mutual
/-- The tree within the limits, and how many nodes may still come. -/
def cutT : T → Nat → T × Nat
  | .mk k n u s ks l, c => (.mk k n u (shortS s) (cutK ks) (cutL l c).1, (cutL l c).2)
def cutL : List T → Nat → List T × Nat
  | [], c => ([], c)
  | t :: ts, c => if c = 0 then ([], 0) else ((cutT t (c - 1)).1 :: (cutL ts (cutT t (c - 1)).2).1, (cutL ts (cutT t (c - 1)).2).2)
end

/-- All that lay lies as it lay, but block R. -/
structure Ex (R : Nat) (w w' : World) : Prop where
  os : w'.os = w.os
  tape : w'.tape = w.tape
  output : w'.output = w.output
  size : w.heap.size ≤ w'.heap.size
  block : ∀ k, k < w.heap.size → k ≠ R → w'.heap[k]? = w.heap[k]?
theorem Ex.refl (R : Nat) (w : World) : Ex R w w := ⟨rfl, rfl, rfl, Nat.le_refl _, fun _ _ _ => rfl⟩
theorem Ex.trans {R : Nat} {a b c : World} (h : Ex R a b) (k : Ex R b c) : Ex R a c :=
  ⟨k.os.trans h.os, k.tape.trans h.tape, k.output.trans h.output, Nat.le_trans h.size k.size, fun i hi hR => (k.block i (Nat.lt_of_lt_of_le hi h.size) hR).trans (h.block i hi hR)⟩
theorem Ex.of_below {R : Nat} {w w' : World} (h : Below w.heap.size w w') : Ex R w w' := ⟨h.os, h.tape, h.output, h.size, fun k hk _ => h.block k hk⟩
theorem Ex.set (w : World) (R i : Nat) (u : Value) : Ex R w (w.setCell ⟨R, i, none⟩ u) := ⟨rfl, rfl, rfl, by simp, fun k _ hR => heap_set_other w R i k u hR⟩
theorem Ex.below {R n : Nat} {w w' : World} (h : Ex R w w') (hn : n ≤ w.heap.size) (hR : n ≤ R) : Below n w w' := ⟨h.os, h.tape, h.output, h.size, fun k hk => h.block k (by omega) (by omega)⟩
theorem Ex.blk {R g : Nat} {w w' : World} {t : TypeId} {cs : Array Value} (h : Ex R w w') (hb : Blk w g t cs) (hg : g ≠ R) : Blk w' g t cs := (h.block g hb.lt hg).trans hb

theorem RdS.len {w : World} {v : Value} {ks : List ByteArray} (h : RdS w v ks) : ∀ s ∈ ks, s.size ≤ maxLen := by
  obtain ⟨_, _, _, _, _, _, _, h4, _⟩ := h
  exact h4
/-- The two boxes and the room. -/
def TwR (w : World) (R : Nat) (kk nn uu : Int) (s : ByteArray) (kv v5 : Value) (left : Nat) (W : World) : Prop :=
  Two w (.int .i64 kk) (.int .i64 nn) (.int .u64 uu) (.string s) kv v5 (.int .i64 0) (.int .i64 0) (.int .u64 0) (.string ⟨#[]⟩) (.slice none 0 0) (.slice none 0 0) W ∧ Blk W R 66 #[.int .i64 (left : Int), .int .i64 60]
theorem TwR.below {w W W2 : World} {R : Nat} {kk nn uu : Int} {s : ByteArray} {kv v5 : Value} {left : Nat} (h : TwR w R kk nn uu s kv v5 left W) (hb : Below W.heap.size W W2) : TwR w R kk nn uu s kv v5 left W2 := ⟨h.1.below hb, h.2.below hb h.2.lt⟩
theorem born {w w' : World} {cs : Array Value} {t : TypeId} (hb : Below (w.alloc (.cells cs t)).heap.size (w.alloc (.cells cs t)) w') : Blk w' w.heap.size t cs := (Blk.new w t cs).below hb (by simp)
theorem born_drew {w w' : World} {cs : Array Value} {t : TypeId} (hb : Below ((w.alloc (.cells cs t)).drew).heap.size ((w.alloc (.cells cs t)).drew) w') : Blk w' w.heap.size t cs := (hb.block _ (by simp)).trans (heap_alloc_new w _)
theorem born_eq {w w' : World} {n : Nat} {cs : Array Value} {t : TypeId} (hn : w.heap.size = n) (hb : Below ((w.alloc (.cells cs t)).drew).heap.size ((w.alloc (.cells cs t)).drew) w') : Blk w' n t cs := by rw [← hn]; exact born_drew hb
def UQ (w : World) (o : Nat) (lv : Value) (b : Nat) : Prop := w.heap.size + 2 ≤ b ∧ b ≠ o ∧ some b ≠ lv.ownBlock
/-- Between two rounds. -/
structure CS (w : World) (R o : Nat) (kk nn uu : Int) (s : ByteArray) (kv v5 kv' : Value) (ks : List ByteArray) (d : List T) (ys : List Value) (lv : Value) (left : Nat) (wr : World) : Prop where
  ex : Ex R w wr
  rl : R < w.heap.size
  ob : w.heap.size + 2 ≤ o
  bt : Bx wr w.heap.size (.int .i64 kk) (.int .i64 nn) (.int .u64 uu) (.string s) kv v5
  br : Bx wr (w.heap.size + 1) (.int .i64 0) (.int .i64 0) (.int .u64 0) (.string ⟨#[]⟩) (.slice none 0 0) (.slice none 0 0)
  bo : Bx wr o (.int .i64 kk) (.int .i64 nn) (.int .u64 uu) (.string (shortS s)) kv' (.slice none 0 0)
  rm : Blk wr R 66 #[.int .i64 (left : Int), .int .i64 60]
  keys : Ow (UQ w o lv) wr 9 1 kv' (cutK ks).length ((cutK ks).map Value.string)
  row : wr.ownsRow (w.heap.size + 2) 31 6 lv d.length ys
  rowo : lv.ownBlock ≠ some o
  kids : NdOL (UQ w o lv) wr d ys
theorem CS.room {w wr : World} {R o : Nat} {kk nn uu : Int} {s : ByteArray} {kv v5 kv' : Value} {ks : List ByteArray} {d : List T} {ys : List Value} {lv : Value} {left l2 : Nat} {w2 : World} (h : CS w R o kk nn uu s kv v5 kv' ks d ys lv left wr) (he : Ex R wr w2)
    (hr : Blk w2 R 66 #[.int .i64 (l2 : Int), .int .i64 60]) : CS w R o kk nn uu s kv v5 kv' ks d ys lv l2 w2 := by
  have hl := h.rl
  have ho := h.ob
  have hk : ∀ b, UQ w o lv b → b < wr.heap.size → w2.heap[b]? = wr.heap[b]? ∧ UQ w o lv b := fun b hb hlt => ⟨he.block b hlt (by have := hb.1; omega), hb⟩
  refine ⟨h.ex.trans he, hl, ho, he.blk h.bt (by omega), he.blk h.br (by omega), he.blk h.bo (by omega), hr, h.keys.step hk, ?_, h.rowo, NdOL.step hk _ _ h.kids⟩
  have hO : Ow (fun b => w.heap.size + 2 ≤ b) wr 31 6 lv d.length ys := Ow.of h.row
  have hO2 := hO.step (w' := w2) (U' := fun b => w.heap.size + 2 ≤ b) fun b hb hlt => ⟨he.block b hlt (by omega), hb⟩
  refine ⟨h.row.1, ?_⟩
  rcases hO2.1.2 with h0 | ⟨g, cap, cur, e, _, h4⟩
  · exact .inl h0
  · exact .inr ⟨g, cap, cur, e, hO2.2 g (by rw [e]; rfl), h4⟩
theorem CS.take {w wr : World} {R o : Nat} {kk nn uu : Int} {s : ByteArray} {kv v5 kv' : Value} {ks : List ByteArray} {d : List T} {ys : List Value} {lv : Value} {left l2 : Nat} (h : CS w R o kk nn uu s kv v5 kv' ks d ys lv left wr) :
    CS w R o kk nn uu s kv v5 kv' ks d ys lv l2 (wr.setCell ⟨R, 0, none⟩ (.int .i64 (l2 : Int))) := h.room (Ex.set _ _ _ _) (Blk.put h.rm 0 _)
/-- One child more. -/
theorem CS.app {w w2 w3 : World} {R o : Nat} {kk nn uu : Int} {s : ByteArray} {kv v5 kv' : Value} {ks : List ByteArray} {d : List T} {ys : List Value} {lv v' : Value} {left : Nat} {t : T} {cs : List Value} {ob : Obj} {n0 : Nat} (h : CS w R o kk nn uu s kv v5 kv' ks d ys lv left w2)
    (ht : NdO (fun b => n0 ≤ b) w2 t cs) (_hn0 : w.heap.size + 2 ≤ n0) (hno : o < n0) (hlv : ∀ g, lv.ownBlock = some g → g < n0) (hown : w3.ownsRow (w.heap.size + 2) 31 6 v' (d.length + 1) (ys ++ cs)) (hg : (w2.alloc ob).grownBy w3 lv.ownBlock)
    (hp : v'.ownBlock = lv.ownBlock ∨ v'.ownBlock = some (w2.alloc ob).heap.size) : CS w R o kk nn uu s kv v5 kv' ks (d ++ [t]) (ys ++ cs) v' left w3 := by
  have hl := h.rl
  have ho := h.ob
  have hs := h.ex.size
  have hol := Blk.lt h.bo
  have hgb : ∀ b, b < w2.heap.size → some b ≠ lv.ownBlock → w3.heap[b]? = w2.heap[b]? := fun b hb hne => (hg.block b (by rw [World.size_alloc]; omega) hne).trans (Below.heap_alloc w2 ob b hb)
  have hlow : ∀ g, lv.ownBlock = some g → w.heap.size + 2 ≤ g := fun g hg => (h.row.lt g hg).1
  have hne : ∀ b, b < w.heap.size + 2 → some b ≠ lv.ownBlock := fun b hb e => by have := hlow b e.symm; omega
  have hk : ∀ b, UQ w o lv b → b < w2.heap.size → w3.heap[b]? = w2.heap[b]? ∧ UQ w o v' b := fun b hb hlt => ⟨hgb b hlt hb.2.2, hb.1, hb.2.1, fun e => by
    rcases hp with e2 | e2
    · exact hb.2.2 (by rw [← e2, ← e])
    · rw [e2] at e
      have e3 := Option.some.inj e
      rw [World.size_alloc] at e3
      omega⟩
  have hk2 : ∀ b, n0 ≤ b → b < w2.heap.size → w3.heap[b]? = w2.heap[b]? ∧ UQ w o v' b := fun b hb hlt => by
    have h1 : some b ≠ lv.ownBlock := fun e => by have := hlv b e.symm; omega
    refine ⟨hgb b hlt h1, by omega, by omega, fun e => ?_⟩
    rcases hp with e2 | e2
    · exact h1 (by rw [← e2, ← e])
    · rw [e2] at e
      have e3 := Option.some.inj e
      rw [World.size_alloc] at e3
      omega
  have hb2 : ∀ g t cs, Blk w2 g t cs → some g ≠ lv.ownBlock → Blk w3 g t cs := fun g t cs hb hn => (hgb g hb.lt hn).trans hb
  refine ⟨⟨hg.os.trans h.ex.os, hg.tape.trans h.ex.tape, hg.output.trans h.ex.output, by have := hg.size; rw [World.size_alloc] at this; omega, fun i hk2 hR => (hgb i (by omega) (hne i (by omega))).trans (h.ex.block i hk2 hR)⟩, hl, ho,
    hb2 _ _ _ h.bt (hne _ (by omega)), hb2 _ _ _ h.br (hne _ (by omega)), hb2 _ _ _ h.bo (fun e => h.rowo e.symm), hb2 _ _ _ h.rm (hne _ (by omega)), h.keys.step hk, by simpa using hown, ?_, NdOL.app (NdO.step hk2 _ _ ht) (NdOL.step hk _ _ h.kids)⟩
  rcases hp with e2 | e2
  · rw [e2]; exact h.rowo
  · rw [e2]
    intro e
    have e3 := Option.some.inj e
    rw [World.size_alloc] at e3
    omega

mutual
theorem cutT_le : ∀ (t : T) (c : Nat), (cutT t c).2 ≤ c
  | .mk _ _ _ _ _ l, c => cutL_le l c
theorem cutL_le : ∀ (l : List T) (c : Nat), (cutL l c).2 ≤ c
  | [], c => Nat.le_refl _
  | t :: ts, c => by
    unfold cutL
    by_cases h : c = 0
    · rw [if_pos h]; exact Nat.zero_le _
    · rw [if_neg h]
      have h1 := cutT_le t (c - 1)
      have h2 := cutL_le ts (cutT t (c - 1)).2
      show (cutL ts (cutT t (c - 1)).2).2 ≤ c
      omega
end
theorem cutL_zero (l : List T) : cutL l 0 = ([], 0) := by
  cases l with
  | nil => rfl
  | cons t ts => unfold cutL; rw [if_pos rfl]
theorem cutL_cons (t : T) (ts : List T) (c : Nat) : cutL (t :: ts) (c + 1) = ((cutT t c).1 :: (cutL ts (cutT t c).2).1, (cutL ts (cutT t c).2).2) := by
  have h : cutL (t :: ts) (c + 1) = if c + 1 = 0 then ([], 0) else ((cutT t (c + 1 - 1)).1 :: (cutL ts (cutT t (c + 1 - 1)).2).1, (cutL ts (cutT t (c + 1 - 1)).2).2) := by
    conv => lhs; unfold cutL
  rw [h, if_neg (by omega)]
  rfl
theorem cutL_drop {L : List T} {j c : Nat} {t : T} (h : L[j]? = some t) : cutL (L.drop j) (c + 1) = ((cutT t c).1 :: (cutL (L.drop (j + 1)) (cutT t c).2).1, (cutL (L.drop (j + 1)) (cutT t c).2).2) := by
  have h1 := List.getElem?_eq_some_iff.1 h
  rw [List.drop_eq_getElem_cons h1.1, h1.2]
  exact cutL_cons t _ c
theorem cells_new (w : World) (l : List Value) (t : TypeId) : ∀ j u, l[j]? = some u → (w.alloc (.cells l.toArray t)).cell? ((⟨w.heap.size, 0, none⟩ : Addr).add j) = some u := by
  intro j u h
  have := (Blk.new w t l.toArray).cell j
  rw [show ((⟨w.heap.size, 0, none⟩ : Addr).add j) = ⟨w.heap.size, j, none⟩ by unfold Addr.add; split <;> simp_all]
  rw [this]
  simpa using h
theorem CS.fin0 {w wr W : World} {R o : Nat} {kk nn uu : Int} {s : ByteArray} {kv v5 kv' : Value} {ks : List ByteArray} {d L : List T} {ys : List Value} {lv : Value} {left l2 : Nat} (h : CS w R o kk nn uu s kv v5 kv' ks d ys lv l2 wr) (hE : cutL L left = (d, l2)) (hr : Rng kk nn uu)
    (hk : ∀ b, b ≠ o → b ≠ w.heap.size + 1 → W.heap[b]? = wr.heap[b]?) (h1 : W.os = wr.os) (h2 : W.tape = wr.tape) (h3 : W.output = wr.output) (h4 : W.heap.size = wr.heap.size) :
    (∃ cs' : List Value, Ending.returned (.agg #[.int .i64 kk, .int .i64 nn, .int .u64 uu, .string (shortS s), kv', lv]) = Ending.returned (.agg cs'.toArray) ∧ NdO (fun b => w.heap.size ≤ b) W (cutT (.mk kk nn uu s ks L) left).1 cs') ∧
    Ex R w W ∧ Blk W R 66 #[.int .i64 (((cutT (.mk kk nn uu s ks L) left).2 : Nat) : Int), .int .i64 60] := by
  have hl := h.rl
  have ho := h.ob
  have hT : cutT (.mk kk nn uu s ks L) left = (.mk kk nn uu (shortS s) (cutK ks) d, l2) := by
    show (T.mk kk nn uu (shortS s) (cutK ks) (cutL L left).1, (cutL L left).2) = _
    rw [hE]
  have hUQ : ∀ b, UQ w o lv b → b < wr.heap.size → W.heap[b]? = wr.heap[b]? ∧ w.heap.size ≤ b := fun b hb _ => ⟨hk b hb.2.1 (by have := hb.1; omega), by have := hb.1; omega⟩
  have hO : Ow (fun b => w.heap.size + 2 ≤ b ∧ b ≠ o) wr 31 6 lv d.length ys := ⟨(Ow.of h.row).1, fun g hg => ⟨(Ow.of h.row).2 g hg, fun e => h.rowo (by rw [hg, e])⟩⟩
  have hO2 : Ow (fun b => w.heap.size ≤ b) W 31 6 lv d.length ys := hO.step fun b hb _ => ⟨hk b hb.2 (by have := hb.1; omega), by have := hb.1; omega⟩
  have hK2 : Ow (fun b => w.heap.size ≤ b) W 9 1 kv' (cutK ks).length ((cutK ks).map Value.string) := h.keys.step hUQ
  have hL2 : NdOL (fun b => w.heap.size ≤ b) W d ys := NdOL.step hUQ _ _ h.kids
  have hs' : (shortS s).size ≤ maxLen := Nat.le_trans (shortS_size s) (by unfold maxLen; omega)
  have hks' : ∀ x ∈ cutK ks, x.size ≤ maxLen := fun x hx => by
    unfold cutK at hx
    obtain ⟨y, _, rfl⟩ := List.mem_map.1 hx
    exact Nat.le_trans (shortS_size y) (by unfold maxLen; omega)
  rw [hT]
  have e := h.ex
  exact ⟨⟨[.int .i64 kk, .int .i64 nn, .int .u64 uu, .string (shortS s), kv', lv], rfl, hr, hs', hks', kv', lv, ys, rfl, hK2, hO2, hL2⟩,
    ⟨h1.trans e.os, h2.trans e.tape, h3.trans e.output, by rw [h4]; exact e.size, fun i hi hR => (hk i (by omega) (by omega)).trans (e.block i hi hR)⟩, (hk R (by omega) (by omega)).trans h.rm⟩
theorem CS.fin {w wr : World} {R o : Nat} {kk nn uu : Int} {s : ByteArray} {kv v5 kv' : Value} {ks : List ByteArray} {d L : List T} {ys : List Value} {lv : Value} {left l2 : Nat} (h : CS w R o kk nn uu s kv v5 kv' ks d ys lv l2 wr) (hE : cutL L left = (d, l2)) (hr : Rng kk nn uu) :
    Bx (put6 (wr.setCell ⟨o, 5, none⟩ lv) (w.heap.size + 1) 0 (.int .i64 kk) (.int .i64 nn) (.int .u64 uu) (.string (shortS s)) kv' lv) (w.heap.size + 1) (.int .i64 kk) (.int .i64 nn) (.int .u64 uu) (.string (shortS s)) kv' lv ∧
    (∃ cs' : List Value, Ending.returned (.agg #[.int .i64 kk, .int .i64 nn, .int .u64 uu, .string (shortS s), kv', lv]) = Ending.returned (.agg cs'.toArray) ∧ NdO (fun b => w.heap.size ≤ b) (put6 (wr.setCell ⟨o, 5, none⟩ lv) (w.heap.size + 1) 0 (.int .i64 kk) (.int .i64 nn) (.int .u64 uu) (.string (shortS s)) kv' lv) (cutT (.mk kk nn uu s ks L) left).1 cs') ∧
    Ex R w (put6 (wr.setCell ⟨o, 5, none⟩ lv) (w.heap.size + 1) 0 (.int .i64 kk) (.int .i64 nn) (.int .u64 uu) (.string (shortS s)) kv' lv) ∧ Blk (put6 (wr.setCell ⟨o, 5, none⟩ lv) (w.heap.size + 1) 0 (.int .i64 kk) (.int .i64 nn) (.int .u64 uu) (.string (shortS s)) kv' lv) R 66 #[.int .i64 (((cutT (.mk kk nn uu s ks L) left).2 : Nat) : Int), .int .i64 60] := by
  have ho := h.ob
  have hbr : Bx (wr.setCell ⟨o, 5, none⟩ lv) (w.heap.size + 1) (.int .i64 0) (.int .i64 0) (.int .u64 0) (.string ⟨#[]⟩) (.slice none 0 0) (.slice none 0 0) := (heap_set_other wr o 5 _ lv (by omega)).trans h.br
  have hb : Below 0 wr (put6 (wr.setCell ⟨o, 5, none⟩ lv) (w.heap.size + 1) 0 (.int .i64 kk) (.int .i64 nn) (.int .u64 uu) (.string (shortS s)) kv' lv) := put6_below ((Below.refl 0 wr).setCell (p := ⟨o, 5, none⟩) (Nat.zero_le _) lv) _ _ _ _ _ _ _ _ (Nat.zero_le _)
  have hBB := hbr.put6 (.int .i64 kk) (.int .i64 nn) (.int .u64 uu) (.string (shortS s)) kv' lv
  refine ⟨hBB, ?_⟩
  exact CS.fin0 h hE hr (fun b h1 h2 => by rw [put6_other _ _ _ _ _ _ _ _ _ _ h2, heap_set_other _ _ _ _ _ h1]) hb.os hb.tape hb.output (by rw [put6_size, World.size_setCell])
theorem infoN : (Tryd.prog.info? 31).map (fun i => (i.zero, i.size, i.bytes)) = some (some (.agg #[.int .i64 0, .int .i64 0, .int .u64 0, .string ⟨#[]⟩, .slice none 0 0, .slice none 0 0]), 6, 88) := by kernel_rfl
theorem own_nil (w : World) (n : Nat) : w.ownsRow n 31 6 (.slice none 0 0) ([] : List T).length [] := ⟨rfl, .inl ⟨rfl, rfl⟩⟩
theorem CS.start2 {w w4 : World} {R o n0 : Nat} {kk nn uu : Int} {s : ByteArray} {kv v5 kv' : Value} {ks : List ByteArray} {left : Nat} {z0 z1 z2 z3 z4 z5 : Value} (h : TwR w R kk nn uu s kv v5 left w4) (hx : Bx w4 o z0 z1 z2 z3 z4 z5) (hR : R < w.heap.size) (ho : w.heap.size + 2 ≤ o)
    (hk : Ow (fun b => n0 ≤ b) w4 9 1 kv' (cutK ks).length ((cutK ks).map Value.string)) (hn : o < n0) : CS w R o kk nn uu s kv v5 kv' ks [] [] (.slice none 0 0) left (put6 w4 o 0 (.int .i64 kk) (.int .i64 nn) (.int .u64 uu) (.string (shortS s)) kv' (.slice none 0 0)) := by
  refine ⟨Ex.of_below (put6_below h.1.1 o 0 _ _ _ _ _ _ (by omega)), hR, ho, put6_blk h.1.2.2.1 (by omega) _ _ _ _ _ _, put6_blk h.1.2.2.2 (by omega) _ _ _ _ _ _, Bx.put6 hx _ _ _ _ _ _, put6_blk h.2 (by omega) _ _ _ _ _ _,
    hk.step fun b hb _ => ⟨put6_other _ _ _ _ _ _ _ _ _ _ (by omega), by omega, by omega, by simp [Value.ownBlock]⟩, own_nil _ _, by simp [Value.ownBlock], rfl⟩
theorem CS.start1 {w w4 : World} {R n0 : Nat} {kk nn uu : Int} {s : ByteArray} {kv v5 kv' : Value} {ks : List ByteArray} {left : Nat} (h : TwR w R kk nn uu s kv v5 left w4) (hR : R < w.heap.size)
    (hk : Ow (fun b => n0 ≤ b) w4 9 1 kv' (cutK ks).length ((cutK ks).map Value.string)) (hn : w.heap.size + 2 ≤ n0) : CS w R w4.heap.size kk nn uu s kv v5 kv' ks [] [] (.slice none 0 0) left (w4.alloc (.cells #[.int .i64 kk, .int .i64 nn, .int .u64 uu, .string (shortS s), kv', .slice none 0 0] 31)) := by
  have h2 := h.1.2.1
  exact ⟨(Ex.of_below h.1.1).trans (Ex.of_below ((Below.refl _ _).alloc (Nat.le_refl _) _)), hR, h2, h.1.2.2.1.alloc _, h.1.2.2.2.alloc _, Blk.new _ _ _, h.2.alloc _,
    hk.step fun b hb hlt => ⟨Below.heap_alloc _ _ _ hlt, by omega, by omega, by simp [Value.ownBlock]⟩, own_nil _ _, by simp [Value.ownBlock], rfl⟩

set_option maxRecDepth 100000 in
set_option maxHeartbeats 4000000 in
theorem cut_any (w0 : World) (R : Nat) (hR : w0.heap.size ≤ R) (k : Nat) : ∀ (t : T) (cs : List Value) (w : World) (left : Nat), dp t ≤ k → left ≤ 200 → Nd w0 t cs → Below w0.heap.size w0 w → Blk w R 66 #[.int .i64 (left : Int), .int .i64 60] →
    Calls Tryd.prog 44 #[.pointer (some ⟨R, 0, none⟩), .agg cs.toArray] w fun e w' => (∃ cs', e = .returned (.agg cs'.toArray) ∧ NdO (fun b => w.heap.size ≤ b) w' (cutT t left).1 cs') ∧ Ex R w w' ∧
      Blk w' R 66 #[.int .i64 (((cutT t left).2 : Nat) : Int), .int .i64 60] := by
  induction k with
  | zero => intro t cs w left h; exact absurd h (by have := dp_pos t; omega)
  | succ k ih =>
    rintro ⟨kk, nn, uu, s, ks, L⟩ cs w left hk hleft ⟨hr, hs, kv, A, m, c, rfl, hks, hl, hm, hmm, hL⟩ hbw hRb
    simp only [dp] at hk
    obtain ⟨KA, Kn, Kc, rfl, hkv⟩ : ∃ KA Kn Kc, kv = .slice KA Kn Kc ∧ RdS w0 (.slice KA Kn Kc) ks := by
      obtain ⟨KA, Kn, Kc, rfl, h⟩ := hks
      exact ⟨KA, Kn, Kc, rfl, KA, Kn, Kc, rfl, h⟩
    have hRl := hRb.lt
    have HT0 : Hid (TwR w R kk nn uu s (.slice KA Kn Kc) (.slice A m c) left ((w.alloc (.cells #[.int .i64 kk, .int .i64 nn, .int .u64 uu, .string s, .slice KA Kn Kc, .slice A m c] 31)).alloc (.cells #[.int .i64 0, .int .i64 0, .int .u64 0, .string ⟨#[]⟩, .slice none 0 0, .slice none 0 0] 31))) := Lib.hid ⟨Two.start w _ _ _ _ _ _ _ _ _ _ _ _, (hRb.alloc _).alloc _⟩
    have HT0d := Lib.hid (HT0.out.below (Below.refl _ _).drew)
    have hcells : ∀ W, Hid (TwR w R kk nn uu s (.slice KA Kn Kc) (.slice A m c) left W) → Hid (TwR w R kk nn uu s (.slice KA Kn Kc) (.slice A m c) left W) ∧ W.cell? ⟨w.heap.size, 0, none⟩ = some (.int .i64 kk) ∧ W.cell? ⟨w.heap.size, 1, none⟩ = some (.int .i64 nn) ∧ W.cell? ⟨w.heap.size, 2, none⟩ = some (.int .u64 uu) ∧ W.cell? ⟨w.heap.size, 3, none⟩ = some (.string s) ∧ W.cell? ⟨w.heap.size, 4, none⟩ = some (.slice KA Kn Kc) ∧ W.cell? ⟨w.heap.size, 5, none⟩ = some (.slice A m c) ∧ W.cell? ⟨R, 0, none⟩ = some (.int .i64 (left : Int)) ∧ W.cell? ⟨R, 1, none⟩ = some (.int .i64 60) := by
      intro W H
      obtain ⟨c0, c1, c2, c3, c4, c5⟩ := H.out.1.2.2.1.all
      exact ⟨H, c0, c1, c2, c3, c4, c5, by rw [Blk.cell H.out.2]; rfl, by rw [Blk.cell H.out.2]; rfl⟩
    have HSH : Hid (∀ W, Hid (TwR w R kk nn uu s (.slice KA Kn Kc) (.slice A m c) left W) → Calls Tryd.prog 13 #[.string s, .int .i64 60] W fun e w' => e = .returned (.string (shortS s)) ∧ Hid (TwR w R kk nn uu s (.slice KA Kn Kc) (.slice A m c) left w') ∧ Hid (Below W.heap.size W w')) :=
      Lib.hid fun W H => (short_any s W hs).mono fun e w' h => ⟨h.1, Lib.hid (H.out.below h.2), Lib.hid h.2⟩
    have HTX : Hid (∀ W, Hid (TwR w R kk nn uu s (.slice KA Kn Kc) (.slice A m c) left W) → Calls Tryd.prog 38 #[.slice KA Kn Kc, .int .i64 64, .int .i64 60] W fun e w' => (∃ XA Xn Xc, e = .returned (.slice XA Xn Xc) ∧ Hid (Ow (fun b => W.heap.size ≤ b) w' 9 1 (.slice XA Xn Xc) (cutK ks).length ((cutK ks).map Value.string))) ∧ Hid (TwR w R kk nn uu s (.slice KA Kn Kc) (.slice A m c) left w') ∧ Hid (Below W.heap.size W w')) :=
      Lib.hid fun W H => (texts_any ks _ W (hkv.below (hbw.trans (H.out.1.1.mono hbw.size)))).mono fun e w' h => by
        obtain ⟨⟨v', rfl, ho⟩, hb⟩ := h
        obtain ⟨XA, Xc, rfl⟩ := ho.shape
        exact ⟨⟨XA, _, Xc, rfl, Lib.hid ho⟩, Lib.hid (H.out.below hb), Lib.hid hb⟩
    obtain ⟨_, x0, x1, x2, x3, x4, x5, y0, y1⟩ := hcells _ HT0
    have hsz0 : ((w.alloc (.cells #[.int .i64 kk, .int .i64 nn, .int .u64 uu, .string s, .slice KA Kn Kc, .slice A m c] 31)).alloc (.cells #[.int .i64 0, .int .i64 0, .int .u64 0, .string ⟨#[]⟩, .slice none 0 0, .slice none 0 0] 31)).heap.size = w.heap.size + 1 + 1 := by simp
    have HT0ad := Lib.hid ((HT0.out.below ((Below.refl _ _).alloc (Nat.le_refl _) (.cells #[.int .i64 0, .int .i64 0, .int .u64 0, .string ⟨#[]⟩, .slice none 0 0, .slice none 0 0] 31))).below (Below.refl _ _).drew)
    have HSZ0 := Lib.hid hsz0
    clear hsz0
    have hset : ∀ (W : World) (o : Nat) (a0 a1 a2 a3 a4 a5 : Value), Hid (TwR w R kk nn uu s (.slice KA Kn Kc) (.slice A m c) left W) → Hid (w.heap.size + 2 ≤ o) → Hid (TwR w R kk nn uu s (.slice KA Kn Kc) (.slice A m c) left ((((((W.setCell ⟨o, 0, none⟩ a0).setCell ⟨o, 1, none⟩ a1).setCell ⟨o, 2, none⟩ a2).setCell ⟨o, 3, none⟩ a3).setCell ⟨o, 4, none⟩ a4).setCell ⟨o, 5, none⟩ a5)) := fun W o a0 a1 a2 a3 a4 a5 H ho =>
      Lib.hid ⟨put6_two H.out.1 0 ho.out _ _ _ _ _ _, put6_blk H.out.2 (by have := ho.out; omega) _ _ _ _ _ _⟩
    have HL0 : Hid (w.heap.size + 2 ≤ ((w.alloc (.cells #[.int .i64 kk, .int .i64 nn, .int .u64 uu, .string s, .slice KA Kn Kc, .slice A m c] 31)).alloc (.cells #[.int .i64 0, .int .i64 0, .int .u64 0, .string ⟨#[]⟩, .slice none 0 0, .slice none 0 0] 31)).heap.size) := Lib.hid HT0.out.1.2.1
    have HL1 : Hid (w.heap.size + 2 ≤ w.heap.size + 1 + 1) := Lib.hid (Nat.le_refl _)
    go_enter Tryd.func44, Tryd.ntmps44
    go_wp2_with fail
    go_region_held3 (fun W => Hid (TwR w R kk nn uu s (.slice KA Kn Kc) (.slice A m c) left W) ∧ W.cell? ⟨w.heap.size, 0, none⟩ = some (.int .i64 kk) ∧ W.cell? ⟨w.heap.size, 1, none⟩ = some (.int .i64 nn) ∧ W.cell? ⟨w.heap.size, 2, none⟩ = some (.int .u64 uu) ∧ W.cell? ⟨w.heap.size, 3, none⟩ = some (.string s) ∧ W.cell? ⟨w.heap.size, 4, none⟩ = some (.slice KA Kn Kc) ∧ W.cell? ⟨w.heap.size, 5, none⟩ = some (.slice A m c) ∧ W.cell? ⟨R, 0, none⟩ = some (.int .i64 (left : Int)) ∧ W.cell? ⟨R, 1, none⟩ = some (.int .i64 60)) (first | (with_reducible exact hcells _ (by assumption)) | (with_reducible exact hcells _ HT0d) | (with_reducible exact hcells _ (hset _ _ _ _ _ _ _ _ (by assumption) (by first | exact HL3 | exact HL1 | exact HL0))) | (with_reducible exact hcells _ (Lib.hid (TwR.below (Hid.out (by assumption)) ((Below.refl _ _).alloc (Nat.le_refl _) _)))) | (with_reducible exact hcells _ HT0ad))
      (first
        | (go_at_call 13; (with_reducible refine (HSH.out _ (by first | assumption | exact HT0ad)).mono ?_); rintro e w3 ⟨rfl, HT3, HB3⟩; have HL3 := Lib.hid HT3.out.1.2.1; first | (have HO3 := Lib.hid (born_eq HSZ0.out HB3.out)) | skip)
        | (go_at_call 38; (with_reducible refine (HTX.out _ (by first | assumption | exact Lib.hid (TwR.below HT3.out ((Below.refl _ _).alloc (Nat.le_refl _) _)))).mono ?_); rintro e w4 ⟨⟨XA, Xn, Xc, rfl, HO4⟩, HT4, HB4⟩; (try (have HO5 := Lib.hid (Blk.below HO3.out HB4.out HO3.out.lt); obtain ⟨⟨z0, z1, z2, z3, z4, z5⟩, p0, p1, p2, p3, p4, p5⟩ := Bx.both HO5.out)); (try (have HO6 := Lib.hid (born HB4.out); obtain ⟨⟨z0, z1, z2, z3, z4, z5⟩, p0, p1, p2, p3, p4, p5⟩ := Bx.both HO6.out))))
    · have HC : Hid (CS w R w4.heap.size kk nn uu s (.slice KA Kn Kc) (.slice A m c) (.slice XA Xn Xc) ks [] [] (.slice none 0 0) left (w4.alloc (.cells #[.int .i64 kk, .int .i64 nn, .int .u64 uu, .string (shortS s), .slice XA Xn Xc, .slice none 0 0] 31))) := Lib.hid (CS.start1 HT4.out hRl HO4.out HL3.out)
      obtain ⟨o, ho⟩ : ∃ o, w4.heap.size = o := ⟨_, rfl⟩
      rw [ho] at HC
      simp only [ho]
      clear ho HO4 HB4 HT4 HT3 HB3 HL3
      obtain ⟨W9, hW9⟩ : ∃ W9, w4.alloc (.cells #[.int .i64 kk, .int .i64 nn, .int .u64 uu, .string (shortS s), .slice XA Xn Xc, .slice none 0 0] 31) = W9 := ⟨_, rfl⟩
      rw [hW9]
      rw [hW9] at HC
      clear hW9
      clear hcells hset HT0 HT0d HT0ad HSZ0 HL0 HL1 HSH HTX x0 x1 x2 x3 x4 x5 y0 y1
      go_wp2_with fail
      go_loopw [6, 7] (fun lv i wr => ∃ (j l2 : Nat) (d : List T) (ys : List Value), j ≤ m ∧ j + l2 ≤ 200 ∧ i = .int .i64 (j : Int) ∧ d.length = j ∧ Hid (CS w R o kk nn uu s (.slice KA Kn Kc) (.slice A m c) (.slice XA Xn Xc) ks d ys lv l2 wr) ∧ Hid (cutL L left = (d ++ (cutL (L.drop j) l2).1, (cutL (L.drop j) l2).2))) (fun lv i wr => m - (intOf i).toNat)
      case atStart => exact ⟨0, left, [], [], Nat.zero_le _, by omega, rfl, rfl, HC, Lib.hid (by simp)⟩
      case round =>
        obtain ⟨j, l2, d, ys, hj, hj2, rfl, hd, HS, HE⟩ := hrel
        obtain ⟨_, _, _, _, _, b5⟩ := HS.out.bt.all
        have q0 : _ = some (Value.int .i64 (l2 : Int)) := (HS.out.rm.cell 0).trans rfl
        have g0 := HS.out.rm.frozen 0
        by_cases hjm : j < m
        · by_cases hl0 : l2 = 0
          · obtain rfl : l2 = 0 := hl0
            have hE := HE.out
            rw [cutL_zero] at hE
            obtain ⟨GA, Gc, hlv⟩ := (Ow.of HS.out.row).shape
            subst hlv
            have HEE : Hid (cutL L left = (d, 0)) := Lib.hid (by rw [hE]; simp)
            obtain ⟨⟨o0, o1, o2, o3, o4, o5⟩, f0, f1, f2, f3, f4, f5⟩ := Bx.both HS.out.bo
            obtain ⟨⟨p0, p1, p2, p3, p4, p5⟩, e0, e1, e2, e3, e4, e5⟩ := Bx.both HS.out.br
            have hob := HS.out.ob
            have hne1 : ¬ o = w.heap.size + 1 := by omega
            have hne2 : ¬ w.heap.size + 1 = o := by omega
            clear hE HE
            go_wp2_with fail
            subst hd
            refine ret_six (p := 4) (g := w.heap.size + 1) rfl rfl (CS.fin HS.out HEE.out hr).1 rfl (CS.fin HS.out HEE.out hr).2
          · obtain ⟨l3, rfl⟩ : ∃ l3, l2 = l3 + 1 := ⟨l2 - 1, by omega⟩
            obtain ⟨bb, off, rfl, hbb, hN⟩ := hL (by omega)
            obtain ⟨t0, ht0⟩ : ∃ t, L[j]? = some t := ⟨_, List.getElem?_eq_getElem (by omega)⟩
            obtain ⟨v0, v1, v2, v3, v4, v5, hS, hn0⟩ := hN.six' (Below.refl _ _) hbb ht0
            obtain ⟨a0, a1, a2, a3, a4, a5⟩ := hS.below (hbw.trans (HS.out.ex.below hbw.size hR)) hbb
            have hdl := dp_le_of ht0
            have HS1 := Lib.hid (HS.out.take (l2 := l3))
            have hb1 : Below w0.heap.size w0 (wr.setCell ⟨R, 0, none⟩ (.int .i64 (l3 : Int))) := (hbw.trans (HS.out.ex.below hbw.size hR)).setCell (p := ⟨R, 0, none⟩) hR _
            have ihj := Lib.hid (ih t0 _ (wr.setCell ⟨R, 0, none⟩ (.int .i64 (l3 : Int))) l3 (by omega) (by omega) hn0 hb1 HS1.out.rm)
            have hlt0 := cutT_le t0 l3
            have HE2 : Hid (cutL L left = (d ++ [(cutT t0 l3).1] ++ (cutL (L.drop (j + 1)) (cutT t0 l3).2).1, (cutL (L.drop (j + 1)) (cutT t0 l3).2).2)) := Lib.hid (by
              have := HE.out
              rw [cutL_drop ht0] at this
              rw [this]
              simp)
            obtain ⟨i0, hi, hz0, hz1, hz2⟩ := info_parts infoN
            have q0' : wr.cell? ⟨R, 0, none⟩ = some (.int .i64 ((l3 : Int) + 1)) := q0
            clear q0 hS hn0 ht0 HE hb1
            have hjs : j ≤ 200 := by omega
            go_wp2_with (first
              | (go_at_call 44; refine ihj.out.mono ?_; clear ihj; rintro e w5 ⟨⟨cs', rfl, hno⟩, hex, hrm⟩; have HN5 := Lib.hid hno; have HX5 := Lib.hid hex; have HS5 := Lib.hid (HS1.out.room hex hrm); obtain ⟨k8, i8, u8, s8, C1', m1', d1', C2', m2', d2', rfl⟩ := hno.shape6; clear hno hex hrm)
              | (at_builtin; refine wpList_append_own_at _ rfl _ _ 29 rfl (w.heap.size + 2) 31 i0 _ 6 88 Tryd.underlying29 hi hz0 hz1 hz2 rfl (by decide) _ d.length ys rfl (HS5.out.row.alloc _) ⟨w5.heap.size, 0, none⟩ 1 1 [.int .i64 k8, .int .i64 i8, .int .u64 u8, .string s8, .slice C1' m1' d1', .slice C2' m2' d2'] rfl rfl ?q1 ?q2 ?q3 ?q4 ?q5 ?_; rotate_left 5; intro v' w6 hown6 hgrow6 hnil6 hloc6))
            case roundEnd =>
              have hn0 : o < (wr.setCell ⟨R, 0, none⟩ (.int .i64 (l3 : Int))).heap.size := by rw [World.size_setCell]; exact Blk.lt HS.out.bo
              have hlv0 : ∀ g, u6.ownBlock = some g → g < (wr.setCell ⟨R, 0, none⟩ (.int .i64 (l3 : Int))).heap.size := fun g hg => by rw [World.size_setCell]; exact (HS.out.row.lt g hg).2
              have hn1 : w.heap.size + 2 ≤ (wr.setCell ⟨R, 0, none⟩ (.int .i64 (l3 : Int))).heap.size := by have := HS.out.ob; omega
              have HF := Lib.hid (CS.app HS5.out HN5.out hn1 hn0 hlv0 hown6 hgrow6 hloc6)
              refine ⟨⟨j + 1, (cutT t0 l3).2, d ++ [(cutT t0 l3).1], ys ++ _, by omega, by omega, by simp, by simp [hd], HF, HE2⟩, ?_⟩
              simp [intOf]
              omega
            case q1 => exact cells_new _ _ _
            case q2 => exact NdO.one HN5.out
            case q3 => unfold maxLen; omega
            case q4 => omega
            case q5 => have := HS5.out.ex.size; have := HS.out.ob; have := Blk.lt HS5.out.bo; rw [World.size_alloc]; omega
        · obtain rfl : j = m := by omega
          have hE := HE.out
          rw [← hl, List.drop_length] at hE
          obtain ⟨GA, Gc, hlv⟩ := (Ow.of HS.out.row).shape
          subst hlv
          have HEE : Hid (cutL L left = (d, l2)) := Lib.hid (by rw [hE]; simp [cutL])
          obtain ⟨⟨o0, o1, o2, o3, o4, o5⟩, f0, f1, f2, f3, f4, f5⟩ := Bx.both HS.out.bo
          obtain ⟨⟨p0, p1, p2, p3, p4, p5⟩, e0, e1, e2, e3, e4, e5⟩ := Bx.both HS.out.br
          have hob := HS.out.ob
          have hne1 : ¬ o = w.heap.size + 1 := by omega
          have hne2 : ¬ w.heap.size + 1 = o := by omega
          clear hE HE
          go_wp2_with fail
          subst hd
          refine ret_six (p := 4) (g := w.heap.size + 1) rfl rfl (CS.fin HS.out HEE.out hr).1 rfl (CS.fin HS.out HEE.out hr).2

    · have HC : Hid (CS w R w3.heap.size kk nn uu s (.slice KA Kn Kc) (.slice A m c) (.slice XA Xn Xc) ks [] [] (.slice none 0 0) left ((((((w4.setCell ⟨w3.heap.size, 0, none⟩ (.int .i64 kk)).setCell ⟨w3.heap.size, 1, none⟩ (.int .i64 nn)).setCell ⟨w3.heap.size, 2, none⟩ (.int .u64 uu)).setCell ⟨w3.heap.size, 3, none⟩ (.string (shortS s))).setCell ⟨w3.heap.size, 4, none⟩ (.slice XA Xn Xc)).setCell ⟨w3.heap.size, 5, none⟩ (.slice none 0 0))) := Lib.hid (CS.start2 HT4.out HO6.out hRl HL3.out HO4.out (by simp))
      obtain ⟨o, ho⟩ : ∃ o, w3.heap.size = o := ⟨_, rfl⟩
      rw [ho] at HC
      simp only [ho]
      rw [ho] at p0 p1 p2 p3 p4 p5
      clear ho HO4 HB4 HT4 HT3 HB3 HL3 HO6 p0 p1 p2 p3 p4 p5 z0 z1 z2 z3 z4 z5
      obtain ⟨W9, hW9⟩ : ∃ W9, ((((((w4.setCell ⟨o, 0, none⟩ (.int .i64 kk)).setCell ⟨o, 1, none⟩ (.int .i64 nn)).setCell ⟨o, 2, none⟩ (.int .u64 uu)).setCell ⟨o, 3, none⟩ (.string (shortS s))).setCell ⟨o, 4, none⟩ (.slice XA Xn Xc)).setCell ⟨o, 5, none⟩ (.slice none 0 0)) = W9 := ⟨_, rfl⟩
      rw [hW9]
      rw [hW9] at HC
      clear hW9
      clear hcells hset HT0 HT0d HT0ad HSZ0 HL0 HL1 HSH HTX x0 x1 x2 x3 x4 x5 y0 y1
      go_wp2_with fail
      go_loopw [6, 7] (fun lv i wr => ∃ (j l2 : Nat) (d : List T) (ys : List Value), j ≤ m ∧ j + l2 ≤ 200 ∧ i = .int .i64 (j : Int) ∧ d.length = j ∧ Hid (CS w R o kk nn uu s (.slice KA Kn Kc) (.slice A m c) (.slice XA Xn Xc) ks d ys lv l2 wr) ∧ Hid (cutL L left = (d ++ (cutL (L.drop j) l2).1, (cutL (L.drop j) l2).2))) (fun lv i wr => m - (intOf i).toNat)
      case atStart => exact ⟨0, left, [], [], Nat.zero_le _, by omega, rfl, rfl, HC, Lib.hid (by simp)⟩
      case round =>
        obtain ⟨j, l2, d, ys, hj, hj2, rfl, hd, HS, HE⟩ := hrel
        obtain ⟨_, _, _, _, _, b5⟩ := HS.out.bt.all
        have q0 : _ = some (Value.int .i64 (l2 : Int)) := (HS.out.rm.cell 0).trans rfl
        have g0 := HS.out.rm.frozen 0
        by_cases hjm : j < m
        · by_cases hl0 : l2 = 0
          · obtain rfl : l2 = 0 := hl0
            have hE := HE.out
            rw [cutL_zero] at hE
            obtain ⟨GA, Gc, hlv⟩ := (Ow.of HS.out.row).shape
            subst hlv
            have HEE : Hid (cutL L left = (d, 0)) := Lib.hid (by rw [hE]; simp)
            obtain ⟨⟨o0, o1, o2, o3, o4, o5⟩, f0, f1, f2, f3, f4, f5⟩ := Bx.both HS.out.bo
            obtain ⟨⟨p0, p1, p2, p3, p4, p5⟩, e0, e1, e2, e3, e4, e5⟩ := Bx.both HS.out.br
            have hob := HS.out.ob
            have hne1 : ¬ o = w.heap.size + 1 := by omega
            have hne2 : ¬ w.heap.size + 1 = o := by omega
            clear hE HE
            go_wp2_with fail
            subst hd
            refine ret_six (p := 4) (g := w.heap.size + 1) rfl rfl (CS.fin HS.out HEE.out hr).1 rfl (CS.fin HS.out HEE.out hr).2
          · obtain ⟨l3, rfl⟩ : ∃ l3, l2 = l3 + 1 := ⟨l2 - 1, by omega⟩
            obtain ⟨bb, off, rfl, hbb, hN⟩ := hL (by omega)
            obtain ⟨t0, ht0⟩ : ∃ t, L[j]? = some t := ⟨_, List.getElem?_eq_getElem (by omega)⟩
            obtain ⟨v0, v1, v2, v3, v4, v5, hS, hn0⟩ := hN.six' (Below.refl _ _) hbb ht0
            obtain ⟨a0, a1, a2, a3, a4, a5⟩ := hS.below (hbw.trans (HS.out.ex.below hbw.size hR)) hbb
            have hdl := dp_le_of ht0
            have HS1 := Lib.hid (HS.out.take (l2 := l3))
            have hb1 : Below w0.heap.size w0 (wr.setCell ⟨R, 0, none⟩ (.int .i64 (l3 : Int))) := (hbw.trans (HS.out.ex.below hbw.size hR)).setCell (p := ⟨R, 0, none⟩) hR _
            have ihj := Lib.hid (ih t0 _ (wr.setCell ⟨R, 0, none⟩ (.int .i64 (l3 : Int))) l3 (by omega) (by omega) hn0 hb1 HS1.out.rm)
            have hlt0 := cutT_le t0 l3
            have HE2 : Hid (cutL L left = (d ++ [(cutT t0 l3).1] ++ (cutL (L.drop (j + 1)) (cutT t0 l3).2).1, (cutL (L.drop (j + 1)) (cutT t0 l3).2).2)) := Lib.hid (by
              have := HE.out
              rw [cutL_drop ht0] at this
              rw [this]
              simp)
            obtain ⟨i0, hi, hz0, hz1, hz2⟩ := info_parts infoN
            have q0' : wr.cell? ⟨R, 0, none⟩ = some (.int .i64 ((l3 : Int) + 1)) := q0
            clear q0 hS hn0 ht0 HE hb1
            have hjs : j ≤ 200 := by omega
            go_wp2_with (first
              | (go_at_call 44; refine ihj.out.mono ?_; clear ihj; rintro e w5 ⟨⟨cs', rfl, hno⟩, hex, hrm⟩; have HN5 := Lib.hid hno; have HX5 := Lib.hid hex; have HS5 := Lib.hid (HS1.out.room hex hrm); obtain ⟨k8, i8, u8, s8, C1', m1', d1', C2', m2', d2', rfl⟩ := hno.shape6; clear hno hex hrm)
              | (at_builtin; refine wpList_append_own_at _ rfl _ _ 29 rfl (w.heap.size + 2) 31 i0 _ 6 88 Tryd.underlying29 hi hz0 hz1 hz2 rfl (by decide) _ d.length ys rfl (HS5.out.row.alloc _) ⟨w5.heap.size, 0, none⟩ 1 1 [.int .i64 k8, .int .i64 i8, .int .u64 u8, .string s8, .slice C1' m1' d1', .slice C2' m2' d2'] rfl rfl ?q1 ?q2 ?q3 ?q4 ?q5 ?_; rotate_left 5; intro v' w6 hown6 hgrow6 hnil6 hloc6))
            case roundEnd =>
              have hn0 : o < (wr.setCell ⟨R, 0, none⟩ (.int .i64 (l3 : Int))).heap.size := by rw [World.size_setCell]; exact Blk.lt HS.out.bo
              have hlv0 : ∀ g, u6.ownBlock = some g → g < (wr.setCell ⟨R, 0, none⟩ (.int .i64 (l3 : Int))).heap.size := fun g hg => by rw [World.size_setCell]; exact (HS.out.row.lt g hg).2
              have hn1 : w.heap.size + 2 ≤ (wr.setCell ⟨R, 0, none⟩ (.int .i64 (l3 : Int))).heap.size := by have := HS.out.ob; omega
              have HF := Lib.hid (CS.app HS5.out HN5.out hn1 hn0 hlv0 hown6 hgrow6 hloc6)
              refine ⟨⟨j + 1, (cutT t0 l3).2, d ++ [(cutT t0 l3).1], ys ++ _, by omega, by omega, by simp, by simp [hd], HF, HE2⟩, ?_⟩
              simp [intOf]
              omega
            case q1 => exact cells_new _ _ _
            case q2 => exact NdO.one HN5.out
            case q3 => unfold maxLen; omega
            case q4 => omega
            case q5 => have := HS5.out.ex.size; have := HS.out.ob; have := Blk.lt HS5.out.bo; rw [World.size_alloc]; omega
        · obtain rfl : j = m := by omega
          have hE := HE.out
          rw [← hl, List.drop_length] at hE
          obtain ⟨GA, Gc, hlv⟩ := (Ow.of HS.out.row).shape
          subst hlv
          have HEE : Hid (cutL L left = (d, l2)) := Lib.hid (by rw [hE]; simp [cutL])
          obtain ⟨⟨o0, o1, o2, o3, o4, o5⟩, f0, f1, f2, f3, f4, f5⟩ := Bx.both HS.out.bo
          obtain ⟨⟨p0, p1, p2, p3, p4, p5⟩, e0, e1, e2, e3, e4, e5⟩ := Bx.both HS.out.br
          have hob := HS.out.ob
          have hne1 : ¬ o = w.heap.size + 1 := by omega
          have hne2 : ¬ w.heap.size + 1 = o := by omega
          clear hE HE
          go_wp2_with fail
          subst hd
          refine ret_six (p := 4) (g := w.heap.size + 1) rfl rfl (CS.fin HS.out HEE.out hr).1 rfl (CS.fin HS.out HEE.out hr).2

    · have HC : Hid (CS w R (w.heap.size + 1 + 1) kk nn uu s (.slice KA Kn Kc) (.slice A m c) (.slice XA Xn Xc) ks [] [] (.slice none 0 0) left ((((((w4.setCell ⟨w.heap.size + 1 + 1, 0, none⟩ (.int .i64 kk)).setCell ⟨w.heap.size + 1 + 1, 1, none⟩ (.int .i64 nn)).setCell ⟨w.heap.size + 1 + 1, 2, none⟩ (.int .u64 uu)).setCell ⟨w.heap.size + 1 + 1, 3, none⟩ (.string (shortS s))).setCell ⟨w.heap.size + 1 + 1, 4, none⟩ (.slice XA Xn Xc)).setCell ⟨w.heap.size + 1 + 1, 5, none⟩ (.slice none 0 0))) := Lib.hid (CS.start2 HT4.out HO5.out hRl HL1.out HO4.out HO3.out.lt)
      obtain ⟨o, ho⟩ : ∃ o, w.heap.size + 1 + 1 = o := ⟨_, rfl⟩
      rw [ho] at HC
      simp only [ho]
      clear ho HO4 HB4 HT4 HT3 HB3 HL3 HO5 HO3 p0 p1 p2 p3 p4 p5 z0 z1 z2 z3 z4 z5
      obtain ⟨W9, hW9⟩ : ∃ W9, ((((((w4.setCell ⟨o, 0, none⟩ (.int .i64 kk)).setCell ⟨o, 1, none⟩ (.int .i64 nn)).setCell ⟨o, 2, none⟩ (.int .u64 uu)).setCell ⟨o, 3, none⟩ (.string (shortS s))).setCell ⟨o, 4, none⟩ (.slice XA Xn Xc)).setCell ⟨o, 5, none⟩ (.slice none 0 0)) = W9 := ⟨_, rfl⟩
      rw [hW9]
      rw [hW9] at HC
      clear hW9
      clear hcells hset HT0 HT0d HT0ad HSZ0 HL0 HL1 HSH HTX x0 x1 x2 x3 x4 x5 y0 y1
      go_wp2_with fail
      go_loopw [6, 7] (fun lv i wr => ∃ (j l2 : Nat) (d : List T) (ys : List Value), j ≤ m ∧ j + l2 ≤ 200 ∧ i = .int .i64 (j : Int) ∧ d.length = j ∧ Hid (CS w R o kk nn uu s (.slice KA Kn Kc) (.slice A m c) (.slice XA Xn Xc) ks d ys lv l2 wr) ∧ Hid (cutL L left = (d ++ (cutL (L.drop j) l2).1, (cutL (L.drop j) l2).2))) (fun lv i wr => m - (intOf i).toNat)
      case atStart => exact ⟨0, left, [], [], Nat.zero_le _, by omega, rfl, rfl, HC, Lib.hid (by simp)⟩
      case round =>
        obtain ⟨j, l2, d, ys, hj, hj2, rfl, hd, HS, HE⟩ := hrel
        obtain ⟨_, _, _, _, _, b5⟩ := HS.out.bt.all
        have q0 : _ = some (Value.int .i64 (l2 : Int)) := (HS.out.rm.cell 0).trans rfl
        have g0 := HS.out.rm.frozen 0
        by_cases hjm : j < m
        · by_cases hl0 : l2 = 0
          · obtain rfl : l2 = 0 := hl0
            have hE := HE.out
            rw [cutL_zero] at hE
            obtain ⟨GA, Gc, hlv⟩ := (Ow.of HS.out.row).shape
            subst hlv
            have HEE : Hid (cutL L left = (d, 0)) := Lib.hid (by rw [hE]; simp)
            obtain ⟨⟨o0, o1, o2, o3, o4, o5⟩, f0, f1, f2, f3, f4, f5⟩ := Bx.both HS.out.bo
            obtain ⟨⟨p0, p1, p2, p3, p4, p5⟩, e0, e1, e2, e3, e4, e5⟩ := Bx.both HS.out.br
            have hob := HS.out.ob
            have hne1 : ¬ o = w.heap.size + 1 := by omega
            have hne2 : ¬ w.heap.size + 1 = o := by omega
            clear hE HE
            go_wp2_with fail
            subst hd
            refine ret_six (p := 4) (g := w.heap.size + 1) rfl rfl (CS.fin HS.out HEE.out hr).1 rfl (CS.fin HS.out HEE.out hr).2
          · obtain ⟨l3, rfl⟩ : ∃ l3, l2 = l3 + 1 := ⟨l2 - 1, by omega⟩
            obtain ⟨bb, off, rfl, hbb, hN⟩ := hL (by omega)
            obtain ⟨t0, ht0⟩ : ∃ t, L[j]? = some t := ⟨_, List.getElem?_eq_getElem (by omega)⟩
            obtain ⟨v0, v1, v2, v3, v4, v5, hS, hn0⟩ := hN.six' (Below.refl _ _) hbb ht0
            obtain ⟨a0, a1, a2, a3, a4, a5⟩ := hS.below (hbw.trans (HS.out.ex.below hbw.size hR)) hbb
            have hdl := dp_le_of ht0
            have HS1 := Lib.hid (HS.out.take (l2 := l3))
            have hb1 : Below w0.heap.size w0 (wr.setCell ⟨R, 0, none⟩ (.int .i64 (l3 : Int))) := (hbw.trans (HS.out.ex.below hbw.size hR)).setCell (p := ⟨R, 0, none⟩) hR _
            have ihj := Lib.hid (ih t0 _ (wr.setCell ⟨R, 0, none⟩ (.int .i64 (l3 : Int))) l3 (by omega) (by omega) hn0 hb1 HS1.out.rm)
            have hlt0 := cutT_le t0 l3
            have HE2 : Hid (cutL L left = (d ++ [(cutT t0 l3).1] ++ (cutL (L.drop (j + 1)) (cutT t0 l3).2).1, (cutL (L.drop (j + 1)) (cutT t0 l3).2).2)) := Lib.hid (by
              have := HE.out
              rw [cutL_drop ht0] at this
              rw [this]
              simp)
            obtain ⟨i0, hi, hz0, hz1, hz2⟩ := info_parts infoN
            have q0' : wr.cell? ⟨R, 0, none⟩ = some (.int .i64 ((l3 : Int) + 1)) := q0
            clear q0 hS hn0 ht0 HE hb1
            have hjs : j ≤ 200 := by omega
            go_wp2_with (first
              | (go_at_call 44; refine ihj.out.mono ?_; clear ihj; rintro e w5 ⟨⟨cs', rfl, hno⟩, hex, hrm⟩; have HN5 := Lib.hid hno; have HX5 := Lib.hid hex; have HS5 := Lib.hid (HS1.out.room hex hrm); obtain ⟨k8, i8, u8, s8, C1', m1', d1', C2', m2', d2', rfl⟩ := hno.shape6; clear hno hex hrm)
              | (at_builtin; refine wpList_append_own_at _ rfl _ _ 29 rfl (w.heap.size + 2) 31 i0 _ 6 88 Tryd.underlying29 hi hz0 hz1 hz2 rfl (by decide) _ d.length ys rfl (HS5.out.row.alloc _) ⟨w5.heap.size, 0, none⟩ 1 1 [.int .i64 k8, .int .i64 i8, .int .u64 u8, .string s8, .slice C1' m1' d1', .slice C2' m2' d2'] rfl rfl ?q1 ?q2 ?q3 ?q4 ?q5 ?_; rotate_left 5; intro v' w6 hown6 hgrow6 hnil6 hloc6))
            case roundEnd =>
              have hn0 : o < (wr.setCell ⟨R, 0, none⟩ (.int .i64 (l3 : Int))).heap.size := by rw [World.size_setCell]; exact Blk.lt HS.out.bo
              have hlv0 : ∀ g, u6.ownBlock = some g → g < (wr.setCell ⟨R, 0, none⟩ (.int .i64 (l3 : Int))).heap.size := fun g hg => by rw [World.size_setCell]; exact (HS.out.row.lt g hg).2
              have hn1 : w.heap.size + 2 ≤ (wr.setCell ⟨R, 0, none⟩ (.int .i64 (l3 : Int))).heap.size := by have := HS.out.ob; omega
              have HF := Lib.hid (CS.app HS5.out HN5.out hn1 hn0 hlv0 hown6 hgrow6 hloc6)
              refine ⟨⟨j + 1, (cutT t0 l3).2, d ++ [(cutT t0 l3).1], ys ++ _, by omega, by omega, by simp, by simp [hd], HF, HE2⟩, ?_⟩
              simp [intOf]
              omega
            case q1 => exact cells_new _ _ _
            case q2 => exact NdO.one HN5.out
            case q3 => unfold maxLen; omega
            case q4 => omega
            case q5 => have := HS5.out.ex.size; have := HS.out.ob; have := Blk.lt HS5.out.bo; rw [World.size_alloc]; omega
        · obtain rfl : j = m := by omega
          have hE := HE.out
          rw [← hl, List.drop_length] at hE
          obtain ⟨GA, Gc, hlv⟩ := (Ow.of HS.out.row).shape
          subst hlv
          have HEE : Hid (cutL L left = (d, l2)) := Lib.hid (by rw [hE]; simp [cutL])
          obtain ⟨⟨o0, o1, o2, o3, o4, o5⟩, f0, f1, f2, f3, f4, f5⟩ := Bx.both HS.out.bo
          obtain ⟨⟨p0, p1, p2, p3, p4, p5⟩, e0, e1, e2, e3, e4, e5⟩ := Bx.both HS.out.br
          have hob := HS.out.ob
          have hne1 : ¬ o = w.heap.size + 1 := by omega
          have hne2 : ¬ w.heap.size + 1 = o := by omega
          clear hE HE
          go_wp2_with fail
          subst hd
          refine ret_six (p := 4) (g := w.heap.size + 1) rfl rfl (CS.fin HS.out HEE.out hr).1 rfl (CS.fin HS.out HEE.out hr).2

end Go.Proofs.YtnplkamkeadlgaaDoor
