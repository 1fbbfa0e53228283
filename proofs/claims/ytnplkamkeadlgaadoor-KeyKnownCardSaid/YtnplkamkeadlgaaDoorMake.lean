/-
  What is proved here: contracts of the law's own num, vec, key, table, nest, and of Bring; condition: nest at most 1000.
-/
import Derived.Test.YtnplkamkeadlgaaDoorCheck
namespace Go.Proofs.YtnplkamkeadlgaaDoor
open Go.RowKit

theorem num_any (n : Int) (w : World) : Calls Tryd.prog 12 #[.int .i64 n] w fun e w' => e = .returned (.agg #[.int .i64 3, .int .i64 n, .int .u64 0, .string ⟨#[]⟩, .slice none 0 0, .slice none 0 0]) ∧ Below w.heap.size w w' := by
  go_enter Tryd.func12, Tryd.ntmps12
  go_wp2
  exact ret_six (p := 2) (g := w.heap.size) rfl rfl (Blk.new _ _ _) rfl ⟨rfl, (Below.refl _ w).alloc (Nat.le_refl _) _⟩
theorem table_any (B : Option Addr) (k d : Nat) (A : Option Addr) (m c : Nat) (w : World) : Calls Tryd.prog 10 #[.slice B k d, .slice A m c] w fun e w' => e = .returned (.agg #[.int .i64 17, .int .i64 0, .int .u64 0, .string ⟨#[]⟩, .slice B k d, .slice A m c]) ∧ Below w.heap.size w w' := by
  go_enter Tryd.func10, Tryd.ntmps10
  go_wp2
  exact ret_six (p := 4) (g := w.heap.size) rfl rfl (Blk.new _ _ _) rfl ⟨rfl, (Below.refl _ w).alloc (Nat.le_refl _) _⟩

def vecT (l : List T) : T := .mk 10 0 0 ⟨#[]⟩ [] l
def numT (n : Int) : T := .mk 3 n 0 ⟨#[]⟩ [] []
def keyT (s : ByteArray) : T := .mk 5 0 0 s [] []
def tabT (ks : List ByteArray) (l : List T) : T := .mk 17 0 0 ⟨#[]⟩ ks l
/-- n + 1 nested vectors. -/
def nestT : Nat → T
  | 0 => vecT []
  | n + 1 => vecT [nestT n]

theorem NdX.ndl {w : World} {g : Nat} : ∀ {l : List T} {xs : List Value} {off : Nat}, NdX w l xs → (∀ j, j < xs.length → w.cell? ⟨g, off + j, none⟩ = xs[j]?) → NdL w g l off
  | [], _, _, _, _ => trivial
  | t :: ts, xs, off, h, hc => by
    obtain ⟨cs, ys, rfl, h1, h2⟩ := h
    have hl := h1.len
    refine ⟨⟨cs, fun i hi => ?_, h1⟩, NdX.ndl h2 fun j hj => ?_⟩
    · rw [hc i (by simp; omega), List.getElem?_append_left (by omega)]
    · rw [show off + 6 + j = off + (6 + j) by omega, hc (6 + j) (by simp; omega), List.getElem?_append_right (by omega), hl, Nat.add_sub_cancel_left]
theorem ndl_blk {w : World} {g : Nat} {l : List T} {xs : List Value} (hB : Blk w g 31 xs.toArray) (h : NdX w l xs) : NdL w g l 0 :=
  h.ndl fun j _ => by rw [Nat.zero_add, Blk.cell hB]; simp
theorem rds_nil (w : World) : RdS w (.slice none 0 0) [] := ⟨none, 0, 0, rfl, rfl, Nat.le_refl _, Nat.zero_le _, fun s h => by simp at h, fun h => absurd h (by omega)⟩
theorem rng0 (k n : Int) (h1 : -9223372036854775808 ≤ k) (h2 : k ≤ 9223372036854775807) (h3 : -9223372036854775808 ≤ n) (h4 : n ≤ 9223372036854775807) : Rng k n 0 := ⟨h1, h2, h3, h4, by decide, by decide⟩
theorem nd_leaf (w : World) (k n u : Int) (s : ByteArray) (hr : Rng k n u) (hs : s.size ≤ maxLen) : Nd w (.mk k n u s [] []) [.int .i64 k, .int .i64 n, .int .u64 u, .string s, .slice none 0 0, .slice none 0 0] :=
  ⟨hr, hs, _, none, 0, 0, rfl, rds_nil w, rfl, Nat.le_refl _, Nat.zero_le _, fun h => absurd h (by omega)⟩
theorem nd_row {w : World} {k n u : Int} {s : ByteArray} {kv : Value} {ks : List ByteArray} {l : List T} {g m c : Nat} (hr : Rng k n u) (hs : s.size ≤ maxLen) (hk : RdS w kv ks) (hl : l.length = m) (hm : m ≤ c) (hc : c ≤ maxLen) (hg : g < w.heap.size) (h : NdL w g l 0) :
    Nd w (.mk k n u s ks l) [.int .i64 k, .int .i64 n, .int .u64 u, .string s, kv, .slice (some ⟨g, 0, none⟩) m c] :=
  ⟨hr, hs, kv, _, m, c, rfl, hk, hl, hm, hc, fun _ => ⟨g, 0, rfl, hg, h⟩⟩
theorem rng10 : Rng 10 0 0 := ⟨by decide, by decide, by decide, by decide, by decide, by decide⟩

theorem Bx.both {w : World} {g : Nat} {v0 v1 v2 v3 v4 v5 : Value} (h : Bx w g v0 v1 v2 v3 v4 v5) : (w.cell? ⟨g, 0, none⟩ = some v0 ∧ w.cell? ⟨g, 1, none⟩ = some v1 ∧ w.cell? ⟨g, 2, none⟩ = some v2 ∧ w.cell? ⟨g, 3, none⟩ = some v3 ∧
    w.cell? ⟨g, 4, none⟩ = some v4 ∧ w.cell? ⟨g, 5, none⟩ = some v5) ∧ w.frozen? ⟨g, 0, none⟩ = false ∧ w.frozen? ⟨g, 1, none⟩ = false ∧ w.frozen? ⟨g, 2, none⟩ = false ∧ w.frozen? ⟨g, 3, none⟩ = false ∧ w.frozen? ⟨g, 4, none⟩ = false ∧ w.frozen? ⟨g, 5, none⟩ = false :=
  ⟨h.all, Blk.frozen h 0, Blk.frozen h 1, Blk.frozen h 2, Blk.frozen h 3, Blk.frozen h 4, Blk.frozen h 5⟩
theorem ndo_vec {U : Nat → Prop} {w : World} {l : List T} {lv : Value} {xs : List Value} (h : Ow U w 31 6 lv l.length xs) (hL : NdOL U w l xs) : NdO U w (vecT l) [.int .i64 10, .int .i64 0, .int .u64 0, .string ⟨#[]⟩, .slice none 0 0, lv] :=
  ⟨rng10, Nat.zero_le _, fun x hx => by simp at hx, _, lv, xs, rfl, ⟨⟨rfl, .inl ⟨rfl, rfl⟩⟩, fun g hg => by cases hg⟩, h, hL⟩
/-- Between two rounds of nest: two boxes and what the second holds. -/
def NS (w : World) (B : Nat) (k : Nat) (A : Option Addr) (m c : Nat) (wr : World) : Prop :=
  Below w.heap.size w wr ∧ w.heap.size < B ∧ Bx wr w.heap.size (.int .i64 0) (.int .i64 0) (.int .u64 0) (.string ⟨#[]⟩) (.slice none 0 0) (.slice none 0 0) ∧ Bx wr B (.int .i64 10) (.int .i64 0) (.int .u64 0) (.string ⟨#[]⟩) (.slice none 0 0) (.slice A m c) ∧ NdO (fun b => B < b) wr (nestT k) [.int .i64 10, .int .i64 0, .int .u64 0, .string ⟨#[]⟩, .slice none 0 0, .slice A m c]
theorem NS.next {w wr w2 : World} {B k : Nat} {A : Option Addr} {m c : Nat} (h : NS w B k A m c wr) (hb : Below (wr.alloc (.cells #[.int .i64 10, .int .i64 0, .int .u64 0, .string ⟨#[]⟩, .slice none 0 0, .slice A m c] 31)).heap.size (wr.alloc (.cells #[.int .i64 10, .int .i64 0, .int .u64 0, .string ⟨#[]⟩, .slice none 0 0, .slice A m c] 31)) w2) :
    NS w B (k + 1) (some ⟨wr.heap.size, 0, none⟩) 1 1 (put6 w2 B 0 (.int .i64 10) (.int .i64 0) (.int .u64 0) (.string ⟨#[]⟩) (.slice none 0 0) (.slice (some ⟨wr.heap.size, 0, none⟩) 1 1)) := by
  obtain ⟨h1, h2, h3, h4, h5⟩ := h
  have hBl := Blk.lt h4
  have hs2 : wr.heap.size + 1 ≤ w2.heap.size := by have := hb.size; simpa using this
  have hbw : Below wr.heap.size wr w2 := ((Below.refl _ wr).alloc (Nat.le_refl _) _).trans (hb.mono (by simp))
  have hne : ∀ b, B < b → (put6 w2 B 0 (.int .i64 10) (.int .i64 0) (.int .u64 0) (.string ⟨#[]⟩) (.slice none 0 0) (.slice (some ⟨wr.heap.size, 0, none⟩) 1 1)).heap[b]? = w2.heap[b]? := fun b hb' => put6_other w2 B 0 b _ _ _ _ _ _ (by omega)
  refine ⟨put6_below (h1.trans (hbw.mono h1.size)) B 0 _ _ _ _ _ _ (by omega), h2, put6_blk (Blk.below h3 hbw (Blk.lt h3)) (by omega) _ _ _ _ _ _, Bx.put6 (Blk.below h4 hbw hBl) _ _ _ _ _ _, ?_⟩
  refine ndo_vec (xs := [.int .i64 10, .int .i64 0, .int .u64 0, .string ⟨#[]⟩, .slice none 0 0, .slice A m c]) ?_ ⟨_, [], (List.append_nil _).symm, NdO.step (fun b hb' hlt => ⟨(hne b hb').trans (hbw.block b hlt), hb'⟩) _ _ h5, rfl⟩
  have hl := World.ownsRow_lit (base := 0) (e := 31) (size := 6) wr #[.int .i64 10, .int .i64 0, .int .u64 0, .string ⟨#[]⟩, .slice none 0 0, .slice A m c] 1 (Nat.zero_le _) (by decide) rfl
  have hO : Ow (fun b => B < b) (wr.alloc (.cells #[.int .i64 10, .int .i64 0, .int .u64 0, .string ⟨#[]⟩, .slice none 0 0, .slice A m c] 31)) 31 6 (.slice (some ⟨wr.heap.size, 0, none⟩) 1 1) 1 [.int .i64 10, .int .i64 0, .int .u64 0, .string ⟨#[]⟩, .slice none 0 0, .slice A m c] := ⟨hl, fun g hg => by
    obtain rfl : wr.heap.size = g := by simpa [Value.ownBlock] using hg
    exact hBl⟩
  exact hO.step fun b hb' hlt => ⟨(hne b hb').trans (hb.block b hlt), hb'⟩

end Go.Proofs.YtnplkamkeadlgaaDoor
