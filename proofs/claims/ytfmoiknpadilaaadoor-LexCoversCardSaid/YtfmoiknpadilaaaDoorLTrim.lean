/-
  What is proved here: strings.Trim at a cutset of ASCII bytes (the shelf's contract at this program), and accordionlaw10.blank at white space; no condition.
-/
import Derived.Test.YtfmoiknpadilaaaDoorLCovP
import Derived.Test.YtfmoiknpadilaaaDoorLRead2
import Derived.Shelf.Strings.SlTrimAscii
namespace Go.Proofs.YtfmoiknpadilaaaDoor
open Go.RowKit Ut Lx Go.Maps Go.Lib

def Tryd.lays160_ren : Go.Shelf.Ren := ⟨fun | 119 => 86 | 120 => 84 | 137 => 75 | 151 => 65 | 152 => 68 | 160 => 29 | 197 => 64 | 217 => 92 | 224 => 87 | 225 => 88 | 227 => 44 | 228 => 63 | 231 => 42 | 232 => 43 | 233 => 45 | 234 => 46 | 235 => 47 | 236 => 48 | 260 => 83 | 266 => 98 | 271 => 66 | n => n, fun | 0 => 0 | 3 => 3 | 4 => 4 | 5 => 5 | 9 => 9 | 21 => 21 | 46 => 105 | 105 => 101 | 116 => 80 | 117 => 81 | 119 => 124 | 124 => 84 | 138 => 126 | 139 => 127 | n => n, fun | 3 => 2 | 4 => 3 | n => n⟩
theorem Tryd.lays160 : Go.Proofs.Lays.n160 Tryd.prog Tryd.lays160_ren := {
  mixed := by kernel_rfl
  f119 := Tryd.func86.trans (congrArg some (by kernel_rfl))
  f120 := Tryd.func84.trans (congrArg some (by kernel_rfl))
  f137 := Tryd.func75.trans (congrArg some (by kernel_rfl))
  f151 := Tryd.func65.trans (congrArg some (by kernel_rfl))
  f152 := Tryd.func68.trans (congrArg some (by kernel_rfl))
  f160 := Tryd.func29.trans (congrArg some (by kernel_rfl))
  f197 := Tryd.func64.trans (congrArg some (by kernel_rfl))
  f217 := Tryd.func92.trans (congrArg some (by kernel_rfl))
  f224 := Tryd.func87.trans (congrArg some (by kernel_rfl))
  f225 := Tryd.func88.trans (congrArg some (by kernel_rfl))
  f227 := Tryd.func44.trans (congrArg some (by kernel_rfl))
  f228 := Tryd.func63.trans (congrArg some (by kernel_rfl))
  f231 := Tryd.func42.trans (congrArg some (by kernel_rfl))
  f232 := Tryd.func43.trans (congrArg some (by kernel_rfl))
  f233 := Tryd.func45.trans (congrArg some (by kernel_rfl))
  f234 := Tryd.func46.trans (congrArg some (by kernel_rfl))
  f235 := Tryd.func47.trans (congrArg some (by kernel_rfl))
  f236 := Tryd.func48.trans (congrArg some (by kernel_rfl))
  f260 := Tryd.func83.trans (congrArg some (by kernel_rfl))
  f266 := Tryd.func98.trans (congrArg some (by kernel_rfl))
  f271 := Tryd.func66.trans (congrArg some (by kernel_rfl))
  t0 := Tryd.underlying0
  a0 := Tryd.isAgg0
  z0 := Tryd.sizeOf0
  v0 := Tryd.zeroValue0
  t3 := Tryd.underlying3
  a3 := Tryd.isAgg3
  z3 := Tryd.sizeOf3
  v3 := Tryd.zeroValue3
  t4 := Tryd.underlying4
  a4 := Tryd.isAgg4
  z4 := Tryd.sizeOf4
  v4 := Tryd.zeroValue4
  t5 := Tryd.underlying5
  a5 := Tryd.isAgg5
  z5 := Tryd.sizeOf5
  v5 := Tryd.zeroValue5
  t9 := Tryd.underlying9
  a9 := Tryd.isAgg9
  z9 := Tryd.sizeOf9
  v9 := Tryd.zeroValue9
  t21 := Tryd.underlying21
  a21 := Tryd.isAgg21
  z21 := Tryd.sizeOf21
  v21 := Tryd.zeroValue21
  t46 := Tryd.underlying105
  a46 := Tryd.isAgg105
  z46 := Tryd.sizeOf105
  v46 := Tryd.zeroValue105
  t105 := Tryd.underlying101
  a105 := Tryd.isAgg101
  z105 := Tryd.sizeOf101
  v105 := Tryd.zeroValue101
  t116 := Tryd.underlying80
  a116 := Tryd.isAgg80
  z116 := Tryd.sizeOf80
  t117 := Tryd.underlying81
  a117 := Tryd.isAgg81
  z117 := Tryd.sizeOf81
  v117 := Tryd.zeroValue81
  t119 := Tryd.underlying124
  a119 := Tryd.isAgg124
  z119 := Tryd.sizeOf124
  t124 := Tryd.underlying84
  a124 := Tryd.isAgg84
  z124 := Tryd.sizeOf84
  v124 := Tryd.zeroValue84
  t138 := Tryd.underlying126
  a138 := Tryd.isAgg126
  z138 := Tryd.sizeOf126
  v138 := Tryd.zeroValue126
  t139 := Tryd.underlying127
  a139 := Tryd.isAgg127
  z139 := Tryd.sizeOf127
  v139 := Tryd.zeroValue127
  g3 := by kernel_rfl
  g4 := by kernel_rfl }
theorem trim_white (l : List UInt8) (h : ws l) : Lib.trimS l wsL = [] := by
  have hd : ∀ x : List UInt8, ws x → x.dropWhile (wsL.contains ·) = [] := by
    intro x
    induction x with
    | nil => intro _; rfl
    | cons c r ih =>
      intro hx
      have hc : wsL.contains c = true := hx c (List.mem_cons_self ..)
      rw [List.dropWhile_cons, if_pos hc]
      exact ih (fun y hy => hx y (List.mem_cons_of_mem _ hy))
  unfold Lib.trimS Lib.trimRightS Lib.trimLeftS
  rw [hd l.reverse (fun c hc => h c (List.mem_reverse.1 hc))]
  rfl
set_option maxRecDepth 100000 in
theorem blank_any (s : ByteArray) (w : World) (hs : s.size ≤ 9223372036854775807) (h : ws s.data.toList) :
    Calls Tryd.prog 16 #[.string s] w fun e w' => e = .returned (.bool true) ∧ Below w.heap.size w w' := by
  have H := Lib.hid (fun W => Any.strings_Trim_ascii Tryd.lays160 Tryd.zeroValue80 (by kernel_rfl) s ⟨#[32, 9, 10, 13]⟩ W hs (by decide) (fun j b hb => (by decide : ∀ b ∈ ([32, 9, 10, 13] : List UInt8), b.toNat < 128) b (List.mem_of_getElem? hb)))
  have HT := Lib.hid (show Lib.trimS s.data.toList (⟨#[32, 9, 10, 13]⟩ : ByteArray).data.toList = [] from trim_white _ h)
  clear h
  go_enter Tryd.func16, Tryd.ntmps16
  go_wp2_with (go_at_call 29; refine (H.out _).mono ?_; rw [HT.out]; rintro e w' ⟨rfl, hb⟩)
  go_ret
  exact ⟨rfl, by assumption⟩
end Go.Proofs.YtfmoiknpadilaaaDoor
