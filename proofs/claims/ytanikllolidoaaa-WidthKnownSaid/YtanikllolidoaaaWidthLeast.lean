/-
  What is proved here: accordionlaw03.WidthLeast returns true for all integers, and leaves its arguments as they were; no condition.
-/
import Derived.Test.YtanikllolidoaaaLaw
namespace Go.Proofs.Ytanikllolidoaaa
open Go.ChangeShapes Go.WideShapes Go.ChangeAt Go.RowKit Wd

theorem wrap_u64 (n : Int) : IntKind.u64.wrap n = n % 18446744073709551616 := by simp [IntKind.wrap, IntKind.bits, IntKind.signed]

set_option maxHeartbeats 4000000 in
theorem widthLeast_walk (u : Int) (w : World) (h0 : 0 ≤ u) (h1 : u ≤ 18446744073709551615) : Calls Try.prog 5 #[.int .u64 u] w fun e w' => e = .returned (.bool true) ∧ Below w.heap.size w w' := by
  have HB := Lib.hid (Below.refl w.heap.size w)
  have H0 := Lib.hid h0
  obtain ⟨n, hn⟩ : ∃ n, wrap64 u = n := ⟨_, rfl⟩
  have n0 : -9223372036854775808 ≤ n ∧ n ≤ 9223372036854775807 := by rw [← hn]; unfold wrap64; omega
  have hU := of_any u
  have hI := ofInt_any n
  rcases mU_cases u with ⟨u1, e1⟩ | ⟨u0, u1, e1⟩ | ⟨u0, u1, e1⟩ | ⟨u0, e1⟩
  · have s1 : IntKind.u64.wrap (u * 72057594037927936) / 72057594037927936 = u := by rw [wrap_u64]; omega
    rw [e1] at hU
    have HU := Lib.hid hU
    clear hU e1 u1 h0 h1
    rcases mI_cases n with ⟨m1, g1⟩ | ⟨m0, m1, g1⟩ | ⟨m0, m1, g1⟩ | ⟨m0, g1⟩
    · have t1 : wrap64 (n * 72057594037927936) / 72057594037927936 = n := by unfold wrap64; omega
      rw [g1] at hI
      have HI := Lib.hid hI
      clear hI g1 m1 n0
      go_enter Try.func5, Try.ntmps5
      go_wp2_with fail
      refine (works_true _).mono ?_
      rintro e w1 ⟨rfl, hb⟩
      replace HB := Lib.hid (HB.out.trans (hb.mono HB.out.size))
      clear hb
      go_wp2_with fail
      refine (HU.out _ H0.out).mono ?_
      rintro e w2 ⟨rfl, hb⟩
      replace HB := Lib.hid (HB.out.trans (hb.mono HB.out.size))
      clear hb
      go_wp2_with fail
      refine (HI.out _).mono ?_
      rintro e w3 ⟨rfl, hb⟩
      replace HB := Lib.hid (HB.out.trans (hb.mono HB.out.size))
      clear hb
      go_wp2_with fail
      refine (among_any _ _ rfl).mono ?_
      rintro e w' ⟨rfl, rfl⟩
      go_wp2_with fail
      refine (among_any _ _ rfl).mono ?_
      rintro e w' ⟨rfl, rfl⟩
      go_wp2_with fail
      go_ret
      exact ⟨rfl, HB.out⟩
    · have t1 : wrap64 (n * 281474976710656) / 281474976710656 = n := by unfold wrap64; omega
      have t2 : (wrap64 (n * 72057594037927936) / 72057594037927936 != n) = true := by unfold wrap64; simp; omega
      rw [g1] at hI
      have HI := Lib.hid hI
      clear hI g1 m0 m1 n0
      go_enter Try.func5, Try.ntmps5
      go_wp2_with fail
      refine (works_true _).mono ?_
      rintro e w1 ⟨rfl, hb⟩
      replace HB := Lib.hid (HB.out.trans (hb.mono HB.out.size))
      clear hb
      go_wp2_with fail
      refine (HU.out _ H0.out).mono ?_
      rintro e w2 ⟨rfl, hb⟩
      replace HB := Lib.hid (HB.out.trans (hb.mono HB.out.size))
      clear hb
      go_wp2_with fail
      refine (HI.out _).mono ?_
      rintro e w3 ⟨rfl, hb⟩
      replace HB := Lib.hid (HB.out.trans (hb.mono HB.out.size))
      clear hb
      go_wp2_with fail
      refine (among_any _ _ rfl).mono ?_
      rintro e w' ⟨rfl, rfl⟩
      go_wp2_with fail
      refine (among_any _ _ rfl).mono ?_
      rintro e w' ⟨rfl, rfl⟩
      go_wp2_with fail
      go_ret
      exact ⟨rfl, HB.out⟩
    · have t1 : wrap64 (n * 4294967296) / 4294967296 = n := by unfold wrap64; omega
      have t2 : (wrap64 (n * 281474976710656) / 281474976710656 != n) = true := by unfold wrap64; simp; omega
      rw [g1] at hI
      have HI := Lib.hid hI
      clear hI g1 m0 m1 n0
      go_enter Try.func5, Try.ntmps5
      go_wp2_with fail
      refine (works_true _).mono ?_
      rintro e w1 ⟨rfl, hb⟩
      replace HB := Lib.hid (HB.out.trans (hb.mono HB.out.size))
      clear hb
      go_wp2_with fail
      refine (HU.out _ H0.out).mono ?_
      rintro e w2 ⟨rfl, hb⟩
      replace HB := Lib.hid (HB.out.trans (hb.mono HB.out.size))
      clear hb
      go_wp2_with fail
      refine (HI.out _).mono ?_
      rintro e w3 ⟨rfl, hb⟩
      replace HB := Lib.hid (HB.out.trans (hb.mono HB.out.size))
      clear hb
      go_wp2_with fail
      refine (among_any _ _ rfl).mono ?_
      rintro e w' ⟨rfl, rfl⟩
      go_wp2_with fail
      refine (among_any _ _ rfl).mono ?_
      rintro e w' ⟨rfl, rfl⟩
      go_wp2_with fail
      go_ret
      exact ⟨rfl, HB.out⟩
    · have t1 : wrap64 n = n := by unfold wrap64; omega
      have t2 : (wrap64 (n * 4294967296) / 4294967296 != n) = true := by unfold wrap64; simp; omega
      rw [g1] at hI
      have HI := Lib.hid hI
      clear hI g1 m0 n0
      go_enter Try.func5, Try.ntmps5
      go_wp2_with fail
      refine (works_true _).mono ?_
      rintro e w1 ⟨rfl, hb⟩
      replace HB := Lib.hid (HB.out.trans (hb.mono HB.out.size))
      clear hb
      go_wp2_with fail
      refine (HU.out _ H0.out).mono ?_
      rintro e w2 ⟨rfl, hb⟩
      replace HB := Lib.hid (HB.out.trans (hb.mono HB.out.size))
      clear hb
      go_wp2_with fail
      refine (HI.out _).mono ?_
      rintro e w3 ⟨rfl, hb⟩
      replace HB := Lib.hid (HB.out.trans (hb.mono HB.out.size))
      clear hb
      go_wp2_with fail
      refine (among_any _ _ rfl).mono ?_
      rintro e w' ⟨rfl, rfl⟩
      go_wp2_with fail
      refine (among_any _ _ rfl).mono ?_
      rintro e w' ⟨rfl, rfl⟩
      go_wp2_with fail
      go_ret
      exact ⟨rfl, HB.out⟩
  · have s1 : IntKind.u64.wrap (u * 281474976710656) / 281474976710656 = u := by rw [wrap_u64]; omega
    have s2 : (IntKind.u64.wrap (u * 72057594037927936) / 72057594037927936 == u) = false := by rw [wrap_u64]; simp; omega
    rw [e1] at hU
    have HU := Lib.hid hU
    clear hU e1 u0 u1 h0 h1
    rcases mI_cases n with ⟨m1, g1⟩ | ⟨m0, m1, g1⟩ | ⟨m0, m1, g1⟩ | ⟨m0, g1⟩
    · have t1 : wrap64 (n * 72057594037927936) / 72057594037927936 = n := by unfold wrap64; omega
      rw [g1] at hI
      have HI := Lib.hid hI
      clear hI g1 m1 n0
      go_enter Try.func5, Try.ntmps5
      go_wp2_with fail
      refine (works_true _).mono ?_
      rintro e w1 ⟨rfl, hb⟩
      replace HB := Lib.hid (HB.out.trans (hb.mono HB.out.size))
      clear hb
      go_wp2_with fail
      refine (HU.out _ H0.out).mono ?_
      rintro e w2 ⟨rfl, hb⟩
      replace HB := Lib.hid (HB.out.trans (hb.mono HB.out.size))
      clear hb
      go_wp2_with fail
      refine (HI.out _).mono ?_
      rintro e w3 ⟨rfl, hb⟩
      replace HB := Lib.hid (HB.out.trans (hb.mono HB.out.size))
      clear hb
      go_wp2_with fail
      refine (among_any _ _ rfl).mono ?_
      rintro e w' ⟨rfl, rfl⟩
      go_wp2_with fail
      refine (among_any _ _ rfl).mono ?_
      rintro e w' ⟨rfl, rfl⟩
      go_wp2_with fail
      go_ret
      exact ⟨rfl, HB.out⟩
    · have t1 : wrap64 (n * 281474976710656) / 281474976710656 = n := by unfold wrap64; omega
      have t2 : (wrap64 (n * 72057594037927936) / 72057594037927936 != n) = true := by unfold wrap64; simp; omega
      rw [g1] at hI
      have HI := Lib.hid hI
      clear hI g1 m0 m1 n0
      go_enter Try.func5, Try.ntmps5
      go_wp2_with fail
      refine (works_true _).mono ?_
      rintro e w1 ⟨rfl, hb⟩
      replace HB := Lib.hid (HB.out.trans (hb.mono HB.out.size))
      clear hb
      go_wp2_with fail
      refine (HU.out _ H0.out).mono ?_
      rintro e w2 ⟨rfl, hb⟩
      replace HB := Lib.hid (HB.out.trans (hb.mono HB.out.size))
      clear hb
      go_wp2_with fail
      refine (HI.out _).mono ?_
      rintro e w3 ⟨rfl, hb⟩
      replace HB := Lib.hid (HB.out.trans (hb.mono HB.out.size))
      clear hb
      go_wp2_with fail
      refine (among_any _ _ rfl).mono ?_
      rintro e w' ⟨rfl, rfl⟩
      go_wp2_with fail
      refine (among_any _ _ rfl).mono ?_
      rintro e w' ⟨rfl, rfl⟩
      go_wp2_with fail
      go_ret
      exact ⟨rfl, HB.out⟩
    · have t1 : wrap64 (n * 4294967296) / 4294967296 = n := by unfold wrap64; omega
      have t2 : (wrap64 (n * 281474976710656) / 281474976710656 != n) = true := by unfold wrap64; simp; omega
      rw [g1] at hI
      have HI := Lib.hid hI
      clear hI g1 m0 m1 n0
      go_enter Try.func5, Try.ntmps5
      go_wp2_with fail
      refine (works_true _).mono ?_
      rintro e w1 ⟨rfl, hb⟩
      replace HB := Lib.hid (HB.out.trans (hb.mono HB.out.size))
      clear hb
      go_wp2_with fail
      refine (HU.out _ H0.out).mono ?_
      rintro e w2 ⟨rfl, hb⟩
      replace HB := Lib.hid (HB.out.trans (hb.mono HB.out.size))
      clear hb
      go_wp2_with fail
      refine (HI.out _).mono ?_
      rintro e w3 ⟨rfl, hb⟩
      replace HB := Lib.hid (HB.out.trans (hb.mono HB.out.size))
      clear hb
      go_wp2_with fail
      refine (among_any _ _ rfl).mono ?_
      rintro e w' ⟨rfl, rfl⟩
      go_wp2_with fail
      refine (among_any _ _ rfl).mono ?_
      rintro e w' ⟨rfl, rfl⟩
      go_wp2_with fail
      go_ret
      exact ⟨rfl, HB.out⟩
    · have t1 : wrap64 n = n := by unfold wrap64; omega
      have t2 : (wrap64 (n * 4294967296) / 4294967296 != n) = true := by unfold wrap64; simp; omega
      rw [g1] at hI
      have HI := Lib.hid hI
      clear hI g1 m0 n0
      go_enter Try.func5, Try.ntmps5
      go_wp2_with fail
      refine (works_true _).mono ?_
      rintro e w1 ⟨rfl, hb⟩
      replace HB := Lib.hid (HB.out.trans (hb.mono HB.out.size))
      clear hb
      go_wp2_with fail
      refine (HU.out _ H0.out).mono ?_
      rintro e w2 ⟨rfl, hb⟩
      replace HB := Lib.hid (HB.out.trans (hb.mono HB.out.size))
      clear hb
      go_wp2_with fail
      refine (HI.out _).mono ?_
      rintro e w3 ⟨rfl, hb⟩
      replace HB := Lib.hid (HB.out.trans (hb.mono HB.out.size))
      clear hb
      go_wp2_with fail
      refine (among_any _ _ rfl).mono ?_
      rintro e w' ⟨rfl, rfl⟩
      go_wp2_with fail
      refine (among_any _ _ rfl).mono ?_
      rintro e w' ⟨rfl, rfl⟩
      go_wp2_with fail
      go_ret
      exact ⟨rfl, HB.out⟩
  · have s1 : IntKind.u64.wrap (u * 4294967296) / 4294967296 = u := by rw [wrap_u64]; omega
    have s2 : (IntKind.u64.wrap (u * 281474976710656) / 281474976710656 == u) = false := by rw [wrap_u64]; simp; omega
    rw [e1] at hU
    have HU := Lib.hid hU
    clear hU e1 u0 u1 h0 h1
    rcases mI_cases n with ⟨m1, g1⟩ | ⟨m0, m1, g1⟩ | ⟨m0, m1, g1⟩ | ⟨m0, g1⟩
    · have t1 : wrap64 (n * 72057594037927936) / 72057594037927936 = n := by unfold wrap64; omega
      rw [g1] at hI
      have HI := Lib.hid hI
      clear hI g1 m1 n0
      go_enter Try.func5, Try.ntmps5
      go_wp2_with fail
      refine (works_true _).mono ?_
      rintro e w1 ⟨rfl, hb⟩
      replace HB := Lib.hid (HB.out.trans (hb.mono HB.out.size))
      clear hb
      go_wp2_with fail
      refine (HU.out _ H0.out).mono ?_
      rintro e w2 ⟨rfl, hb⟩
      replace HB := Lib.hid (HB.out.trans (hb.mono HB.out.size))
      clear hb
      go_wp2_with fail
      refine (HI.out _).mono ?_
      rintro e w3 ⟨rfl, hb⟩
      replace HB := Lib.hid (HB.out.trans (hb.mono HB.out.size))
      clear hb
      go_wp2_with fail
      refine (among_any _ _ rfl).mono ?_
      rintro e w' ⟨rfl, rfl⟩
      go_wp2_with fail
      refine (among_any _ _ rfl).mono ?_
      rintro e w' ⟨rfl, rfl⟩
      go_wp2_with fail
      go_ret
      exact ⟨rfl, HB.out⟩
    · have t1 : wrap64 (n * 281474976710656) / 281474976710656 = n := by unfold wrap64; omega
      have t2 : (wrap64 (n * 72057594037927936) / 72057594037927936 != n) = true := by unfold wrap64; simp; omega
      rw [g1] at hI
      have HI := Lib.hid hI
      clear hI g1 m0 m1 n0
      go_enter Try.func5, Try.ntmps5
      go_wp2_with fail
      refine (works_true _).mono ?_
      rintro e w1 ⟨rfl, hb⟩
      replace HB := Lib.hid (HB.out.trans (hb.mono HB.out.size))
      clear hb
      go_wp2_with fail
      refine (HU.out _ H0.out).mono ?_
      rintro e w2 ⟨rfl, hb⟩
      replace HB := Lib.hid (HB.out.trans (hb.mono HB.out.size))
      clear hb
      go_wp2_with fail
      refine (HI.out _).mono ?_
      rintro e w3 ⟨rfl, hb⟩
      replace HB := Lib.hid (HB.out.trans (hb.mono HB.out.size))
      clear hb
      go_wp2_with fail
      refine (among_any _ _ rfl).mono ?_
      rintro e w' ⟨rfl, rfl⟩
      go_wp2_with fail
      refine (among_any _ _ rfl).mono ?_
      rintro e w' ⟨rfl, rfl⟩
      go_wp2_with fail
      go_ret
      exact ⟨rfl, HB.out⟩
    · have t1 : wrap64 (n * 4294967296) / 4294967296 = n := by unfold wrap64; omega
      have t2 : (wrap64 (n * 281474976710656) / 281474976710656 != n) = true := by unfold wrap64; simp; omega
      rw [g1] at hI
      have HI := Lib.hid hI
      clear hI g1 m0 m1 n0
      go_enter Try.func5, Try.ntmps5
      go_wp2_with fail
      refine (works_true _).mono ?_
      rintro e w1 ⟨rfl, hb⟩
      replace HB := Lib.hid (HB.out.trans (hb.mono HB.out.size))
      clear hb
      go_wp2_with fail
      refine (HU.out _ H0.out).mono ?_
      rintro e w2 ⟨rfl, hb⟩
      replace HB := Lib.hid (HB.out.trans (hb.mono HB.out.size))
      clear hb
      go_wp2_with fail
      refine (HI.out _).mono ?_
      rintro e w3 ⟨rfl, hb⟩
      replace HB := Lib.hid (HB.out.trans (hb.mono HB.out.size))
      clear hb
      go_wp2_with fail
      refine (among_any _ _ rfl).mono ?_
      rintro e w' ⟨rfl, rfl⟩
      go_wp2_with fail
      refine (among_any _ _ rfl).mono ?_
      rintro e w' ⟨rfl, rfl⟩
      go_wp2_with fail
      go_ret
      exact ⟨rfl, HB.out⟩
    · have t1 : wrap64 n = n := by unfold wrap64; omega
      have t2 : (wrap64 (n * 4294967296) / 4294967296 != n) = true := by unfold wrap64; simp; omega
      rw [g1] at hI
      have HI := Lib.hid hI
      clear hI g1 m0 n0
      go_enter Try.func5, Try.ntmps5
      go_wp2_with fail
      refine (works_true _).mono ?_
      rintro e w1 ⟨rfl, hb⟩
      replace HB := Lib.hid (HB.out.trans (hb.mono HB.out.size))
      clear hb
      go_wp2_with fail
      refine (HU.out _ H0.out).mono ?_
      rintro e w2 ⟨rfl, hb⟩
      replace HB := Lib.hid (HB.out.trans (hb.mono HB.out.size))
      clear hb
      go_wp2_with fail
      refine (HI.out _).mono ?_
      rintro e w3 ⟨rfl, hb⟩
      replace HB := Lib.hid (HB.out.trans (hb.mono HB.out.size))
      clear hb
      go_wp2_with fail
      refine (among_any _ _ rfl).mono ?_
      rintro e w' ⟨rfl, rfl⟩
      go_wp2_with fail
      refine (among_any _ _ rfl).mono ?_
      rintro e w' ⟨rfl, rfl⟩
      go_wp2_with fail
      go_ret
      exact ⟨rfl, HB.out⟩
  · have s1 : IntKind.u64.wrap u = u := by rw [wrap_u64]; omega
    have s2 : (IntKind.u64.wrap (u * 4294967296) / 4294967296 == u) = false := by rw [wrap_u64]; simp; omega
    rw [e1] at hU
    have HU := Lib.hid hU
    clear hU e1 u0 h0 h1
    rcases mI_cases n with ⟨m1, g1⟩ | ⟨m0, m1, g1⟩ | ⟨m0, m1, g1⟩ | ⟨m0, g1⟩
    · have t1 : wrap64 (n * 72057594037927936) / 72057594037927936 = n := by unfold wrap64; omega
      rw [g1] at hI
      have HI := Lib.hid hI
      clear hI g1 m1 n0
      go_enter Try.func5, Try.ntmps5
      go_wp2_with fail
      refine (works_true _).mono ?_
      rintro e w1 ⟨rfl, hb⟩
      replace HB := Lib.hid (HB.out.trans (hb.mono HB.out.size))
      clear hb
      go_wp2_with fail
      refine (HU.out _ H0.out).mono ?_
      rintro e w2 ⟨rfl, hb⟩
      replace HB := Lib.hid (HB.out.trans (hb.mono HB.out.size))
      clear hb
      go_wp2_with fail
      refine (HI.out _).mono ?_
      rintro e w3 ⟨rfl, hb⟩
      replace HB := Lib.hid (HB.out.trans (hb.mono HB.out.size))
      clear hb
      go_wp2_with fail
      refine (among_any _ _ rfl).mono ?_
      rintro e w' ⟨rfl, rfl⟩
      go_wp2_with fail
      refine (among_any _ _ rfl).mono ?_
      rintro e w' ⟨rfl, rfl⟩
      go_wp2_with fail
      go_ret
      exact ⟨rfl, HB.out⟩
    · have t1 : wrap64 (n * 281474976710656) / 281474976710656 = n := by unfold wrap64; omega
      have t2 : (wrap64 (n * 72057594037927936) / 72057594037927936 != n) = true := by unfold wrap64; simp; omega
      rw [g1] at hI
      have HI := Lib.hid hI
      clear hI g1 m0 m1 n0
      go_enter Try.func5, Try.ntmps5
      go_wp2_with fail
      refine (works_true _).mono ?_
      rintro e w1 ⟨rfl, hb⟩
      replace HB := Lib.hid (HB.out.trans (hb.mono HB.out.size))
      clear hb
      go_wp2_with fail
      refine (HU.out _ H0.out).mono ?_
      rintro e w2 ⟨rfl, hb⟩
      replace HB := Lib.hid (HB.out.trans (hb.mono HB.out.size))
      clear hb
      go_wp2_with fail
      refine (HI.out _).mono ?_
      rintro e w3 ⟨rfl, hb⟩
      replace HB := Lib.hid (HB.out.trans (hb.mono HB.out.size))
      clear hb
      go_wp2_with fail
      refine (among_any _ _ rfl).mono ?_
      rintro e w' ⟨rfl, rfl⟩
      go_wp2_with fail
      refine (among_any _ _ rfl).mono ?_
      rintro e w' ⟨rfl, rfl⟩
      go_wp2_with fail
      go_ret
      exact ⟨rfl, HB.out⟩
    · have t1 : wrap64 (n * 4294967296) / 4294967296 = n := by unfold wrap64; omega
      have t2 : (wrap64 (n * 281474976710656) / 281474976710656 != n) = true := by unfold wrap64; simp; omega
      rw [g1] at hI
      have HI := Lib.hid hI
      clear hI g1 m0 m1 n0
      go_enter Try.func5, Try.ntmps5
      go_wp2_with fail
      refine (works_true _).mono ?_
      rintro e w1 ⟨rfl, hb⟩
      replace HB := Lib.hid (HB.out.trans (hb.mono HB.out.size))
      clear hb
      go_wp2_with fail
      refine (HU.out _ H0.out).mono ?_
      rintro e w2 ⟨rfl, hb⟩
      replace HB := Lib.hid (HB.out.trans (hb.mono HB.out.size))
      clear hb
      go_wp2_with fail
      refine (HI.out _).mono ?_
      rintro e w3 ⟨rfl, hb⟩
      replace HB := Lib.hid (HB.out.trans (hb.mono HB.out.size))
      clear hb
      go_wp2_with fail
      refine (among_any _ _ rfl).mono ?_
      rintro e w' ⟨rfl, rfl⟩
      go_wp2_with fail
      refine (among_any _ _ rfl).mono ?_
      rintro e w' ⟨rfl, rfl⟩
      go_wp2_with fail
      go_ret
      exact ⟨rfl, HB.out⟩
    · have t1 : wrap64 n = n := by unfold wrap64; omega
      have t2 : (wrap64 (n * 4294967296) / 4294967296 != n) = true := by unfold wrap64; simp; omega
      rw [g1] at hI
      have HI := Lib.hid hI
      clear hI g1 m0 n0
      go_enter Try.func5, Try.ntmps5
      go_wp2_with fail
      refine (works_true _).mono ?_
      rintro e w1 ⟨rfl, hb⟩
      replace HB := Lib.hid (HB.out.trans (hb.mono HB.out.size))
      clear hb
      go_wp2_with fail
      refine (HU.out _ H0.out).mono ?_
      rintro e w2 ⟨rfl, hb⟩
      replace HB := Lib.hid (HB.out.trans (hb.mono HB.out.size))
      clear hb
      go_wp2_with fail
      refine (HI.out _).mono ?_
      rintro e w3 ⟨rfl, hb⟩
      replace HB := Lib.hid (HB.out.trans (hb.mono HB.out.size))
      clear hb
      go_wp2_with fail
      refine (among_any _ _ rfl).mono ?_
      rintro e w' ⟨rfl, rfl⟩
      go_wp2_with fail
      refine (among_any _ _ rfl).mono ?_
      rintro e w' ⟨rfl, rfl⟩
      go_wp2_with fail
      go_ret
      exact ⟨rfl, HB.out⟩

set_option maxRecDepth 100000 in
theorem widthLeast_lifted (os : Os) (started : os.Started) (H : Type) (enc : TypeId × Value → H) :
    ReturnsInHanded {} Try.checked os 5 .any (Rows.widthLeastSpec.pre6 enc Try.prog Try.f5 Rows.widthLeastRow.domain false) (Rows.widthLeastSpec.post enc Try.prog Try.f5 false true false false) := by
  refine returnsInHanded_of_change (C := Try.checked) ownK started (by kernel_rfl) Try.func5
    (ChangeSpec.witness6 (enc := enc) (C := Try.checked) false ⟨#[], #[.int .u64 0], []⟩ 8 (by kernel_rfl) (by kernel_rfl) (by kernel_rfl) (by kernel_rfl)) ?_
  intro W base args ds gs before hval0 hW hcnd _
  have hval : ∀ (j : Nat) t v, Try.f5.params[j]? = some t → args[j]? = some v → Value.okWide Try.prog W .any base t v := hval0
  have hW' := hW
  obtain ⟨p, q, hA0, hV, rfl, hfz, hnd⟩ := hW
  have hA : DataW.TrodAll enc Try.prog W 0 (fun _ => true) true Try.f5.params.toList args.toList ds p := hA0
  rw [Try.params5] at hA hval
  obtain ⟨v0, vs0, d0, ds0, p0, q0, hargs, rfl, rfl, h0, r0⟩ := trodAll_cons hA
  obtain ⟨rfl, rfl, rfl⟩ := trodAll_nil r0
  obtain rfl : args = #[v0] := by cases args; simp_all
  obtain ⟨rfl, rfl⟩ := trodVars_none hV
  obtain ⟨a0, rfl, rfl, rfl, w0⟩ := open_int Try.underlying22 (hval 0 22 v0 rfl rfl) h0
  have b0 : 0 ≤ a0 ∧ a0 ≤ 18446744073709551615 := by simpa [Lit.wf, IntKind.min, IntKind.max, IntKind.signed, IntKind.bits] using w0
  refine (widthLeast_walk a0 W b0.1 b0.2).mono fun e W' ⟨he, hb⟩ => ?_
  subst he
  exact ⟨_, rfl, law_post (by rw [Try.params5]; decide +kernel) rfl rfl rfl rfl rfl hW' hb⟩

theorem widthLeast_over : Rows.widthLeastRow.holds Try.pinned (OpenSpec.ofChange Rows.widthLeastSpec) :=
  OpenClaim.holds_of_wide 5 Try.f5 rfl rfl rfl rfl rfl rfl rfl ⟨rfl, rfl, rfl, rfl, rfl⟩ rfl rfl rfl rfl rfl (by kernel_rfl) Try.func5 (by kernel_rfl)
    (of_decide_eq_true (by kernel_rfl)) (by unfold Func.isWrapper; first | (rw [if_pos (by decide +kernel)]; kernel_rfl) | (rw [if_neg (by decide +kernel)]; exact ⟨rfl, rfl⟩))
    (fun os started H enc _ => widthLeast_lifted os started H enc)

theorem widthLeast_holds : Rows.WidthLeastSaid := widthLeast_over
end Go.Proofs.Ytanikllolidoaaa
