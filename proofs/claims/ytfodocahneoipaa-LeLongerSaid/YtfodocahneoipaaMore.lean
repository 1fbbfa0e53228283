/-
  What is proved here: more plain facts about little-endian encodings: encoding what was decoded gives the bytes, as unsigned and as signed numbers; conditions: the width is 1, 2, 4 or 8.
-/
import Derived.Test.YtfodocahneoipaaLaw
namespace Go.Proofs.Ytfodocahneoipaa.Le
theorem u64_sgn {x d : Int} (hw : isW x = true) (h0 : 0 ≤ d) (h1 : d < pw x) : (u64 (sgn x d)).toNat % 256 ^ x.toNat = d.toNat := by
  rcases isW_iff.1 hw with rfl | rfl | rfl | rfl
  · rw [pw1] at h1
    rw [show (256 : Nat) ^ (1 : Int).toNat = 256 from rfl, u64]
    by_cases h : d < 128
    · rw [sgn_lo (by rw [pw1]; omega)]; omega
    · rw [sgn_hi (by rw [pw1]; omega), pw1]; omega
  · rw [pw2] at h1
    rw [show (256 : Nat) ^ (2 : Int).toNat = 65536 from rfl, u64]
    by_cases h : d < 32768
    · rw [sgn_lo (by rw [pw2]; omega)]; omega
    · rw [sgn_hi (by rw [pw2]; omega), pw2]; omega
  · rw [pw4] at h1
    rw [show (256 : Nat) ^ (4 : Int).toNat = 4294967296 from rfl, u64]
    by_cases h : d < 2147483648
    · rw [sgn_lo (by rw [pw4]; omega)]; omega
    · rw [sgn_hi (by rw [pw4]; omega), pw4]; omega
  · rw [pw8] at h1
    rw [show (256 : Nat) ^ (8 : Int).toNat = 18446744073709551616 from by decide, u64]
    by_cases h : d < 9223372036854775808
    · rw [sgn_lo (by rw [pw8]; omega)]; omega
    · rw [sgn_hi (by rw [pw8]; omega), pw8]; omega
theorem fitsI_sgn {x d : Int} (hw : isW x = true) (h0 : 0 ≤ d) (h1 : d < pw x) : fitsI (sgn x d) x = true := by
  rw [fitsI_iff]
  rcases isW_iff.1 hw with rfl | rfl | rfl | rfl
  · rw [pw1] at h1 ⊢
    by_cases h : d < 128
    · rw [sgn_lo (by rw [pw1]; omega)]; omega
    · rw [sgn_hi (by rw [pw1]; omega), pw1]; omega
  · rw [pw2] at h1 ⊢
    by_cases h : d < 32768
    · rw [sgn_lo (by rw [pw2]; omega)]; omega
    · rw [sgn_hi (by rw [pw2]; omega), pw2]; omega
  · rw [pw4] at h1 ⊢
    by_cases h : d < 2147483648
    · rw [sgn_lo (by rw [pw4]; omega)]; omega
    · rw [sgn_hi (by rw [pw4]; omega), pw4]; omega
  · rw [pw8] at h1 ⊢
    by_cases h : d < 9223372036854775808
    · rw [sgn_lo (by rw [pw8]; omega)]; omega
    · rw [sgn_hi (by rw [pw8]; omega), pw8]; omega

/-- Encoding what was decoded gives the bytes. -/
theorem put_dec {x : Int} {ys : List UInt8} (hw : isW x = true) (hl : ys.length = x.toNat) : putE x ((dec ys : Nat) : Int) = 0 ∧ putL [] x ((dec ys : Nat) : Int) = ys := by
  have hlt : ((dec ys : Nat) : Int) < pw x := by
    rw [pw_eq hw]
    have := dec_lt ys
    rw [hl] at this
    exact Int.ofNat_lt.2 this
  have e : putE x ((dec ys : Nat) : Int) = 0 := by rw [putE, if_pos hw, if_pos (fitsU_iff.2 hlt)]
  refine ⟨e, ?_⟩
  rw [putL, if_pos e, List.nil_append, Int.toNat_natCast, ← hl, enc_dec]
theorem putI_dec {x : Int} {ys : List UInt8} (hw : isW x = true) (hl : ys.length = x.toNat) : putIE x (sgn x ((dec ys : Nat) : Int)) = 0 ∧ putIL [] x (sgn x ((dec ys : Nat) : Int)) = ys := by
  have hlt : ((dec ys : Nat) : Int) < pw x := by
    rw [pw_eq hw]
    have := dec_lt ys
    rw [hl] at this
    exact Int.ofNat_lt.2 this
  have e : putIE x (sgn x ((dec ys : Nat) : Int)) = 0 := by rw [putIE, if_pos hw, if_pos (fitsI_sgn hw (by omega) hlt)]
  refine ⟨e, ?_⟩
  rw [putIL, if_pos e, List.nil_append, ← enc_mod, u64_sgn hw (by omega) hlt, Int.toNat_natCast, ← hl, enc_dec]
end Go.Proofs.Ytfodocahneoipaa.Le

namespace Go.Proofs.Ytfodocahneoipaa
open Go.RowKit Le
theorem Rds.rd {w : World} {A : Option Addr} {n c : Nat} {xs : List UInt8} (h : Rds w A n c xs) : Rd w (.slice A n c) xs := ⟨_, _, _, rfl, h⟩
/-- CopyBytes of a slice that is not empty, with the shape of the result. -/
theorem copyBytes_ne (v : Value) (xs : List UInt8) (n : Nat) (w : World) (h : Rd w v xs) (hl : xs.length = n) (hn : n ≤ 60000) (h0 : 0 < n) :
    Calls Try.prog 10 #[v] w fun e w' => ∃ b c, e = .returned (.slice (some ⟨b, 0, none⟩) n c) ∧ Rds w' (some ⟨b, 0, none⟩) n c xs ∧ Below w.heap.size w w' := by
  refine (copyBytes_any v xs w h (by omega)).mono ?_
  rintro e w' ⟨v', rfl, ho, hb⟩
  rcases ho.2 with ⟨_, h1⟩ | ⟨g, cap, cur, rfl, _⟩
  · omega
  · obtain ⟨A, n', c', he, hr⟩ := Rd.of_own ho
    injection he with h1 h2 h3
    subst h1; subst h2; subst h3
    subst hl
    exact ⟨g, cap, rfl, hr, hb⟩
end Go.Proofs.Ytfodocahneoipaa
