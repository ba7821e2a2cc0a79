/- Proved: what the masks of fbits leave of a word below 2^64. -/
import Derived.Laws.BitsAllLaws
import Derived.Laws.Bits64b
namespace Go.Proofs.Ytefpaagbopmmlaa
open Go

theorem and_sign (c : Nat) (h : c < 18446744073709551616) : bits .and .u64 (c : Int) 9223372036854775808 = ((c / 9223372036854775808 * 9223372036854775808 : Nat) : Int) := by
  rw [u64_and _ _ (by omega) (by omega) (by omega) (by omega)]
  simp only [Int.toNat_natCast, Int.reduceToNat, nat_hi64_63]
  congr 2; omega
theorem and_sign_lo (c : Nat) (h : c < 9223372036854775808) : bits .and .u64 (c : Int) 9223372036854775808 = 0 := by
  rw [and_sign c (by omega)]; omega
theorem and_sign_hi (c : Nat) (h : c < 18446744073709551616) (h' : 9223372036854775808 ≤ c) : bits .and .u64 (c : Int) 9223372036854775808 = 9223372036854775808 := by
  rw [and_sign c h]; omega
theorem andNot_sign (c : Nat) (h : c < 18446744073709551616) : bits .andNot .u64 (c : Int) 9223372036854775808 = ((c % 9223372036854775808 : Nat) : Int) := by
  rw [u64_andNot _ _ (by omega) (by omega) (by omega) (by omega)]
  simp only [Int.toNat_natCast, Int.reduceToNat, Nat.reduceSub, nat_mask63]
theorem and_exp (c : Nat) (h : c < 18446744073709551616) : bits .and .u64 (c : Int) 9218868437227405312 = ((c % 9223372036854775808 / 4503599627370496 * 4503599627370496 : Nat) : Int) := by
  rw [u64_and _ _ (by omega) (by omega) (by omega) (by omega)]
  simp only [Int.toNat_natCast, Int.reduceToNat]
  have h1 := nat_midmask 63 52 c (by decide)
  have h2 : c &&& 9218868437227405312 = c % 9223372036854775808 / 4503599627370496 * 4503599627370496 := by simpa using h1
  rw [h2]
theorem and_frac (c : Nat) (h : c < 18446744073709551616) : bits .and .u64 (c : Int) 4503599627370495 = ((c % 4503599627370496 : Nat) : Int) := by
  rw [u64_and _ _ (by omega) (by omega) (by omega) (by omega)]
  simp only [Int.toNat_natCast, Int.reduceToNat, nat_mask52]
theorem not64 (c : Nat) (h : c < 18446744073709551616) : bits .xor .u64 18446744073709551615 (c : Int) = ((18446744073709551615 - c : Nat) : Int) := by
  have h1 : (BitVec.ofInt 64 (c : Int)).toNat = c := by
    rw [BitVec.ofInt_natCast, BitVec.toNat_ofNat]; exact Nat.mod_eq_of_lt (by omega)
  have h2 : BitVec.ofInt 64 18446744073709551615 = BitVec.allOnes 64 := by decide
  show IntKind.u64.wrap ((BitVec.ofInt 64 18446744073709551615 ^^^ BitVec.ofInt 64 (c : Int)).toNat : Int) = _
  rw [h2, BitVec.allOnes_xor, BitVec.toNat_not, h1, IntKind.wrap_u64]
  have : 2 ^ 64 - 1 - c = 18446744073709551615 - c := by omega
  rw [this]
  omega
theorem xor_or_lo (c : Nat) (h : c < 9223372036854775808) : c ^^^ 9223372036854775808 = 9223372036854775808 + c := by
  have h1 := Nat.two_pow_add_eq_or_of_lt (i := 63) (b := c) (by omega) 1
  have e : 9223372036854775808 + c = 2 ^ 63 ||| c := by simpa using h1
  have e2 : (9223372036854775808 : Nat) = 2 ^ 63 := by decide
  rw [e, e2]
  apply Nat.eq_of_testBit_eq
  intro i
  rw [Nat.testBit_xor, Nat.testBit_or, Nat.testBit_two_pow]
  by_cases hi : 63 = i
  · subst hi
    rw [Nat.testBit_lt_two_pow (by omega)]; rfl
  · simp [hi]
theorem xor_or_hi (c : Nat) (h : 9223372036854775808 ≤ c) (h' : c < 18446744073709551616) : c ^^^ 9223372036854775808 = c - 9223372036854775808 := by
  have h1 := xor_or_lo (c - 9223372036854775808) (by omega)
  have h2 : 9223372036854775808 + (c - 9223372036854775808) = c := by omega
  rw [h2] at h1
  have h3 : c ^^^ 9223372036854775808 = ((c - 9223372036854775808) ^^^ 9223372036854775808) ^^^ 9223372036854775808 := by rw [h1]
  rw [h3, Nat.xor_assoc, Nat.xor_self, Nat.xor_zero]
theorem xor_sign_lo (c : Nat) (h : c < 9223372036854775808) : bits .xor .u64 (c : Int) 9223372036854775808 = ((c + 9223372036854775808 : Nat) : Int) := by
  rw [u64_xor _ _ (by omega) (by omega) (by omega) (by omega)]
  simp only [Int.toNat_natCast, Int.reduceToNat]
  rw [xor_or_lo c h]; omega
theorem xor_sign_hi (c : Nat) (h : 9223372036854775808 ≤ c) (h' : c < 18446744073709551616) : bits .xor .u64 (c : Int) 9223372036854775808 = ((c - 9223372036854775808 : Nat) : Int) := by
  rw [u64_xor _ _ (by omega) (by omega) (by omega) (by omega)]
  simp only [Int.toNat_natCast, Int.reduceToNat]
  rw [xor_or_hi c h h']
theorem or_sign_lo (c : Nat) (h : c < 9223372036854775808) : bits .or .u64 (c : Int) 9223372036854775808 = ((c + 9223372036854775808 : Nat) : Int) := by
  rw [u64_or _ _ (by omega) (by omega) (by omega) (by omega)]
  simp only [Int.toNat_natCast, Int.reduceToNat]
  have := Nat.two_pow_add_eq_or_of_lt (i := 63) (b := c) (by omega) 1
  have e : 9223372036854775808 ||| c = 9223372036854775808 + c := by simpa using this.symm
  rw [Nat.or_comm, e]
  omega

end Go.Proofs.Ytefpaagbopmmlaa
