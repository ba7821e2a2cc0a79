/- Proved: from a finite number that is no nought, half the way to the number above it comes out, rounded, at one of the two. -/
import Derived.Test.YtmdnahbopjkjhaaRound
import Derived.Test.YtmdnahbopjkjhaaNext
namespace Go.Proofs.Ytmdnahbopjkjhaa
open Fl

/-- The rung of so many doublings of the unit; the rung of half of it. -/
def pw (k : Nat) : Nat := if k ≤ 52 then 2 ^ k else (k - 51) * 4503599627370496
def ph : Nat → Nat
  | 0 => 0
  | k + 1 => pw k

theorem half_all : (List.range 2047).all (fun k => decide (floatBits .quo .f64 (pw k) 4611686018427387904 = some (ph k))) = true := by decide +kernel
theorem half_at (k : Nat) (h : k < 2047) : floatBits .quo .f64 (pw k) 4611686018427387904 = some (ph k) := by
  have := List.all_eq_true.1 half_all k (List.mem_range.2 h)
  simpa using this

theorem pw_lt (k : Nat) (h : k < 2047) : pw k < 9218868437227405312 := by
  unfold pw
  split
  · rename_i hk
    have : 2 ^ k ≤ 2 ^ 52 := Nat.pow_le_pow_right (by decide) hk
    omega
  · omega
theorem mag_pw (k : Nat) : mag (pw k) = 2 ^ k := by
  unfold pw
  by_cases h : k ≤ 52
  · rw [if_pos h]
    by_cases h2 : k = 52
    · subst h2; decide
    · have : 2 ^ k ≤ 2 ^ 51 := Nat.pow_le_pow_right (by decide) (by omega)
      unfold mag; rw [if_pos (by omega)]
  · rw [if_neg h]
    unfold mag
    rw [if_neg (by omega), Nat.mul_mod_left, Nat.mul_div_cancel _ (by decide), Nat.add_zero, show (4503599627370496 : Nat) = 2 ^ 52 from by decide, ← Nat.pow_add, show 52 + (k - 51 - 1) = k from by omega]
theorem rr_pw (k : Nat) (h : k < 2047) : rr (2 ^ k) = pw k := by
  rw [← mag_pw k]; exact rr_mag _ (Nat.le_of_lt (pw_lt k h))

theorem word_false (x : Nat) : Ieee.double.word false x = x := rfl
theorem word_true (x : Nat) : Ieee.double.word true x = 9223372036854775808 + x := by
  show (if true = true then Ieee.double.signWeight + x else x) = _
  rw [if_pos rfl, show Ieee.double.signWeight = 9223372036854775808 from by decide]

theorem sm_pos (b : Nat) (h : b < 9223372036854775808) : sm b = (mag b : Int) := by
  unfold sm; rw [if_pos h, Nat.mod_eq_of_lt h]
theorem sm_neg (b : Nat) (h : 9223372036854775808 ≤ b) (h' : b < 18446744073709551616) : sm b = -(mag (b - 9223372036854775808) : Int) := by
  unfold sm; rw [if_neg (by omega), show b % 9223372036854775808 = b - 9223372036854775808 from by omega]

theorem mid_pos (c : Nat) (h0 : 0 < c) (h1 : c + 1 < 9218868437227405312) :
    ∃ d h m, floatBits .sub .f64 (c + 1) c = some d ∧ floatBits .quo .f64 d 4611686018427387904 = some h ∧ floatBits .add .f64 c h = some m ∧ (m = c ∨ m = c + 1) := by
  obtain ⟨k, hk⟩ : ∃ k, k = c / 4503599627370496 - 1 := ⟨_, rfl⟩
  have hk2 : k < 2047 := by omega
  have hs := mag_succ c
  rw [← hk] at hs
  have hp : 0 < 2 ^ k := Nat.two_pow_pos k
  have hsub : floatBits .sub .f64 (c + 1) c = some (pw k) := by
    show Ieee.double.sub (c + 1) c = _
    rw [sub_fin (c + 1) c (by omega) (by omega) (by omega) (by omega), sm_pos (c + 1) (by omega), sm_pos c (by omega)]
    have e : ((mag (c + 1) : Int) - (mag c : Int)) = ((2 ^ k : Nat) : Int) := by rw [hs]; omega
    rw [e, if_neg (by omega), decide_eq_false (by omega), Int.natAbs_natCast, rr_pw k hk2, word_false]
  refine ⟨pw k, ph k, ?_⟩
  cases k with
  | zero =>
    refine ⟨c, hsub, half_at 0 hk2, ?_, Or.inl rfl⟩
    show Ieee.double.add c 0 = _
    have z : sm 0 = 0 := by decide
    have p := mag_lt h0
    rw [mag_zero] at p
    rw [add_fin c 0 (by omega) (by omega) (by omega) (by omega), z, sm_pos c (by omega), Int.add_zero, if_neg (by omega), decide_eq_false (by omega), Int.natAbs_natCast, rr_mag c (by omega), word_false]
  | succ j =>
    have hh := pw_lt j (by omega)
    have hp2 : 0 < 2 ^ j := Nat.two_pow_pos j
    have hadd : floatBits .add .f64 c (pw j) = some (rr (mag c + 2 ^ j)) := by
      show Ieee.double.add c (pw j) = _
      rw [add_fin c (pw j) (by omega) (by omega) (by omega) (by omega), sm_pos c (by omega), sm_pos (pw j) (by omega), mag_pw]
      have e : ((mag c : Int) + ((2 ^ j : Nat) : Int)) = ((mag c + 2 ^ j : Nat) : Int) := by omega
      rw [e, if_neg (by omega), decide_eq_false (by omega), Int.natAbs_natCast, word_false]
    exact ⟨_, hsub, half_at (j + 1) hk2, hadd, rr_mid c j (by omega) hk.symm⟩

theorem mid_neg (c : Nat) (h0 : 9223372036854775808 < c) (h1 : c < 18442240474082181120) :
    ∃ d h m, floatBits .sub .f64 (c - 1) c = some d ∧ floatBits .quo .f64 d 4611686018427387904 = some h ∧ floatBits .add .f64 c h = some m ∧ (m = c ∨ m = c - 1) := by
  obtain ⟨r, hr⟩ : ∃ r, c = 9223372036854775808 + (r + 1) := ⟨c - 9223372036854775809, by omega⟩
  have hc1 : c - 1 = 9223372036854775808 + r := by omega
  obtain ⟨k, hk⟩ : ∃ k, k = r / 4503599627370496 - 1 := ⟨_, rfl⟩
  have hk2 : k < 2047 := by omega
  have hs := mag_succ r
  rw [← hk] at hs
  have hp : 0 < 2 ^ k := Nat.two_pow_pos k
  have a1 : sm c = -(mag (r + 1) : Int) := by rw [sm_neg c (by omega) (by omega), show c - 9223372036854775808 = r + 1 from by omega]
  have a2 : sm (c - 1) = -(mag r : Int) := by rw [sm_neg (c - 1) (by omega) (by omega), show c - 1 - 9223372036854775808 = r from by omega]
  have hsub : floatBits .sub .f64 (c - 1) c = some (pw k) := by
    show Ieee.double.sub (c - 1) c = _
    rw [sub_fin (c - 1) c (by omega) (by omega) (by omega) (by omega), a1, a2]
    have e : (-(mag r : Int) - -(mag (r + 1) : Int)) = ((2 ^ k : Nat) : Int) := by rw [hs]; omega
    rw [e, if_neg (by omega), decide_eq_false (by omega), Int.natAbs_natCast, rr_pw k hk2, word_false]
  refine ⟨pw k, ph k, ?_⟩
  cases k with
  | zero =>
    refine ⟨c, hsub, half_at 0 hk2, ?_, Or.inl rfl⟩
    show Ieee.double.add c 0 = _
    have z : sm 0 = 0 := by decide
    have p := mag_lt (show 0 < r + 1 by omega)
    rw [mag_zero] at p
    rw [add_fin c 0 (by omega) (by omega) (by omega) (by omega), z, a1, Int.add_zero, if_neg (by omega), decide_eq_true (by omega), Int.natAbs_neg, Int.natAbs_natCast, rr_mag (r + 1) (by omega), word_true, hr]
  | succ j =>
    have hh := pw_lt j (by omega)
    have hp2 : 0 < 2 ^ j := Nat.two_pow_pos j
    have hadd : floatBits .add .f64 c (pw j) = some (9223372036854775808 + rr (mag r + 2 ^ j)) := by
      show Ieee.double.add c (pw j) = _
      rw [add_fin c (pw j) (by omega) (by omega) (by omega) (by omega), a1, sm_pos (pw j) (by omega), mag_pw]
      have e : (-(mag (r + 1) : Int) + ((2 ^ j : Nat) : Int)) = -((mag r + 2 ^ j : Nat) : Int) := by rw [hs, Nat.pow_succ]; omega
      rw [e, if_neg (by omega), decide_eq_true (by omega), Int.natAbs_neg, Int.natAbs_natCast, word_true]
    refine ⟨_, hsub, half_at (j + 1) hk2, hadd, ?_⟩
    rcases rr_mid r j (by omega) hk.symm with e | e
    · right; rw [e, hc1]
    · left; rw [e, hr]

theorem mid_top : floatBits .sub .f64 9218868437227405312 9218868437227405311 = some 9218868437227405312 ∧ floatBits .quo .f64 9218868437227405312 4611686018427387904 = some 9218868437227405312 ∧ floatBits .add .f64 9218868437227405311 9218868437227405312 = some 9218868437227405312 := by
  decide +kernel

theorem near_mid (c : Nat) (hc : c < 18446744073709551616) (hn : isN c = false) (hz : c % 9223372036854775808 ≠ 0) (hf : c % 9223372036854775808 < 9218868437227405312) :
    ∃ d h m, floatBits .sub .f64 (nx c) c = some d ∧ floatBits .quo .f64 d 4611686018427387904 = some h ∧ floatBits .add .f64 c h = some m ∧ (m = c ∨ m = nx c) := by
  rw [nx_of c hn, if_neg (by omega), if_neg hz]
  by_cases hs : 9223372036854775808 ≤ c
  · rw [if_pos hs]; exact mid_neg c (by omega) (by omega)
  · rw [if_neg hs]
    by_cases ht : c = 9218868437227405311
    · subst ht
      exact ⟨_, _, _, mid_top.1, mid_top.2.1, mid_top.2.2, Or.inr rfl⟩
    · exact mid_pos c (by omega) (by omega)

end Go.Proofs.Ytmdnahbopjkjhaa
