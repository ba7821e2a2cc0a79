/- Proved: what RoundToEven, Trunc, Floor, float64 of an int and int of a double give, as words; the plain function of a double's int. -/
import Derived.Test.YtefpaagbopmmlaaRnd
namespace Go.Proofs.Ytefpaagbopmmlaa
namespace Fl

theorem word_eq (s : Bool) (t : Nat) : Ieee.double.word s t = if s then 9223372036854775808 + t else t := by
  unfold Ieee.Format.word
  have : Ieee.double.signWeight = 9223372036854775808 := by decide
  rw [this]

/-- A word's sign and rung again. -/
theorem word_parts (b : Nat) (hb : b < 18446744073709551616) : Ieee.double.word (decide (9223372036854775808 ≤ b)) (b % 9223372036854775808) = b := by
  rw [word_eq]
  by_cases h : 9223372036854775808 ≤ b
  · rw [decide_eq_true h, if_pos rfl]; omega
  · rw [decide_eq_false h, if_neg (by decide)]; omega

theorem dec_fin (b : Nat) (hb : b < 18446744073709551616) (hf : b % 9223372036854775808 < 9218868437227405312) :
    FloatKind.f64.decode b = .number (decide (9223372036854775808 ≤ b)) (sig (b % 9223372036854775808)) (-1074 + ((b % 9223372036854775808 / 4503599627370496 - 1 : Nat) : Int)) := by
  have := read_eq b hb
  rw [if_pos hf] at this
  exact this

theorem enc_even (b : Nat) (hb : b < 18446744073709551616) (hf : b % 9223372036854775808 < 9218868437227405312) :
    ∃ t, mag t = ie (mag (b % 9223372036854775808)) * U ∧ t < 9218868437227405312 ∧ FloatKind.f64.encode ((FloatKind.f64.decode b).integral .even) = Ieee.double.word (decide (9223372036854775808 ≤ b)) t := by
  obtain ⟨t, ht, hl⟩ := ie_mag _ hf
  refine ⟨t, ht, hl, ?_⟩
  rw [dec_fin b hb hf, even_units, ← mag_eq]
  show Ieee.double.write _ = _
  rw [write_whole, ← ht, rr_mag t (by omega)]

theorem enc_inf (b : Nat) (hb : b < 18446744073709551616) (hf : b % 9223372036854775808 = 9218868437227405312) (way : Ieee.Toward) : FloatKind.f64.encode ((FloatKind.f64.decode b).integral way) = b := by
  have := read_eq b hb
  rw [if_neg (by omega), if_pos hf] at this
  have h2 : FloatKind.f64.decode b = .infinity (decide (9223372036854775808 ≤ b)) := this
  rw [h2]
  show Ieee.double.word _ Ieee.double.infRung = b
  have e3 : Ieee.double.infRung = 9218868437227405312 := by decide
  rw [e3, ← hf]
  exact word_parts b hb

/-- A number of at most 2^53: its count of units, whole or not. -/
theorem small_units (r : Nat) (h : r ≤ 4845873199050653696) : mag r / U ≤ 9007199254740992 := by
  obtain ⟨t, ht, htl⟩ := whole_mag 9007199254740992 (Nat.le_refl _)
  have e : mag 4845873199050653696 = 9007199254740992 * U := by
    have := mag_le htl
    unfold mag U
    rw [if_neg (by decide)]
    rw [show (4503599627370496 + 4845873199050653696 % 4503599627370496 : Nat) = 2 ^ 52 by decide, show (4845873199050653696 / 4503599627370496 - 1 : Nat) = eU + 1 by rw [eU_eq], show (9007199254740992 : Nat) = 2 ^ 53 by decide, ← Nat.pow_add, ← Nat.pow_add, show 52 + (eU + 1) = 53 + eU by omega]
  have hm := mag_le h
  rw [e] at hm
  exact Nat.div_le_of_le_mul (by rw [Nat.mul_comm]; exact hm)

theorem whole_word (K : Nat) (h : K ≤ 9007199254740992) : ∃ t, mag t = K * U ∧ t ≤ 4845873199050653696 ∧ ∀ s, Ieee.double.write (.number s K 0) = Ieee.double.word s t := by
  obtain ⟨t, ht, htl⟩ := whole_mag K h
  exact ⟨t, ht, htl, fun s => by rw [write_whole, ← ht, rr_mag t (by omega)]⟩

theorem trunc_word (b : Nat) (hb : b < 18446744073709551616) (hr : b % 9223372036854775808 ≤ 4845873199050653696) :
    ∃ t, t ≤ 4845873199050653696 ∧ FloatKind.f64.encode ((FloatKind.f64.decode b).integral .zero) = Ieee.double.word (decide (9223372036854775808 ≤ b)) t ∧
      (mag (b % 9223372036854775808) % U = 0 → t = b % 9223372036854775808) ∧ (mag (b % 9223372036854775808) % U ≠ 0 → t < b % 9223372036854775808) := by
  obtain ⟨t, ht, htl, hw⟩ := whole_word _ (small_units _ hr)
  have hdm := Nat.div_add_mod (mag (b % 9223372036854775808)) U
  rw [Nat.mul_comm] at hdm
  refine ⟨t, htl, ?_, fun h => mag_inj (by rw [ht]; omega), fun h => ?_⟩
  · rw [dec_fin b hb (by omega), zero_units, ← mag_eq]
    exact hw _
  · rcases Nat.lt_or_ge t (b % 9223372036854775808) with k | k
    · exact k
    · have := mag_le k
      omega

theorem floor_word (b : Nat) (hb : b < 18446744073709551616) (hr : b % 9223372036854775808 ≤ 4845873199050653696) :
    ∃ t, t < 9218868437227405312 ∧ FloatKind.f64.encode ((FloatKind.f64.decode b).integral .down) = Ieee.double.word (decide (9223372036854775808 ≤ b)) t ∧
      (mag (b % 9223372036854775808) % U = 0 → t = b % 9223372036854775808) ∧ (mag (b % 9223372036854775808) % U ≠ 0 → t ≠ b % 9223372036854775808 ∧ (9223372036854775808 ≤ b → 0 < t)) := by
  have hdm := Nat.div_add_mod (mag (b % 9223372036854775808)) U
  have hlt := Nat.mod_lt (mag (b % 9223372036854775808)) U_pos
  have hsm := small_units _ hr
  have hK : mag (b % 9223372036854775808) / U + (decide (9223372036854775808 ≤ b) && mag (b % 9223372036854775808) % U != 0).toNat ≤ 9007199254740992 := by
    cases hc : (decide (9223372036854775808 ≤ b) && mag (b % 9223372036854775808) % U != 0) with
    | false => simpa using hsm
    | true =>
      have h0 : mag (b % 9223372036854775808) % U ≠ 0 := by simp at hc; exact hc.2
      obtain ⟨t0, ht0, htl0⟩ := whole_mag 9007199254740992 (Nat.le_refl _)
      have e : mag (b % 9223372036854775808) / U < 9007199254740992 := by
        rcases Nat.lt_or_ge (mag (b % 9223372036854775808) / U) 9007199254740992 with k | k
        · exact k
        · exfalso
          have e1 : mag (b % 9223372036854775808) / U = 9007199254740992 := by omega
          rw [e1, Nat.mul_comm] at hdm
          have h1 : mag t0 < mag (b % 9223372036854775808) := by omega
          have e2 : mag 4845873199050653696 = 9007199254740992 * U := by
            unfold mag U
            rw [if_neg (by decide)]
            rw [show (4503599627370496 + 4845873199050653696 % 4503599627370496 : Nat) = 2 ^ 52 by decide, show (4845873199050653696 / 4503599627370496 - 1 : Nat) = eU + 1 by rw [eU_eq], show (9007199254740992 : Nat) = 2 ^ 53 by decide, ← Nat.pow_add, ← Nat.pow_add, show 52 + (eU + 1) = 53 + eU by omega]
          have := mag_le hr
          omega
      rw [Bool.toNat_true]; omega
  obtain ⟨t, ht, htl, hw⟩ := whole_word _ hK
  refine ⟨t, by omega, ?_, fun h => mag_inj ?_, fun h => ⟨fun e => ?_, fun hs => ?_⟩⟩
  · rw [dec_fin b hb (by omega), down_units, ← mag_eq]
    exact hw _
  · rw [ht, h]
    simp only [bne_self_eq_false, Bool.and_false, Bool.toNat_false, Nat.add_zero]
    rw [Nat.mul_comm]; omega
  · rw [e] at ht
    have hm : mag (b % 9223372036854775808) % U = 0 := by rw [ht]; exact Nat.mul_mod_left _ _
    exact h hm
  · rcases Nat.eq_zero_or_pos t with k | k
    · exfalso
      rw [k, mag_zero] at ht
      have h1 := Nat.mul_eq_zero.1 ht.symm
      have hU := U_pos
      have hb1 : (decide (9223372036854775808 ≤ b) && mag (b % 9223372036854775808) % U != 0) = true := by simp [hs, h]
      rw [hb1, Bool.toNat_true] at h1
      rcases h1 with h1 | h1
      · exact absurd h1 (Nat.succ_ne_zero _)
      · rw [h1] at hU; exact absurd hU (Nat.lt_irrefl 0)
    · exact k

/-- A double as an int. -/
noncomputable def intV (b : Nat) : Option Int :=
  if 4845873199050653696 < b % 9223372036854775808 then none
  else if mag (b % 9223372036854775808) % U = 0 then some (if 9223372036854775808 ≤ b then -((mag (b % 9223372036854775808) / U : Nat) : Int) else ((mag (b % 9223372036854775808) / U : Nat) : Int)) else none

theorem toInt_eq (b : Nat) (hb : b < 18446744073709551616) (v : Int) (h : intV b = some v) : floatToIntVal .f64 b .i64 = some v ∧ -9007199254740992 ≤ v ∧ v ≤ 9007199254740992 := by
  unfold intV at h
  split at h
  · cases h
  rename_i hr
  split at h
  · injection h with h
    have hs := small_units (b % 9223372036854775808) (by omega)
    have hv : -9007199254740992 ≤ v ∧ v ≤ 9007199254740992 := by
      rw [← h]
      generalize mag (b % 9223372036854775808) / U = k at hs
      split <;> omega
    refine ⟨?_, hv⟩
    have ht : (FloatKind.f64.decode b).toInt .zero = some v := by
      unfold Ieee.Datum.toInt
      rw [dec_fin b hb (by omega), zero_units, ← mag_eq]
      simp only [Ieee.signed, Nat.shiftLeft_zero]
      rw [← h]
      by_cases hn : 9223372036854775808 ≤ b
      · rw [decide_eq_true hn, if_pos rfl, if_pos hn]
      · rw [decide_eq_false hn, if_neg (by decide), if_neg hn]
    unfold floatToIntVal
    rw [ht]
    simp only
    rw [if_pos]
    have h1 : IntKind.i64.min = -9223372036854775808 := by decide
    have h2 : IntKind.i64.max = 9223372036854775807 := by decide
    rw [h1, h2]; omega
  · cases h

/-- float64 of an int, and that it is told as that int. -/
theorem of_int (n : Int) (h0 : -9007199254740992 ≤ n) (h1 : n ≤ 9007199254740992) : FloatKind.f64.nearest n < 18446744073709551616 ∧ isN (FloatKind.f64.nearest n) = false ∧ FloatKind.f64.nearest n % 9223372036854775808 ≤ 4845873199050653696 ∧ intV (FloatKind.f64.nearest n) = some n := by
  obtain ⟨t, ht, htl, hw⟩ := whole_word n.natAbs (by omega)
  have hw := hw (decide (n < 0))
  have e : FloatKind.f64.nearest n = Ieee.double.word (decide (n < 0)) t := hw
  rw [word_eq] at e
  have hU := U_pos
  have hm0 : mag t % U = 0 := by rw [ht]; exact Nat.mul_mod_left _ _
  have hmd : mag t / U = n.natAbs := by rw [ht]; exact Nat.mul_div_cancel _ hU
  by_cases hn : n < 0
  · rw [decide_eq_true hn, if_pos rfl] at e
    rw [e]
    have em : (9223372036854775808 + t) % 9223372036854775808 = t := by omega
    refine ⟨by omega, isN_of _ (by omega), by omega, ?_⟩
    unfold intV
    rw [em, if_neg (by omega), if_pos hm0, hmd, if_pos (by omega)]
    congr 1; omega
  · rw [decide_eq_false hn, if_neg (by decide)] at e
    rw [e]
    have em : t % 9223372036854775808 = t := by omega
    refine ⟨by omega, isN_of _ (by omega), by omega, ?_⟩
    unfold intV
    rw [em, if_neg (by omega), if_pos hm0, hmd, if_neg (by omega)]
    congr 1; omega

end Fl
end Go.Proofs.Ytefpaagbopmmlaa
