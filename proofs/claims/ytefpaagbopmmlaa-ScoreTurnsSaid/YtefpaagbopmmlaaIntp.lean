/- Proved: whole numbers as doubles. -/
import Derived.Test.YtefpaagbopmmlaaMono
import Derived.Test.YtefpaagbopmmlaaRnw
namespace Go.Proofs.Ytefpaagbopmmlaa
open Go.RowKit Fl

theorem mag_one : mag 4607182418800017408 = U := by
  obtain ⟨x, hx⟩ : ∃ x : Nat, x = 4607182418800017408 / 4503599627370496 - 1 := ⟨_, rfl⟩
  have he : eU = 52 + x := by rw [eU_eq, hx]
  unfold mag U
  rw [if_neg (by decide), ← hx, he, Nat.pow_add]
theorem int_word (j : Nat) (h : j ≤ 9007199254740992) : ∃ t, mag t = j * U ∧ t ≤ 4845873199050653696 ∧ floatOfInt .f64 (j : Int) = t := by
  obtain ⟨t, ht, hl, hw⟩ := whole_word j h
  refine ⟨t, ht, hl, ?_⟩
  have : floatOfInt .f64 (j : Int) = Ieee.double.write (.number (decide ((j : Int) < 0)) (j : Int).natAbs 0) := rfl
  rw [this, Int.natAbs_natCast, hw, decide_eq_false (by omega)]
  rfl
theorem sr_pos (b : Nat) (h : b < 9223372036854775808) : sr b = b := by unfold sr; rw [if_pos h]
theorem rk_nought (k : Nat) : rk k 0 = 0 := by
  have := rk_mag k 0 (by omega)
  rwa [mag_zero, Nat.zero_mul] at this
theorem fin_num {b : Nat} (h : Fin' b) : isN b = false := by unfold isN; exact decide_eq_false (by have := h.2; omega)
theorem sm_abs (b : Nat) : (sm b).natAbs = mag (rg b) := by
  unfold sm rg; split <;> omega
theorem sm_word (s : Bool) (t : Nat) (h : t ≤ 9218868437227405312) : sm (Ieee.double.word s t) = if s then -(mag t : Int) else (mag t : Int) := by
  rw [word_val]
  cases s
  · show sm t = (mag t : Int)
    unfold sm; rw [if_pos (by omega), Nat.mod_eq_of_lt (by omega)]
  · show sm (9223372036854775808 + t) = -(mag t : Int)
    unfold sm; rw [if_neg (by omega)]
    have : (9223372036854775808 + t) % 9223372036854775808 = t := by omega
    rw [this]
/-- A whole number as a double. -/
def iw (z : Int) : Nat := floatOfInt .f64 z
theorem iw_word (z : Int) (h : z.natAbs ≤ 9007199254740992) : ∃ t, mag t = z.natAbs * U ∧ t ≤ 4845873199050653696 ∧ iw z = Ieee.double.word (decide (z < 0)) t := by
  obtain ⟨t, ht, hl, hw⟩ := whole_word z.natAbs h
  exact ⟨t, ht, hl, hw _⟩
theorem iw_facts (z : Int) (h : z.natAbs ≤ 9007199254740992) : Fin' (iw z) ∧ sm (iw z) = z * U ∧ neg' (iw z) = decide (z < 0) ∧ mag (rg (iw z)) = z.natAbs * U := by
  obtain ⟨t, ht, hl, hw⟩ := iw_word z h
  obtain ⟨w1, w2, w3, w4⟩ := word_num (decide (z < 0)) t (by omega)
  rw [← hw] at w1 w2 w3 w4
  refine ⟨⟨w2, by rw [w3]; omega⟩, ?_, w4, by unfold rg; rw [w3, ht]⟩
  rw [hw, sm_word _ _ (by omega), ht]
  by_cases hn : z < 0
  · rw [decide_eq_true hn, if_pos rfl]
    have : (z.natAbs : Int) = -z := by omega
    rw [Int.natCast_mul, this, Int.neg_mul, Int.neg_neg]
  · rw [decide_eq_false hn, if_neg (by decide)]
    have : (z.natAbs : Int) = z := by omega
    rw [Int.natCast_mul, this]
theorem iw_lt (z : Int) : iw z < 18446744073709551616 := by
  have := floatOfInt_wf .f64 z
  unfold iw
  simpa [Lit.wf] using this
theorem iw_zero : iw 0 = 0 := by decide +kernel
theorem iw_num (z : Int) (h : z.natAbs ≤ 9007199254740992) : isN (iw z) = false := fin_num (iw_facts z h).1

end Go.Proofs.Ytefpaagbopmmlaa
