/- Proved: plain facts of quotients and of powers of two as rungs. -/
import Derived.Test.YtefpaagbopmmlaaIntp
namespace Go.Proofs.Ytefpaagbopmmlaa
open Go.RowKit Fl

theorem qd_le (m nn more t : Nat) (h : m * 2 ^ more ≤ t * nn) : qd m nn more ≤ 2 * t := by
  unfold qd
  have hdm := Nat.div_add_mod (m * 2 ^ more) nn
  generalize m * 2 ^ more = d at *
  have hle : d / nn ≤ t := Nat.div_le_of_le_mul (by rw [Nat.mul_comm]; exact h)
  by_cases hz : d % nn = 0
  · rw [hz]; simp; omega
  · have hlt : d / nn < t := by
      rcases Nat.lt_or_ge (d / nn) t with k | k
      · exact k
      · exfalso
        have e : d / nn = t := by omega
        rw [e, Nat.mul_comm] at hdm
        omega
    have : (d % nn != 0).toNat ≤ 1 := Bool.toNat_le _
    omega
theorem le_qd (m nn more t : Nat) (h0 : 0 < nn) (h : t * nn ≤ m * 2 ^ more) : 2 * t ≤ qd m nn more := by
  unfold qd
  have : t ≤ m * 2 ^ more / nn := (Nat.le_div_iff_mul_le h0).2 h
  omega
/-- A quotient's rung against a bound. -/
theorem quo_bounds (A B r v s p q more m nn : Nat) (h0 : 0 < nn) (hA : A = m * 2 ^ p) (hB : B = nn * 2 ^ q) (hr : r ≤ 9218868437227405312) (hrv : mag r * 2 ^ s = v * U) (hp : p + s ≤ q + more) :
    (A * U ≤ mag r * B → rk (q + more + 1) (qd m nn more * 2 ^ p * U) ≤ r) ∧ (mag r * B ≤ A * U → r ≤ rk (q + more + 1) (qd m nn more * 2 ^ p * U)) := by
  have hV : 0 < 2 ^ p * U := Nat.mul_pos (Nat.two_pow_pos p) U_pos
  have ht : mag r * 2 ^ (q + more) = v * 2 ^ (q + more - s - p) * (2 ^ p * U) := by
    have e : q + more = s + (q + more - s - p) + p := by omega
    calc mag r * 2 ^ (q + more) = mag r * 2 ^ (s + (q + more - s - p) + p) := by rw [← e]
      _ = mag r * 2 ^ s * 2 ^ (q + more - s - p) * 2 ^ p := by rw [Nat.pow_add, Nat.pow_add]; simp only [Nat.mul_assoc]
      _ = v * U * 2 ^ (q + more - s - p) * 2 ^ p := by rw [hrv]
      _ = v * 2 ^ (q + more - s - p) * (2 ^ p * U) := by simp only [Nat.mul_assoc, Nat.mul_comm, Nat.mul_left_comm]
  generalize v * 2 ^ (q + more - s - p) = t at ht
  have eA : A * U * 2 ^ more = m * 2 ^ more * (2 ^ p * U) := by rw [hA]; simp only [Nat.mul_assoc, Nat.mul_comm, Nat.mul_left_comm]
  have eB : mag r * B * 2 ^ more = t * nn * (2 ^ p * U) := by
    calc mag r * B * 2 ^ more = mag r * 2 ^ (q + more) * nn := by rw [hB, Nat.pow_add]; simp only [Nat.mul_assoc, Nat.mul_comm, Nat.mul_left_comm]
      _ = t * (2 ^ p * U) * nn := by rw [ht]
      _ = t * nn * (2 ^ p * U) := by simp only [Nat.mul_assoc, Nat.mul_comm, Nat.mul_left_comm]
  have e2 : mag r * 2 ^ (q + more + 1) = 2 * t * (2 ^ p * U) := by
    rw [Nat.pow_succ, ← Nat.mul_assoc, ht, Nat.mul_comm _ 2, Nat.mul_assoc]
  constructor
  · intro h
    have h1 := Nat.mul_le_mul_right (2 ^ more) h
    rw [eA, eB] at h1
    have h2 := qd_le m nn more t (Nat.le_of_mul_le_mul_right h1 hV)
    refine rk_le _ _ _ hr ?_
    rw [e2, Nat.mul_assoc]
    exact Nat.mul_le_mul_right _ h2
  · intro h
    have h1 := Nat.mul_le_mul_right (2 ^ more) h
    rw [eA, eB] at h1
    have h2 := le_qd m nn more t h0 (Nat.le_of_mul_le_mul_right h1 hV)
    refine le_rk _ _ _ hr ?_
    rw [e2, Nat.mul_assoc (qd m nn more)]
    exact Nat.mul_le_mul_right _ h2
theorem mag_two (x : Nat) (h : 1 ≤ x) : mag (x * 4503599627370496) = 2 ^ (52 + (x - 1)) := by
  unfold mag
  have e1 : (4503599627370496 + x * 4503599627370496 % 4503599627370496) = 2 ^ 52 := by
    have : x * 4503599627370496 % 4503599627370496 = 0 := Nat.mul_mod_left _ _
    rw [this]
  have e2 : x * 4503599627370496 / 4503599627370496 - 1 = x - 1 := by omega
  rw [if_neg (by omega), e1, e2, Nat.pow_add]
theorem sig_log (r : Nat) (h : 4503599627370496 ≤ r) : (sig r).log2 = 52 := by
  obtain ⟨h1, h2⟩ := sig_bound r h
  exact log2_of _ 52 (by have : (2 : Nat) ^ 52 = 4503599627370496 := by decide
                         omega) (by have : (2 : Nat) ^ (52 + 1) = 9007199254740992 := by decide
                                    omega)
theorem sig_log_le (r : Nat) : (sig r).log2 ≤ 52 := by
  by_cases h : 4503599627370496 ≤ r
  · rw [sig_log r h]; exact Nat.le_refl _
  · unfold sig
    rw [if_pos (by omega)]
    by_cases h0 : r = 0
    · subst h0; decide
    · have := (Nat.log2_lt h0).2 (show r < 2 ^ 53 by have : (2 : Nat) ^ 53 = 9007199254740992 := by decide
                                                     omega)
      omega
theorem wordf (t : Nat) : Ieee.double.word false t = t := by rw [word_val, if_neg (by decide)]
theorem pos_facts {x : Nat} (h : x < 9223372036854775808) : rg x = x ∧ sm x = (mag x : Int) ∧ neg' x = false := by
  refine ⟨Nat.mod_eq_of_lt h, ?_, by unfold neg'; exact decide_eq_false (by omega)⟩
  unfold sm; rw [if_pos h, Nat.mod_eq_of_lt h]
/-- The sum of two numbers that are not below nought. -/
theorem add_pos' {s x : Nat} (hs : Fin' s) (hx : Fin' x) (hs' : s < 9223372036854775808) (hx' : x < 9223372036854775808) : fo .add s x = rr (mag s + mag x) := by
  obtain ⟨_, s2, s3⟩ := pos_facts hs'
  obtain ⟨_, x2, x3⟩ := pos_facts hx'
  have e : sm s + sm x = ((mag s + mag x : Nat) : Int) := by rw [s2, x2]; omega
  rw [(add_sr s x hs hx).2.2, e, Int.natAbs_natCast, s3]
  have : (if ((mag s + mag x : Nat) : Int) = 0 then false && neg' x else decide (((mag s + mag x : Nat) : Int) < 0)) = false := by
    split
    · rfl
    · exact decide_eq_false (by omega)
  rw [this, wordf]

end Go.Proofs.Ytefpaagbopmmlaa
