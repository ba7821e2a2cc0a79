/- Proved: plain facts of rounding: what is rounded is a multiple of what it was a multiple of; twice as much is rounded to twice as much; and how little rounding takes. -/
import Derived.Test.YtphhonpibmbjmaaBound
namespace Go.Proofs.Ytphhonpibmbjmaa
open Go.RowKit Fl

theorem mag_cut (d c : Nat) (h1 : 4503599627370496 ≤ c) (h2 : c ≤ 9007199254740992) : mag (d * 4503599627370496 + c) = c * 2 ^ d := by
  unfold mag
  rw [if_neg (by omega)]
  by_cases h : c = 9007199254740992
  · subst h
    have e1 : 4503599627370496 + (d * 4503599627370496 + 9007199254740992) % 4503599627370496 = 4503599627370496 := by omega
    have e2 : (d * 4503599627370496 + 9007199254740992) / 4503599627370496 - 1 = d + 1 := by omega
    rw [e1, e2, Nat.pow_succ, Nat.mul_comm (2 ^ d) 2, ← Nat.mul_assoc]
  · have e1 : 4503599627370496 + (d * 4503599627370496 + c) % 4503599627370496 = c := by omega
    have e2 : (d * 4503599627370496 + c) / 4503599627370496 - 1 = d := by omega
    rw [e1, e2]
theorem mag_small (r : Nat) (h : r < 9007199254740992) : mag r = r := by
  unfold mag
  split
  · rfl
  · have e2 : r / 4503599627370496 - 1 = 0 := by omega
    have e1 : 4503599627370496 + r % 4503599627370496 = r := by omega
    rw [e1, e2, Nat.pow_zero, Nat.mul_one]
/-- A count of units and what it is rounded to: so many digits kept of a power of two. -/
theorem rr_parts (N : Nat) (hr : rr N < 9218868437227405312) : (N < 9007199254740992 ∧ mag (rr N) = N) ∨ ∃ d c, mag (rr N) = c * 2 ^ d ∧ (c = N / 2 ^ d ∨ (c = N / 2 ^ d + 1 ∧ N % 2 ^ d ≠ 0)) ∧ (2 * (N % 2 ^ d) ≤ 2 ^ d ∨ c = N / 2 ^ d + 1) ∧ (c = N / 2 ^ d ∨ 2 ^ d ≤ 2 * (N % 2 ^ d)) ∧ 4503599627370496 * 2 ^ d ≤ N := by
  by_cases hs : N < 9007199254740992
  · left
    refine ⟨hs, ?_⟩
    obtain ⟨r, hr', hrl⟩ : ∃ r, mag r = N ∧ r < 9218868437227405312 := ⟨N, mag_small N hs, by omega⟩
    rw [← hr', rr_mag r (by omega)]
  · right
    have h0 : N ≠ 0 := by omega
    have hl : 53 ≤ N.log2 := (Nat.le_log2 h0).2 (by omega)
    refine ⟨N.log2 - 52, Ieee.Toward.even.cut false N (N.log2 - 52), ?_, ?_⟩
    · have a1 : 2 ^ N.log2 ≤ N := Nat.log2_self_le h0
      have a2 : N < 2 ^ (N.log2 + 1) := Nat.lt_log2_self
      have c1 := cut_bot (N.log2 - 52) N (by rw [show N.log2 - 52 + 52 = N.log2 by omega]; exact a1)
      have c2 := cut_top (N.log2 - 52) N (by rw [show N.log2 - 52 + 53 = N.log2 + 1 by omega]; exact a2)
      have e : rr N = (N.log2 - 52) * 4503599627370496 + Ieee.Toward.even.cut false N (N.log2 - 52) := by
        unfold rr at hr ⊢
        omega
      rw [e]
      exact mag_cut _ _ c1 c2
    · have a1 : 2 ^ N.log2 ≤ N := Nat.log2_self_le h0
      have hge : 4503599627370496 * 2 ^ (N.log2 - 52) ≤ N := by
        have : (4503599627370496 : Nat) = 2 ^ 52 := by decide
        rw [this, ← Nat.pow_add, show 52 + (N.log2 - 52) = N.log2 by omega]; exact a1
      rw [cut_even_all]
      generalize 2 ^ (N.log2 - 52) = g at *
      by_cases hb : (decide (g < 2 * (N % g)) || (g == 2 * (N % g) && N / g % 2 == 1)) = true
      · rw [hb]
        have hb' : g ≤ 2 * (N % g) := by
          simp only [Bool.or_eq_true, Bool.and_eq_true, decide_eq_true_eq, beq_iff_eq] at hb
          omega
        have hg : 0 < N % g ∨ N % g = 0 := by omega
        refine ⟨.inr ⟨rfl, ?_⟩, .inr rfl, .inr hb', hge⟩
        intro h
        rw [h] at hb'
        have : g = 0 := by omega
        rw [this] at hb h
        simp at h
        omega
      · have hb2 : (decide (g < 2 * (N % g)) || (g == 2 * (N % g) && N / g % 2 == 1)) = false := by simpa using hb
        rw [hb2]
        have hb' : 2 * (N % g) ≤ g := by
          simp only [Bool.or_eq_false_iff, decide_eq_false_iff_not] at hb2
          omega
        exact ⟨.inl rfl, .inl hb', .inl rfl, hge⟩
theorem rr_mult (e N : Nat) (h : 2 ^ e ∣ N) (hr : rr N < 9218868437227405312) : 2 ^ e ∣ mag (rr N) := by
  rcases rr_parts N hr with ⟨_, hm⟩ | ⟨d, c, hm, hc, _, _, _⟩
  · rw [hm]; exact h
  · rw [hm]
    by_cases hd : d ≤ e
    · have hz : N % 2 ^ d = 0 := Nat.mod_eq_zero_of_dvd (Nat.dvd_trans (Nat.pow_dvd_pow 2 hd) h)
      rcases hc with hc | ⟨_, hc⟩
      · have := Nat.div_add_mod N (2 ^ d)
        rw [hz, Nat.add_zero, Nat.mul_comm] at this
        rw [hc, this]; exact h
      · exact absurd hz hc
    · exact Nat.dvd_trans (Nat.pow_dvd_pow 2 (by omega)) (Nat.dvd_mul_left _ _)
/-- How little rounding takes: not more than a part of 2^53. -/
theorem rr_err (N : Nat) (hr : rr N < 9218868437227405312) : ((mag (rr N) : Int) - N) * 9007199254740992 ≤ N ∧ -((N : Int)) ≤ ((mag (rr N) : Int) - N) * 9007199254740992 := by
  rcases rr_parts N hr with ⟨_, hm⟩ | ⟨d, c, hm, hc, h1, h2, h3⟩
  · rw [hm]; omega
  · rw [hm]
    have hp : 0 < 2 ^ d := Nat.two_pow_pos d
    have hdm := Nat.div_add_mod N (2 ^ d)
    generalize 2 ^ d = g at *
    have hlt := Nat.mod_lt N hp
    rw [Nat.mul_comm] at hdm
    rcases hc with hc | ⟨hc, _⟩
    · have h1' : 2 * (N % g) ≤ g := by
        rcases h1 with h1 | h1
        · exact h1
        · omega
      have e : ((c * g : Nat) : Int) - N = -((N % g : Nat) : Int) := by rw [hc]; omega
      rw [e]; omega
    · have h2' : g ≤ 2 * (N % g) := by
        rcases h2 with h2 | h2
        · omega
        · exact h2
      have e : ((c * g : Nat) : Int) - N = (g : Int) - ((N % g : Nat) : Int) := by
        rw [hc, Nat.add_mul, Nat.one_mul]; omega
      rw [e]; omega
theorem rr_double (N : Nat) (h : 4503599627370496 ≤ N) (hr : rr (2 * N) < 9218868437227405312) : rr (2 * N) = rr N + 4503599627370496 := by
  have h0 : N ≠ 0 := by omega
  have hl : 52 ≤ N.log2 := (Nat.le_log2 h0).2 (by omega)
  have e2 : 2 * N = N * 2 ^ 1 := by omega
  have hlog : (2 * N).log2 = N.log2 + 1 := by rw [e2, log2_scale N 1 h0]
  have hcut := cut_scale_all false false N (N.log2 - 52) 1
  rw [← e2, show N.log2 - 52 + 1 = N.log2 + 1 - 52 by omega] at hcut
  unfold rr at hr ⊢
  rw [hlog, ← hcut] at hr ⊢
  have : (N.log2 + 1 - 52) * 4503599627370496 = (N.log2 - 52) * 4503599627370496 + 4503599627370496 := by omega
  omega

end Go.Proofs.Ytphhonpibmbjmaa
