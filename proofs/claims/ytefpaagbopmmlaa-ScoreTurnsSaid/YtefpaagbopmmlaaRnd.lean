/- Proved: plain facts of rounding a double to a whole number: to the nearest and between two to the even one, to nought, and down; what is rounded is whole, not farther than a half, and rounded again the same. -/
import Derived.Test.YtefpaagbopmmlaaRound
import Derived.Test.YtefpaagbopmmlaaPure
namespace Go.Proofs.Ytefpaagbopmmlaa
namespace Fl

/-- How many binary digits a unit's place lies behind the point: a letter for 1074, so that no power of it is reckoned out. -/
noncomputable def eU : Nat := Classical.choose (⟨1074, rfl⟩ : ∃ e : Nat, e = 1074)
theorem eU_eq : eU = 1074 := Classical.choose_spec (⟨1074, rfl⟩ : ∃ e : Nat, e = 1074)
/-- One, in units of the least number. -/
noncomputable def U : Nat := 2 ^ eU

/-- So many units, as a whole number: to the nearest, between two the even one. -/
noncomputable def ie (N : Nat) : Nat := N / U + (decide (U < 2 * (N % U)) || (U == 2 * (N % U) && N / U % 2 == 1)).toNat

theorem U_pos : 0 < U := Nat.two_pow_pos _

theorem cut_even_all (neg : Bool) (n d : Nat) : Ieee.Toward.even.cut neg n d = n / 2 ^ d + (decide (2 ^ d < 2 * (n % 2 ^ d)) || (2 ^ d == 2 * (n % 2 ^ d) && n / 2 ^ d % 2 == 1)).toNat := by
  by_cases h : d ≤ n.log2 + 2
  · exact cut_even neg n d h
  · have hn : n < 2 ^ (n.log2 + 1) := Nat.lt_log2_self
    have hp : 2 ^ (n.log2 + 2) = 2 * 2 ^ (n.log2 + 1) := by rw [Nat.pow_succ, Nat.mul_comm]
    have hd : 2 ^ (n.log2 + 2) ≤ 2 ^ d := Nat.pow_le_pow_right (by decide) (by omega)
    unfold Ieee.Toward.cut
    rw [Nat.min_eq_right (by omega), Nat.one_shiftLeft]
    generalize 2 ^ (n.log2 + 2) = g at *
    generalize 2 ^ d = e at *
    have a1 : n / g = 0 := Nat.div_eq_of_lt (by omega)
    have a2 : n % g = n := Nat.mod_eq_of_lt (by omega)
    have b1 : n / e = 0 := Nat.div_eq_of_lt (by omega)
    have b2 : n % e = n := Nat.mod_eq_of_lt (by omega)
    simp only [a1, a2, b1, b2]
    have c1 : ¬ g < 2 * n := by omega
    have c2 : ¬ e < 2 * n := by omega
    simp [c1, c2]

theorem cut_zero_all (neg : Bool) (n d : Nat) : Ieee.Toward.zero.cut neg n d = n / 2 ^ d := by
  unfold Ieee.Toward.cut
  simp only [Nat.one_shiftLeft, Bool.toNat_false, Nat.add_zero]
  by_cases h : d ≤ n.log2 + 2
  · rw [Nat.min_eq_left h]
  · have hn : n < 2 ^ (n.log2 + 1) := Nat.lt_log2_self
    have hp : 2 ^ (n.log2 + 2) = 2 * 2 ^ (n.log2 + 1) := by rw [Nat.pow_succ, Nat.mul_comm]
    have hd : 2 ^ (n.log2 + 2) ≤ 2 ^ d := Nat.pow_le_pow_right (by decide) (by omega)
    rw [Nat.min_eq_right (by omega), Nat.div_eq_of_lt (by omega), Nat.div_eq_of_lt (by omega)]

theorem cut_down_all (neg : Bool) (n d : Nat) : Ieee.Toward.down.cut neg n d = n / 2 ^ d + (neg && n % 2 ^ d != 0).toNat := by
  unfold Ieee.Toward.cut
  simp only [Nat.one_shiftLeft]
  by_cases h : d ≤ n.log2 + 2
  · rw [Nat.min_eq_left h]
  · have hn : n < 2 ^ (n.log2 + 1) := Nat.lt_log2_self
    have hp : 2 ^ (n.log2 + 2) = 2 * 2 ^ (n.log2 + 1) := by rw [Nat.pow_succ, Nat.mul_comm]
    have hd : 2 ^ (n.log2 + 2) ≤ 2 ^ d := Nat.pow_le_pow_right (by decide) (by omega)
    rw [Nat.min_eq_right (by omega), Nat.div_eq_of_lt (by omega), Nat.div_eq_of_lt (by omega), Nat.mod_eq_of_lt (by omega), Nat.mod_eq_of_lt (by omega)]

/-- A number's place is below one, or at or above: both ways its count of units tells. -/
theorem units_at (m q : Nat) : (q < 1074 ∧ m <<< ((-1074 + (q : Int)).toNat) = m ∧ (-(-1074 + (q : Int))).toNat = 1074 - q) ∨ (1074 ≤ q ∧ m <<< ((-1074 + (q : Int)).toNat) = m * 2 ^ (q - 1074) ∧ (-(-1074 + (q : Int))).toNat = 0) := by
  by_cases h : q < 1074
  · left
    refine ⟨h, ?_, by omega⟩
    rw [show (-1074 + (q : Int)).toNat = 0 by omega, Nat.shiftLeft_zero]
  · right
    refine ⟨by omega, ?_, by omega⟩
    rw [show (-1074 + (q : Int)).toNat = q - 1074 by omega, Nat.shiftLeft_eq]

theorem div_units (m q : Nat) (h : q < 1074) : m / 2 ^ (1074 - q) = m * 2 ^ q / U ∧ m * 2 ^ q % U = m % 2 ^ (1074 - q) * 2 ^ q := by
  have hp : 0 < 2 ^ q := Nat.two_pow_pos q
  have hU : U = 2 ^ (1074 - q) * 2 ^ q := by unfold U; rw [← Nat.pow_add, show 1074 - q + q = eU by rw [eU_eq]; omega]
  rw [hU]
  exact ⟨(Nat.mul_div_mul_right _ _ hp).symm, Nat.mul_mod_mul_right _ _ _⟩

theorem div_units_up (m q : Nat) (h : 1074 ≤ q) : m * 2 ^ q / U = m * 2 ^ (q - 1074) ∧ m * 2 ^ q % U = 0 := by
  have e : m * 2 ^ q = m * 2 ^ (q - 1074) * U := by
    unfold U
    rw [Nat.mul_assoc, ← Nat.pow_add, show q - 1074 + eU = q by rw [eU_eq]; omega]
  rw [e]
  exact ⟨Nat.mul_div_cancel _ U_pos, Nat.mul_mod_left _ _⟩

theorem even_units (s : Bool) (m q : Nat) : (Ieee.Datum.number s m (-1074 + (q : Int))).integral .even = .number s (ie (m * 2 ^ q)) 0 := by
  simp only [Ieee.Datum.integral]
  refine congrArg (fun t => Ieee.Datum.number s t 0) ?_
  rw [cut_even_all]
  unfold ie
  rcases units_at m q with ⟨h, h1, h2⟩ | ⟨h, h1, h2⟩
  · rw [h1, h2]
    obtain ⟨d1, d2⟩ := div_units m q h
    have hp : 0 < 2 ^ q := Nat.two_pow_pos q
    have hU : U = 2 ^ (1074 - q) * 2 ^ q := by unfold U; rw [← Nat.pow_add, show 1074 - q + q = eU by rw [eU_eq]; omega]
    rw [d1, d2, hU, ← Nat.mul_assoc 2]
    have e3 : decide (2 ^ (1074 - q) * 2 ^ q < 2 * (m % 2 ^ (1074 - q)) * 2 ^ q) = decide (2 ^ (1074 - q) < 2 * (m % 2 ^ (1074 - q))) := by
      rw [decide_eq_decide]; exact Nat.mul_lt_mul_right hp
    have e4 : (2 ^ (1074 - q) * 2 ^ q == 2 * (m % 2 ^ (1074 - q)) * 2 ^ q) = (2 ^ (1074 - q) == 2 * (m % 2 ^ (1074 - q))) := by
      rw [Bool.eq_iff_iff, beq_iff_eq, beq_iff_eq]
      exact ⟨fun h => Nat.eq_of_mul_eq_mul_right hp h, fun h => congrArg (· * 2 ^ q) h⟩
    rw [e3, e4]
  · rw [h1, h2]
    obtain ⟨d1, d2⟩ := div_units_up m q h
    rw [d1, d2, Nat.pow_zero, Nat.div_one, Nat.mod_one]
    have : U ≠ 0 := by have := U_pos; omega
    simp [this]

theorem zero_units (s : Bool) (m q : Nat) : (Ieee.Datum.number s m (-1074 + (q : Int))).integral .zero = .number s (m * 2 ^ q / U) 0 := by
  simp only [Ieee.Datum.integral]
  refine congrArg (fun t => Ieee.Datum.number s t 0) ?_
  rw [cut_zero_all]
  rcases units_at m q with ⟨h, h1, h2⟩ | ⟨h, h1, h2⟩
  · rw [h1, h2, (div_units m q h).1]
  · rw [h1, h2, (div_units_up m q h).1, Nat.pow_zero, Nat.div_one]

theorem down_units (s : Bool) (m q : Nat) : (Ieee.Datum.number s m (-1074 + (q : Int))).integral .down = .number s (m * 2 ^ q / U + (s && m * 2 ^ q % U != 0).toNat) 0 := by
  simp only [Ieee.Datum.integral]
  refine congrArg (fun t => Ieee.Datum.number s t 0) ?_
  rw [cut_down_all]
  rcases units_at m q with ⟨h, h1, h2⟩ | ⟨h, h1, h2⟩
  · rw [h1, h2, (div_units m q h).1, (div_units m q h).2]
    have hp : 0 < 2 ^ q := Nat.two_pow_pos q
    have : (m % 2 ^ (1074 - q) * 2 ^ q != 0) = (m % 2 ^ (1074 - q) != 0) := by
      rw [Bool.eq_iff_iff, bne_iff_ne, bne_iff_ne]
      exact ⟨fun h h' => h (by rw [h']; simp), fun h h' => h (by rcases Nat.mul_eq_zero.1 h' with k | k; exact k; omega)⟩
    rw [this]
  · rw [h1, h2, (div_units_up m q h).1, (div_units_up m q h).2, Nat.pow_zero, Nat.div_one, Nat.mod_one]

/-- A whole number written. -/
theorem write_whole (s : Bool) (K : Nat) : Ieee.double.write (.number s K 0) = Ieee.double.word s (rr (K * U)) := by
  have := nearest_units s K eU
  rw [show (-1074 : Int) + (eU : Int) = 0 by rw [eU_eq]; decide] at this
  simp only [Ieee.Format.write]
  rw [this]; rfl

/-- Whole numbers up to 2^53 are of the format. -/
theorem whole_mag (K : Nat) (h : K ≤ 9007199254740992) : ∃ r, mag r = K * U ∧ r ≤ 4845873199050653696 := by
  by_cases h0 : K = 0
  · subst h0; exact ⟨0, by simp [mag_zero], by omega⟩
  have hl : K.log2 ≤ 53 := by
    have := (Nat.log2_lt h0).2 (show K < 2 ^ 54 by omega); omega
  have h1 : 2 ^ K.log2 ≤ K := Nat.log2_self_le h0
  have h2 : K < 2 ^ (K.log2 + 1) := Nat.lt_log2_self
  by_cases h53 : K.log2 = 53
  · have hK : K = 9007199254740992 := by rw [h53] at h1; omega
    subst hK
    refine ⟨4845873199050653696, ?_, by omega⟩
    unfold mag U
    rw [if_neg (by decide)]
    rw [show (4503599627370496 + 4845873199050653696 % 4503599627370496 : Nat) = 2 ^ 52 by decide, show (4845873199050653696 / 4503599627370496 - 1 : Nat) = eU + 1 by rw [eU_eq], show (9007199254740992 : Nat) = 2 ^ 53 by decide, ← Nat.pow_add, ← Nat.pow_add, show 52 + (eU + 1) = 53 + eU by omega]
  · have hl52 : K.log2 ≤ 52 := by omega
    have hs1 : 4503599627370496 ≤ K * 2 ^ (52 - K.log2) := by
      have : 2 ^ K.log2 * 2 ^ (52 - K.log2) ≤ K * 2 ^ (52 - K.log2) := Nat.mul_le_mul_right _ h1
      rw [← Nat.pow_add, show K.log2 + (52 - K.log2) = 52 by omega] at this
      omega
    have hs2 : K * 2 ^ (52 - K.log2) < 9007199254740992 := by
      have : K * 2 ^ (52 - K.log2) < 2 ^ (K.log2 + 1) * 2 ^ (52 - K.log2) := (Nat.mul_lt_mul_right (Nat.two_pow_pos _)).2 h2
      rw [← Nat.pow_add, show K.log2 + 1 + (52 - K.log2) = 53 by omega] at this
      omega
    refine ⟨(K.log2 + 1022) * 4503599627370496 + K * 2 ^ (52 - K.log2), ?_, by omega⟩
    obtain ⟨t, ht⟩ : ∃ t, t = K * 2 ^ (52 - K.log2) := ⟨_, rfl⟩
    rw [← ht] at hs1 hs2 ⊢
    unfold mag
    rw [if_neg (by omega)]
    have e1 : 4503599627370496 + ((K.log2 + 1022) * 4503599627370496 + t) % 4503599627370496 = t := by omega
    have e2 : ((K.log2 + 1022) * 4503599627370496 + t) / 4503599627370496 - 1 = K.log2 + 1022 := by omega
    rw [e1, e2, ht, Nat.mul_assoc, ← Nat.pow_add]
    unfold U
    rw [show 52 - K.log2 + (K.log2 + 1022) = eU by rw [eU_eq]; omega]

theorem ie_near (N : Nat) : 2 * (ie N * U) ≤ 2 * N + U ∧ 2 * N ≤ 2 * (ie N * U) + U := by
  unfold ie
  have hU := U_pos
  have hdm := Nat.div_add_mod N U
  have hlt := Nat.mod_lt N hU
  have hmul : N / U * U = U * (N / U) := Nat.mul_comm _ _
  cases hc : (decide (U < 2 * (N % U)) || (U == 2 * (N % U) && N / U % 2 == 1)) with
  | true =>
    have : U ≤ 2 * (N % U) := by
      simp at hc
      omega
    rw [Bool.toNat_true, Nat.add_mul, Nat.one_mul, hmul]
    omega
  | false =>
    have : 2 * (N % U) ≤ U := by
      simp at hc
      omega
    rw [Bool.toNat_false, Nat.add_zero, hmul]
    omega

theorem ie_whole (K : Nat) : ie (K * U) = K := by
  unfold ie
  have hU := U_pos
  rw [Nat.mul_div_cancel _ hU, Nat.mul_mod_left]
  have : U ≠ 0 := by omega
  simp [this]

/-- What is rounded is of the format. -/
theorem ie_mag (r : Nat) (h : r < 9218868437227405312) : ∃ t, mag t = ie (mag r) * U ∧ t < 9218868437227405312 := by
  by_cases hq : 1074 ≤ r / 4503599627370496 - 1
  · refine ⟨r, ?_, h⟩
    have := div_units_up (sig r) (r / 4503599627370496 - 1) hq
    have e : mag r = sig r * 2 ^ (r / 4503599627370496 - 1 - 1074) * U := by
      rw [mag_eq]; unfold U
      rw [Nat.mul_assoc, ← Nat.pow_add, show r / 4503599627370496 - 1 - 1074 + eU = r / 4503599627370496 - 1 by rw [eU_eq]; omega]
    rw [e, ie_whole]
  · have hb : mag r < 9007199254740992 * U := by
      rw [mag_eq]
      have h1 : sig r < 9007199254740992 := by unfold sig; split <;> omega
      have h2 : 2 ^ (r / 4503599627370496 - 1) ≤ U := Nat.pow_le_pow_right (by decide) (by rw [eU_eq]; omega)
      calc sig r * 2 ^ (r / 4503599627370496 - 1) < 9007199254740992 * 2 ^ (r / 4503599627370496 - 1) := (Nat.mul_lt_mul_right (Nat.two_pow_pos _)).2 h1
        _ ≤ 9007199254740992 * U := Nat.mul_le_mul_left _ h2
    have hK : ie (mag r) ≤ 9007199254740992 := by
      unfold ie
      have : mag r / U < 9007199254740992 := Nat.div_lt_of_lt_mul (by rw [Nat.mul_comm]; exact hb)
      have := Bool.toNat_le (decide (U < 2 * (mag r % U)) || (U == 2 * (mag r % U) && mag r / U % 2 == 1))
      omega
    obtain ⟨t, ht, htl⟩ := whole_mag _ hK
    exact ⟨t, ht, by omega⟩

/-- Rounding to a rung keeps the order. -/
theorem rr_le (N r : Nat) (h : N ≤ mag r) : rr N ≤ r := by
  unfold rr
  refine Nat.le_trans (Nat.min_le_left _ _) ?_
  by_cases h0 : N = 0
  · subst h0; simp [cut_even_all]
  obtain ⟨d, hd⟩ : ∃ d, d = N.log2 - 52 := ⟨_, rfl⟩
  rw [← hd, cut_even_all]
  have hl1 : 2 ^ N.log2 ≤ N := Nat.log2_self_le h0
  have hl2 : N < 2 ^ (N.log2 + 1) := Nat.lt_log2_self
  by_cases hs : N.log2 ≤ 52
  · have hd0 : d = 0 := by omega
    rw [hd0, Nat.pow_zero, Nat.div_one, Nat.mod_one]
    have hN : N < 9007199254740992 := Nat.lt_of_lt_of_le hl2 (Nat.pow_le_pow_right (by decide) (show N.log2 + 1 ≤ 53 by omega))
    have hm : mag N = N := by
      unfold mag
      split
      · rfl
      · rw [show N / 4503599627370496 - 1 = 0 by omega]; omega
    have : N ≤ r := by
      rcases Nat.lt_or_ge r N with k | k
      · have := mag_lt k; omega
      · exact k
    simp
    exact this
  · have hp : 0 < 2 ^ d := Nat.two_pow_pos d
    have hdm := Nat.div_add_mod N (2 ^ d)
    have hlt := Nat.mod_lt N hp
    have b1 : 4503599627370496 ≤ N / 2 ^ d := by
      rw [Nat.le_div_iff_mul_le hp, show (4503599627370496 : Nat) = 2 ^ 52 by decide, ← Nat.pow_add, show 52 + d = N.log2 by omega]; exact hl1
    have b2 : N / 2 ^ d < 9007199254740992 := by
      rw [Nat.div_lt_iff_lt_mul hp, show (9007199254740992 : Nat) = 2 ^ 53 by decide, ← Nat.pow_add, show 53 + d = N.log2 + 1 by omega]; exact hl2
    obtain ⟨c, hc⟩ : ∃ c, c = N / 2 ^ d := ⟨_, rfl⟩
    rw [← hc] at hdm b1 b2 ⊢
    have hR : mag (d * 4503599627370496 + c) = c * 2 ^ d := by
      unfold mag
      rw [if_neg (by omega)]
      have e1 : 4503599627370496 + (d * 4503599627370496 + c) % 4503599627370496 = c := by omega
      have e2 : (d * 4503599627370496 + c) / 4503599627370496 - 1 = d := by omega
      rw [e1, e2]
    have hle : mag (d * 4503599627370496 + c) ≤ mag r := by
      rw [hR, Nat.mul_comm]; omega
    have hRr : d * 4503599627370496 + c ≤ r := by
      rcases Nat.lt_or_ge r (d * 4503599627370496 + c) with k | k
      · have := mag_lt k; omega
      · exact k
    cases hx : (decide (2 ^ d < 2 * (N % 2 ^ d)) || (2 ^ d == 2 * (N % 2 ^ d) && c % 2 == 1)) with
    | false => rw [Bool.toNat_false]; omega
    | true =>
      rw [Bool.toNat_true]
      have hpos : 0 < N % 2 ^ d := by
        simp at hx
        omega
      have : mag (d * 4503599627370496 + c) < mag r := by
        rw [hR, Nat.mul_comm]; omega
      have : d * 4503599627370496 + c < r := by
        rcases Nat.lt_or_ge (d * 4503599627370496 + c) r with k | k
        · exact k
        · have := mag_le k; omega
      omega

end Fl
end Go.Proofs.Ytefpaagbopmmlaa
