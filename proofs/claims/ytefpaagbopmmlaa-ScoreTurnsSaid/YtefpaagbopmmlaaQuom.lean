/- Proved: a quotient of doubles rises with its dividend and falls with its divisor: it is the exact quotient rounded once. -/
import Derived.Test.YtefpaagbopmmlaaMean
namespace Go.Proofs.Ytefpaagbopmmlaa
open Go.RowKit Fl

/-- Two counts between the same two multiples of a power of two that is fine enough are rounded alike. -/
theorem rk_const (k c w N M : Nat) (hc : 9007199254740992 ≤ c) (n1 : c * 2 ^ w < N) (n2 : N < (c + 1) * 2 ^ w) (m1 : c * 2 ^ w < M) (m2 : M < (c + 1) * 2 ^ w) : rk k N = rk k M := by
  have hp : 0 < 2 ^ w := Nat.two_pow_pos w
  have hc0 : c ≠ 0 := by omega
  have hcl : 53 ≤ c.log2 := (Nat.le_log2 hc0).2 (by have : (2 : Nat) ^ 53 = 9007199254740992 := by decide
                                                    omega)
  have h1 : 2 ^ c.log2 ≤ c := Nat.log2_self_le hc0
  have h2 : c < 2 ^ (c.log2 + 1) := Nat.lt_log2_self
  have key : ∀ X, c * 2 ^ w < X → X < (c + 1) * 2 ^ w → X.log2 = c.log2 + w ∧ ∀ d, w < d → Ieee.Toward.even.cut false X d = c / 2 ^ (d - w) + (decide (2 ^ (d - w) ≤ 2 * (c % 2 ^ (d - w)))).toNat := by
    intro X x1 x2
    constructor
    · refine log2_of X _ ?_ ?_
      · rw [Nat.pow_add]
        exact Nat.le_trans (Nat.mul_le_mul_right _ h1) (Nat.le_of_lt x1)
      · rw [show c.log2 + w + 1 = c.log2 + 1 + w by omega, Nat.pow_add]
        exact Nat.lt_of_lt_of_le x2 (Nat.mul_le_mul_right _ h2)
    · intro d hd
      rw [cut_even_all]
      have hdiv : X / 2 ^ w = c := Nat.div_eq_of_lt_le (Nat.le_of_lt x1) x2
      have hdm := Nat.div_add_mod X (2 ^ w)
      rw [hdiv, Nat.mul_comm] at hdm
      have hlt := Nat.mod_lt X hp
      have e : 2 ^ d = 2 ^ w * 2 ^ (d - w) := by rw [← Nat.pow_add, show w + (d - w) = d by omega]
      have q1 : X / 2 ^ d = c / 2 ^ (d - w) := by rw [e, ← Nat.div_div_eq_div_mul, hdiv]
      have q2 : X % 2 ^ d = c % 2 ^ (d - w) * 2 ^ w + X % 2 ^ w := by
        rw [e, Nat.mod_mul, hdiv, Nat.mul_comm (2 ^ w)]; omega
      have hev : 2 ^ (d - w) = 2 * 2 ^ (d - w - 1) := by
        have hd1 : d - w = d - w - 1 + 1 := by omega
        conv => lhs; rw [hd1]
        rw [Nat.pow_succ, Nat.mul_comm]
      rw [q1, q2, e]
      have hr0 : 0 < X % 2 ^ w := by omega
      generalize X % 2 ^ w = ρ at *
      generalize c % 2 ^ (d - w) = h at *
      rw [hev]
      generalize 2 ^ (d - w - 1) = g at *
      generalize 2 ^ w = W at *
      have hb : (decide (W * (2 * g) < 2 * (h * W + ρ)) || (W * (2 * g) == 2 * (h * W + ρ) && c / (2 * g) % 2 == 1)) = decide (2 * g ≤ 2 * h) := by
        have eW : W * (2 * g) = 2 * (g * W) := by rw [Nat.mul_comm W, Nat.mul_assoc]
        rw [eW]
        by_cases hg : g ≤ h
        · have := Nat.mul_le_mul_right W hg
          rw [decide_eq_true (show 2 * g ≤ 2 * h by omega), decide_eq_true (show 2 * (g * W) < 2 * (h * W + ρ) by omega), Bool.true_or]
        · have := Nat.mul_le_mul_right W (show h + 1 ≤ g by omega)
          rw [Nat.add_mul, Nat.one_mul] at this
          have hne : (2 * (g * W) == 2 * (h * W + ρ)) = false := by rw [beq_eq_false_iff_ne]; omega
          rw [decide_eq_false (show ¬ 2 * g ≤ 2 * h by omega), decide_eq_false (show ¬ 2 * (g * W) < 2 * (h * W + ρ) by omega), hne]
          rfl
      rw [hb]
  obtain ⟨a1, a2⟩ := key N n1 n2
  obtain ⟨b1, b2⟩ := key M m1 m2
  unfold rk
  rw [a1, b1, a2 _ (by omega), b2 _ (by omega)]

/-- A quotient's digits, and one more that is 1 where anything is left over. -/
def fq (d n : Nat) : Nat := 2 * (d / n) + (d % n != 0).toNat
theorem qd_fq (m n more : Nat) : qd m n more = fq (m * 2 ^ more) n := rfl
/-- More digits are the same rung. -/
theorem fq_more (k d n w : Nat) (hn : 0 < n) (h : 9007199254740992 ≤ d / n) : rk k (fq d n * 2 ^ w) = rk k (fq (d * 2 ^ w) n) := by
  have hp : 0 < 2 ^ w := Nat.two_pow_pos w
  have hdm := Nat.div_add_mod d n
  have hlt := Nat.mod_lt d hn
  by_cases hz : d % n = 0
  · have e : d = d / n * n := by rw [hz, Nat.add_zero, Nat.mul_comm] at hdm; exact hdm.symm
    have e1 : d * 2 ^ w / n = d / n * 2 ^ w := by
      conv => lhs; rw [e]
      rw [Nat.mul_assoc, Nat.mul_comm n, ← Nat.mul_assoc, Nat.mul_div_cancel _ hn]
    have e2 : d * 2 ^ w % n = 0 := by
      conv => lhs; rw [e]
      rw [Nat.mul_assoc, Nat.mul_comm n, ← Nat.mul_assoc, Nat.mul_mod_left]
    unfold fq
    rw [hz, e1, e2]
    simp [Nat.mul_assoc]
  · have hs : fq d n = 2 * (d / n) + 1 := by unfold fq; rw [show (d % n != 0) = true by simp [hz]]; rfl
    have hw1 : 2 ^ (w + 1) = 2 * 2 ^ w := by rw [Nat.pow_succ, Nat.mul_comm]
    have hx1 : (2 * (d / n) + 1) * 2 ^ w = d / n * (2 * 2 ^ w) + 2 ^ w := by
      rw [Nat.add_mul, Nat.one_mul, Nat.mul_comm 2, Nat.mul_assoc]
    have hx2 : (d / n + 1) * (2 * 2 ^ w) = d / n * (2 * 2 ^ w) + 2 * 2 ^ w := by rw [Nat.add_mul, Nat.one_mul]
    refine rk_const k (d / n) (w + 1) _ _ h ?_ ?_ ?_ ?_
    · rw [hs, hw1, hx1]; omega
    · rw [hs, hw1, hx1, hx2]; omega
    · -- below
      have hdm2 := Nat.div_add_mod (d * 2 ^ w) n
      have hlo : d / n * 2 ^ w ≤ d * 2 ^ w / n := by
        rw [Nat.le_div_iff_mul_le hn, Nat.mul_assoc, Nat.mul_comm (2 ^ w), ← Nat.mul_assoc]
        refine Nat.mul_le_mul_right _ ?_
        rw [Nat.mul_comm]; omega
      rw [hw1, Nat.mul_left_comm]
      unfold fq
      rcases Nat.eq_or_lt_of_le hlo with e | e
      · have hne : d * 2 ^ w % n ≠ 0 := by
          intro h0
          rw [h0, Nat.add_zero, ← e] at hdm2
          have : n * (d / n) * 2 ^ w = d * 2 ^ w := by rw [Nat.mul_assoc]; exact hdm2
          have := Nat.eq_of_mul_eq_mul_right hp this
          omega
        rw [show (d * 2 ^ w % n != 0) = true by simp [hne], ← e]
        simp
      · omega
    · have hup : d * 2 ^ w / n < (d / n + 1) * 2 ^ w := by
        rw [Nat.div_lt_iff_lt_mul hn, Nat.mul_assoc, Nat.mul_comm (2 ^ w), ← Nat.mul_assoc]
        refine (Nat.mul_lt_mul_right hp).2 ?_
        rw [Nat.add_mul, Nat.one_mul, Nat.mul_comm (d / n)]; omega
      rw [hw1, Nat.mul_left_comm]
      unfold fq
      have : (d * 2 ^ w % n != 0).toNat ≤ 1 := Bool.toNat_le _
      omega
theorem fq_scale (d n w : Nat) : fq (d * 2 ^ w) (n * 2 ^ w) = fq d n := by
  have hp : 0 < 2 ^ w := Nat.two_pow_pos w
  unfold fq
  rw [Nat.mul_div_mul_right _ _ hp, Nat.mul_mod_mul_right]
  have : (d % n * 2 ^ w != 0) = (d % n != 0) := by
    rw [Bool.eq_iff_iff, bne_iff_ne, bne_iff_ne]
    exact ⟨fun h h' => h (by rw [h']; simp), fun h h' => h (by rcases Nat.mul_eq_zero.1 h' with k | k; exact k; omega)⟩
  rw [this]
theorem fq_mono (d1 n1 d2 n2 : Nat) (h1 : 0 < n1) (h2 : 0 < n2) (h : d1 * n2 ≤ d2 * n1) : fq d1 n1 ≤ fq d2 n2 := by
  have a := Nat.div_add_mod d1 n1
  have b := Nat.div_add_mod d2 n2
  have la := Nat.mod_lt d1 h1
  have lb := Nat.mod_lt d2 h2
  have hq : d1 / n1 ≤ d2 / n2 := by
    rw [Nat.le_div_iff_mul_le h2]
    have h3 : n1 * (d1 / n1) ≤ d1 := by omega
    have h4 : d1 / n1 * n2 * n1 ≤ d2 * n1 := by
      calc d1 / n1 * n2 * n1 = n1 * (d1 / n1) * n2 := by simp only [Nat.mul_comm, Nat.mul_left_comm]
        _ ≤ d1 * n2 := Nat.mul_le_mul_right _ h3
        _ ≤ d2 * n1 := h
    exact Nat.le_of_mul_le_mul_right h4 h1
  unfold fq
  have t1 : (d1 % n1 != 0).toNat ≤ 1 := Bool.toNat_le _
  rcases Nat.eq_or_lt_of_le hq with e | e
  · by_cases hz : d2 % n2 = 0
    · have hz1 : d1 % n1 = 0 := by
        rcases Nat.eq_zero_or_pos (d1 % n1) with k | k
        · exact k
        · exfalso
          have h5 : n1 * (d2 / n2) * n2 < d1 * n2 := (Nat.mul_lt_mul_right h2).2 (by rw [← e]; omega)
          have h6 : d2 * n1 = n1 * (d2 / n2) * n2 := by
            rw [hz, Nat.add_zero] at b
            conv => lhs; rw [← b]
            simp only [Nat.mul_comm, Nat.mul_left_comm]
          omega
      rw [hz1, hz, e]; exact Nat.le_refl _
    · rw [show (d2 % n2 != 0) = true by simp [hz], e]
      simp only [Bool.toNat_true]
      omega
  · omega

/-- A quotient as one rounding, at any place that is fine enough. -/
theorem quo_any (a b : Nat) (ha : Fin' a) (hb : Fin' b) (h0 : rg b ≠ 0) (hA : rg a ≠ 0) : ∃ K0, ∀ j, fo .quo a b = Ieee.double.word (neg' a ^^ neg' b) (rk (K0 + j + 1) (fq (mag (rg a) * U * 2 ^ (K0 + j)) (mag (rg b)))) := by
  have hs : 0 < sig (rg b) := by unfold sig; split <;> omega
  have hm : sig (rg a) ≠ 0 := by unfold sig; split <;> omega
  have hs0 : sig (rg b) ≠ 0 := by omega
  have hmag := mag_eq (rg a)
  have hmagb := mag_eq (rg b)
  have hq := quo_fin a b ha hb h0
  have l1 : 2 ^ (sig (rg a)).log2 ≤ sig (rg a) := Nat.log2_self_le hm
  have l2 : sig (rg b) < 2 ^ ((sig (rg b)).log2 + 1) := Nat.lt_log2_self
  have l3 := sig_log_le (rg a)
  have hbig : 9007199254740992 ≤ sig (rg a) * 2 ^ (54 + (sig (rg b)).log2 - (sig (rg a)).log2) / sig (rg b) := by
    rw [Nat.le_div_iff_mul_le hs]
    have e53 : (9007199254740992 : Nat) = 2 ^ 53 := by decide
    have h3 : 2 ^ 53 * sig (rg b) ≤ 2 ^ 53 * 2 ^ ((sig (rg b)).log2 + 1) := Nat.mul_le_mul_left _ (Nat.le_of_lt l2)
    have h4 : 2 ^ (sig (rg a)).log2 * 2 ^ (54 + (sig (rg b)).log2 - (sig (rg a)).log2) ≤ sig (rg a) * 2 ^ (54 + (sig (rg b)).log2 - (sig (rg a)).log2) := Nat.mul_le_mul_right _ l1
    rw [← Nat.pow_add] at h3 h4
    have h5 : 53 + ((sig (rg b)).log2 + 1) = (sig (rg a)).log2 + (54 + (sig (rg b)).log2 - (sig (rg a)).log2) := by omega
    rw [h5] at h3
    rw [e53]
    exact Nat.le_trans h3 h4
  refine ⟨rg b / 4503599627370496 - 1 + (54 + (sig (rg b)).log2 - (sig (rg a)).log2), fun j => ?_⟩
  rw [hq]
  refine congrArg (Ieee.double.word (neg' a ^^ neg' b)) ?_
  generalize 54 + (sig (rg b)).log2 - (sig (rg a)).log2 = more at *
  generalize rg a / 4503599627370496 - 1 = p at *
  generalize rg b / 4503599627370496 - 1 = q at *
  have e1 : qd (sig (rg a)) (sig (rg b)) more * 2 ^ p * U = fq (sig (rg a) * 2 ^ more) (sig (rg b)) * 2 ^ (p + eU) := by
    rw [qd_fq, Nat.pow_add, ← Nat.mul_assoc]; rfl
  rw [e1, ← rk_scale (q + more + 1) _ j, Nat.mul_assoc, ← Nat.pow_add, fq_more _ _ _ _ hs hbig]
  have e2 : q + more + 1 + j = q + more + j + 1 := by omega
  rw [e2]
  refine congrArg (rk (q + more + j + 1)) ?_
  rw [← fq_scale _ (sig (rg b)) q, ← hmagb, hmag]
  refine congrArg (fun t => fq t (mag (rg b))) ?_
  show sig (rg a) * 2 ^ more * 2 ^ (p + eU + j) * 2 ^ q = sig (rg a) * 2 ^ p * 2 ^ eU * 2 ^ (q + more + j)
  simp only [Nat.pow_add]
  simp only [Nat.mul_assoc, Nat.mul_comm, Nat.mul_left_comm]

/-- A quotient rises with its dividend and falls with its divisor. -/
theorem quo_mono (a b c d : Nat) (ha : Fin' a) (hb : Fin' b) (hc : Fin' c) (hd : Fin' d) (hb0 : rg b ≠ 0) (hd0 : rg d ≠ 0) (h : mag (rg a) * mag (rg d) ≤ mag (rg c) * mag (rg b)) : rg (fo .quo a b) ≤ rg (fo .quo c d) := by
  have mpos : ∀ r, r ≠ 0 → 0 < mag r := fun r hr => by
    have := mag_lt (show 0 < r by omega)
    rwa [mag_zero] at this
  by_cases ha0 : rg a = 0
  · have hq := quo_fin a b ha hb hb0
    have hs0 : sig 0 = 0 := by decide
    have hqd : ∀ m nn, qd 0 nn m = 0 := fun m nn => by unfold qd; rw [Nat.zero_mul, Nat.zero_div, Nat.zero_mod]; rfl
    rw [ha0, hs0] at hq
    simp only [hqd, Nat.zero_mul] at hq
    rw [rk_nought] at hq
    have : rg (fo .quo a b) = 0 := by rw [hq]; exact (word_num _ 0 (by omega)).2.2.1
    rw [this]; exact Nat.zero_le _
  · have hc0 : rg c ≠ 0 := by
      intro hc0
      rw [hc0, mag_zero, Nat.zero_mul] at h
      have := Nat.mul_pos (mpos _ ha0) (mpos _ hd0)
      omega
    obtain ⟨K1, h1⟩ := quo_any a b ha hb hb0 ha0
    obtain ⟨K2, h2⟩ := quo_any c d hc hd hd0 hc0
    have e1 := h1 K2
    have e2 := h2 K1
    rw [e1, e2]
    have r1 : ∀ s K N, rg (Ieee.double.word s (rk K N)) = rk K N := fun s K N => (word_num s _ (rk_inf K N)).2.2.1
    rw [r1, r1, Nat.add_comm K2 K1]
    refine rk_mono _ _ _ (fq_mono _ _ _ _ (mpos _ hb0) (mpos _ hd0) ?_)
    have := Nat.mul_le_mul_right (U * 2 ^ (K1 + K2)) h
    calc mag (rg a) * U * 2 ^ (K1 + K2) * mag (rg d) = mag (rg a) * mag (rg d) * (U * 2 ^ (K1 + K2)) := by simp only [Nat.mul_assoc, Nat.mul_comm, Nat.mul_left_comm]
      _ ≤ mag (rg c) * mag (rg b) * (U * 2 ^ (K1 + K2)) := this
      _ = mag (rg c) * U * 2 ^ (K1 + K2) * mag (rg b) := by simp only [Nat.mul_assoc, Nat.mul_comm, Nat.mul_left_comm]

end Go.Proofs.Ytefpaagbopmmlaa
