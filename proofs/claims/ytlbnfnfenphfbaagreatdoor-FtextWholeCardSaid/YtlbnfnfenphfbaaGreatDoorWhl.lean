/- Proved: plain facts of a rounded number: rounded again it is the same, it is not farther than a half, its int's float is it, and a nought that comes of it has the number's sign. -/
import Derived.Test.YtlbnfnfenphfbaaGreatDoorInt
namespace Go.Proofs.YtlbnfnfenphfbaaGreatDoor
open Go.RowKit Fl Tx

theorem sr_word (s : Bool) (t : Nat) (h : t ≤ 9218868437227405312) : sr (Ieee.double.word s t) = (if s then -(t : Int) else t) ∧ Ieee.double.word s t < 18446744073709551616 ∧ isN (Ieee.double.word s t) = false ∧ Ieee.double.word s t % 9223372036854775808 = t := by
  rw [word_eq]
  cases s
  · refine ⟨?_, ?_, isN_of _ ?_, ?_⟩
    · unfold sr; simp; omega
    · simp; omega
    · simp; omega
    · simp; omega
  · refine ⟨?_, ?_, isN_of _ ?_, ?_⟩
    · unfold sr; simp; omega
    · simp; omega
    · simp; omega
    · simp; omega

theorem word_sign (s : Bool) (t : Nat) (h : t < 9223372036854775808) : decide (9223372036854775808 ≤ Ieee.double.word s t) = s := by
  rw [word_eq]
  cases s
  · simp; omega
  · simp

theorem rnd_fin (b : Nat) (hb : b < 18446744073709551616) (hf : b % 9223372036854775808 < 9218868437227405312) :
    ∃ t, mag t = ie (mag (b % 9223372036854775808)) * U ∧ t < 9218868437227405312 ∧ rndW b = Ieee.double.word (decide (9223372036854775808 ≤ b)) t := by
  obtain ⟨t, ht, htl, hw⟩ := enc_even b hb hf
  exact ⟨t, ht, htl, (rnd_num b hb (isN_of b (by omega))).1.trans hw⟩

theorem rnd_rnd (b : Nat) (hb : b < 18446744073709551616) : rndW (rndW b) = rndW b := by
  by_cases hn : isN b = true
  · have : rndW b = 9221120237041090560 := by unfold rndW; rw [if_pos hn]
    rw [this]
    unfold rndW; rw [if_pos (by decide)]
  · have hn : isN b = false := by simpa using hn
    have hm : ¬ 9218868437227405312 < b % 9223372036854775808 := by simpa [isN] using hn
    by_cases hf : b % 9223372036854775808 = 9218868437227405312
    · have : rndW b = b := (rnd_num b hb hn).1.trans (enc_inf b hb hf .even)
      rw [this, this]
    · obtain ⟨t, ht, htl, hw⟩ := rnd_fin b hb (by omega)
      obtain ⟨_, h2, h3, h4⟩ := sr_word (decide (9223372036854775808 ≤ b)) t (by omega)
      rw [hw]
      obtain ⟨u, hu, hul, hv⟩ := rnd_fin _ h2 (by rw [h4]; omega)
      rw [hv, word_sign _ _ (by omega)]
      rw [h4, ht, ie_whole, ← ht] at hu
      rw [mag_inj hu]

theorem half_mag : 2 * mag 4602678819172646912 = U := by
  obtain ⟨x, hx⟩ : ∃ x : Nat, x = 4602678819172646912 / 4503599627370496 - 1 := ⟨_, rfl⟩
  have he : eU = 53 + x := by rw [eU_eq, hx]
  unfold mag U
  rw [if_neg (by decide), ← hx, he, Nat.pow_add, ← Nat.mul_assoc]

/-- What is rounded less what it was: not more than a half, on either side. -/
theorem rnd_less (b : Nat) (hb : b < 18446744073709551616) (hf : b % 9223372036854775808 < 9218868437227405312) :
    ∃ d, floatBits .sub .f64 (rndW b) b = some d ∧ (FloatKind.f64.format.order d 4602678819172646912 == some .gt) = false ∧ (FloatKind.f64.format.order d 13826050856027422720 == some .lt) = false := by
  obtain ⟨t, ht, htl, hw⟩ := rnd_fin b hb hf
  obtain ⟨_, h2, h3, h4⟩ := sr_word (decide (9223372036854775808 ≤ b)) t (by omega)
  rw [← hw] at h2 h3 h4
  have hsub := sub_fin (rndW b) b h2 hb (by rw [h4]; omega) hf
  have hnear := ie_near (mag (b % 9223372036854775808))
  rw [← ht] at hnear
  have hsgn : (rndW b < 9223372036854775808) = (b < 9223372036854775808) := by
    have := word_sign (decide (9223372036854775808 ≤ b)) t (by omega)
    rw [← hw] at this
    apply propext
    have h5 : 9223372036854775808 ≤ rndW b ↔ 9223372036854775808 ≤ b := by simpa using this
    omega
  have hle : (sm (rndW b) - sm b).natAbs ≤ mag 4602678819172646912 := by
    have hh := half_mag
    unfold sm
    rw [h4]
    by_cases hs : b < 9223372036854775808
    · rw [if_pos (by rw [hsgn]; exact hs), if_pos hs]; omega
    · rw [if_neg (by rw [hsgn]; exact hs), if_neg hs]; omega
  have hrr := rr_le _ _ hle
  obtain ⟨s, hs⟩ : ∃ s, s = (if sm (rndW b) - sm b = 0 then decide (9223372036854775808 ≤ rndW b) && !decide (9223372036854775808 ≤ b) else decide (sm (rndW b) - sm b < 0)) := ⟨_, rfl⟩
  rw [← hs] at hsub
  obtain ⟨k1, k2, k3, _⟩ := sr_word s (rr (sm (rndW b) - sm b).natAbs) (by omega)
  generalize rr (sm (rndW b) - sm b).natAbs = u at hsub hrr k1 k2 k3
  have a1 : sr 4602678819172646912 = 4602678819172646912 := by decide
  have a2 : sr 13826050856027422720 = -4602678819172646912 := by decide
  have k1' : -4602678819172646912 ≤ sr (Ieee.double.word s u) ∧ sr (Ieee.double.word s u) ≤ 4602678819172646912 := by rw [k1]; split <;> omega
  refine ⟨_, hsub, ?_, ?_⟩
  · rcases Int.lt_or_eq_of_le k1'.2 with h | h
    · rw [ord_lt _ _ k2 (by decide) k3 (by decide) (by rw [a1]; exact h)]; rfl
    · rw [ord_eq _ _ k2 (by decide) k3 (by decide) (by rw [a1]; exact h)]; rfl
  · rcases Int.lt_or_eq_of_le k1'.1 with h | h
    · rw [ord_gt _ _ k2 (by decide) k3 (by decide) (by rw [a2]; exact h)]; rfl
    · rw [ord_eq _ _ k2 (by decide) k3 (by decide) (by rw [a2]; exact h.symm)]; rfl

/-- One by a number of at most a half, on either side, has its sign. -/
theorem quo_small (b : Nat) (hb : b < 18446744073709551616) (hf : b % 9223372036854775808 < 9218868437227405312) (h0 : b % 9223372036854775808 ≠ 0) (hs : 2 * mag (b % 9223372036854775808) ≤ U) :
    ∃ t, 0 < t ∧ t ≤ 9218868437227405312 ∧ floatBits .quo .f64 4607182418800017408 b = some (Ieee.double.word (decide (9223372036854775808 ≤ b)) t) := by
  obtain ⟨r, hr⟩ : ∃ r, r = b % 9223372036854775808 := ⟨_, rfl⟩
  have hd := dec_fin b hb hf
  rw [← hr] at hd h0 hs hf
  have h1 := dec_fin 4607182418800017408 (by decide) (by decide)
  rw [show (4607182418800017408 % 9223372036854775808 : Nat) = 4607182418800017408 by decide, show sig 4607182418800017408 = 4503599627370496 by decide, show ((4607182418800017408 / 4503599627370496 - 1 : Nat) : Int) = 1022 by decide, show decide (9223372036854775808 ≤ 4607182418800017408) = false by decide] at h1
  obtain ⟨n, hn⟩ : ∃ n, n = sig r := ⟨_, rfl⟩
  obtain ⟨q, hq⟩ : ∃ q, q = r / 4503599627370496 - 1 := ⟨_, rfl⟩
  have hn0 : n ≠ 0 := by rw [hn]; unfold sig; split <;> omega
  rw [← hn, ← hq] at hd
  have hm : mag r = n * 2 ^ q := by rw [mag_eq, hn, hq]
  have hlog : n.log2 + q + 1 ≤ 1074 := by
    have e : 2 ^ (n.log2 + q + 1) ≤ 2 ^ eU := by
      have a : 2 ^ n.log2 ≤ n := Nat.log2_self_le hn0
      have b : 2 ^ n.log2 * 2 ^ q ≤ n * 2 ^ q := Nat.mul_le_mul_right _ a
      rw [Nat.pow_succ, Nat.pow_add]
      unfold U at hs
      rw [hm] at hs
      omega
    have := (Nat.pow_le_pow_iff_right (by decide : 1 < 2)).1 e
    rw [eU_eq] at this
    exact this
  have hm52 : (4503599627370496 : Nat).log2 = 52 := log2_of _ 52 (by decide) (by decide)
  show ∃ t, 0 < t ∧ t ≤ 9218868437227405312 ∧ ((FloatKind.f64.decode 4607182418800017408).quotient (Ieee.double.fractionBits + 2) (FloatKind.f64.decode b)).map Ieee.double.write = _
  rw [h1, hd]
  have hfb : Ieee.double.fractionBits + 2 = 54 := by decide
  rw [hfb]
  simp only [Ieee.Datum.quotient]
  rw [if_neg hn0]
  simp only [Option.map_some, Bool.false_xor, hm52, Ieee.Format.write]
  have hmore : 54 + n.log2 - 52 = n.log2 + 2 := by omega
  rw [hmore]
  obtain ⟨D, hD⟩ : ∃ D, D = 4503599627370496 <<< (n.log2 + 2) := ⟨_, rfl⟩
  have hDp : D = 2 ^ (54 + n.log2) := by
    rw [hD, Nat.shiftLeft_eq, show (4503599627370496 : Nat) = 2 ^ 52 by decide, ← Nat.pow_add]
    congr 1; omega
  rw [← hD]
  obtain ⟨M, hM⟩ : ∃ M, M = 2 * (D / n) + (D % n != 0).toNat := ⟨_, rfl⟩
  rw [← hM]
  have hDn : 2 ^ 53 ≤ D / n := by
    rw [Nat.le_div_iff_mul_le (by omega), hDp]
    have : n < 2 ^ (n.log2 + 1) := Nat.lt_log2_self
    have h2 : 2 ^ 53 * n ≤ 2 ^ 53 * 2 ^ (n.log2 + 1) := Nat.mul_le_mul_left _ (by omega)
    rw [← Nat.pow_add, show 53 + (n.log2 + 1) = 54 + n.log2 by omega] at h2
    exact h2
  have hM1 : 2 ^ 54 ≤ M := by rw [hM]; omega
  have hM0 : M ≠ 0 := by omega
  have hMl : 54 ≤ M.log2 := (Nat.le_log2 hM0).2 hM1
  unfold Ieee.Format.nearest
  rw [if_neg hM0]
  have e1 : Ieee.double.leastPlace = -1074 := place_eq
  have e2 : Ieee.double.binade = 4503599627370496 := by decide
  have e3 : Ieee.double.infRung = 9218868437227405312 := by decide
  have e4 : (Ieee.double.fractionBits : Int) = 52 := by decide
  rw [e1, e2, e3, e4]
  dsimp only
  refine ⟨_, ?_, Nat.min_le_right _ _, rfl⟩
  have hbig : 1 ≤ (max (-1074 + 1022 - (-1074 + (q : Int)) - ((n.log2 + 2 : Nat) : Int) - 1 + (M.log2 : Int) - 52) (-1074) - -1074).toNat := by omega
  rw [Nat.lt_min]
  refine ⟨?_, by decide⟩
  generalize (max (-1074 + 1022 - (-1074 + (q : Int)) - ((n.log2 + 2 : Nat) : Int) - 1 + (M.log2 : Int) - 52) (-1074) - -1074).toNat = z at hbig
  omega

theorem quo_nought (s : Bool) : floatBits .quo .f64 4607182418800017408 (Ieee.double.word s 0) = some (Ieee.double.word s 9218868437227405312) := by
  cases s <;> decide +kernel

/-- A nought that comes of rounding: one by it and one by the number are on one side of nought. -/
theorem nought_sign (b : Nat) (hb : b < 18446744073709551616) (hf : b % 9223372036854775808 < 9218868437227405312) (h0 : rndW b % 9223372036854775808 = 0) :
    ∃ p q, floatBits .quo .f64 4607182418800017408 (rndW b) = some p ∧ floatBits .quo .f64 4607182418800017408 b = some q ∧
      (((FloatKind.f64.format.order p 0 = some .lt) ∧ (FloatKind.f64.format.order q 0 = some .lt)) ∨ ((FloatKind.f64.format.order p 0 = some .gt) ∧ (FloatKind.f64.format.order q 0 = some .gt))) := by
  obtain ⟨t, ht, htl, hw⟩ := rnd_fin b hb hf
  have h4 := (sr_word (decide (9223372036854775808 ≤ b)) t (by omega)).2.2.2
  rw [hw, h4] at h0
  subst h0
  have hq : ∃ u, 0 < u ∧ u ≤ 9218868437227405312 ∧ floatBits .quo .f64 4607182418800017408 b = some (Ieee.double.word (decide (9223372036854775808 ≤ b)) u) := by
    by_cases hz : b % 9223372036854775808 = 0
    · refine ⟨9218868437227405312, by decide, Nat.le_refl _, ?_⟩
      have := word_parts b hb
      rw [hz] at this
      have h2 := quo_nought (decide (9223372036854775808 ≤ b))
      rw [this] at h2
      exact h2
    · refine quo_small b hb hf hz ?_
      have hU := U_pos
      have hk : ie (mag (b % 9223372036854775808)) = 0 := by
        rcases Nat.mul_eq_zero.1 (ht.symm.trans mag_zero) with k | k
        · exact k
        · omega
      have := ie_near (mag (b % 9223372036854775808))
      rw [hk] at this
      omega
  obtain ⟨u, hu0, hul, hu⟩ := hq
  refine ⟨_, _, by rw [hw]; exact quo_nought _, hu, ?_⟩
  obtain ⟨k1, k2, k3, _⟩ := sr_word (decide (9223372036854775808 ≤ b)) 9218868437227405312 (Nat.le_refl _)
  obtain ⟨j1, j2, j3, _⟩ := sr_word (decide (9223372036854775808 ≤ b)) u hul
  have z : sr 0 = 0 := by decide
  by_cases hs : 9223372036854775808 ≤ b
  · left
    rw [decide_eq_true hs] at k1 k2 k3 j1 j2 j3 ⊢
    simp only [if_true] at k1 j1
    exact ⟨ord_lt _ _ k2 (by decide) k3 (by decide) (by rw [z, k1]; omega), ord_lt _ _ j2 (by decide) j3 (by decide) (by rw [z, j1]; omega)⟩
  · right
    rw [decide_eq_false hs] at k1 k2 k3 j1 j2 j3 ⊢
    simp only [Bool.false_eq_true, if_false] at k1 j1
    exact ⟨ord_gt _ _ k2 (by decide) k3 (by decide) (by rw [z, k1]; omega), ord_gt _ _ j2 (by decide) j3 (by decide) (by rw [z, j1]; omega)⟩

/-- A rounded number as an int: within 2^53 on either side it is one, whose float is it; else none. -/
theorem rnd_int (b : Nat) (hb : b < 18446744073709551616) (hf : b % 9223372036854775808 < 9218868437227405312) :
    (∃ m, intV (rndW b) = some m ∧ FloatKind.f64.format.order (floatOfInt .f64 m) (rndW b) = some .eq ∧ (FloatKind.f64.format.order (rndW b) 14069245235905429504 == some .gt || FloatKind.f64.format.order (rndW b) 14069245235905429504 == some .eq) = true ∧
      (FloatKind.f64.format.order (rndW b) 4845873199050653696 == some .lt || FloatKind.f64.format.order (rndW b) 4845873199050653696 == some .eq) = true) ∨
    (intV (rndW b) = none ∧ FloatKind.f64.format.order (rndW b) 14069245235905429504 = some .lt ∧ rndW b % 9223372036854775808 ≠ 0) ∨
    (intV (rndW b) = none ∧ FloatKind.f64.format.order (rndW b) 14069245235905429504 = some .gt ∧ FloatKind.f64.format.order (rndW b) 4845873199050653696 = some .gt ∧ rndW b % 9223372036854775808 ≠ 0) := by
  obtain ⟨t, ht, htl, hw⟩ := rnd_fin b hb hf
  obtain ⟨s, hs⟩ : ∃ s, s = decide (9223372036854775808 ≤ b) := ⟨_, rfl⟩
  rw [← hs] at hw
  obtain ⟨k1, k2, k3, k4⟩ := sr_word s t (by omega)
  have ksg := word_sign s t (by omega)
  rw [← hw] at k1 k2 k3 k4 ksg
  have hU := U_pos
  have hm0 : mag t % U = 0 := by rw [ht]; exact Nat.mul_mod_left _ _
  have hmd : mag t / U = ie (mag (b % 9223372036854775808)) := by rw [ht]; exact Nat.mul_div_cancel _ hU
  generalize rndW b = R at *
  by_cases hr : t ≤ 4845873199050653696
  · left
    have hsm := small_units t hr
    rw [hmd] at hsm
    generalize ie (mag (b % 9223372036854775808)) = K at *
    have hi : intV R = some (if s then -(K : Int) else (K : Int)) := by
      unfold intV
      rw [k4, if_neg (by omega), if_pos hm0, hmd]
      cases s
      · have : ¬ 9223372036854775808 ≤ R := by simpa using ksg
        rw [if_neg this]; rfl
      · have : 9223372036854775808 ≤ R := by simpa using ksg
        rw [if_pos this]; rfl
    refine ⟨_, hi, ?_, ?_, ?_⟩
    · obtain ⟨u, hu, hul, hv⟩ := whole_word (if s then -(K : Int) else (K : Int)).natAbs (by cases s <;> simp <;> omega)
      have hab : (if s then -(K : Int) else (K : Int)).natAbs = K := by cases s <;> simp
      rw [hab, ← ht] at hu
      have hut := mag_inj hu
      subst hut
      have he : floatOfInt .f64 (if s then -(K : Int) else (K : Int)) = Ieee.double.word (decide ((if s then -(K : Int) else (K : Int)) < 0)) u := hv _
      rw [he]
      obtain ⟨j1, j2, j3, j4⟩ := sr_word (decide ((if s then -(K : Int) else (K : Int)) < 0)) u (by omega)
      refine ord_eq _ _ j2 k2 j3 k3 ?_
      rw [j1, k1]
      cases s
      · have : decide ((if false = true then -(K : Int) else (K : Int)) < 0) = false := by simp
        rw [this]
      · by_cases h0 : K = 0
        · have hu0 : u = 0 := by
            rw [h0, Nat.zero_mul] at ht
            exact mag_inj (ht.trans mag_zero.symm)
          rw [hu0]; simp
        · have : decide ((if true = true then -(K : Int) else (K : Int)) < 0) = true := by simp; omega
          rw [this]
    · have hl : -4845873199050653696 ≤ sr R := by rw [k1]; split <;> omega
      rcases Int.lt_or_eq_of_le hl with h | h
      · rw [ord_gt _ _ k2 (by decide) k3 (by decide) (by rw [sr_lo]; exact h)]; rfl
      · rw [ord_eq _ _ k2 (by decide) k3 (by decide) (by rw [sr_lo]; exact h.symm)]; rfl
    · have hl : sr R ≤ 4845873199050653696 := by rw [k1]; split <;> omega
      rcases Int.lt_or_eq_of_le hl with h | h
      · rw [ord_lt _ _ k2 (by decide) k3 (by decide) (by rw [sr_hi]; exact h)]; rfl
      · rw [ord_eq _ _ k2 (by decide) k3 (by decide) (by rw [sr_hi]; exact h)]; rfl
  · right
    have hi : intV R = none := by unfold intV; rw [k4, if_pos (by omega)]
    cases s
    · right
      simp only [Bool.false_eq_true, if_false] at k1
      exact ⟨hi, ord_gt _ _ k2 (by decide) k3 (by decide) (by rw [sr_lo, k1]; omega), ord_gt _ _ k2 (by decide) k3 (by decide) (by rw [sr_hi, k1]; omega), by rw [k4]; omega⟩
    · left
      simp only [if_true] at k1
      exact ⟨hi, ord_lt _ _ k2 (by decide) k3 (by decide) (by rw [sr_lo, k1]; omega), by rw [k4]; omega⟩

end Go.Proofs.YtlbnfnfenphfbaaGreatDoor
