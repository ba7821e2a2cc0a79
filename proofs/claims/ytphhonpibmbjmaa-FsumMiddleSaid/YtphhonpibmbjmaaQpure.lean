/- Proved: plain facts of a quantile: where its part falls among so many numbers, and the plain function that it is. -/
import Derived.Test.YtphhonpibmbjmaaMono
import Derived.Test.YtphhonpibmbjmaaRnw
import Derived.Test.YtphhonpibmbjmaaInsert
namespace Go.Proofs.Ytphhonpibmbjmaa
open Go.RowKit Fl

theorem kb_of_nan (b : Nat) (h : isN b = true) : kb b = 18444492273895866368 := by unfold kb; rw [cb_nan b h]; decide
theorem kb_below (b : Nat) (hb : b < 18446744073709551616) (h : isN b = false) : kb b < 18444492273895866368 := by
  have hm : ¬ 9218868437227405312 < b % 9223372036854775808 := by simpa [isN] using h
  unfold kb
  rw [cb_num b h]
  split <;> omega
theorem nan_top (y x : Nat) (hx : x < 18446744073709551616) (hy : isN y = true) (h : kb y ≤ kb x) : isN x = true := by
  cases hn : isN x
  · have := kb_below x hx hn
    rw [kb_of_nan y hy] at h; omega
  · rfl

/-- A part that is none, or not from 0 to 1. -/
def Bad (q : Nat) : Prop := isN q = true ∨ sr q < 0 ∨ 4607182418800017408 < sr q
theorem mag_one : mag 4607182418800017408 = U := by
  obtain ⟨x, hx⟩ : ∃ x : Nat, x = 4607182418800017408 / 4503599627370496 - 1 := ⟨_, rfl⟩
  have he : eU = 52 + x := by rw [eU_eq, hx]
  unfold mag U
  rw [if_neg (by decide), ← hx, he, Nat.pow_add]
theorem int_word (j : Nat) (h : j ≤ 9007199254740992) : ∃ t, mag t = j * U ∧ t ≤ 4845873199050653696 ∧ floatOfInt .f64 (j : Int) = t := by
  obtain ⟨t, ht, hl, hw⟩ := whole_word j h
  refine ⟨t, ht, hl, ?_⟩
  have : floatOfInt .f64 (j : Int) = Ieee.double.write (.number (decide ((j : Int) < 0)) (j : Int).natAbs 0) := rfl
  rw [this, Int.natAbs_natCast, hw, decide_eq_false (by omega)]
  rfl
theorem sr_pos (b : Nat) (h : b < 9223372036854775808) : sr b = b := by unfold sr; rw [if_pos h]
theorem good_parts {q : Nat} (hq : q < 18446744073709551616) (h : ¬ Bad q) : isN q = false ∧ Fin' q ∧ mag (rg q) ≤ U ∧ (neg' q = true → rg q = 0) ∧ 0 ≤ sr q ∧ sr q ≤ 4607182418800017408 := by
  have hn : isN q = false := by
    cases hn : isN q
    · rfl
    · exact absurd (.inl hn) h
  have h0 : 0 ≤ sr q := by
    rcases Int.lt_or_le (sr q) 0 with k | k
    · exact absurd (.inr (.inl k)) h
    · exact k
  have h1 : sr q ≤ 4607182418800017408 := by
    rcases Int.lt_or_le 4607182418800017408 (sr q) with k | k
    · exact absurd (.inr (.inr k)) h
    · exact k
  have hr : rg q ≤ 4607182418800017408 ∧ (neg' q = true → rg q = 0) := by
    unfold rg neg'
    unfold sr at h0 h1
    simp only [decide_eq_true_eq]
    split at h0
    · rw [if_pos (by assumption)] at h1
      constructor
      · omega
      · intro; omega
    · rw [if_neg (by assumption)] at h1
      constructor
      · omega
      · intro; omega
  refine ⟨hn, ⟨hq, ?_⟩, ?_, hr.2, h0, h1⟩
  · have := hr.1; unfold rg at this; omega
  · rw [← mag_one]; exact mag_le hr.1

theorem rk_nought (k : Nat) : rk k 0 = 0 := by
  have := rk_mag k 0 (by omega)
  rwa [mag_zero, Nat.zero_mul] at this
/-- Where a part falls among n numbers. -/
theorem k_facts (q n : Nat) (hq : q < 18446744073709551616) (hb : ¬ Bad q) (h0 : 0 < n) (hn : n ≤ 1000000) :
    Fin' (fo .mul q (floatOfInt .f64 ((n : Int) - 1))) ∧ mag (rg (fo .mul q (floatOfInt .f64 ((n : Int) - 1)))) ≤ (n - 1) * U ∧ (neg' (fo .mul q (floatOfInt .f64 ((n : Int) - 1))) = true → rg (fo .mul q (floatOfInt .f64 ((n : Int) - 1))) = 0) ∧
      rg (fo .mul q (floatOfInt .f64 ((n : Int) - 1))) = rk eU (mag (rg q) * ((n - 1) * U)) := by
  obtain ⟨t, ht, htl, hw⟩ := int_word (n - 1) (by omega)
  have e : ((n : Int) - 1) = ((n - 1 : Nat) : Int) := by omega
  rw [e, hw]
  obtain ⟨g1, g2, g3, g4, _⟩ := good_parts hq hb
  have rt : rg t = t := by unfold rg; omega
  have hm := mul_fin q t g2 ⟨by omega, by omega⟩
  rw [rt, ht] at hm
  have hr : rk eU (mag (rg q) * ((n - 1) * U)) ≤ t := by
    refine rk_le _ _ _ (by omega) ?_
    rw [ht, Nat.mul_comm]
    show (n - 1) * U * mag (rg q) ≤ (n - 1) * U * U
    exact Nat.mul_le_mul_left _ g3
  have hneg : neg' t = false := by unfold neg'; exact decide_eq_false (by omega)
  rw [hneg, Bool.xor_false] at hm
  obtain ⟨w1, w2, w3, w4⟩ := word_num (neg' q) (rk eU (mag (rg q) * ((n - 1) * U))) (by omega)
  have hrg : rg (fo .mul q t) = rk eU (mag (rg q) * ((n - 1) * U)) := by rw [hm]; exact w3
  refine ⟨⟨by rw [hm]; exact w2, ?_⟩, ?_, ?_, hrg⟩
  · have h9 : t < 9218868437227405312 := by omega
    have : rg (fo .mul q t) < 9218868437227405312 := by rw [hrg]; exact Nat.lt_of_le_of_lt hr h9
    unfold rg at this; exact this
  · have h8 := mag_le hr
    rw [ht] at h8
    rw [hrg]; exact h8
  · intro h
    have hq' : neg' (fo .mul q t) = neg' q := by rw [hm]; exact w4
    have : neg' q = true := by rw [← hq']; exact h
    rw [hrg, g4 this, mag_zero, Nat.zero_mul, rk_nought]

theorem fin_num {b : Nat} (h : Fin' b) : isN b = false := by unfold isN; exact decide_eq_false (by have := h.2; omega)
/-- What the floor of such a number is. -/
theorem floor_facts (K : Nat) (hK : Fin' K) (hneg : neg' K = true → rg K = 0) (hm : mag (rg K) / U ≤ 9007199254740992) :
    ∃ F, FloatKind.f64.encode ((FloatKind.f64.decode K).integral .down) = F ∧ Fin' F ∧ floatToIntVal .f64 F .i64 = some ((mag (rg K) / U : Nat) : Int) ∧
      (mag (rg K) % U = 0 → FloatKind.f64.format.order K F = some .eq ∧ FloatKind.f64.format.order (floatOfInt .f64 ((mag (rg K) / U : Nat) : Int)) K = some .eq) ∧
      (mag (rg K) % U ≠ 0 → FloatKind.f64.format.order K F = some .gt ∧ FloatKind.f64.format.order (floatOfInt .f64 ((mag (rg K) / U : Nat) : Int)) K = some .lt ∧ F = floatOfInt .f64 ((mag (rg K) / U : Nat) : Int)) := by
  obtain ⟨t, ht, htl, hw⟩ := whole_word (mag (rg K) / U) hm
  obtain ⟨t2, ht2, htl2, hw2⟩ := int_word (mag (rg K) / U) hm
  obtain rfl : t2 = t := mag_inj (by rw [ht, ht2])
  have hdm := Nat.div_add_mod (mag (rg K)) U
  rw [Nat.mul_comm] at hdm
  have hz : mag (rg K) % U ≠ 0 → neg' K = false := fun h => by
    cases hn : neg' K
    · rfl
    · rw [hneg hn, mag_zero, Nat.zero_mod] at h; exact absurd rfl h
  have hbit : (neg' K && mag (rg K) % U != 0).toNat = 0 := by
    by_cases h : mag (rg K) % U = 0
    · rw [h]; simp
    · rw [hz h]; rfl
  have hF : FloatKind.f64.encode ((FloatKind.f64.decode K).integral .down) = Ieee.double.word (neg' K) t2 := by
    rw [dec_fin K hK.1 hK.2, down_units, ← mag_eq]
    show Ieee.double.write (.number (neg' K) (mag (rg K) / U + (neg' K && mag (rg K) % U != 0).toNat) 0) = _
    rw [hbit, Nat.add_zero]
    exact hw _
  obtain ⟨w1, w2, w3, w4⟩ := word_num (neg' K) t2 (by omega)
  have hsK : sr K = rg K := by
    unfold sr
    have := hneg
    unfold neg' rg at this
    simp only [decide_eq_true_eq] at this
    unfold rg
    have := hK.1
    split <;> omega
  have ht0 : neg' K = true → t2 = 0 := fun h => by
    apply mag_inj
    rw [ht, hneg h, mag_zero, Nat.zero_div, Nat.zero_mul]
  have hsF : sr (Ieee.double.word (neg' K) t2) = t2 := by
    rw [sr_word' _ _ (by omega)]
    cases hn : neg' K
    · rfl
    · rw [ht0 hn]; rfl
  have hFf : Fin' (Ieee.double.word (neg' K) t2) := ⟨w2, by rw [w3]; omega⟩
  have hU := U_pos
  have hint : floatToIntVal .f64 (Ieee.double.word (neg' K) t2) .i64 = some ((mag (rg K) / U : Nat) : Int) := by
    refine (toInt_eq _ w2 _ ?_).1
    unfold intV
    rw [w3, if_neg (by omega), ht, Nat.mul_mod_left, if_pos rfl, Nat.mul_div_cancel _ hU]
    cases hn : neg' K
    · rw [hn] at w4
      rw [if_neg (by simpa using w4)]
    · rw [hn] at w4
      have : mag (rg K) / U = 0 := by rw [hneg hn, mag_zero, Nat.zero_div]
      rw [this]; simp
  have nK := fin_num hK
  have tn : isN t2 = false := fin_num (b := t2) ⟨by omega, by omega⟩
  refine ⟨_, hF, hFf, hint, fun h => ?_, fun h => ?_⟩
  · have e : t2 = rg K := mag_inj (by rw [ht]; omega)
    refine ⟨ord_eq K _ hK.1 w2 nK w1 (by rw [hsK, hsF, e]), ?_⟩
    rw [hw2]
    exact ord_eq t2 K (by omega) hK.1 tn nK (by rw [sr_pos t2 (by omega), hsK, e])
  · have e : t2 < rg K := by
      rcases Nat.lt_or_ge t2 (rg K) with k | k
      · exact k
      · have := mag_le k; omega
    refine ⟨ord_gt K _ hK.1 w2 nK w1 (by rw [hsK, hsF]; omega), ?_, ?_⟩
    · rw [hw2]
      exact ord_lt t2 K (by omega) hK.1 tn nK (by rw [sr_pos t2 (by omega), hsK]; omega)
    · rw [hw2, hz h]; rfl

/-- The lower and the upper of the two neighbours. -/
def qlo (R : List Nat) (i : Nat) : Nat := cb (R.getD i 0)
def qhi (R : List Nat) (i : Nat) : Nat := cb (R.getD (min (i + 1) (R.length - 1)) 0)
def qx (lo hi K i : Nat) : Nat := fo .add lo (fo .mul (fo .sub K (floatOfInt .f64 (i : Int))) (fo .sub hi lo))
open Classical in
/-- The number of a sorted list at a place. -/
noncomputable def qin (R : List Nat) (K : Nat) : Nat :=
  if qlo R (mag (rg K) / U) = qhi R (mag (rg K) / U) ∨ mag (rg K) % U = 0 then qlo R (mag (rg K) / U)
  else if isN (qx (qlo R (mag (rg K) / U)) (qhi R (mag (rg K) / U)) K (mag (rg K) / U)) = true then qlo R (mag (rg K) / U)
  else qx (qlo R (mag (rg K) / U)) (qhi R (mag (rg K) / U)) K (mag (rg K) / U)
open Classical in
/-- The quantile of a sorted list; nought where there is an error. -/
noncomputable def qa (R : List Nat) (q : Nat) : Nat :=
  if R.length = 0 then 0 else if Bad q then 0
  else if isN (R.getD (R.length - 1) 0) = true then 9221120237041090560
  else qin R (fo .mul q (floatOfInt .f64 ((R.length : Int) - 1)))
open Classical in
/-- Its error. -/
noncomputable def qc (n q : Nat) : Int := if n = 0 then 14 else if Bad q then 1 else 0

theorem qin_congr {R S : List Nat} (h : R.map cb = S.map cb) (K : Nat) : qin R K = qin S K := by
  have hl : R.length = S.length := by have := congrArg List.length h; simpa using this
  have at' : ∀ j, cb (R.getD j 0) = cb (S.getD j 0) := fun j => by
    have e : ∀ T : List Nat, cb (T.getD j 0) = (T.map cb).getD j (cb 0) := fun T => by
      simp only [List.getD_eq_getElem?_getD, List.getElem?_map]
      cases T[j]? <;> rfl
    rw [e R, e S, h]
  have a : ∀ i, qlo R i = qlo S i := fun i => at' i
  have b : ∀ i, qhi R i = qhi S i := fun i => by unfold qhi; rw [hl]; exact at' _
  unfold qin
  rw [a, b]
theorem qa_congr {R S : List Nat} (h : R.map cb = S.map cb) (q : Nat) : qa R q = qa S q := by
  have hl : R.length = S.length := by have := congrArg List.length h; simpa using this
  have hN : isN (R.getD (R.length - 1) 0) = isN (S.getD (S.length - 1) 0) := by
    rw [← isN_cb, ← isN_cb (S.getD _ _), hl]
    congr 1
    have e : ∀ T : List Nat, cb (T.getD (S.length - 1) 0) = (T.map cb).getD (S.length - 1) (cb 0) := fun T => by
      simp only [List.getD_eq_getElem?_getD, List.getElem?_map]
      cases T[S.length - 1]? <;> rfl
    rw [e R, e S, h]
  unfold qa
  rw [hN, hl, qin_congr h]
theorem sorts_cb {L R S : List Nat} (h : Sorts L R) (k : Sorts L S) : R.map cb = S.map cb := by
  have u := sorts_unique h k (List.Perm.refl _)
  have hl : R.length = S.length := by have := congrArg List.length u; simpa using this
  apply List.ext_getElem
  · simp [hl]
  · intro j h1 h2
    simp only [List.length_map] at h1 h2
    simp only [List.getElem_map]
    refine kb_inj _ _ (h.2.2 _ (List.getElem_mem h1)) (k.2.2 _ (List.getElem_mem h2)) ?_
    have := congrArg (fun T => T[j]?) u
    simpa [List.getElem?_eq_getElem h1, List.getElem?_eq_getElem h2] using this
theorem qa_unique {L R S : List Nat} (h : Sorts L R) (k : Sorts L S) (q : Nat) : qa R q = qa S q := qa_congr (sorts_cb h k) q

theorem sorts_kb {L R : List Nat} (h : Sorts L R) (i j : Nat) (hij : i ≤ j) (hj : j < R.length) : kb (R.getD i 0) ≤ kb (R.getD j 0) := by
  rcases Nat.eq_or_lt_of_le hij with e | e
  · rw [e]; exact Nat.le_refl _
  · have := h.1
    rw [List.pairwise_iff_getElem] at this
    have := this i j (by simp; omega) (by simpa using hj) e
    simpa [List.getD_eq_getElem?_getD, List.getElem?_eq_getElem (show i < R.length by omega), List.getElem?_eq_getElem hj] using this
theorem sorts_num {L R : List Nat} (h : Sorts L R) (hn : isN (R.getD (R.length - 1) 0) = false) (j : Nat) (hj : j < R.length) : isN (R.getD j 0) = false := by
  cases hN : isN (R.getD j 0)
  · rfl
  · have hm : R.getD (R.length - 1) 0 ∈ R := by
      rw [List.getD_eq_getElem?_getD, List.getElem?_eq_getElem (show R.length - 1 < R.length by omega)]
      exact List.getElem_mem _
    have := nan_top _ _ (h.2.2 _ hm) hN (sorts_kb h j (R.length - 1) (by omega) (by omega))
    rw [hn] at this; cases this
theorem sub_some (a b : Nat) (ha : a < 18446744073709551616) (hb : b < 18446744073709551616) (na : isN a = false) (nb : isN b = false) (hne : a ≠ b) : ∃ d, floatBits .sub .f64 a b = some d := by
  have na' : ¬ 9218868437227405312 < a % 9223372036854775808 := by simpa [isN] using na
  have nb' : ¬ 9218868437227405312 < b % 9223372036854775808 := by simpa [isN] using nb
  show ∃ d, Ieee.double.sub a b = some d
  unfold Ieee.Format.sub
  rw [read_eq a ha, read_eq b hb]
  by_cases h1 : a % 9223372036854775808 < 9218868437227405312 <;> by_cases h2 : b % 9223372036854775808 < 9218868437227405312
  · rw [if_pos h1, if_pos h2]; exact ⟨_, rfl⟩
  · rw [if_pos h1, if_neg h2, if_pos (by omega)]; exact ⟨_, rfl⟩
  · rw [if_neg h1, if_pos h2, if_pos (by omega)]; exact ⟨_, rfl⟩
  · rw [if_neg h1, if_neg h2, if_pos (by omega), if_pos (by omega)]
    simp only [Ieee.Datum.opposite, Ieee.Datum.sum]
    have : decide (9223372036854775808 ≤ a) = !decide (9223372036854775808 ≤ b) := by
      by_cases c : 9223372036854775808 ≤ a <;> by_cases d : 9223372036854775808 ≤ b
      · omega
      · rw [decide_eq_true c, decide_eq_false d]; rfl
      · rw [decide_eq_false c, decide_eq_true d]; rfl
      · omega
    rw [if_pos this]; exact ⟨_, rfl⟩

end Go.Proofs.Ytphhonpibmbjmaa
