/- Proved: the quantile of sorted whole numbers that are not too great rises with its part, from the least to the greatest. -/
import Derived.Test.YtphhonpibmbjmaaIntp
namespace Go.Proofs.Ytphhonpibmbjmaa
open Go.RowKit Fl

theorem word_f (t : Nat) : Ieee.double.word false t = t := by rw [word_val, if_neg (by decide)]
theorem sr_sm (a b : Nat) (ha : a < 18446744073709551616) (hb : b < 18446744073709551616) : sm a ≤ sm b ↔ sr a ≤ sr b := by
  have := sm_lt b a hb ha
  omega
theorem mulU_le (a b : Int) : a * (U : Int) ≤ b * U ↔ a ≤ b := by
  have hU : (0 : Int) < (U : Int) := by have := U_pos; omega
  exact ⟨fun h => Int.le_of_mul_le_mul_right h hU, fun h => Int.mul_le_mul_of_nonneg_right h (Int.le_of_lt hU)⟩
theorem iw_sr (a b : Int) (ha : a.natAbs ≤ 9007199254740992) (hb : b.natAbs ≤ 9007199254740992) : sr (iw a) ≤ sr (iw b) ↔ a ≤ b := by
  rw [← sr_sm _ _ (iw_lt a) (iw_lt b), (iw_facts a ha).2.1, (iw_facts b hb).2.1]
  exact mulU_le a b

/-- A sorted list of whole numbers. -/
def RI (R : List Nat) (n : Nat) (ζ : Nat → Int) : Prop := R.length = n ∧ (∀ j, j < n → R.getD j 0 = iw (ζ j) ∧ -1000000 ≤ ζ j ∧ ζ j ≤ 1000000) ∧ ∀ i j, i ≤ j → j < n → ζ i ≤ ζ j
theorem kb_sr (x y : Nat) (hx : x < 18446744073709551616) (hy : y < 18446744073709551616) (nx : isN x = false) (ny : isN y = false) (h : kb x ≤ kb y) : sr x ≤ sr y := by
  unfold kb at h
  rw [cb_num x nx, cb_num y ny] at h
  unfold sr
  split at h <;> split at h <;> (repeat' split) <;> omega
theorem ri_of {Z : List Int} {R : List Nat} (h : Sorts (Z.map iw) R) (hZ : ∀ z ∈ Z, -1000000 ≤ z ∧ z ≤ 1000000) : ∃ ζ, RI R Z.length ζ := by
  have hl : R.length = Z.length := by rw [sorts_len h, List.length_map]
  have each : ∀ j, j < Z.length → ∃ z : Int, R.getD j 0 = iw z ∧ -1000000 ≤ z ∧ z ≤ 1000000 := fun j hj => by
    have hm : R.getD j 0 ∈ R := by
      rw [List.getD_eq_getElem?_getD, List.getElem?_eq_getElem (by omega)]
      exact List.getElem_mem _
    have hk : kb (R.getD j 0) ∈ (Z.map iw).map kb := h.2.1.mem_iff.1 (List.mem_map.2 ⟨_, hm, rfl⟩)
    obtain ⟨x, hx, hkx⟩ := List.mem_map.1 hk
    obtain ⟨z, hz, rfl⟩ := List.mem_map.1 hx
    have hb := hZ z hz
    have hc := kb_inj _ _ (iw_lt z) (h.2.2 _ hm) hkx
    have nz := iw_num z (by omega)
    refine ⟨z, ?_, hb.1, hb.2⟩
    have nr : isN (R.getD j 0) = false := by rw [isN_congr hc.symm]; exact nz
    rw [cb_num _ nz, cb_num _ nr] at hc
    exact hc.symm
  obtain ⟨ζ, hζ⟩ : ∃ ζ : Nat → Int, ∀ j, j < Z.length → R.getD j 0 = iw (ζ j) ∧ -1000000 ≤ ζ j ∧ ζ j ≤ 1000000 :=
    ⟨fun j => if h : j < Z.length then (each j h).choose else 0, fun j hj => by simp only [dif_pos hj]; exact (each j hj).choose_spec⟩
  refine ⟨ζ, hl, hζ, fun i j hij hj => ?_⟩
  have h1 := hζ i (by omega)
  have h2 := hζ j hj
  have hk := sorts_kb h i j hij (by omega)
  rw [h1.1, h2.1] at hk
  exact (iw_sr _ _ (by omega) (by omega)).1 (kb_sr _ _ (iw_lt _) (iw_lt _) (iw_num _ (by omega)) (iw_num _ (by omega)) hk)

/-- What the computed number is: between its neighbours, and higher where more is left over. -/
theorem qx_facts (lo hi : Int) (K i f : Nat) (hlo : -1000000 ≤ lo ∧ lo ≤ 1000000) (hhi : -1000000 ≤ hi ∧ hi ≤ 1000000) (hlt : lo < hi) (hi' : i ≤ 1000000) (hK : Fin' K) (hs : neg' K = false) (hm : mag (rg K) = i * U + f) (h0 : 0 < f) (hf : f < U) :
    isN (qx (iw lo) (iw hi) K i) = false ∧ sr (qx (iw lo) (iw hi) K i) = rs (lo * U + (mag (rk eU (mag (rr f) * ((hi - lo).toNat * U))) : Nat)) ∧ mag (rk eU (mag (rr f) * ((hi - lo).toNat * U))) ≤ (hi - lo).toNat * U ∧
      qx (iw lo) (iw hi) K i < 18446744073709551616 := by
  have hsub : fo .sub (iw hi) (iw lo) = iw (hi - lo) := sub_iw hi lo (by omega) (by omega) (by omega)
  obtain ⟨i1, i2, i3, i4⟩ := iw_facts (i : Int) (by omega)
  have hsmK : sm K = ((i * U + f : Nat) : Int) := by
    unfold neg' at hs
    have : K < 9223372036854775808 := by
      have := of_decide_eq_false hs; omega
    unfold sm
    rw [if_pos this]
    unfold rg at hm
    rw [hm]
  have hd : sm K - sm (iw (i : Int)) = (f : Int) := by
    rw [hsmK, i2, Int.natCast_add, Int.natCast_mul]; omega
  have hx1 : fo .sub K (floatOfInt .f64 (i : Int)) = rr f := by
    show fo .sub K (iw (i : Int)) = rr f
    rw [(sub_sr K _ hK i1).2.2, hd, if_neg (by omega), decide_eq_false (by omega), word_f, Int.natAbs_natCast]
  have hrf : rr f ≤ 4607182418800017408 := rr_le f _ (by rw [mag_one]; omega)
  have hmf : mag (rr f) ≤ U := by rw [← mag_one]; exact mag_le hrf
  obtain ⟨d1, d2, d3, d4⟩ := iw_facts (hi - lo) (by omega)
  have hdn : (hi - lo).natAbs = (hi - lo).toNat := by omega
  have hrr : rg (rr f) = rr f := by unfold rg; omega
  have hp : fo .mul (rr f) (iw (hi - lo)) = rk eU (mag (rr f) * ((hi - lo).toNat * U)) := by
    rw [mul_fin _ _ ⟨by omega, by omega⟩ d1, d3, d4, hrr, hdn]
    have e1 : neg' (rr f) = false := by unfold neg'; exact decide_eq_false (by omega)
    have e2 : decide (hi - lo < 0) = false := decide_eq_false (by omega)
    rw [e1, e2, Bool.xor_false, word_f]
  have hle : rk eU (mag (rr f) * ((hi - lo).toNat * U)) ≤ rg (iw (hi - lo)) := by
    refine rk_le _ _ _ (by have := d1.2; unfold rg; omega) ?_
    rw [d4, hdn, Nat.mul_comm]
    show (hi - lo).toNat * U * mag (rr f) ≤ (hi - lo).toNat * U * U
    exact Nat.mul_le_mul_left _ hmf
  have hml : mag (rk eU (mag (rr f) * ((hi - lo).toNat * U))) ≤ (hi - lo).toNat * U := by
    have := mag_le hle
    rwa [d4, hdn] at this
  obtain ⟨l1, l2, l3, l4⟩ := iw_facts lo (by omega)
  generalize rk eU (mag (rr f) * ((hi - lo).toNat * U)) = P at *
  have hPl : P < 9218868437227405312 := Nat.lt_of_le_of_lt hle (by have := d1.2; exact this)
  have hPf : Fin' P := ⟨by omega, by omega⟩
  have hsP : sm P = (mag P : Int) := by
    unfold sm; rw [if_pos (by omega), Nat.mod_eq_of_lt (by omega)]
  have hq : qx (iw lo) (iw hi) K i = fo .add (iw lo) P := by unfold qx; rw [hx1, hsub, hp]
  have ha := add_sr (iw lo) P l1 hPf
  rw [hq]
  refine ⟨ha.1, ?_, hml, fo_lt f_add _ _⟩
  rw [ha.2.1, l2, hsP]

/-- Where a part falls and what it gives. -/
theorem qin_cases {R : List Nat} {n : Nat} {ζ : Nat → Int} (h : RI R n ζ) (K : Nat) (hn : n ≤ 1000000) (h0 : 0 < n) (hK : Fin' K) (hneg : neg' K = true → rg K = 0) (hm : mag (rg K) ≤ (n - 1) * U) :
    ((mag (rg K) % U = 0 ∨ (mag (rg K) / U + 1 < n ∧ ζ (mag (rg K) / U) = ζ (mag (rg K) / U + 1))) ∧ qin R K = iw (ζ (mag (rg K) / U))) ∨
    (mag (rg K) % U ≠ 0 ∧ mag (rg K) / U + 1 < n ∧ ζ (mag (rg K) / U) < ζ (mag (rg K) / U + 1) ∧ qin R K = qx (iw (ζ (mag (rg K) / U))) (iw (ζ (mag (rg K) / U + 1))) K (mag (rg K) / U) ∧ neg' K = false) := by
  have hile : mag (rg K) / U ≤ n - 1 := Nat.div_le_of_le_mul (by rw [Nat.mul_comm]; exact hm)
  have z1 := h.2.1 (mag (rg K) / U) (by omega)
  have c1 : qlo R (mag (rg K) / U) = iw (ζ (mag (rg K) / U)) := by
    unfold qlo; rw [z1.1]; exact cb_num _ (iw_num _ (by omega))
  by_cases hz : mag (rg K) % U = 0
  · left
    refine ⟨.inl hz, ?_⟩
    unfold qin
    rw [if_pos (.inr hz), c1]
  · have hi1 : mag (rg K) / U + 1 < n := by
      rcases Nat.lt_or_ge (mag (rg K) / U + 1) n with k | k
      · exact k
      · exfalso
        apply hz
        have e : mag (rg K) / U = n - 1 := by omega
        have := Nat.div_add_mod (mag (rg K)) U
        rw [e, Nat.mul_comm] at this
        omega
    have z2 := h.2.1 (mag (rg K) / U + 1) hi1
    have c2 : qhi R (mag (rg K) / U) = iw (ζ (mag (rg K) / U + 1)) := by
      unfold qhi
      rw [h.1, Nat.min_eq_left (by omega), z2.1]
      exact cb_num _ (iw_num _ (by omega))
    have hle := h.2.2 (mag (rg K) / U) (mag (rg K) / U + 1) (by omega) hi1
    by_cases he : ζ (mag (rg K) / U) = ζ (mag (rg K) / U + 1)
    · left
      refine ⟨.inr ⟨hi1, he⟩, ?_⟩
      unfold qin
      rw [if_pos (.inl (by rw [c1, c2, he])), c1]
    · right
      have hnK : neg' K = false := by
        cases hn : neg' K
        · rfl
        · rw [hneg hn, mag_zero, Nat.zero_mod] at hz; exact absurd rfl hz
      have hdm := Nat.div_add_mod (mag (rg K)) U
      rw [Nat.mul_comm] at hdm
      have hq := qx_facts (ζ (mag (rg K) / U)) (ζ (mag (rg K) / U + 1)) K (mag (rg K) / U) (mag (rg K) % U) z1.2 z2.2 (by omega) (by omega) hK hnK hdm.symm (by omega) (Nat.mod_lt _ U_pos)
      refine ⟨hz, hi1, by omega, ?_, hnK⟩
      unfold qin
      rw [if_neg, c1, c2, if_neg]
      · rw [hq.1]; decide
      · rintro (k | k)
        · rw [c1, c2] at k
          have a := (iw_sr _ _ (by omega) (by omega)).1 (Int.le_of_eq (congrArg sr k.symm))
          omega
        · exact hz k

/-- The number lies between its neighbours. -/
theorem qin_between {R : List Nat} {n : Nat} {ζ : Nat → Int} (h : RI R n ζ) (K : Nat) (hn : n ≤ 1000000) (h0 : 0 < n) (hK : Fin' K) (hneg : neg' K = true → rg K = 0) (hm : mag (rg K) ≤ (n - 1) * U) :
    isN (qin R K) = false ∧ qin R K < 18446744073709551616 ∧ sr (iw (ζ (mag (rg K) / U))) ≤ sr (qin R K) ∧ (mag (rg K) / U + 1 < n → sr (qin R K) ≤ sr (iw (ζ (mag (rg K) / U + 1)))) := by
  have hile : mag (rg K) / U ≤ n - 1 := Nat.div_le_of_le_mul (by rw [Nat.mul_comm]; exact hm)
  have z1 := h.2.1 (mag (rg K) / U) (by omega)
  rcases qin_cases h K hn h0 hK hneg hm with ⟨_, e⟩ | ⟨hz, hi1, hlt, e, hnK⟩
  · rw [e]
    refine ⟨iw_num _ (by omega), iw_lt _, Int.le_refl _, fun hi1 => ?_⟩
    have z2 := h.2.1 (mag (rg K) / U + 1) hi1
    exact (iw_sr _ _ (by omega) (by omega)).2 (h.2.2 _ _ (by omega) hi1)
  · have z2 := h.2.1 (mag (rg K) / U + 1) hi1
    have hdm := Nat.div_add_mod (mag (rg K)) U
    rw [Nat.mul_comm] at hdm
    obtain ⟨q1, q2, q3, q4⟩ := qx_facts (ζ (mag (rg K) / U)) (ζ (mag (rg K) / U + 1)) K (mag (rg K) / U) (mag (rg K) % U) z1.2 z2.2 hlt (by omega) hK hnK hdm.symm (by omega) (Nat.mod_lt _ U_pos)
    rw [e]
    obtain ⟨l1, l2, _, _⟩ := iw_facts (ζ (mag (rg K) / U)) (by omega)
    obtain ⟨u1, u2, _, _⟩ := iw_facts (ζ (mag (rg K) / U + 1)) (by omega)
    have srb : ∀ b, Fin' b → -9218868437227405312 ≤ sr b ∧ sr b ≤ 9218868437227405312 := fun b hb => by
      have := hb.1
      have := hb.2
      unfold sr; split <;> omega
    refine ⟨q1, q4, ?_, fun _ => ?_⟩
    · rw [q2]
      refine le_rs _ _ (srb _ l1).1 (srb _ l1).2 ?_
      rw [← sm_ms _ l1.1, l2]
      omega
    · rw [q2]
      refine rs_le _ _ (srb _ u1).1 (srb _ u1).2 ?_
      rw [← sm_ms _ u1.1, u2]
      have e2 : ζ (mag (rg K) / U + 1) * (U : Int) = ζ (mag (rg K) / U) * U + ((ζ (mag (rg K) / U + 1) - ζ (mag (rg K) / U)).toNat * U : Nat) := by
        rw [Int.natCast_mul, Int.toNat_of_nonneg (by omega), Int.sub_mul]; omega
      rw [e2]
      omega

theorem qin_mono {R : List Nat} {n : Nat} {ζ : Nat → Int} (h : RI R n ζ) (K J : Nat) (hn : n ≤ 1000000) (h0 : 0 < n) (hK : Fin' K) (hneg : neg' K = true → rg K = 0) (hm : mag (rg K) ≤ (n - 1) * U)
    (hJ : Fin' J) (hnegJ : neg' J = true → rg J = 0) (hmJ : mag (rg J) ≤ (n - 1) * U) (hle : mag (rg K) ≤ mag (rg J)) : sr (qin R K) ≤ sr (qin R J) := by
  obtain ⟨_, _, b1, b2⟩ := qin_between h K hn h0 hK hneg hm
  obtain ⟨_, _, c1, _⟩ := qin_between h J hn h0 hJ hnegJ hmJ
  have hileJ : mag (rg J) / U ≤ n - 1 := Nat.div_le_of_le_mul (by rw [Nat.mul_comm]; exact hmJ)
  have hij : mag (rg K) / U ≤ mag (rg J) / U := Nat.div_le_div_right hle
  rcases Nat.eq_or_lt_of_le hij with e | e
  · rcases qin_cases h K hn h0 hK hneg hm with ⟨_, e1⟩ | ⟨hz, hi1, hlt, e1, hnK⟩
    · rw [e1, e]; exact c1
    · have hfK := Nat.div_add_mod (mag (rg K)) U
      have hfJ := Nat.div_add_mod (mag (rg J)) U
      rw [Nat.mul_comm] at hfK hfJ
      have hff : mag (rg K) % U ≤ mag (rg J) % U := by rw [e] at hfK; omega
      have z1 := h.2.1 (mag (rg K) / U) (by omega)
      have z2 := h.2.1 (mag (rg K) / U + 1) hi1
      rcases qin_cases h J hn h0 hJ hnegJ hmJ with ⟨hw, _⟩ | ⟨hzJ, hi1J, hltJ, e1J, hnJ⟩
      · exfalso
        rcases hw with hw | ⟨_, hw⟩
        · omega
        · rw [← e] at hw; omega
      · rw [← e] at hi1J hltJ e1J
        have hfJ' : mag (rg J) = mag (rg K) / U * U + mag (rg J) % U := by rw [e]; exact hfJ.symm
        obtain ⟨_, q2, _, _⟩ := qx_facts (ζ (mag (rg K) / U)) (ζ (mag (rg K) / U + 1)) K (mag (rg K) / U) (mag (rg K) % U) z1.2 z2.2 hlt (by omega) hK hnK hfK.symm (by omega) (Nat.mod_lt _ U_pos)
        obtain ⟨_, p2, _, _⟩ := qx_facts (ζ (mag (rg K) / U)) (ζ (mag (rg K) / U + 1)) J (mag (rg K) / U) (mag (rg J) % U) z1.2 z2.2 hlt (by omega) hJ hnJ hfJ' (by omega) (Nat.mod_lt _ U_pos)
        rw [e1, e1J, q2, p2]
        apply rs_mono
        have hr := rr_mono _ _ hff
        have hmr : mag (rr (mag (rg K) % U)) * ((ζ (mag (rg K) / U + 1) - ζ (mag (rg K) / U)).toNat * U) ≤ mag (rr (mag (rg J) % U)) * ((ζ (mag (rg K) / U + 1) - ζ (mag (rg K) / U)).toNat * U) := Nat.mul_le_mul_right _ (mag_le hr)
        have := mag_le (rk_mono eU _ _ hmr)
        omega
  · have z := h.2.2 (mag (rg K) / U + 1) (mag (rg J) / U) (by omega) (by omega)
    have za := h.2.1 (mag (rg K) / U + 1) (by omega)
    have zb := h.2.1 (mag (rg J) / U) (by omega)
    have s := (iw_sr _ _ (by omega) (by omega)).2 z
    have := b2 (by omega)
    omega

/-- The quantile of sorted whole numbers. -/
theorem qa_in {R : List Nat} {n : Nat} {ζ : Nat → Int} (h : RI R n ζ) (h0 : 0 < n) (q : Nat) (hb : ¬ Bad q) : qa R q = qin R (fo .mul q (floatOfInt .f64 ((n : Int) - 1))) := by
  have z := h.2.1 (n - 1) (by omega)
  unfold qa
  rw [if_neg (by rw [h.1]; omega), if_neg hb, h.1, z.1, if_neg (by rw [iw_num _ (by omega)]; decide)]
theorem qa_num {R : List Nat} {n : Nat} {ζ : Nat → Int} (h : RI R n ζ) (h0 : 0 < n) (hn : n ≤ 1000000) (q : Nat) (hq : q < 18446744073709551616) (hb : ¬ Bad q) : isN (qa R q) = false ∧ qa R q < 18446744073709551616 := by
  obtain ⟨k1, k2, k3, _⟩ := k_facts q n hq hb h0 hn
  have := qin_between h _ hn h0 k1 k3 k2
  rw [qa_in h h0 q hb]
  exact ⟨this.1, this.2.1⟩
theorem qa_mono {R : List Nat} {n : Nat} {ζ : Nat → Int} (h : RI R n ζ) (h0 : 0 < n) (hn : n ≤ 1000000) (p q : Nat) (hp : p < 18446744073709551616) (hq : q < 18446744073709551616) (hbp : ¬ Bad p) (hbq : ¬ Bad q) (hle : sr p ≤ sr q) : sr (qa R p) ≤ sr (qa R q) := by
  obtain ⟨k1, k2, k3, k4⟩ := k_facts p n hp hbp h0 hn
  obtain ⟨j1, j2, j3, j4⟩ := k_facts q n hq hbq h0 hn
  rw [qa_in h h0 p hbp, qa_in h h0 q hbq]
  refine qin_mono h _ _ hn h0 k1 k3 k2 j1 j3 j2 ?_
  rw [k4, j4]
  refine mag_le (rk_mono _ _ _ (Nat.mul_le_mul_right _ (mag_le ?_)))
  obtain ⟨_, _, _, p4, p5, _⟩ := good_parts hp hbp
  obtain ⟨_, _, _, q4, q5, _⟩ := good_parts hq hbq
  unfold neg' rg at *
  simp only [decide_eq_true_eq] at p4 q4
  unfold sr at hle p5 q5
  split at hle <;> split at hle <;> omega
theorem bad_zero : ¬ Bad 0 := by
  rintro (h | h | h)
  · exact absurd h (by decide)
  · exact absurd h (by decide)
  · exact absurd h (by decide)
theorem bad_one : ¬ Bad 4607182418800017408 := by
  rintro (h | h | h)
  · exact absurd h (by decide)
  · exact absurd h (by decide)
  · exact absurd h (by decide)
theorem qa_zero {R : List Nat} {n : Nat} {ζ : Nat → Int} (h : RI R n ζ) (h0 : 0 < n) (hn : n ≤ 1000000) : qa R 0 = R.getD 0 0 := by
  obtain ⟨k1, k2, k3, k4⟩ := k_facts 0 n (by decide) bad_zero h0 hn
  have e0 : rg 0 = 0 := rfl
  rw [e0, mag_zero, Nat.zero_mul, rk_nought] at k4
  rw [qa_in h h0 0 bad_zero]
  rcases qin_cases h _ hn h0 k1 k3 k2 with ⟨_, e⟩ | ⟨hz, _⟩
  · rw [e, k4, mag_zero, Nat.zero_div, (h.2.1 0 h0).1]
  · rw [k4, mag_zero, Nat.zero_mod] at hz; exact absurd rfl hz
theorem qa_one {R : List Nat} {n : Nat} {ζ : Nat → Int} (h : RI R n ζ) (h0 : 0 < n) (hn : n ≤ 1000000) : qa R 4607182418800017408 = R.getD (n - 1) 0 := by
  obtain ⟨k1, k2, k3, k4⟩ := k_facts 4607182418800017408 n (by decide) bad_one h0 hn
  obtain ⟨t, ht, htl, _⟩ := int_word (n - 1) (by omega)
  have e1 : mag (rg 4607182418800017408) = U := mag_one
  have e2 : rk eU (mag (rg 4607182418800017408) * ((n - 1) * U)) = t := by
    rw [e1, ← ht, Nat.mul_comm]
    exact rk_mag eU t (by omega)
  rw [e2] at k4
  have hU := U_pos
  rw [qa_in h h0 _ bad_one]
  rcases qin_cases h _ hn h0 k1 k3 k2 with ⟨_, e⟩ | ⟨hz, _⟩
  · rw [e, k4, ht, Nat.mul_div_cancel _ hU, (h.2.1 (n - 1) (by omega)).1]
  · rw [k4, ht, Nat.mul_mod_left] at hz; exact absurd rfl hz

end Go.Proofs.Ytphhonpibmbjmaa
