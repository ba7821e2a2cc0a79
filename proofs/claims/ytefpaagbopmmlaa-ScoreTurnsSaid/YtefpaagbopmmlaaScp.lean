/- Proved: plain facts of a zone's use and score as doubles: the use is from 0 to 1 and rises with what is live; the score falls with it, and rises with the age; it is finite and not below nought. -/
import Derived.Test.YtefpaagbopmmlaaQuom
namespace Go.Proofs.Ytefpaagbopmmlaa
open Go.RowKit Fl

theorem mag_pos {r : Nat} (hr : r ≠ 0) : 0 < mag r := by
  have := mag_lt (show 0 < r by omega)
  rwa [mag_zero] at this
theorem quo_zero' (a b : Nat) (ha : Fin' a) (hb : Fin' b) (hb0 : rg b ≠ 0) (h : rg a = 0) : fo .quo a b = Ieee.double.word (neg' a ^^ neg' b) 0 := by
  have hq := quo_fin a b ha hb hb0
  have hs0 : sig 0 = 0 := by decide
  have hqd : ∀ m nn, qd 0 nn m = 0 := fun m nn => by unfold qd; rw [Nat.zero_mul, Nat.zero_div, Nat.zero_mod]; rfl
  rw [h, hs0] at hq
  simp only [hqd, Nat.zero_mul] at hq
  rw [rk_nought] at hq
  exact hq
/-- A quotient against any rung. -/
theorem quo_rung (a b r : Nat) (ha : Fin' a) (hb : Fin' b) (hb0 : rg b ≠ 0) (hr : r ≤ 9218868437227405312) :
    (mag (rg a) * U ≤ mag r * mag (rg b) → rg (fo .quo a b) ≤ r) ∧ (mag r * mag (rg b) ≤ mag (rg a) * U → r ≤ rg (fo .quo a b)) := by
  have hB := mag_pos hb0
  by_cases ha0 : rg a = 0
  · have h0 : rg (fo .quo a b) = 0 := by rw [quo_zero' a b ha hb hb0 ha0]; exact (word_num _ 0 (by omega)).2.2.1
    rw [h0, ha0, mag_zero, Nat.zero_mul]
    refine ⟨fun _ => Nat.zero_le _, fun h => ?_⟩
    rcases Nat.eq_zero_or_pos r with k | k
    · omega
    · have := Nat.mul_pos (mag_pos (show r ≠ 0 by omega)) hB
      omega
  · obtain ⟨K, hK⟩ := quo_any a b ha hb hb0 ha0
    have e := hK 0
    have r1 : rg (fo .quo a b) = rk (K + 0 + 1) (fq (mag (rg a) * U * 2 ^ (K + 0)) (mag (rg b))) := by rw [e]; exact (word_num _ _ (rk_inf _ _)).2.2.1
    rw [r1, Nat.add_zero]
    have e2 : mag r * 2 ^ (K + 1) = 2 * (mag r * 2 ^ K) := by rw [Nat.pow_succ, ← Nat.mul_assoc, Nat.mul_comm]
    have hf : ∀ t, fq (t * mag (rg b)) (mag (rg b)) = 2 * t := fun t => by
      unfold fq; rw [Nat.mul_div_cancel _ hB, Nat.mul_mod_left]; rfl
    constructor
    · intro h
      refine rk_le _ _ _ hr ?_
      rw [e2, ← hf (mag r * 2 ^ K)]
      refine fq_mono _ _ _ _ hB hB (Nat.mul_le_mul_right _ ?_)
      have := Nat.mul_le_mul_right (2 ^ K) h
      calc mag (rg a) * U * 2 ^ K ≤ mag r * mag (rg b) * 2 ^ K := this
        _ = mag r * 2 ^ K * mag (rg b) := by simp only [Nat.mul_assoc, Nat.mul_comm]
    · intro h
      refine le_rk _ _ _ hr ?_
      rw [e2, ← hf (mag r * 2 ^ K)]
      refine fq_mono _ _ _ _ hB hB (Nat.mul_le_mul_right _ ?_)
      have := Nat.mul_le_mul_right (2 ^ K) h
      calc mag r * 2 ^ K * mag (rg b) = mag r * mag (rg b) * 2 ^ K := by simp only [Nat.mul_assoc, Nat.mul_comm]
        _ ≤ mag (rg a) * U * 2 ^ K := this
/-- A quotient of two numbers that are not below nought is its rung. -/
theorem quo_pos (a b : Nat) (ha : Fin' a) (hb : Fin' b) (hb0 : rg b ≠ 0) (na : neg' a = false) (nb : neg' b = false) : rg (fo .quo a b) = fo .quo a b ∧ neg' (fo .quo a b) = false ∧ fo .quo a b ≤ 9218868437227405312 := by
  have key : ∀ s t, t ≤ 9218868437227405312 → s = false → rg (Ieee.double.word s t) = Ieee.double.word s t ∧ neg' (Ieee.double.word s t) = false ∧ Ieee.double.word s t ≤ 9218868437227405312 := fun s t ht hs => by
    subst hs
    rw [wordf]
    obtain ⟨p1, _, p3⟩ := pos_facts (x := t) (by omega)
    exact ⟨p1, p3, ht⟩
  rw [quo_fin a b ha hb hb0]
  exact key _ _ (rk_inf _ _) (by rw [na, nb]; rfl)

/-- A zone's use. -/
def useW (live size : Int) : Nat := fo .quo (iw live) (iw size)
theorem iw_pos (z : Int) (h0 : 0 ≤ z) (h : z ≤ 9007199254740992) : Fin' (iw z) ∧ neg' (iw z) = false ∧ mag (rg (iw z)) = z.toNat * U ∧ (0 < z → rg (iw z) ≠ 0) ∧ rg (iw z) = iw z := by
  obtain ⟨a1, a2, a3, a4⟩ := iw_facts z (by omega)
  have e : z.natAbs = z.toNat := by omega
  rw [e] at a4
  refine ⟨a1, by rw [a3]; exact decide_eq_false (by omega), a4, fun hp k => ?_, ?_⟩
  · rw [k, mag_zero] at a4
    have := Nat.mul_pos (show 0 < z.toNat by omega) U_pos
    omega
  · have h3 : neg' (iw z) = false := by rw [a3]; exact decide_eq_false (by omega)
    unfold neg' at h3
    have := of_decide_eq_false h3
    unfold rg; omega
theorem mag_below_one : mag 4607182418800017407 + 2 ^ 1021 = U := by
  obtain ⟨x, hx⟩ : ∃ x : Nat, x = 1021 := ⟨_, rfl⟩
  have h := mag_succ 4607182418800017407
  have e : (4607182418800017407 / 4503599627370496 - 1 : Nat) = x := by omega
  rw [e] at h
  have e1 : 4607182418800017407 + 1 = 4607182418800017408 := rfl
  rw [e1, mag_one] at h
  rw [← hx]; exact h.symm
theorem use_facts (live size : Int) (h0 : 0 ≤ live) (h1 : live ≤ size) (h2 : 1 ≤ size) (h3 : size ≤ 1073741824) :
    useW live size ≤ 4607182418800017408 ∧ rg (useW live size) = useW live size ∧ neg' (useW live size) = false ∧ (useW live size = 0 ↔ live = 0) ∧ (useW live size = 4607182418800017408 ↔ live = size) := by
  obtain ⟨a1, a2, a3, _, _⟩ := iw_pos live h0 (by omega)
  obtain ⟨b1, b2, b3, b4, _⟩ := iw_pos size (by omega) (by omega)
  have hU := U_pos
  obtain ⟨q1, q2, q3⟩ := quo_pos _ _ a1 b1 (b4 (by omega)) a2 b2
  have hr := fun r hr => quo_rung (iw live) (iw size) r a1 b1 (b4 (by omega)) hr
  rw [a3, b3, q1] at hr
  show fo .quo _ _ ≤ _ ∧ rg (fo .quo _ _) = fo .quo _ _ ∧ neg' (fo .quo _ _) = false ∧ (fo .quo _ _ = 0 ↔ _) ∧ (fo .quo _ _ = 4607182418800017408 ↔ _)
  generalize fo .quo (iw live) (iw size) = y at *
  have hle : y ≤ 4607182418800017408 := by
    refine (hr _ (by omega)).1 ?_
    rw [mag_one]
    calc live.toNat * U * U ≤ size.toNat * U * U := Nat.mul_le_mul_right _ (Nat.mul_le_mul_right _ (by omega))
      _ = U * (size.toNat * U) := by simp only [Nat.mul_comm]
  refine ⟨hle, q1, q2, ⟨fun h => ?_, fun h => ?_⟩, ⟨fun h => ?_, fun h => ?_⟩⟩
  · rcases Int.lt_or_le 0 live with k | k
    · exfalso
      -- at least 2^-30
      obtain ⟨x, hx⟩ : ∃ x : Nat, x = 993 := ⟨_, rfl⟩
      have hm := mag_two x (by omega)
      have e1 : x * 4503599627370496 = 4472074429978902528 := by omega
      rw [e1] at hm
      have e30 : mag 4472074429978902528 * 2 ^ 30 = U := by
        rw [hm, ← Nat.pow_add]
        have : 52 + (x - 1) + 30 = eU := by rw [eU_eq]; omega
        rw [this]; rfl
      have h30 : (2 : Nat) ^ 30 = 1073741824 := by decide
      rw [h30] at e30
      have := (hr 4472074429978902528 (by omega)).2 (by
        generalize mag 4472074429978902528 = g at e30 ⊢
        have k1 : g * size.toNat ≤ g * 1073741824 := Nat.mul_le_mul_left _ (by omega)
        rw [e30] at k1
        have k2 : 1 * U ≤ live.toNat * U := Nat.mul_le_mul_right _ (by omega)
        rw [Nat.one_mul] at k2
        calc g * (size.toNat * U) = g * size.toNat * U := by rw [Nat.mul_assoc]
          _ ≤ U * U := Nat.mul_le_mul_right _ k1
          _ ≤ live.toNat * U * U := Nat.mul_le_mul_right _ k2)
      omega
    · omega
  · have := (hr 0 (by omega)).1 (by rw [h]; simp)
    omega
  · rcases Int.lt_or_le live size with k | k
    · exfalso
      have hb := mag_below_one
      have h1021 : 1073741824 * 2 ^ 1021 ≤ U := by
        obtain ⟨x, hx⟩ : ∃ x : Nat, x = 1021 := ⟨_, rfl⟩
        rw [← hx]
        have e30 : (1073741824 : Nat) = 2 ^ 30 := by decide
        rw [e30, ← Nat.pow_add]
        exact Nat.pow_le_pow_right (by decide) (by rw [eU_eq]; omega)
      have := (hr 4607182418800017407 (by omega)).1 (by
        generalize mag 4607182418800017407 = g at hb ⊢
        generalize (2 : Nat) ^ 1021 = p at hb h1021
        have k1 : size.toNat * p ≤ U := Nat.le_trans (Nat.mul_le_mul_right _ (by omega)) h1021
        have k2 : (live.toNat + 1) * U ≤ size.toNat * U := Nat.mul_le_mul_right _ (by omega)
        have k3 : size.toNat * U = size.toNat * g + size.toNat * p := by rw [← hb, Nat.mul_add]
        have k4 : live.toNat * U ≤ size.toNat * g := by
          rw [Nat.add_mul, Nat.one_mul] at k2
          omega
        calc live.toNat * U * U ≤ size.toNat * g * U := Nat.mul_le_mul_right _ k4
          _ = g * (size.toNat * U) := by simp only [Nat.mul_comm, Nat.mul_left_comm])
      omega
    · omega
  · have := (hr 4607182418800017408 (by omega)).2 (by rw [mag_one, h]; exact Nat.le_of_eq (Nat.mul_comm _ _))
    omega
/-- More live blocks are no less of a use. -/
theorem use_mono (a b size : Int) (h0 : 0 ≤ a) (hab : a ≤ b) (h1 : b ≤ size) (h2 : 1 ≤ size) (h3 : size ≤ 1073741824) : useW a size ≤ useW b size := by
  obtain ⟨_, ra, _, _, _⟩ := use_facts a size h0 (by omega) h2 h3
  obtain ⟨_, rb, _, _, _⟩ := use_facts b size (by omega) h1 h2 h3
  obtain ⟨a1, _, a3, _, _⟩ := iw_pos a h0 (by omega)
  obtain ⟨b1, _, b3, _, _⟩ := iw_pos b (by omega) (by omega)
  obtain ⟨s1, _, s3, s4, _⟩ := iw_pos size (by omega) (by omega)
  have := quo_mono (iw a) (iw size) (iw b) (iw size) a1 s1 b1 s1 (s4 (by omega)) (s4 (by omega)) (Nat.mul_le_mul_right _ (by rw [a3, b3]; exact Nat.mul_le_mul_right _ (by omega)))
  rw [← ra, ← rb]
  exact this

/-- One less a use, and one and a use. -/
theorem one_parts (u : Nat) (h : u ≤ 4607182418800017408) :
    fo .sub 4607182418800017408 u = rr (U - mag u) ∧ rr (U - mag u) ≤ 4607182418800017408 ∧ fo .add 4607182418800017408 u = rr (U + mag u) ∧ 4607182418800017408 ≤ rr (U + mag u) ∧ rr (U + mag u) ≤ 4611686018427387904 := by
  have hm : mag u ≤ U := by rw [← mag_one]; exact mag_le h
  have f1 : Fin' 4607182418800017408 := ⟨by decide, by decide⟩
  have fu : Fin' u := ⟨by omega, by omega⟩
  obtain ⟨_, u2, u3⟩ := pos_facts (x := u) (by omega)
  have o2 : sm 4607182418800017408 = (U : Int) := by
    have := (pos_facts (x := 4607182418800017408) (by decide)).2.1
    rw [mag_one] at this; exact this
  have o3 : neg' 4607182418800017408 = false := by decide
  have m2 : mag 4611686018427387904 = 2 * U := by
    obtain ⟨x, hx⟩ : ∃ x : Nat, x = 1024 := ⟨_, rfl⟩
    have hm := mag_two x (by omega)
    have e1 : x * 4503599627370496 = 4611686018427387904 := by omega
    have e2 : 52 + (x - 1) = eU + 1 := by rw [eU_eq]; omega
    rw [e1, e2, Nat.pow_succ, Nat.mul_comm] at hm
    exact hm
  have hs : fo .sub 4607182418800017408 u = rr (U - mag u) := by
    have e : sm 4607182418800017408 - sm u = ((U - mag u : Nat) : Int) := by rw [o2, u2]; omega
    rw [(sub_sr _ _ f1 fu).2.2, e, Int.natAbs_natCast, o3]
    have : (if ((U - mag u : Nat) : Int) = 0 then false && !neg' u else decide (((U - mag u : Nat) : Int) < 0)) = false := by
      split
      · rfl
      · exact decide_eq_false (by omega)
    rw [this, wordf]
  have ha : fo .add 4607182418800017408 u = rr (U + mag u) := by
    have := add_pos' f1 fu (by decide) (by omega)
    rw [mag_one] at this; exact this
  have hro : rr U = 4607182418800017408 := by
    have := rr_mag 4607182418800017408 (by decide)
    rwa [mag_one] at this
  refine ⟨hs, rr_le _ _ (by rw [mag_one]; omega), ha, ?_, rr_le _ _ (by rw [m2]; omega)⟩
  have := rr_mono U (U + mag u) (by omega)
  rwa [hro] at this
/-- A zone's score. -/
def scoreW (u : Nat) (age : Int) : Nat := fo .quo (fo .mul (fo .sub 4607182418800017408 u) (iw age)) (fo .add 4607182418800017408 u)
theorem score_parts (u : Nat) (age : Int) (h : u ≤ 4607182418800017408) (h0 : 0 ≤ age) (h1 : age ≤ 9007199254740992) :
    fo .mul (fo .sub 4607182418800017408 u) (iw age) = rk eU (mag (rr (U - mag u)) * (age.toNat * U)) ∧ rk eU (mag (rr (U - mag u)) * (age.toNat * U)) ≤ iw age ∧ iw age < 9218868437227405312 := by
  obtain ⟨a1, a2, a3, _, a5⟩ := iw_pos age h0 h1
  obtain ⟨o1, o2, _, _, _⟩ := one_parts u h
  have hw : Fin' (rr (U - mag u)) := ⟨by omega, by omega⟩
  obtain ⟨w1, _, w3⟩ := pos_facts (x := rr (U - mag u)) (by omega)
  have hm : mag (rr (U - mag u)) ≤ U := by
    have := mag_le o2
    rwa [mag_one] at this
  have ha : iw age < 9218868437227405312 := by
    have := a1.2
    have e : rg (iw age) < 9218868437227405312 := this
    rwa [a5] at e
  refine ⟨?_, ?_, ha⟩
  · rw [o1, mul_fin _ _ hw a1, w3, a2, Bool.xor_false, wordf, w1, a3]
  · refine rk_le _ _ _ (by omega) ?_
    have e : mag (iw age) = age.toNat * U := by rw [← a5]; exact a3
    rw [e, Nat.mul_comm]
    show age.toNat * U * mag (rr (U - mag u)) ≤ age.toNat * U * U
    exact Nat.mul_le_mul_left _ hm
/-- A score is finite and not below nought; it falls with the use and rises with the age. -/
theorem score_facts (u : Nat) (age : Int) (h : u ≤ 4607182418800017408) (h0 : 0 ≤ age) (h1 : age ≤ 9007199254740992) :
    scoreW u age < 9218868437227405312 ∧ rg (scoreW u age) = scoreW u age ∧ (u = 4607182418800017408 → scoreW u age = 0) ∧ (age = 0 → scoreW u age = 0) := by
  obtain ⟨p1, p2, p3⟩ := score_parts u age h h0 h1
  obtain ⟨_, _, q1, q2, q3⟩ := one_parts u h
  unfold scoreW
  rw [p1, q1]
  have hP : rk eU (mag (rr (U - mag u)) * (age.toNat * U)) < 9218868437227405312 := by omega
  have hz : (u = 4607182418800017408 ∨ age = 0) → rk eU (mag (rr (U - mag u)) * (age.toNat * U)) = 0 := by
    rintro (hu | ha)
    · rw [hu, mag_one, Nat.sub_self, rr_zero, mag_zero, Nat.zero_mul, rk_nought]
    · rw [ha]; simp [rk_nought]
  generalize rk eU (mag (rr (U - mag u)) * (age.toNat * U)) = P at *
  generalize rr (U + mag u) = Q at *
  obtain ⟨a1, _, a3⟩ := pos_facts (x := P) (by omega)
  obtain ⟨b1, _, b3⟩ := pos_facts (x := Q) (by omega)
  have fP : Fin' P := ⟨by omega, by omega⟩
  have fQ : Fin' Q := ⟨by omega, by omega⟩
  have hQ0 : rg Q ≠ 0 := by rw [b1]; omega
  obtain ⟨r1, r2, r3⟩ := quo_pos P Q fP fQ hQ0 a3 b3
  have hle := (quo_rung P Q P fP fQ hQ0 (by omega)).1 (by
    rw [a1, b1]
    refine Nat.mul_le_mul_left _ ?_
    rw [← mag_one]; exact mag_le q2)
  rw [r1] at hle
  have hzz : P = 0 → fo .quo P Q = 0 := fun k => by omega
  exact ⟨by omega, r1, fun k => hzz (hz (.inl k)), fun k => hzz (hz (.inr k))⟩
theorem score_mono (u v : Nat) (age bge : Int) (huv : u ≤ v) (h : v ≤ 4607182418800017408) (h0 : 0 ≤ age) (hab : age ≤ bge) (h1 : bge ≤ 9007199254740992) : scoreW v age ≤ scoreW u bge := by
  obtain ⟨_, ra, _, _⟩ := score_facts v age h h0 (by omega)
  obtain ⟨_, rb, _, _⟩ := score_facts u bge (by omega) (by omega) h1
  obtain ⟨p1, p2, p3⟩ := score_parts v age h h0 (by omega)
  obtain ⟨s1, s2, s3⟩ := score_parts u bge (by omega) (by omega) h1
  obtain ⟨_, _, q1, q2, q3⟩ := one_parts v h
  obtain ⟨_, _, t1, t2, t3⟩ := one_parts u (by omega)
  have hmuv := mag_le huv
  have hnum : rk eU (mag (rr (U - mag v)) * (age.toNat * U)) ≤ rk eU (mag (rr (U - mag u)) * (bge.toNat * U)) := rk_mono _ _ _ (Nat.mul_le_mul (mag_le (rr_mono _ _ (by omega))) (Nat.mul_le_mul_right _ (by omega)))
  have hden : rr (U + mag u) ≤ rr (U + mag v) := rr_mono _ _ (by omega)
  rw [← ra, ← rb]
  unfold scoreW at *
  rw [p1, q1, s1, t1]
  generalize rk eU (mag (rr (U - mag v)) * (age.toNat * U)) = P at *
  generalize rk eU (mag (rr (U - mag u)) * (bge.toNat * U)) = S at *
  generalize rr (U + mag v) = Q at *
  generalize rr (U + mag u) = T at *
  obtain ⟨a1, _, _⟩ := pos_facts (x := P) (by omega)
  obtain ⟨b1, _, _⟩ := pos_facts (x := Q) (by omega)
  obtain ⟨c1, _, _⟩ := pos_facts (x := S) (by omega)
  obtain ⟨d1, _, _⟩ := pos_facts (x := T) (by omega)
  refine quo_mono P Q S T ⟨by omega, by omega⟩ ⟨by omega, by omega⟩ ⟨by omega, by omega⟩ ⟨by omega, by omega⟩ (by rw [b1]; omega) (by rw [d1]; omega) ?_
  rw [a1, b1, c1, d1]
  exact Nat.mul_le_mul (mag_le hnum) (mag_le hden)

end Go.Proofs.Ytefpaagbopmmlaa
