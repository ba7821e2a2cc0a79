/- Proved: the mean of whole numbers that are not too great lies between the least and the greatest of them; what a quotient of doubles is, against a bound. -/
import Derived.Test.YtphhonpibmbjmaaIntp
import Derived.Test.YtphhonpibmbjmaaErr
namespace Go.Proofs.Ytphhonpibmbjmaa
open Go.RowKit Fl

theorem qd_le (m nn more t : Nat) (h : m * 2 ^ more ≤ t * nn) : qd m nn more ≤ 2 * t := by
  unfold qd
  have hdm := Nat.div_add_mod (m * 2 ^ more) nn
  generalize m * 2 ^ more = d at *
  have hle : d / nn ≤ t := Nat.div_le_of_le_mul (by rw [Nat.mul_comm]; exact h)
  by_cases hz : d % nn = 0
  · rw [hz]; simp; omega
  · have hlt : d / nn < t := by
      rcases Nat.lt_or_ge (d / nn) t with k | k
      · exact k
      · exfalso
        have e : d / nn = t := by omega
        rw [e, Nat.mul_comm] at hdm
        omega
    have : (d % nn != 0).toNat ≤ 1 := Bool.toNat_le _
    omega
theorem le_qd (m nn more t : Nat) (h0 : 0 < nn) (h : t * nn ≤ m * 2 ^ more) : 2 * t ≤ qd m nn more := by
  unfold qd
  have : t ≤ m * 2 ^ more / nn := (Nat.le_div_iff_mul_le h0).2 h
  omega
/-- A quotient's rung against a bound. -/
theorem quo_bounds (A B r v s p q more m nn : Nat) (h0 : 0 < nn) (hA : A = m * 2 ^ p) (hB : B = nn * 2 ^ q) (hr : r ≤ 9218868437227405312) (hrv : mag r * 2 ^ s = v * U) (hp : p + s ≤ q + more) :
    (A * U ≤ mag r * B → rk (q + more + 1) (qd m nn more * 2 ^ p * U) ≤ r) ∧ (mag r * B ≤ A * U → r ≤ rk (q + more + 1) (qd m nn more * 2 ^ p * U)) := by
  have hV : 0 < 2 ^ p * U := Nat.mul_pos (Nat.two_pow_pos p) U_pos
  have ht : mag r * 2 ^ (q + more) = v * 2 ^ (q + more - s - p) * (2 ^ p * U) := by
    have e : q + more = s + (q + more - s - p) + p := by omega
    calc mag r * 2 ^ (q + more) = mag r * 2 ^ (s + (q + more - s - p) + p) := by rw [← e]
      _ = mag r * 2 ^ s * 2 ^ (q + more - s - p) * 2 ^ p := by rw [Nat.pow_add, Nat.pow_add]; simp only [Nat.mul_assoc]
      _ = v * U * 2 ^ (q + more - s - p) * 2 ^ p := by rw [hrv]
      _ = v * 2 ^ (q + more - s - p) * (2 ^ p * U) := by simp only [Nat.mul_assoc, Nat.mul_comm, Nat.mul_left_comm]
  generalize v * 2 ^ (q + more - s - p) = t at ht
  have eA : A * U * 2 ^ more = m * 2 ^ more * (2 ^ p * U) := by rw [hA]; simp only [Nat.mul_assoc, Nat.mul_comm, Nat.mul_left_comm]
  have eB : mag r * B * 2 ^ more = t * nn * (2 ^ p * U) := by
    calc mag r * B * 2 ^ more = mag r * 2 ^ (q + more) * nn := by rw [hB, Nat.pow_add]; simp only [Nat.mul_assoc, Nat.mul_comm, Nat.mul_left_comm]
      _ = t * (2 ^ p * U) * nn := by rw [ht]
      _ = t * nn * (2 ^ p * U) := by simp only [Nat.mul_assoc, Nat.mul_comm, Nat.mul_left_comm]
  have e2 : mag r * 2 ^ (q + more + 1) = 2 * t * (2 ^ p * U) := by
    rw [Nat.pow_succ, ← Nat.mul_assoc, ht, Nat.mul_comm _ 2, Nat.mul_assoc]
  constructor
  · intro h
    have h1 := Nat.mul_le_mul_right (2 ^ more) h
    rw [eA, eB] at h1
    have h2 := qd_le m nn more t (Nat.le_of_mul_le_mul_right h1 hV)
    refine rk_le _ _ _ hr ?_
    rw [e2, Nat.mul_assoc]
    exact Nat.mul_le_mul_right _ h2
  · intro h
    have h1 := Nat.mul_le_mul_right (2 ^ more) h
    rw [eA, eB] at h1
    have h2 := le_qd m nn more t h0 (Nat.le_of_mul_le_mul_right h1 hV)
    refine le_rk _ _ _ hr ?_
    rw [e2, Nat.mul_assoc (qd m nn more)]
    exact Nat.mul_le_mul_right _ h2

theorem mag_two (x : Nat) (h : 1 ≤ x) : mag (x * 4503599627370496) = 2 ^ (52 + (x - 1)) := by
  unfold mag
  have e1 : (4503599627370496 + x * 4503599627370496 % 4503599627370496) = 2 ^ 52 := by
    have : x * 4503599627370496 % 4503599627370496 = 0 := Nat.mul_mod_left _ _
    rw [this]
  have e2 : x * 4503599627370496 / 4503599627370496 - 1 = x - 1 := by omega
  rw [if_neg (by omega), e1, e2, Nat.pow_add]
theorem mag_least : mag 4571153621781053440 * 2 ^ 8 = 1 * U := by
  obtain ⟨x, hx⟩ : ∃ x : Nat, x = 1015 := ⟨_, rfl⟩
  have h := mag_two x (by omega)
  have e1 : x * 4503599627370496 = 4571153621781053440 := by omega
  have e2 : 52 + (x - 1) + 8 = eU := by rw [eU_eq]; omega
  rw [e1] at h
  rw [h, ← Nat.pow_add, e2, Nat.one_mul]
  unfold U; rfl
theorem least_room (g n s : Nat) (hm : g * 2 ^ 8 = 1 * U) (h2 : n ≤ 256) (hs : 1 ≤ s) : g * (n * U) ≤ s * U * U := by
  have h3 : g * n ≤ U := by
    have e8 : (2 : Nat) ^ 8 = 256 := by decide
    rw [e8, Nat.one_mul] at hm
    rw [← hm]
    exact Nat.mul_le_mul_left _ h2
  have h4 : U ≤ s * U := by
    have : 1 * U ≤ s * U := Nat.mul_le_mul_right _ hs
    rwa [Nat.one_mul] at this
  calc g * (n * U) = g * n * U := by rw [Nat.mul_assoc]
    _ ≤ U * U := Nat.mul_le_mul_right _ h3
    _ ≤ s * U * U := Nat.mul_le_mul_right _ h4
theorem sig_log (r : Nat) (h : 4503599627370496 ≤ r) : (sig r).log2 = 52 := by
  obtain ⟨h1, h2⟩ := sig_bound r h
  exact log2_of _ 52 (by have : (2 : Nat) ^ 52 = 4503599627370496 := by decide
                         omega) (by have : (2 : Nat) ^ (52 + 1) = 9007199254740992 := by decide
                                    omega)
theorem sig_log_le (r : Nat) : (sig r).log2 ≤ 52 := by
  by_cases h : 4503599627370496 ≤ r
  · rw [sig_log r h]; exact Nat.le_refl _
  · unfold sig
    rw [if_pos (by omega)]
    by_cases h0 : r = 0
    · subst h0; decide
    · have := (Nat.log2_lt h0).2 (show r < 2 ^ 53 by have : (2 : Nat) ^ 53 = 9007199254740992 := by decide
                                                     omega)
      omega
/-- The places of the words of so many and of n. -/
theorem n_rung (n : Nat) (h1 : 1 ≤ n) (h2 : n ≤ 256) : 4607182418800017408 ≤ rg (iw (n : Int)) ∧ rg (iw (n : Int)) ≤ 4643211215818981376 ∧ mag (rg (iw (n : Int))) = n * U ∧ neg' (iw (n : Int)) = false ∧ Fin' (iw (n : Int)) := by
  obtain ⟨a1, a2, a3, a4⟩ := iw_facts (n : Int) (by omega)
  have e : (n : Int).natAbs = n := by omega
  rw [e] at a4
  have hU := U_pos
  have lo : 4607182418800017408 ≤ rg (iw (n : Int)) := by
    rcases Nat.lt_or_ge (rg (iw (n : Int))) 4607182418800017408 with k | k
    · have := mag_lt k
      rw [mag_one, a4] at this
      have : 1 * U ≤ n * U := Nat.mul_le_mul_right _ h1
      omega
    · exact k
  have hi : rg (iw (n : Int)) ≤ 4643211215818981376 := by
    rcases Nat.lt_or_ge 4643211215818981376 (rg (iw (n : Int))) with k | k
    · have h3 := mag_lt k
      have h4 : mag 4643211215818981376 = 256 * U := by
        obtain ⟨x, hx⟩ : ∃ x : Nat, x = 1031 := ⟨_, rfl⟩
        have := mag_two x (by omega)
        have e1 : x * 4503599627370496 = 4643211215818981376 := by omega
        have e2 : 52 + (x - 1) = 8 + eU := by rw [eU_eq]; omega
        rw [e1, e2, Nat.pow_add, show (2 : Nat) ^ 8 = 256 by decide] at this
        exact this
      rw [h4, a4] at h3
      have : n * U ≤ 256 * U := Nat.mul_le_mul_right _ h2
      omega
    · exact k
  exact ⟨lo, hi, a4, by rw [a3]; exact decide_eq_false (by omega), a1⟩

/-- The mean of whole numbers. -/
theorem mean_facts (S low high : Int) (n : Nat) (h1 : 1 ≤ n) (h2 : n ≤ 256) (hS : S.natAbs ≤ 268435456) (hl : low.natAbs ≤ 1000000) (hh : high.natAbs ≤ 1000000) (hlo : low * n ≤ S) (hhi : S ≤ high * n) :
    Fin' (fo .quo (iw S) (iw (n : Int))) ∧ sr (iw low) ≤ sr (fo .quo (iw S) (iw (n : Int))) ∧ sr (fo .quo (iw S) (iw (n : Int))) ≤ sr (iw high) ∧ (S = 0 ∨ 4571153621781053440 ≤ rg (fo .quo (iw S) (iw (n : Int)))) ∧ (S = 0 → rg (fo .quo (iw S) (iw (n : Int))) = 0) := by
  obtain ⟨b1, b2, b3, b4, b5⟩ := n_rung n h1 h2
  obtain ⟨a1, a2, a3, a4⟩ := iw_facts S (by omega)
  have hU := U_pos
  have hq := quo_fin (iw S) (iw (n : Int)) a1 b5 (by omega)
  rw [b4, Bool.xor_false, a3] at hq
  have hp1 : rg (iw S) ≤ 4733283208366391296 := by
    rcases Nat.lt_or_ge 4733283208366391296 (rg (iw S)) with k | k
    · have h3 := mag_lt k
      have h4 : mag 4733283208366391296 = 268435456 * U := by
        obtain ⟨x, hx⟩ : ∃ x : Nat, x = 1051 := ⟨_, rfl⟩
        have := mag_two x (by omega)
        have e1 : x * 4503599627370496 = 4733283208366391296 := by omega
        have e2 : 52 + (x - 1) = 28 + eU := by rw [eU_eq]; omega
        rw [e1, e2, Nat.pow_add, show (2 : Nat) ^ 28 = 268435456 by decide] at this
        exact this
      rw [h4, a4] at h3
      have : S.natAbs * U ≤ 268435456 * U := Nat.mul_le_mul_right _ hS
      omega
    · exact k
  have hsl := sig_log_le (rg (iw S))
  have hsn := sig_log (rg (iw (n : Int))) (by omega)
  have hnn : 0 < sig (rg (iw (n : Int))) := by have := (sig_bound (rg (iw (n : Int))) (by omega)).1; omega
  have hA := mag_eq (rg (iw S))
  have hB := mag_eq (rg (iw (n : Int)))
  rw [a4] at hA
  rw [b3] at hB
  have hb := fun (r v s : Nat) hr hrv hps => quo_bounds (S.natAbs * U) (n * U) r v s (rg (iw S) / 4503599627370496 - 1) (rg (iw (n : Int)) / 4503599627370496 - 1) (54 + (sig (rg (iw (n : Int)))).log2 - (sig (rg (iw S))).log2) (sig (rg (iw S))) (sig (rg (iw (n : Int)))) hnn hA hB hr hrv hps
  have hroom : rg (iw S) / 4503599627370496 - 1 + 8 ≤ rg (iw (n : Int)) / 4503599627370496 - 1 + (54 + (sig (rg (iw (n : Int)))).log2 - (sig (rg (iw S))).log2) := by omega
  have hzero : S = 0 → rk (rg (iw (n : Int)) / 4503599627370496 - 1 + (54 + (sig (rg (iw (n : Int)))).log2 - (sig (rg (iw S))).log2) + 1) (qd (sig (rg (iw S))) (sig (rg (iw (n : Int)))) (54 + (sig (rg (iw (n : Int)))).log2 - (sig (rg (iw S))).log2) * 2 ^ (rg (iw S) / 4503599627370496 - 1) * U) = 0 := fun h => by
    have hb0 := (hb 0 0 0 (by omega) (by rw [mag_zero, Nat.zero_mul, Nat.zero_mul]) (by omega)).1
    have := hb0 (by rw [h, mag_zero]; simp)
    omega
  generalize rg (iw S) / 4503599627370496 - 1 = p at *
  generalize rg (iw (n : Int)) / 4503599627370496 - 1 = q at *
  generalize 54 + (sig (rg (iw (n : Int)))).log2 - (sig (rg (iw S))).log2 = more at *
  generalize rk (q + more + 1) (qd (sig (rg (iw S))) (sig (rg (iw (n : Int)))) more * 2 ^ p * U) = T at *
  -- against a whole number's word
  have hint : ∀ v : Int, v.natAbs ≤ 1000000 → (S.natAbs ≤ v.natAbs * n → T ≤ rg (iw v)) ∧ (v.natAbs * n ≤ S.natAbs → rg (iw v) ≤ T) := fun v hv => by
    obtain ⟨v1, v2, v3, v4⟩ := iw_facts v (by omega)
    have := hb (rg (iw v)) v.natAbs 0 (by have := v1.2; unfold rg; omega) (by rw [v4, Nat.pow_zero, Nat.mul_one]) (by omega)
    rw [v4] at this
    refine ⟨fun h => this.1 ?_, fun h => this.2 ?_⟩
    · have := Nat.mul_le_mul_right (U * U) h
      calc S.natAbs * U * U = S.natAbs * (U * U) := by rw [Nat.mul_assoc]
        _ ≤ v.natAbs * n * (U * U) := this
        _ = v.natAbs * U * (n * U) := by simp only [Nat.mul_assoc, Nat.mul_comm, Nat.mul_left_comm]
    · have := Nat.mul_le_mul_right (U * U) h
      calc v.natAbs * U * (n * U) = v.natAbs * n * (U * U) := by simp only [Nat.mul_assoc, Nat.mul_comm, Nat.mul_left_comm]
        _ ≤ S.natAbs * (U * U) := this
        _ = S.natAbs * U * U := by rw [Nat.mul_assoc]
  have srv : ∀ v : Int, v.natAbs ≤ 1000000 → sr (iw v) = if v < 0 then -(rg (iw v) : Int) else (rg (iw v) : Int) := fun v hv => by
    obtain ⟨v1, v2, v3, v4⟩ := iw_facts v (by omega)
    unfold neg' at v3
    unfold sr rg
    by_cases hn : v < 0
    · rw [decide_eq_true hn] at v3
      have := of_decide_eq_true v3
      have := v1.1
      rw [if_pos hn, if_neg (by omega)]; omega
    · rw [decide_eq_false hn] at v3
      have := of_decide_eq_false v3
      rw [if_neg hn, if_pos (by omega)]; omega
  have hnabs : ∀ v : Int, (v * n).natAbs = v.natAbs * n := fun v => by rw [Int.natAbs_mul]; rfl
  have hTlt : T < 9218868437227405312 := by
    by_cases hs : 0 ≤ S
    · have hpos : 0 ≤ high * n := by omega
      have := (hint high hh).1 (by rw [← hnabs]; omega)
      have := (iw_facts high (by omega)).1.2
      unfold rg at *
      omega
    · have := (hint low hl).1 (by rw [← hnabs]; omega)
      have := (iw_facts low (by omega)).1.2
      unfold rg at *
      omega
  obtain ⟨w1, w2, w3, w4⟩ := word_num (decide (S < 0)) T (by omega)
  have hM : fo .quo (iw S) (iw (n : Int)) = Ieee.double.word (decide (S < 0)) T := hq
  rw [hM]
  have hrgM : rg (Ieee.double.word (decide (S < 0)) T) = T := w3
  have hsrM := sr_word' (decide (S < 0)) T (by omega)
  have eT : (if true = true then -(T : Int) else (T : Int)) = -(T : Int) := if_pos rfl
  have eF : (if false = true then -(T : Int) else (T : Int)) = (T : Int) := if_neg Bool.false_ne_true
  refine ⟨⟨w2, by rw [w3]; exact hTlt⟩, ?_, ?_, ?_, fun h => by rw [hrgM]; exact hzero h⟩
  · rw [hsrM, srv low hl]
    by_cases hs : S < 0
    · rw [decide_eq_true hs, eT]
      have hlow : low < 0 := by
        rcases Int.lt_or_le low 0 with k | k
        · exact k
        · have := Int.mul_nonneg k (show (0 : Int) ≤ (n : Int) by omega); omega
      rw [if_pos hlow]
      have := (hint low hl).1 (by rw [← hnabs]; omega)
      omega
    · rw [decide_eq_false hs, eF]
      by_cases hlow : low < 0
      · rw [if_pos hlow]; omega
      · rw [if_neg hlow]
        have hp := Int.mul_nonneg (show 0 ≤ low by omega) (show (0 : Int) ≤ (n : Int) by omega)
        have := (hint low hl).2 (by rw [← hnabs]; omega)
        omega
  · rw [hsrM, srv high hh]
    by_cases hs : S < 0
    · rw [decide_eq_true hs, eT]
      by_cases hhigh : high < 0
      · rw [if_pos hhigh]
        have hp := Int.mul_nonneg (show 0 ≤ -high by omega) (show (0 : Int) ≤ (n : Int) by omega)
        rw [Int.neg_mul] at hp
        have := (hint high hh).2 (by rw [← hnabs]; omega)
        omega
      · rw [if_neg hhigh]; omega
    · rw [decide_eq_false hs, eF]
      have hhigh : ¬ high < 0 := by
        intro k
        have := Int.mul_pos (show 0 < -high by omega) (show (0 : Int) < (n : Int) by omega)
        rw [Int.neg_mul] at this
        omega
      rw [if_neg hhigh]
      have := (hint high hh).1 (by rw [← hnabs]; omega)
      omega
  · by_cases h0 : S = 0
    · exact .inl h0
    · right
      rw [hrgM]
      have hm := mag_least
      have hh := (hb 4571153621781053440 1 8 (by omega) hm (by omega)).2
      apply hh
      clear hh
      exact least_room _ n S.natAbs hm h2 (by omega)

end Go.Proofs.Ytphhonpibmbjmaa
