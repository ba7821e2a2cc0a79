/- Proved: plain facts of whole numbers as doubles: their sums and differences are exact, and a compensated sum of them is their sum. -/
import Derived.Test.YtphhonpibmbjmaaBound
namespace Go.Proofs.Ytphhonpibmbjmaa
open Go.RowKit Fl

/-- A whole number as a double. -/
def iw (z : Int) : Nat := floatOfInt .f64 z
theorem iw_word (z : Int) (h : z.natAbs ≤ 9007199254740992) : ∃ t, mag t = z.natAbs * U ∧ t ≤ 4845873199050653696 ∧ iw z = Ieee.double.word (decide (z < 0)) t := by
  obtain ⟨t, ht, hl, hw⟩ := whole_word z.natAbs h
  exact ⟨t, ht, hl, hw _⟩
theorem iw_facts (z : Int) (h : z.natAbs ≤ 9007199254740992) : Fin' (iw z) ∧ sm (iw z) = z * U ∧ neg' (iw z) = decide (z < 0) ∧ mag (rg (iw z)) = z.natAbs * U := by
  obtain ⟨t, ht, hl, hw⟩ := iw_word z h
  obtain ⟨w1, w2, w3, w4⟩ := word_num (decide (z < 0)) t (by omega)
  rw [← hw] at w1 w2 w3 w4
  refine ⟨⟨w2, by rw [w3]; omega⟩, ?_, w4, by unfold rg; rw [w3, ht]⟩
  rw [hw, sm_word _ _ (by omega), ht]
  by_cases hn : z < 0
  · rw [decide_eq_true hn, if_pos rfl]
    have : (z.natAbs : Int) = -z := by omega
    rw [Int.natCast_mul, this, Int.neg_mul, Int.neg_neg]
  · rw [decide_eq_false hn, if_neg (by decide)]
    have : (z.natAbs : Int) = z := by omega
    rw [Int.natCast_mul, this]
theorem iw_lt (z : Int) : iw z < 18446744073709551616 := by
  have := floatOfInt_wf .f64 z
  unfold iw
  simpa [Lit.wf] using this
/-- A whole count of ones, rounded, with its sign: the whole number. -/
theorem iw_of (z : Int) (h : z.natAbs ≤ 9007199254740992) (s : Bool) (hs : z = 0 → s = false) (hs' : z ≠ 0 → s = decide (z < 0)) (X : Int) (hX : X = z * U) : Ieee.double.word s (rr X.natAbs) = iw z := by
  obtain ⟨t, ht, hl, hw⟩ := iw_word z h
  have e : X.natAbs = mag t := by rw [hX, ht, Int.natAbs_mul]; rfl
  rw [e, rr_mag t (by omega), hw]
  by_cases h0 : z = 0
  · rw [hs h0, decide_eq_false (by omega)]
  · rw [hs' h0]
theorem mulU_zero (z : Int) : z * (U : Int) = 0 ↔ z = 0 := by
  have hU := U_pos
  constructor
  · intro h
    rcases Int.mul_eq_zero.1 h with k | k
    · exact k
    · omega
  · intro h; rw [h, Int.zero_mul]
theorem mulU_neg (z : Int) : z * (U : Int) < 0 ↔ z < 0 := by
  have hU : (0 : Int) < (U : Int) := by have := U_pos; omega
  constructor
  · intro h
    by_cases c : z < 0
    · exact c
    · have := Int.mul_nonneg (show 0 ≤ z by omega) (Int.le_of_lt hU); omega
  · intro h
    exact Int.mul_neg_of_neg_of_pos h hU
theorem add_iw (i j : Int) (hi : i.natAbs ≤ 9007199254740992) (hj : j.natAbs ≤ 9007199254740992) (hs : (i + j).natAbs ≤ 9007199254740992) : fo .add (iw i) (iw j) = iw (i + j) := by
  obtain ⟨a1, a2, a3, _⟩ := iw_facts i hi
  obtain ⟨b1, b2, b3, _⟩ := iw_facts j hj
  rw [(add_sr _ _ a1 b1).2.2, a2, b2, a3, b3]
  have e : i * (U : Int) + j * (U : Int) = (i + j) * U := by rw [Int.add_mul]
  refine iw_of (i + j) hs _ (fun h => ?_) (fun h => ?_) _ e
  · rw [if_pos (by rw [e, h, Int.zero_mul])]
    rw [Bool.and_eq_false_iff]
    by_cases c : i < 0
    · right; exact decide_eq_false (by omega)
    · left; exact decide_eq_false c
  · rw [if_neg (by rw [e, mulU_zero]; exact h), e]
    rw [decide_eq_decide]; exact mulU_neg _
theorem sub_iw (i j : Int) (hi : i.natAbs ≤ 9007199254740992) (hj : j.natAbs ≤ 9007199254740992) (hs : (i - j).natAbs ≤ 9007199254740992) : fo .sub (iw i) (iw j) = iw (i - j) := by
  obtain ⟨a1, a2, a3, _⟩ := iw_facts i hi
  obtain ⟨b1, b2, b3, _⟩ := iw_facts j hj
  rw [(sub_sr _ _ a1 b1).2.2, a2, b2, a3, b3]
  have e : i * (U : Int) - j * (U : Int) = (i - j) * U := by rw [Int.sub_mul]
  refine iw_of (i - j) hs _ (fun h => ?_) (fun h => ?_) _ e
  · rw [if_pos (by rw [e, h, Int.zero_mul])]
    have : i = j := by omega
    rw [this]; cases decide (j < 0) <;> rfl
  · rw [if_neg (by rw [e, mulU_zero]; exact h), e]
    rw [decide_eq_decide]; exact mulU_neg _
theorem iw_zero : iw 0 = 0 := by decide +kernel
theorem iw_num (z : Int) (h : z.natAbs ≤ 9007199254740992) : isN (iw z) = false := fin_num (iw_facts z h).1
theorem iw_notneg (z : Int) (h : z.natAbs ≤ 9007199254740992) : iw z ≠ 9223372036854775808 := fun e => by
  obtain ⟨_, _, a3, a4⟩ := iw_facts z h
  rw [e] at a3 a4
  have h1 : neg' 9223372036854775808 = true := by decide
  rw [h1] at a3
  have h2 : rg 9223372036854775808 = 0 := by decide
  rw [h2, mag_zero] at a4
  have hU := U_pos
  have h3 : z < 0 := by simpa using a3.symm
  rcases Nat.mul_eq_zero.1 a4.symm with k | k <;> omega
theorem st_iw (s z : Int) (hs : s.natAbs ≤ 4503599627370496) (hz : z.natAbs ≤ 4503599627370496) : stW (iw s, 0) (iw z) = (iw (s + z), 0) := by
  have ha := add_iw s z (by omega) (by omega) (by omega)
  unfold stW
  simp only [ha]
  have hl : lostW (iw s) (iw z) (iw (s + z)) = 0 := by
    unfold lostW
    split
    · rw [sub_iw z (s + z) (by omega) (by omega) (by omega), show z - (s + z) = -s by omega, add_iw (-s) s (by omega) (by omega) (by omega), show -s + s = 0 by omega, iw_zero]
    · rw [sub_iw s (s + z) (by omega) (by omega) (by omega), show s - (s + z) = -z by omega, add_iw (-z) z (by omega) (by omega) (by omega), show -z + z = 0 by omega, iw_zero]
  have h00 : fo .add 0 0 = 0 := by decide +kernel
  rw [hl, h00]
/-- The sum of so many whole numbers. -/
def zs : List Int → Int
  | [] => 0
  | z :: l => z + zs l
theorem zs_app (A B : List Int) : zs (A ++ B) = zs A + zs B := by
  induction A with
  | nil => simp [zs]
  | cons a A ih => simp only [List.cons_append, zs, ih]; omega
theorem zs_bound (b : Int) (A : List Int) (h : ∀ z ∈ A, -b ≤ z ∧ z ≤ b) : -(A.length * b) ≤ zs A ∧ zs A ≤ A.length * b := by
  induction A with
  | nil => simp [zs]
  | cons a A ih =>
    have h1 := h a (by simp)
    have h2 := ih (fun z hz => h z (by simp [hz]))
    have e : ((A.length + 1 : Nat) : Int) * b = A.length * b + b := by rw [Int.natCast_add, Int.add_mul]; simp
    simp only [zs, List.length_cons]
    rw [e]
    omega
theorem fold_iw (A : List Int) : ∀ (s : Int), (∀ z ∈ A, -1099511627776 ≤ z ∧ z ≤ 1099511627776) → s.natAbs + A.length * 1099511627776 ≤ 4503599627370496 → (A.map iw).foldl stW (iw s, 0) = (iw (s + zs A), 0) := by
  induction A with
  | nil => intro s _ _; simp [zs]
  | cons a A ih =>
    intro s hA hs
    have ha := hA a (by simp)
    rw [List.length_cons] at hs
    rw [List.map_cons, List.foldl_cons, st_iw s a (by omega) (by omega), ih (s + a) (fun z hz => hA z (by simp [hz])) (by omega)]
    simp only [zs]
    rw [Int.add_assoc]
/-- The compensated sum of whole numbers is their sum. -/
theorem sum_iw (A : List Int) (hl : A.length ≤ 300) (hA : ∀ z ∈ A, -1099511627776 ≤ z ∧ z ≤ 1099511627776) : sumW (A.map iw) = iw (zs A) := by
  have hr : runW (A.map iw) = (iw (zs A), 0) := by
    have := fold_iw A 0 hA (by simp; omega)
    rw [iw_zero, Int.zero_add] at this
    exact this
  have hb := zs_bound 1099511627776 A hA
  have hz : (zs A).natAbs ≤ 4503599627370496 := by omega
  unfold sumW
  rw [if_neg, hr]
  · show (if isN 0 = true then iw (zs A) else fo .add (iw (zs A)) 0) = iw (zs A)
    rw [if_neg (by decide), ← iw_zero, add_iw _ 0 (by omega) (by decide) (by omega), Int.add_zero]
  · rintro ⟨hne, hall⟩
    cases A with
    | nil => exact hne rfl
    | cons a A =>
      have ha := hA a (by simp)
      exact iw_notneg a (by omega) (hall _ (by simp))

end Go.Proofs.Ytphhonpibmbjmaa
