/- Proved: the spread of whole numbers that are not too great is not below nought, and is nought just where they are all the same. -/
import Derived.Test.YtphhonpibmbjmaaMean
import Derived.Test.YtphhonpibmbjmaaDot
namespace Go.Proofs.Ytphhonpibmbjmaa
open Go.RowKit Fl

theorem wordf (t : Nat) : Ieee.double.word false t = t := by rw [word_val, if_neg (by decide)]
theorem pow_fact (x r d : Nat) (hx : 1 ≤ x) (hr : x * 4503599627370496 = r) (hd : d = 52 + (x - 1)) : mag r = 2 ^ d := by
  rw [← hr, mag_two x hx, hd]
theorem U_pow (d : Nat) (h : d ≤ 1074) : 2 ^ d ∣ U := Nat.pow_dvd_pow 2 (by rw [eU_eq]; exact h)
/-- The square of a number's distance from the mean. -/
theorem sq_facts (z : Int) (M e E : Nat) (he : e = 1014) (hE : E = 1116) (hz : z.natAbs ≤ 1000000) (hM : Fin' M) (hb : (z * U - sm M).natAbs ≤ 2000000 * U) (hd : 2 ^ e ∣ (sm M).natAbs) :
    sq M (iw z) < 9223372036854775808 ∧ Bd E 1 (sq M (iw z)) ∧ (sm M = z * U → sq M (iw z) = 0) ∧ (sm M ≠ z * U → 4066750463515557888 ≤ sq M (iw z)) := by
  obtain ⟨a1, a2, a3, a4⟩ := iw_facts z (by omega)
  have hs := sub_sr (iw z) M a1 hM
  rw [a2] at hs
  obtain ⟨t1, t2, t3, t4⟩ := iw_facts 2000000 (by decide)
  obtain ⟨u1, u2, u3, u4⟩ := iw_facts 4000000000000 (by decide)
  have hrr : rr (z * U - sm M).natAbs ≤ rg (iw 2000000) := rr_le _ _ (by rw [t4]; exact hb)
  have hlt : rr (z * U - sm M).natAbs < 9218868437227405312 := Nat.lt_of_le_of_lt hrr (by have := t1.2; exact this)
  have hmm : mag (rr (z * U - sm M).natAbs) ≤ 2000000 * U := by
    have := mag_le hrr
    rwa [t4] at this
  obtain ⟨w1, w2, w3, w4⟩ := word_num (if z * U - sm M = 0 then neg' (iw z) && !neg' M else decide (z * U - sm M < 0)) (rr (z * U - sm M).natAbs) (by omega)
  have hfd : Fin' (fo .sub (iw z) M) := by rw [hs.2.2]; exact ⟨w2, by rw [w3]; exact hlt⟩
  have hrg : rg (fo .sub (iw z) M) = rr (z * U - sm M).natAbs := by rw [hs.2.2]; exact w3
  have hP : sq M (iw z) = rk eU (mag (rr (z * U - sm M).natAbs) * mag (rr (z * U - sm M).natAbs)) := by
    unfold sq
    rw [mul_fin _ _ hfd hfd, Bool.xor_self, wordf, hrg]
  have hX : sm M = z * U ↔ (z * (U : Int) - sm M).natAbs = 0 := by omega
  have hdv : 2 ^ e ∣ (z * (U : Int) - sm M).natAbs := by
    have h1 : 2 ^ e ∣ (z * (U : Int)).natAbs := by
      rw [Int.natAbs_mul]
      exact Nat.dvd_trans (U_pow e (by omega)) (Nat.dvd_mul_left _ _)
    have h1' : ((2 ^ e : Nat) : Int) ∣ z * U := Int.natAbs_dvd_natAbs.1 (by rw [Int.natAbs_natCast]; exact h1)
    have h2' : ((2 ^ e : Nat) : Int) ∣ sm M := Int.natAbs_dvd_natAbs.1 (by rw [Int.natAbs_natCast]; exact hd)
    have h4 := Int.natAbs_dvd_natAbs.2 (Int.dvd_sub h1' h2')
    rwa [Int.natAbs_natCast] at h4
  rw [hP]
  generalize (z * (U : Int) - sm M).natAbs = N at *
  have hle : rk eU (mag (rr N) * mag (rr N)) ≤ rg (iw 4000000000000) := by
    refine rk_le _ _ _ (by have := u1.2; unfold rg; omega) ?_
    rw [u4]
    show mag (rr N) * mag (rr N) ≤ 4000000000000 * U * U
    calc mag (rr N) * mag (rr N) ≤ 2000000 * U * (2000000 * U) := Nat.mul_le_mul hmm hmm
      _ = 2000000 * 2000000 * (U * U) := by simp only [Nat.mul_assoc, Nat.mul_comm, Nat.mul_left_comm]
      _ = 4000000000000 * U * U := by rw [show (2000000 * 2000000 : Nat) = 4000000000000 by decide, Nat.mul_assoc]
  have hPm : mag (rk eU (mag (rr N) * mag (rr N))) ≤ 4000000000000 * U := by
    have := mag_le hle
    rw [u4] at this
    exact this
  have hPl : rk eU (mag (rr N) * mag (rr N)) < 9218868437227405312 := Nat.lt_of_le_of_lt hle (by have := u1.2; exact this)
  refine ⟨by omega, ⟨⟨by omega, by omega⟩, ?_⟩, fun h => ?_, fun h => ?_⟩
  · rw [sm_abs]
    have : rg (rk eU (mag (rr N) * mag (rr N))) = rk eU (mag (rr N) * mag (rr N)) := Nat.mod_eq_of_lt (by omega)
    rw [this, Nat.one_mul]
    refine Nat.le_trans hPm ?_
    have hEe : E = 42 + eU := by rw [eU_eq]; omega
    rw [hEe, Nat.pow_add]
    have h42 : (4000000000000 : Nat) ≤ 2 ^ 42 := by decide
    show 4000000000000 * U ≤ 2 ^ 42 * U
    exact Nat.mul_le_mul_right _ h42
  · rw [hX.1 h, rr_zero, mag_zero, Nat.zero_mul, rk_nought]
  · have h0 : N ≠ 0 := fun k => h (hX.2 k)
    have hN : 2 ^ e ≤ N := Nat.le_of_dvd (by omega) hdv
    have m1 := pow_fact 963 4336966441157787648 e (by omega) (by omega) (by omega)
    have hr1 : 4336966441157787648 ≤ rr N := by
      have := rr_mono _ _ (show mag 4336966441157787648 ≤ N by rw [m1]; exact hN)
      rwa [rr_mag _ (by omega)] at this
    have hm1 : 2 ^ e ≤ mag (rr N) := by rw [← m1]; exact mag_le hr1
    obtain ⟨d, hd2⟩ : ∃ d : Nat, d = 954 := ⟨_, rfl⟩
    have m2 := pow_fact 903 4066750463515557888 d (by omega) (by omega) (by omega)
    refine le_rk _ _ _ (by omega) ?_
    rw [m2, ← Nat.pow_add]
    have he2 : d + eU = e + e := by rw [eU_eq]; omega
    rw [he2, Nat.pow_add]
    exact Nat.mul_le_mul hm1 hm1

theorem word_err (X : Int) (s : Bool) (hs : X ≠ 0 → s = decide (X < 0)) (hr : rr X.natAbs < 9218868437227405312) :
    (sm (Ieee.double.word s (rr X.natAbs)) - X) * 9007199254740992 ≤ X.natAbs ∧ -(X.natAbs : Int) ≤ (sm (Ieee.double.word s (rr X.natAbs)) - X) * 9007199254740992 := by
  have he := rr_err X.natAbs hr
  rw [sm_word _ _ (by omega)]
  by_cases h0 : X = 0
  · subst h0
    have hz : rr (0 : Int).natAbs = 0 := rr_zero
    rw [hz, mag_zero]
    cases s <;> simp
  · rw [hs h0]
    by_cases hn : X < 0
    · rw [decide_eq_true hn, if_pos rfl]; omega
    · rw [decide_eq_false hn, if_neg Bool.false_ne_true]; omega
theorem fin_of_word {s : Bool} {t : Nat} (ht : t ≤ 9218868437227405312) (h : Fin' (Ieee.double.word s t)) : t < 9218868437227405312 := by
  have := h.2
  rwa [(word_num s t ht).2.2.1] at this
theorem add_err (a b : Nat) (ha : Fin' a) (hb : Fin' b) (hf : Fin' (fo .add a b)) :
    (sm (fo .add a b) - (sm a + sm b)) * 9007199254740992 ≤ (sm a + sm b).natAbs ∧ -((sm a + sm b).natAbs : Int) ≤ (sm (fo .add a b) - (sm a + sm b)) * 9007199254740992 := by
  have h := (add_sr a b ha hb).2.2
  rw [h] at hf ⊢
  exact word_err _ _ (fun h0 => if_neg h0) (fin_of_word (rr_inf _) hf)
theorem sub_err (a b : Nat) (ha : Fin' a) (hb : Fin' b) (hf : Fin' (fo .sub a b)) :
    (sm (fo .sub a b) - (sm a - sm b)) * 9007199254740992 ≤ (sm a - sm b).natAbs ∧ -((sm a - sm b).natAbs : Int) ≤ (sm (fo .sub a b) - (sm a - sm b)) * 9007199254740992 := by
  have h := (sub_sr a b ha hb).2.2
  rw [h] at hf ⊢
  exact word_err _ _ (fun h0 => if_neg h0) (fin_of_word (rr_inf _) hf)

theorem num1 (α β τ ρ l : Int) (ha : 0 ≤ α) (hb : 0 ≤ β) (h1 : (τ - (α + β)) * 9007199254740992 ≤ α + β) (h2 : -(α + β) ≤ (τ - (α + β)) * 9007199254740992)
    (h3 : (ρ - (β - τ)) * 9007199254740992 ≤ (β - τ).natAbs) (h4 : -((β - τ).natAbs : Int) ≤ (ρ - (β - τ)) * 9007199254740992)
    (h5 : (l - (ρ + α)) * 9007199254740992 ≤ (ρ + α).natAbs) (h6 : -((ρ + α).natAbs : Int) ≤ (l - (ρ + α)) * 9007199254740992) : l * 9007199254740992 ≤ 7 * τ ∧ -(7 * τ) ≤ l * 9007199254740992 := by
  have k1 : α + β ≤ 2 * τ := by omega
  have k2 : ((β - τ).natAbs : Int) ≤ 2 * (α + β) := by omega
  have k3 : (ρ + α) * 9007199254740992 ≤ 6 * τ ∧ -(6 * τ) ≤ (ρ + α) * 9007199254740992 := by omega
  have k4 : ((ρ + α).natAbs : Int) ≤ τ := by omega
  omega
theorem num2 (γ l c G τ : Int) (ht : 0 ≤ τ) (hG : G ≤ 300 * τ) (hG0 : 0 ≤ G) (h1 : γ * 9007199254740992 ≤ 16 * G) (h2 : -(16 * G) ≤ γ * 9007199254740992) (h3 : l * 9007199254740992 ≤ 7 * τ) (h4 : -(7 * τ) ≤ l * 9007199254740992)
    (h5 : (c - (γ + l)) * 9007199254740992 ≤ (γ + l).natAbs) (h6 : -((γ + l).natAbs : Int) ≤ (c - (γ + l)) * 9007199254740992) : c * 9007199254740992 ≤ 16 * (G + τ) ∧ -(16 * (G + τ)) ≤ c * 9007199254740992 := by
  have k1 : ((γ + l).natAbs : Int) ≤ τ := by omega
  omega

theorem pos_facts {x : Nat} (h : x < 9223372036854775808) : rg x = x ∧ sm x = (mag x : Int) ∧ neg' x = false := by
  refine ⟨Nat.mod_eq_of_lt h, ?_, by unfold neg'; exact decide_eq_false (by omega)⟩
  unfold sm; rw [if_pos h, Nat.mod_eq_of_lt h]
/-- The sum of two numbers that are not below nought. -/
theorem add_pos' {s x : Nat} (hs : Fin' s) (hx : Fin' x) (hs' : s < 9223372036854775808) (hx' : x < 9223372036854775808) : fo .add s x = rr (mag s + mag x) := by
  obtain ⟨_, s2, s3⟩ := pos_facts hs'
  obtain ⟨_, x2, x3⟩ := pos_facts hx'
  have e : sm s + sm x = ((mag s + mag x : Nat) : Int) := by rw [s2, x2]; omega
  rw [(add_sr s x hs hx).2.2, e, Int.natAbs_natCast, s3]
  have : (if ((mag s + mag x : Nat) : Int) = 0 then false && neg' x else decide (((mag s + mag x : Nat) : Int) < 0)) = false := by
    split
    · rfl
    · exact decide_eq_false (by omega)
  rw [this, wordf]
/-- How the correction stands to the sum, behind k numbers that are not below nought. -/
def Iv (e k : Nat) (p : Nat × Nat) : Prop := Bd e k p.1 ∧ Bd e (604 * k) p.2 ∧ p.1 < 9223372036854775808 ∧ sm p.2 * 9007199254740992 ≤ 16 * ((k * mag p.1 : Nat) : Int) ∧ -(16 * ((k * mag p.1 : Nat) : Int)) ≤ sm p.2 * 9007199254740992
theorem lost_err {e k a b s x : Nat} (ha : Bd e k a) (hb : Bd e k b) (hk : k ≤ 1000) (ha' : a < 9223372036854775808) (hb' : b < 9223372036854775808) (h1 : 52 ≤ e) (h2 : e ≤ 2075) (ht : Bd e (2 * k) (rr (mag s + mag x))) (hab : mag a + mag b = mag s + mag x) :
    sm (fo .add (fo .sub b (rr (mag s + mag x))) a) * 9007199254740992 ≤ 7 * (mag (rr (mag s + mag x)) : Int) ∧ -(7 * (mag (rr (mag s + mag x)) : Int)) ≤ sm (fo .add (fo .sub b (rr (mag s + mag x))) a) * 9007199254740992 := by
  have htl : rr (mag s + mag x) < 9218868437227405312 := by
    have := ht.1.2
    rcases Nat.lt_or_ge (rr (mag s + mag x)) 9218868437227405312 with c | c
    · exact c
    · have := rr_inf (mag s + mag x)
      omega
  have hu := sub_bd hb ht (by omega) h1 h2
  have hl := add_bd hu ha (by omega) h1 h2
  have e1 := sub_err b _ hb.1 ht.1 hu.1
  have e2 := add_err _ a hu.1 ha.1 hl.1
  obtain ⟨_, t2, _⟩ := pos_facts (x := rr (mag s + mag x)) (by omega)
  obtain ⟨_, a2, _⟩ := pos_facts ha'
  obtain ⟨_, b2, _⟩ := pos_facts hb'
  have er := rr_err (mag s + mag x) htl
  rw [t2, b2] at e1
  rw [a2] at e2
  generalize sm (fo .add (fo .sub b (rr (mag s + mag x))) a) = l at *
  generalize sm (fo .sub b (rr (mag s + mag x))) = ρ at *
  generalize mag (rr (mag s + mag x)) = τ at *
  exact num1 (mag a) (mag b) τ ρ l (by omega) (by omega) (by have := er.1; omega) (by have := er.2; omega) e1.1 e1.2 e2.1 e2.2
theorem iv_step {e k x : Nat} {p : Nat × Nat} (h : Iv e k p) (hx : Bd e 1 x) (hx' : x < 9223372036854775808) (hk : k ≤ 299) (h1 : 52 ≤ e) (h2 : e ≤ 2075) : Iv e (k + 1) (stW p x) ∧ mag p.1 ≤ mag (stW p x).1 ∧ mag x ≤ mag (stW p x).1 := by
  obtain ⟨b1, b2, b3, b4, b5⟩ := h
  have hst := st_bd b1 b2 hx (by omega) h1 h2
  have ht := add_pos' b1.1 hx.1 b3 hx'
  have htb : Bd e (k + 1) (rr (mag p.1 + mag x)) := by rw [← ht]; exact hst.1
  have e1 : (stW p x).1 = rr (mag p.1 + mag x) := ht
  have hp1 : rr (mag p.1) = p.1 := rr_mag _ (by have := b1.1.2; omega)
  have hx1 : rr (mag x) = x := rr_mag _ (by have := hx.1.2; omega)
  have hs1 : mag p.1 ≤ mag (rr (mag p.1 + mag x)) := by
    have := mag_le (rr_mono (mag p.1) (mag p.1 + mag x) (by omega))
    rwa [hp1] at this
  have hs2 : mag x ≤ mag (rr (mag p.1 + mag x)) := by
    have := mag_le (rr_mono (mag x) (mag p.1 + mag x) (by omega))
    rwa [hx1] at this
  have hL : sm (lostW p.1 x (fo .add p.1 x)) * 9007199254740992 ≤ 7 * (mag (rr (mag p.1 + mag x)) : Int) ∧ -(7 * (mag (rr (mag p.1 + mag x)) : Int)) ≤ sm (lostW p.1 x (fo .add p.1 x)) * 9007199254740992 := by
    rw [ht]
    unfold lostW
    split
    · exact lost_err (k := k + 1) (bd_more b1 (by omega)) (bd_more hx (by omega)) (by omega) b3 hx' h1 h2 (bd_more htb (by omega)) rfl
    · exact lost_err (k := k + 1) (bd_more hx (by omega)) (bd_more b1 (by omega)) (by omega) hx' b3 h1 h2 (bd_more htb (by omega)) (Nat.add_comm _ _)
  have hlb := lost_bd b1 hx (by omega) h1 h2
  have e3 := add_err p.2 (lostW p.1 x (fo .add p.1 x)) b2.1 hlb.1 hst.2.1
  have e4 : (stW p x).2 = fo .add p.2 (lostW p.1 x (fo .add p.1 x)) := rfl
  have hG : k * mag p.1 ≤ k * mag (rr (mag p.1 + mag x)) := Nat.mul_le_mul_left _ hs1
  have hG2 : k * mag (rr (mag p.1 + mag x)) ≤ 300 * mag (rr (mag p.1 + mag x)) := Nat.mul_le_mul_right _ (by omega)
  have hG3 : (k + 1) * mag (rr (mag p.1 + mag x)) = k * mag (rr (mag p.1 + mag x)) + mag (rr (mag p.1 + mag x)) := by rw [Nat.add_mul, Nat.one_mul]
  have hrl : rr (mag p.1 + mag x) ≤ 9218868437227405312 := rr_inf _
  have e3' := e3
  rw [← e4] at e3'
  refine ⟨⟨hst.1, hst.2, by rw [e1]; omega, ?_⟩, by rw [e1]; exact hs1, by rw [e1]; exact hs2⟩
  rw [e1, hG3]
  generalize sm (stW p x).2 = c at *
  generalize sm (lostW p.1 x (fo .add p.1 x)) = l at *
  generalize sm p.2 = γ at *
  generalize k * mag (rr (mag p.1 + mag x)) = G at *
  generalize k * mag p.1 = G0 at *
  generalize mag (rr (mag p.1 + mag x)) = τ at *
  have := num2 γ l c G τ (by omega) (by omega) (by omega) (by omega) (by omega) hL.1 hL.2 e3'.1 e3'.2
  refine ⟨?_, ?_⟩
  · have h9 := this.1; omega
  · have h9 := this.2; omega
theorem iv_fold {e : Nat} (h1 : 52 ≤ e) (h2 : e ≤ 2075) : ∀ (M : List Nat) (k : Nat) (p : Nat × Nat), k + M.length ≤ 300 → (∀ x ∈ M, Bd e 1 x ∧ x < 9223372036854775808) → Iv e k p →
    Iv e (k + M.length) (M.foldl stW p) ∧ mag p.1 ≤ mag (M.foldl stW p).1 ∧ ∀ x ∈ M, mag x ≤ mag (M.foldl stW p).1 := by
  intro M
  induction M with
  | nil => intro k p _ _ h; exact ⟨h, Nat.le_refl _, fun x hx => by cases hx⟩
  | cons x M ih =>
    intro k p hk hM h
    rw [List.length_cons] at hk
    have hx := hM x (by simp)
    obtain ⟨a, b, c⟩ := iv_step h hx.1 hx.2 (by omega) h1 h2
    obtain ⟨d, f, g⟩ := ih (k + 1) (stW p x) (by omega) (fun y hy => hM y (by simp [hy])) a
    rw [List.foldl_cons, List.length_cons, show k + (M.length + 1) = k + 1 + M.length by omega]
    refine ⟨d, by omega, fun y hy => ?_⟩
    rcases List.mem_cons.1 hy with rfl | hy
    · omega
    · exact g y hy
theorem zeros_fold : ∀ (M : List Nat), (∀ x ∈ M, x = 0) → M.foldl stW (0, 0) = (0, 0) := by
  intro M
  induction M with
  | nil => intro _; rfl
  | cons x M ih =>
    intro h
    have hx := h x (by simp)
    subst hx
    have : stW (0, 0) 0 = (0, 0) := by decide +kernel
    rw [List.foldl_cons, this]
    exact ih (fun y hy => h y (by simp [hy]))
/-- A sum of numbers that are not below nought: nought where all are; far above it where one is. -/
theorem sum_pos (E : Nat) (h1 : 52 ≤ E) (h2 : E ≤ 2075) (L : List Nat) (hl : L.length ≤ 300) (h0 : L ≠ []) (hL : ∀ x ∈ L, Bd E 1 x ∧ x < 9223372036854775808) :
    ((∀ x ∈ L, x = 0) → sumW L = 0) ∧ ((∃ x ∈ L, 4066750463515557888 ≤ x) → 4062246863888187392 ≤ sumW L ∧ sumW L < 9218868437227405312) := by
  have hneg : ¬ (L ≠ [] ∧ ∀ x ∈ L, x = 9223372036854775808) := by
    rintro ⟨_, h⟩
    obtain ⟨x, hx⟩ := List.exists_mem_of_ne_nil L h0
    have := (hL x hx).2
    have := h x hx
    omega
  constructor
  · intro hz
    unfold sumW
    have hr : runW L = (0, 0) := zeros_fold L hz
    rw [if_neg hneg, hr]
    decide +kernel
  · rintro ⟨x, hx, hxr⟩
    have hiv0 : Iv E 0 (0, 0) := ⟨bd_zero E, by rw [Nat.mul_zero]; exact bd_zero E, by decide, by simp [show sm 0 = 0 from by decide], by simp [show sm 0 = 0 from by decide]⟩
    obtain ⟨⟨a1, a2, a3, a4, a5⟩, _, hb⟩ := iv_fold h1 h2 L 0 (0, 0) (by omega) hL hiv0
    have hbx := hb x hx
    have a1 : Bd E (0 + L.length) (runW L).1 := a1
    have a2 : Bd E (604 * (0 + L.length)) (runW L).2 := a2
    have a3 : (runW L).1 < 9223372036854775808 := a3
    have a4 : sm (runW L).2 * 9007199254740992 ≤ 16 * (((0 + L.length) * mag (runW L).1 : Nat) : Int) := a4
    have a5 : -(16 * (((0 + L.length) * mag (runW L).1 : Nat) : Int)) ≤ sm (runW L).2 * 9007199254740992 := a5
    have hbx : mag x ≤ mag (runW L).1 := hbx
    have hfin := (add_bd a1 a2 (by omega) h1 h2).1
    unfold sumW
    rw [if_neg hneg, if_neg (by rw [fin_num a2.1]; decide)]
    obtain ⟨d, hd⟩ : ∃ d : Nat, d = 953 := ⟨_, rfl⟩
    have m2 := pow_fact 903 4066750463515557888 (d + 1) (by omega) (by omega) (by omega)
    have m3 := pow_fact 902 4062246863888187392 d (by omega) (by omega) (by omega)
    have hxm := mag_le hxr
    rw [m2, Nat.pow_succ] at hxm
    obtain ⟨_, s2, s3⟩ := pos_facts a3
    have hs := (add_sr (runW L).1 (runW L).2 a1.1 a2.1).2.2
    have hGl : (0 + L.length) * mag (runW L).1 ≤ 300 * mag (runW L).1 := Nat.mul_le_mul_right _ (by omega)
    rw [s2] at hs
    rw [← m3] at hxm
    have hX : mag 4062246863888187392 ≤ ((mag (runW L).1 : Int) + sm (runW L).2).natAbs ∧ 0 < (mag (runW L).1 : Int) + sm (runW L).2 := by
      have hp : 0 < mag 4062246863888187392 := by rw [m3]; exact Nat.two_pow_pos d
      generalize mag 4062246863888187392 = g at *
      generalize sm (runW L).2 = γ at *
      generalize (0 + L.length) * mag (runW L).1 = G at *
      generalize mag (runW L).1 = σ at *
      have k1 : γ * 9007199254740992 ≤ 4800 * (σ : Int) := by omega
      have k2 : -(4800 * (σ : Int)) ≤ γ * 9007199254740992 := by omega
      omega
    have hsg : (if (mag (runW L).1 : Int) + sm (runW L).2 = 0 then neg' (runW L).1 && neg' (runW L).2 else decide ((mag (runW L).1 : Int) + sm (runW L).2 < 0)) = false := by
      rw [if_neg (by omega)]; exact decide_eq_false (by omega)
    rw [hsg, wordf] at hs
    rw [hs] at hfin ⊢
    have hr := rr_mono _ _ hX.1
    rw [rr_mag _ (by omega)] at hr
    refine ⟨hr, ?_⟩
    have h9 := hfin.2
    have h8 := rr_inf ((mag (runW L).1 : Int) + sm (runW L).2).natAbs
    generalize rr ((mag (runW L).1 : Int) + sm (runW L).2).natAbs = y at *
    omega

end Go.Proofs.Ytphhonpibmbjmaa
