/- Proved: plain facts of rounding: of so many parts of the least unit to a rung; more are no lower rung; a rung's own magnitude is that rung. What a product, a quotient, a sum and a difference of finite doubles give by it. -/
import Derived.Test.YtefpaagbopmmlaaRnd
import Derived.Test.YtefpaagbopmmlaaOp
namespace Go.Proofs.Ytefpaagbopmmlaa
namespace Fl

/-- So many 2^k-th parts of the least unit, rounded to a rung. -/
def rk (k N : Nat) : Nat := min ((max (N.log2 - 52) k - k) * 4503599627370496 + Ieee.Toward.even.cut false N (max (N.log2 - 52) k)) 9218868437227405312

theorem cut_scale_all (neg neg' : Bool) (m d p : Nat) : Ieee.Toward.even.cut neg m d = Ieee.Toward.even.cut neg' (m * 2 ^ p) (d + p) := by
  rw [cut_even_all neg m d, cut_even_all neg' (m * 2 ^ p) (d + p)]
  have hp : 0 < 2 ^ p := Nat.two_pow_pos p
  have e1 : m * 2 ^ p / 2 ^ (d + p) = m / 2 ^ d := by rw [Nat.pow_add, Nat.mul_div_mul_right _ _ hp]
  have e2 : m * 2 ^ p % 2 ^ (d + p) = m % 2 ^ d * 2 ^ p := by rw [Nat.pow_add, Nat.mul_mod_mul_right]
  rw [e1, e2, Nat.pow_add, ← Nat.mul_assoc 2]
  have e3 : decide (2 ^ d * 2 ^ p < 2 * (m % 2 ^ d) * 2 ^ p) = decide (2 ^ d < 2 * (m % 2 ^ d)) := by
    rw [decide_eq_decide]; exact Nat.mul_lt_mul_right hp
  have e4 : (2 ^ d * 2 ^ p == 2 * (m % 2 ^ d) * 2 ^ p) = (2 ^ d == 2 * (m % 2 ^ d)) := by
    rw [Bool.eq_iff_iff, beq_iff_eq, beq_iff_eq]
    exact ⟨fun h => Nat.eq_of_mul_eq_mul_right hp h, fun h => congrArg (· * 2 ^ p) h⟩
  rw [e3, e4]

theorem rk_scale (k N p : Nat) : rk (k + p) (N * 2 ^ p) = rk k N := by
  by_cases h : N = 0
  · subst h
    unfold rk
    rw [Nat.zero_mul]
    have : Nat.log2 0 = 0 := by decide
    rw [this]
    have a : max (0 - 52) (k + p) = k + p := by omega
    have b : max (0 - 52) k = k := by omega
    rw [a, b, Nat.sub_self, Nat.sub_self, cut_even_all, cut_even_all]
    simp
  · unfold rk
    rw [log2_scale N p h]
    have a : max (N.log2 + p - 52) (k + p) = max (N.log2 - 52) k + p := by omega
    rw [a, ← cut_scale_all false false N _ p]
    have b : max (N.log2 - 52) k + p - (k + p) = max (N.log2 - 52) k - k := by omega
    rw [b]

theorem rk_zero (N : Nat) : rk 0 N = rr N := by
  unfold rk rr
  rw [Nat.max_eq_left (Nat.zero_le _), Nat.sub_zero]
theorem rk_mag (k r : Nat) (h : r ≤ 9218868437227405312) : rk k (mag r * 2 ^ k) = r := by
  have := rk_scale 0 (mag r) k
  rw [Nat.zero_add] at this
  rw [this, rk_zero, rr_mag r h]

theorem cut_mono (d N M : Nat) (h : N ≤ M) : Ieee.Toward.even.cut false N d ≤ Ieee.Toward.even.cut false M d := by
  rw [cut_even_all, cut_even_all]
  have hp : 0 < 2 ^ d := Nat.two_pow_pos d
  generalize 2 ^ d = e at hp
  have d1 := Nat.div_add_mod N e
  have d2 := Nat.div_add_mod M e
  have l1 := Nat.mod_lt N hp
  have l2 := Nat.mod_lt M hp
  have hq : N / e ≤ M / e := Nat.div_le_div_right h
  rcases Nat.eq_or_lt_of_le hq with q | q
  · rw [q] at d1 ⊢
    have hr : N % e ≤ M % e := by omega
    generalize M / e = x at *
    have hb : ∀ a b : Bool, (a = true → b = true) → x + a.toNat ≤ x + b.toNat := by
      intro a b hab
      cases a
      · exact Nat.le_add_right _ _
      · rw [hab rfl]; exact Nat.le_refl _
    apply hb
    intro ht
    simp only [Bool.or_eq_true, Bool.and_eq_true, decide_eq_true_eq, beq_iff_eq] at ht ⊢
    rcases ht with ht | ⟨ht, hp2⟩
    · left; omega
    · by_cases c : e = 2 * (M % e)
      · right; exact ⟨c, hp2⟩
      · left; omega
  · have hb : ∀ a : Bool, a.toNat ≤ 1 := by intro a; cases a <;> decide
    have := hb (decide (e < 2 * (N % e)) || (e == 2 * (N % e) && N / e % 2 == 1))
    omega

theorem cut_top (d N : Nat) (h : N < 2 ^ (d + 53)) : Ieee.Toward.even.cut false N d ≤ 9007199254740992 := by
  have hp : 0 < 2 ^ d := Nat.two_pow_pos d
  have e : Ieee.Toward.even.cut false (9007199254740992 * 2 ^ d) d = 9007199254740992 := by
    rw [cut_even_all, Nat.mul_div_cancel _ hp, Nat.mul_mod_left]
    have : ¬ 2 ^ d = 0 := by omega
    simp
  rw [← e]
  apply cut_mono
  rw [Nat.pow_add] at h
  have : (2 : Nat) ^ 53 = 9007199254740992 := by decide
  rw [this, Nat.mul_comm] at h
  omega
theorem cut_bot (d N : Nat) (h : 2 ^ (d + 52) ≤ N) : 4503599627370496 ≤ Ieee.Toward.even.cut false N d := by
  have hp : 0 < 2 ^ d := Nat.two_pow_pos d
  have e : Ieee.Toward.even.cut false (4503599627370496 * 2 ^ d) d = 4503599627370496 := by
    rw [cut_even_all, Nat.mul_div_cancel _ hp, Nat.mul_mod_left]
    have : ¬ 2 ^ d = 0 := by omega
    simp
  rw [← e]
  apply cut_mono
  rw [Nat.pow_add] at h
  have : (2 : Nat) ^ 52 = 4503599627370496 := by decide
  rw [this, Nat.mul_comm] at h
  exact h

/-- More parts are no lower rung. -/
theorem rk_mono (k N M : Nat) (h : N ≤ M) : rk k N ≤ rk k M := by
  by_cases h0 : N = 0
  · subst h0
    have z : rk k 0 = 0 := by
      have := rk_mag k 0 (by omega)
      rwa [mag_zero, Nat.zero_mul] at this
    rw [z]; exact Nat.zero_le _
  have hM : M ≠ 0 := by omega
  have hl : N.log2 ≤ M.log2 := (Nat.le_log2 hM).2 (Nat.le_trans (Nat.log2_self_le h0) h)
  unfold rk
  have key : (max (N.log2 - 52) k - k) * 4503599627370496 + Ieee.Toward.even.cut false N (max (N.log2 - 52) k) ≤ (max (M.log2 - 52) k - k) * 4503599627370496 + Ieee.Toward.even.cut false M (max (M.log2 - 52) k) := by
    by_cases hd : max (N.log2 - 52) k = max (M.log2 - 52) k
    · rw [hd]
      have := cut_mono (max (M.log2 - 52) k) N M h
      omega
    · have h1 : Ieee.Toward.even.cut false N (max (N.log2 - 52) k) ≤ 9007199254740992 := by
        apply cut_top
        refine Nat.lt_of_lt_of_le (Nat.lt_log2_self (n := N)) (Nat.pow_le_pow_right (by decide) ?_)
        omega
      have h2 : 4503599627370496 ≤ Ieee.Toward.even.cut false M (max (M.log2 - 52) k) := by
        apply cut_bot
        refine Nat.le_trans (Nat.pow_le_pow_right (by decide) ?_) (Nat.log2_self_le hM)
        omega
      generalize Ieee.Toward.even.cut false N (max (N.log2 - 52) k) = x at *
      generalize Ieee.Toward.even.cut false M (max (M.log2 - 52) k) = y at *
      generalize M.log2 = lm at *
      generalize N.log2 = ln at *
      omega
  omega
theorem rk_le (k N r : Nat) (hr : r ≤ 9218868437227405312) (h : N ≤ mag r * 2 ^ k) : rk k N ≤ r := by
  have := rk_mono k _ _ h
  rwa [rk_mag k r hr] at this
theorem le_rk (k N r : Nat) (hr : r ≤ 9218868437227405312) (h : mag r * 2 ^ k ≤ N) : r ≤ rk k N := by
  have := rk_mono k _ _ h
  rwa [rk_mag k r hr] at this
theorem rk_inf (k N : Nat) : rk k N ≤ 9218868437227405312 := by unfold rk; exact Nat.min_le_right _ _
theorem rr_mono (N M : Nat) (h : N ≤ M) : rr N ≤ rr M := by rw [← rk_zero, ← rk_zero]; exact rk_mono 0 N M h
theorem rr_inf (N : Nat) : rr N ≤ 9218868437227405312 := by rw [← rk_zero]; exact rk_inf 0 N

/-- A number at any place at or above -1074 - k is written as its sign and the rung of its count of parts. -/
theorem nearest_parts (neg : Bool) (m : Nat) (place : Int) (k j : Nat) (hp : place = -1074 - (k : Int) + (j : Int)) : Ieee.double.nearest neg m place = Ieee.double.word neg (rk k (m * 2 ^ j)) := by
  unfold Ieee.Format.nearest
  by_cases hm : m = 0
  · subst hm
    have z : rk k 0 = 0 := by
      have := rk_mag k 0 (by omega)
      rwa [mag_zero, Nat.zero_mul] at this
    rw [if_pos rfl, Nat.zero_mul, z]
  rw [if_neg hm]
  have e1 : Ieee.double.leastPlace = -1074 := place_eq
  have e2 : Ieee.double.binade = 4503599627370496 := by decide
  have e3 : Ieee.double.infRung = 9218868437227405312 := by decide
  have e4 : (Ieee.double.fractionBits : Int) = 52 := by decide
  rw [e1, e2, e3, e4]
  dsimp only
  refine congrArg (Ieee.double.word neg) ?_
  unfold rk
  rw [log2_scale m j hm]
  refine congrArg (fun t => min t 9218868437227405312) ?_
  obtain ⟨l, hl⟩ : ∃ l, l = m.log2 := ⟨_, rfl⟩
  rw [← hl]
  have a2 : (max (place + (l : Int) - 52) (-1074) - -1074).toNat = max (l + j - 52) k - k := by omega
  rw [a2]
  refine congrArg (fun t => (max (l + j - 52) k - k) * 4503599627370496 + t) ?_
  by_cases hd : j ≤ max (l + j - 52) k
  · have a3 : (place - max (place + (l : Int) - 52) (-1074)).toNat = 0 := by omega
    have a4 : (max (place + (l : Int) - 52) (-1074) - place).toNat = max (l + j - 52) k - j := by omega
    rw [a3, a4, Nat.shiftLeft_zero]
    have := cut_scale_all neg false m (max (l + j - 52) k - j) j
    rwa [show max (l + j - 52) k - j + j = max (l + j - 52) k from by omega] at this
  · have a3 : (place - max (place + (l : Int) - 52) (-1074)).toNat = j - max (l + j - 52) k := by omega
    have a4 : (max (place + (l : Int) - 52) (-1074) - place).toNat = 0 := by omega
    rw [a3, a4, Nat.shiftLeft_eq]
    have := cut_scale_all neg false (m * 2 ^ (j - max (l + j - 52) k)) 0 (max (l + j - 52) k)
    rwa [Nat.zero_add, Nat.mul_assoc, ← Nat.pow_add, show j - max (l + j - 52) k + max (l + j - 52) k = j from by omega] at this

def neg' (b : Nat) : Bool := decide (9223372036854775808 ≤ b)
def rg (b : Nat) : Nat := b % 9223372036854775808
/-- A finite word. -/
def Fin' (b : Nat) : Prop := b < 18446744073709551616 ∧ b % 9223372036854775808 < 9218868437227405312

theorem mul_fin (a b : Nat) (ha : Fin' a) (hb : Fin' b) : fo .mul a b = Ieee.double.word (neg' a ^^ neg' b) (rk eU (mag (rg a) * mag (rg b))) := by
  have h : floatBits .mul .f64 a b = some (Ieee.double.word (neg' a ^^ neg' b) (rk eU (mag (rg a) * mag (rg b)))) := by
    show Ieee.double.mul a b = _
    unfold Ieee.Format.mul
    rw [read_eq a ha.1, read_eq b hb.1, if_pos ha.2, if_pos hb.2]
    simp only [Ieee.Datum.product, Option.map, Ieee.Format.write]
    rw [nearest_parts _ _ _ eU ((a % 9223372036854775808 / 4503599627370496 - 1) + (b % 9223372036854775808 / 4503599627370496 - 1)) (by rw [eU_eq]; omega)]
    congr 3
    unfold rg
    rw [mag_eq, mag_eq, Nat.pow_add]
    simp only [Nat.mul_assoc, Nat.mul_comm, Nat.mul_left_comm]
  unfold fo; rw [h]; rfl

/-- A quotient's digits, and one more that is 1 where anything is left over. -/
def qd (m n more : Nat) : Nat := 2 * (m * 2 ^ more / n) + (m * 2 ^ more % n != 0).toNat
theorem quo_fin (a b : Nat) (ha : Fin' a) (hb : Fin' b) (h0 : rg b ≠ 0) :
    fo .quo a b = Ieee.double.word (neg' a ^^ neg' b) (rk (rg b / 4503599627370496 - 1 + (54 + (sig (rg b)).log2 - (sig (rg a)).log2) + 1) (qd (sig (rg a)) (sig (rg b)) (54 + (sig (rg b)).log2 - (sig (rg a)).log2) * 2 ^ (rg a / 4503599627370496 - 1) * U)) := by
  have hs : sig (rg b) ≠ 0 := by
    unfold sig
    split <;> omega
  have h : floatBits .quo .f64 a b = some (Ieee.double.word (neg' a ^^ neg' b) (rk (rg b / 4503599627370496 - 1 + (54 + (sig (rg b)).log2 - (sig (rg a)).log2) + 1) (qd (sig (rg a)) (sig (rg b)) (54 + (sig (rg b)).log2 - (sig (rg a)).log2) * 2 ^ (rg a / 4503599627370496 - 1) * U))) := by
    show Ieee.double.div a b = _
    unfold Ieee.Format.div
    rw [read_eq a ha.1, read_eq b hb.1, if_pos ha.2, if_pos hb.2]
    simp only [Ieee.Datum.quotient]
    unfold rg at *
    rw [if_neg hs]
    have e5 : Ieee.double.fractionBits + 2 = 54 := by decide
    rw [e5]
    simp only [Option.map, Ieee.Format.write, Nat.shiftLeft_eq]
    generalize 54 + (sig (b % 9223372036854775808)).log2 - (sig (a % 9223372036854775808)).log2 = more
    rw [nearest_parts _ _ _ (b % 9223372036854775808 / 4503599627370496 - 1 + more + 1) (a % 9223372036854775808 / 4503599627370496 - 1 + eU) (by rw [eU_eq]; omega)]
    congr 3
    rw [Nat.pow_add, ← Nat.mul_assoc]
    rfl
  unfold fo; rw [h]; rfl

/-- So many units with their sign, rounded to a rung with its sign. -/
def rs (X : Int) : Int := if X < 0 then -(rr X.natAbs : Int) else (rr X.natAbs : Int)
theorem rs_mono (X Y : Int) (h : X ≤ Y) : rs X ≤ rs Y := by
  unfold rs
  by_cases a : X < 0 <;> by_cases b : Y < 0
  · rw [if_pos a, if_pos b]
    have := rr_mono Y.natAbs X.natAbs (by omega)
    omega
  · rw [if_pos a, if_neg b]; omega
  · omega
  · rw [if_neg a, if_neg b]
    have := rr_mono X.natAbs Y.natAbs (by omega)
    omega
theorem rr_zero : rr 0 = 0 := by have := rr_mag 0 (by omega); rwa [mag_zero] at this
theorem rs_neg (X : Int) : rs (-X) = - rs X := by
  unfold rs
  by_cases a : X < 0 <;> by_cases b : X = 0
  · omega
  · rw [if_neg (by omega), if_pos a, Int.natAbs_neg]; omega
  · subst b; simp [rr_zero]
  · rw [if_pos (by omega), if_neg a, Int.natAbs_neg]
theorem sr_word' (s : Bool) (t : Nat) (h : t ≤ 9218868437227405312) : sr (Ieee.double.word s t) = if s then -(t : Int) else t := by
  rw [word_val]
  cases s
  · show sr t = (t : Int)
    unfold sr; rw [if_pos (by omega)]
  · show sr (9223372036854775808 + t) = -(t : Int)
    unfold sr; rw [if_neg (by omega)]; omega
theorem word_rs (s : Bool) (X : Int) (hs : X ≠ 0 → s = decide (X < 0)) : sr (Ieee.double.word s (rr X.natAbs)) = rs X := by
  rw [sr_word' _ _ (rr_inf _)]
  unfold rs
  by_cases h : X = 0
  · subst h; simp [rr_zero]
  · rw [hs h]
    by_cases a : X < 0
    · rw [if_pos a, decide_eq_true a, if_pos rfl]
    · rw [if_neg a, decide_eq_false a, if_neg (by decide)]
/-- A sum: its number and what it is in units, rounded. -/
theorem add_sr (a b : Nat) (ha : Fin' a) (hb : Fin' b) : isN (fo .add a b) = false ∧ sr (fo .add a b) = rs (sm a + sm b) ∧ fo .add a b = Ieee.double.word (if sm a + sm b = 0 then neg' a && neg' b else decide (sm a + sm b < 0)) (rr (sm a + sm b).natAbs) := by
  have h : floatBits .add .f64 a b = _ := add_fin a b ha.1 hb.1 ha.2 hb.2
  have e : fo .add a b = Ieee.double.word (if sm a + sm b = 0 then neg' a && neg' b else decide (sm a + sm b < 0)) (rr (sm a + sm b).natAbs) := by unfold fo; rw [h]; rfl
  refine ⟨(fo_num f_add h).1 |> fun k => by rw [e]; exact k, ?_, e⟩
  rw [e]
  exact word_rs _ _ (fun h0 => by rw [if_neg h0])
theorem sub_sr (a b : Nat) (ha : Fin' a) (hb : Fin' b) : isN (fo .sub a b) = false ∧ sr (fo .sub a b) = rs (sm a - sm b) ∧ fo .sub a b = Ieee.double.word (if sm a - sm b = 0 then neg' a && !neg' b else decide (sm a - sm b < 0)) (rr (sm a - sm b).natAbs) := by
  have h : floatBits .sub .f64 a b = _ := sub_fin a b ha.1 hb.1 ha.2 hb.2
  have e : fo .sub a b = Ieee.double.word (if sm a - sm b = 0 then neg' a && !neg' b else decide (sm a - sm b < 0)) (rr (sm a - sm b).natAbs) := by unfold fo; rw [h]; rfl
  refine ⟨(fo_num f_sub h).1 |> fun k => by rw [e]; exact k, ?_, e⟩
  rw [e]
  exact word_rs _ _ (fun h0 => by rw [if_neg h0])

/-- A word's units by its rung. -/
def ms (r : Int) : Int := if r < 0 then -(mag r.natAbs : Int) else (mag r.natAbs : Int)
theorem sm_ms (b : Nat) (hb : b < 18446744073709551616) : sm b = ms (sr b) := by
  unfold sm ms sr
  by_cases h : b < 9223372036854775808
  · rw [if_pos h, if_pos h, if_neg (by omega), Nat.mod_eq_of_lt h]; rfl
  · rw [if_neg h, if_neg h]
    by_cases h0 : b = 9223372036854775808
    · subst h0; rfl
    · have e : ((9223372036854775808 : Int) - (b : Int)).natAbs = b % 9223372036854775808 := by omega
      rw [if_pos (by omega), e]
theorem ms_le (r s : Int) : ms r ≤ ms s ↔ r ≤ s := by
  have e (r s : Nat) : mag r ≤ mag s ↔ r ≤ s := ⟨fun h => by
    by_cases c : s < r
    · have := mag_lt c; omega
    · omega, mag_le⟩
  have z (r : Nat) : mag r = 0 ↔ r = 0 := ⟨fun h => mag_inj (h.trans mag_zero.symm), fun h => by subst h; rfl⟩
  have h1 := e r.natAbs s.natAbs
  have h2 := e s.natAbs r.natAbs
  have h3 := z r.natAbs
  have h4 := z s.natAbs
  unfold ms
  split <;> split <;> omega
theorem rs_ms (r : Int) (h : -9218868437227405312 ≤ r) (h' : r ≤ 9218868437227405312) : rs (ms r) = r := by
  have m := rr_mag r.natAbs (by omega)
  have z (r : Nat) : mag r = 0 ↔ r = 0 := ⟨fun h => mag_inj (h.trans mag_zero.symm), fun h => by subst h; rfl⟩
  have h3 := z r.natAbs
  unfold rs ms
  by_cases a : r < 0
  · have hp : 0 < mag r.natAbs := by omega
    rw [if_pos a, if_pos (by omega), Int.natAbs_neg, Int.natAbs_natCast, m]; omega
  · rw [if_neg a, if_neg (by omega), Int.natAbs_natCast, m]; omega
/-- Rounded, what is not above a word's units is not above it. -/
theorem rs_le (X r : Int) (h : -9218868437227405312 ≤ r) (h' : r ≤ 9218868437227405312) (hx : X ≤ ms r) : rs X ≤ r := by
  have := rs_mono _ _ hx
  rwa [rs_ms r h h'] at this
theorem le_rs (X r : Int) (h : -9218868437227405312 ≤ r) (h' : r ≤ 9218868437227405312) (hx : ms r ≤ X) : r ≤ rs X := by
  have := rs_mono _ _ hx
  rwa [rs_ms r h h'] at this

end Fl
end Go.Proofs.Ytefpaagbopmmlaa
