/- Proved: a sum or a difference of two finite doubles is the exact sum in units of the least subnormal number, rounded once to a rung; a magnitude of the format is rounded to itself, and a midpoint to one of its two neighbours. -/
import Derived.Test.YtefpaagbopmmlaaFl
namespace Go.Proofs.Ytefpaagbopmmlaa
namespace Fl

theorem log2_scale (m p : Nat) (hm : m ≠ 0) : (m * 2 ^ p).log2 = m.log2 + p := by
  have hp : 0 < 2 ^ p := Nat.two_pow_pos p
  have hne : m * 2 ^ p ≠ 0 := Nat.mul_ne_zero hm (by omega)
  have h1 : 2 ^ m.log2 ≤ m := Nat.log2_self_le hm
  have h2 : m < 2 ^ (m.log2 + 1) := Nat.lt_log2_self
  apply Nat.le_antisymm
  · have : (m * 2 ^ p).log2 < m.log2 + p + 1 := by
      rw [Nat.log2_lt hne, show m.log2 + p + 1 = (m.log2 + 1) + p from by omega, Nat.pow_add]
      exact (Nat.mul_lt_mul_right hp).2 h2
    omega
  · rw [Nat.le_log2 hne, Nat.pow_add]
    exact Nat.mul_le_mul_right _ h1

/-- So many units, rounded to a rung: to the nearest, between two the even one. -/
def rr (N : Nat) : Nat := min ((N.log2 - 52) * 4503599627370496 + Ieee.Toward.even.cut false N (N.log2 - 52)) 9218868437227405312

theorem cut_even (neg : Bool) (n d : Nat) (h : d ≤ n.log2 + 2) : Ieee.Toward.even.cut neg n d = n / 2 ^ d + (decide (2 ^ d < 2 * (n % 2 ^ d)) || (2 ^ d == 2 * (n % 2 ^ d) && n / 2 ^ d % 2 == 1)).toNat := by
  unfold Ieee.Toward.cut
  rw [Nat.min_eq_left h, Nat.one_shiftLeft]

theorem cut_or (neg : Bool) (n d : Nat) (h : d ≤ n.log2 + 2) : Ieee.Toward.even.cut neg n d = n / 2 ^ d ∨ Ieee.Toward.even.cut neg n d = n / 2 ^ d + 1 := by
  rw [cut_even neg n d h]
  cases (decide (2 ^ d < 2 * (n % 2 ^ d)) || (2 ^ d == 2 * (n % 2 ^ d) && n / 2 ^ d % 2 == 1))
  · left; rfl
  · right; rfl

theorem cut_scale (neg neg' : Bool) (m d p : Nat) (hm : m ≠ 0) (h : d ≤ m.log2) : Ieee.Toward.even.cut neg m d = Ieee.Toward.even.cut neg' (m * 2 ^ p) (d + p) := by
  rw [cut_even neg m d (by omega), cut_even neg' (m * 2 ^ p) (d + p) (by rw [log2_scale m p hm]; omega)]
  have hp : 0 < 2 ^ p := Nat.two_pow_pos p
  have e1 : m * 2 ^ p / 2 ^ (d + p) = m / 2 ^ d := by rw [Nat.pow_add, Nat.mul_div_mul_right _ _ hp]
  have e2 : m * 2 ^ p % 2 ^ (d + p) = m % 2 ^ d * 2 ^ p := by rw [Nat.pow_add, Nat.mul_mod_mul_right]
  rw [e1, e2, Nat.pow_add, ← Nat.mul_assoc 2]
  have e3 : decide (2 ^ d * 2 ^ p < 2 * (m % 2 ^ d) * 2 ^ p) = decide (2 ^ d < 2 * (m % 2 ^ d)) := by
    rw [decide_eq_decide]; exact Nat.mul_lt_mul_right hp
  have e4 : (2 ^ d * 2 ^ p == 2 * (m % 2 ^ d) * 2 ^ p) = (2 ^ d == 2 * (m % 2 ^ d)) := by
    rw [Bool.eq_iff_iff, beq_iff_eq, beq_iff_eq]
    exact ⟨fun h => Nat.eq_of_mul_eq_mul_right hp h, fun h => congrArg (· * 2 ^ p) h⟩
  rw [e3, e4]

theorem cut_exact (neg neg' : Bool) (n L : Nat) (hn : n ≠ 0) : Ieee.Toward.even.cut neg n 0 = Ieee.Toward.even.cut neg' (n * 2 ^ L) L := by
  have := cut_scale neg neg' n 0 L hn (by omega)
  rwa [Nat.zero_add] at this

/-- A number that is a whole count of units is written as its sign and the rung of the count. -/
theorem nearest_units (neg : Bool) (m : Nat) (p : Nat) : Ieee.double.nearest neg m (-1074 + (p : Int)) = Ieee.double.word neg (rr (m * 2 ^ p)) := by
  unfold Ieee.Format.nearest
  by_cases hm : m = 0
  · subst hm
    rw [if_pos rfl, Nat.zero_mul]; rfl
  rw [if_neg hm]
  have e1 : Ieee.double.leastPlace = -1074 := place_eq
  have e2 : Ieee.double.binade = 4503599627370496 := by decide
  have e3 : Ieee.double.infRung = 9218868437227405312 := by decide
  have e4 : (Ieee.double.fractionBits : Int) = 52 := by decide
  rw [e1, e2, e3, e4]
  dsimp only
  refine congrArg (Ieee.double.word neg) ?_
  unfold rr
  rw [log2_scale m p hm]
  refine congrArg (fun t => min t 9218868437227405312) ?_
  by_cases h : m.log2 + p ≤ 52
  · have a1 : max (-1074 + (p : Int) + (m.log2 : Int) - 52) (-1074) = -1074 := by omega
    rw [a1]
    have a2 : m.log2 + p - 52 = 0 := by omega
    have a3 : ((-1074 : Int) - -1074).toNat = 0 := by decide
    have a4 : ((-1074 : Int) + (p : Int) - -1074).toNat = p := by omega
    have a5 : ((-1074 : Int) - (-1074 + (p : Int))).toNat = 0 := by omega
    rw [a2, a3, a4, a5, Nat.shiftLeft_eq]
    refine congrArg (fun t => 0 * 4503599627370496 + t) ?_
    have := cut_exact neg false (m * 2 ^ p) 0 (Nat.mul_ne_zero hm (by have := Nat.two_pow_pos p; omega))
    rwa [Nat.pow_zero, Nat.mul_one] at this
  · have a1 : max (-1074 + (p : Int) + (m.log2 : Int) - 52) (-1074) = -1074 + (p : Int) + (m.log2 : Int) - 52 := by omega
    rw [a1]
    have a2 : (-1074 + (p : Int) + (m.log2 : Int) - 52 - -1074).toNat = m.log2 + p - 52 := by omega
    rw [a2]
    refine congrArg (fun t => (m.log2 + p - 52) * 4503599627370496 + t) ?_
    by_cases hd : m.log2 ≤ 52
    · have a3 : ((-1074 : Int) + (p : Int) - (-1074 + (p : Int) + (m.log2 : Int) - 52)).toNat = 52 - m.log2 := by omega
      have a4 : (-1074 + (p : Int) + (m.log2 : Int) - 52 - (-1074 + (p : Int))).toNat = 0 := by omega
      rw [a3, a4, Nat.shiftLeft_eq]
      have := cut_exact neg false (m * 2 ^ (52 - m.log2)) (m.log2 + p - 52) (Nat.mul_ne_zero hm (by have := Nat.two_pow_pos (52 - m.log2); omega))
      rw [this, Nat.mul_assoc, ← Nat.pow_add, show 52 - m.log2 + (m.log2 + p - 52) = p from by omega]
    · have a3 : ((-1074 : Int) + (p : Int) - (-1074 + (p : Int) + (m.log2 : Int) - 52)).toNat = 0 := by omega
      have a4 : (-1074 + (p : Int) + (m.log2 : Int) - 52 - (-1074 + (p : Int))).toNat = m.log2 - 52 := by omega
      rw [a3, a4, Nat.shiftLeft_zero]
      have := cut_scale neg false m (m.log2 - 52) p hm (by omega)
      rw [this, show m.log2 - 52 + p = m.log2 + p - 52 from by omega]

def sv (s : Bool) (x : Nat) : Int := if s then -(x : Int) else (x : Int)

theorem sum_units (s t : Bool) (m n p q : Nat) (V : Int) (hV : V = sv s (m * 2 ^ p) + sv t (n * 2 ^ q)) :
    ((Ieee.Datum.number s m (-1074 + (p : Int))).sum (Ieee.Datum.number t n (-1074 + (q : Int)))).map Ieee.double.write = some (Ieee.double.word (if V = 0 then s && t else decide (V < 0)) (rr V.natAbs)) := by
  simp only [Ieee.Datum.sum]
  have b : min (-1074 + (p : Int)) (-1074 + (q : Int)) = -1074 + ((min p q : Nat) : Int) := by omega
  have e1 : (-1074 + (p : Int) - (-1074 + ((min p q : Nat) : Int))).toNat = p - min p q := by omega
  have e2 : (-1074 + (q : Int) - (-1074 + ((min p q : Nat) : Int))).toNat = q - min p q := by omega
  rw [b, e1, e2]
  have hp : (0 : Int) < 2 ^ (min p q) := Int.pow_pos (by decide)
  have key : ∀ (u : Bool) (x y : Nat), min p q ≤ y → Ieee.signed u x (y - min p q) * 2 ^ (min p q) = sv u (x * 2 ^ y) := by
    intro u x y hy
    rw [signed_scale, show y - min p q + min p q = y from by omega]; rfl
  have hT : (Ieee.signed s m (p - min p q) + Ieee.signed t n (q - min p q)) * 2 ^ (min p q) = V := by
    rw [hV, Int.add_mul, key s m p (by omega), key t n q (by omega)]
  clear key hV
  generalize Ieee.signed s m (p - min p q) + Ieee.signed t n (q - min p q) = T at hT
  have z : (T = 0) = (V = 0) := by
    rw [← hT]
    apply propext
    constructor
    · intro h; rw [h]; simp
    · intro h
      rcases Int.mul_eq_zero.1 h with h | h
      · exact h
      · omega
  have l : (T < 0) = (V < 0) := by
    rw [← hT]
    apply propext
    constructor
    · intro h
      have := Int.mul_lt_mul_of_pos_right h hp
      simpa using this
    · intro h
      by_cases c : T < 0
      · exact c
      · have := Int.mul_nonneg (show 0 ≤ T by omega) (Int.le_of_lt hp)
        omega
  have a : T.natAbs * 2 ^ (min p q) = V.natAbs := by
    rw [← hT, Int.natAbs_mul, Int.natAbs_pow]; rfl
  simp only [Option.map, Ieee.Format.write]
  rw [nearest_units, a]
  simp only [z, l]

theorem sm_sv (b : Nat) (hb : b < 18446744073709551616) : sm b = sv (decide (9223372036854775808 ≤ b)) (mag (b % 9223372036854775808)) := by
  unfold sm sv
  by_cases h : b < 9223372036854775808
  · rw [if_pos h, if_neg (by simp; omega)]
  · rw [if_neg h, if_pos (by simp; omega)]

/-- The sum of two finite words. -/
theorem add_fin (a b : Nat) (ha : a < 18446744073709551616) (hb : b < 18446744073709551616) (fa : a % 9223372036854775808 < 9218868437227405312) (fb : b % 9223372036854775808 < 9218868437227405312) :
    Ieee.double.add a b = some (Ieee.double.word (if sm a + sm b = 0 then decide (9223372036854775808 ≤ a) && decide (9223372036854775808 ≤ b) else decide (sm a + sm b < 0)) (rr (sm a + sm b).natAbs)) := by
  unfold Ieee.Format.add
  rw [read_eq a ha, read_eq b hb, if_pos fa, if_pos fb]
  refine sum_units _ _ _ _ _ _ _ ?_
  rw [← mag_eq, ← mag_eq, sm_sv a ha, sm_sv b hb]

theorem sv_not (s : Bool) (x : Nat) : sv (!s) x = - sv s x := by cases s <;> simp [sv]
/-- The difference of two finite words. -/
theorem sub_fin (a b : Nat) (ha : a < 18446744073709551616) (hb : b < 18446744073709551616) (fa : a % 9223372036854775808 < 9218868437227405312) (fb : b % 9223372036854775808 < 9218868437227405312) :
    Ieee.double.sub a b = some (Ieee.double.word (if sm a - sm b = 0 then decide (9223372036854775808 ≤ a) && !decide (9223372036854775808 ≤ b) else decide (sm a - sm b < 0)) (rr (sm a - sm b).natAbs)) := by
  unfold Ieee.Format.sub
  rw [read_eq a ha, read_eq b hb, if_pos fa, if_pos fb]
  simp only [Ieee.Datum.opposite]
  refine sum_units _ _ _ _ _ _ _ ?_
  rw [← mag_eq, ← mag_eq, sv_not, ← sm_sv a ha, ← sm_sv b hb]
  omega

theorem sig_bound (r : Nat) (h : 4503599627370496 ≤ r) : 4503599627370496 ≤ sig r ∧ sig r < 9007199254740992 := by
  unfold sig; rw [if_neg (by omega)]; omega
theorem log2_of (n k : Nat) (h1 : 2 ^ k ≤ n) (h2 : n < 2 ^ (k + 1)) : n.log2 = k := by
  have hn : n ≠ 0 := by have := Nat.two_pow_pos k; omega
  apply Nat.le_antisymm
  · have := (Nat.log2_lt hn).2 h2; omega
  · exact (Nat.le_log2 hn).2 h1

/-- A magnitude of the format is rounded to its own rung. -/
theorem rr_mag (r : Nat) (h : r ≤ 9218868437227405312) : rr (mag r) = r := by
  by_cases hs : r < 4503599627370496
  · have e : mag r = r := by unfold mag; rw [if_pos hs]
    rw [e]
    unfold rr
    have l : r.log2 - 52 = 0 := by
      by_cases h0 : r = 0
      · subst h0; decide
      · have := (Nat.log2_lt h0).2 (show r < 2 ^ 52 by omega); omega
    rw [l, cut_even _ _ _ (by omega), Nat.pow_zero, Nat.div_one, Nat.mod_one]
    simp
    omega
  · obtain ⟨s1, s2⟩ := sig_bound r (by omega)
    rw [mag_eq]
    unfold rr
    have l : (sig r * 2 ^ (r / 4503599627370496 - 1)).log2 = 52 + (r / 4503599627370496 - 1) := by
      rw [log2_scale _ _ (by omega), log2_of (sig r) 52 (by omega) (by omega)]
    rw [l, show 52 + (r / 4503599627370496 - 1) - 52 = r / 4503599627370496 - 1 from by omega]
    rw [← cut_exact false false (sig r) _ (by omega), cut_even _ _ _ (by omega), Nat.pow_zero, Nat.div_one, Nat.mod_one]
    have e : sig r = 4503599627370496 + r % 4503599627370496 := by unfold sig; rw [if_neg hs]
    rw [e]
    simp
    omega

/-- The middle between a magnitude and the next one is rounded to one of both. -/
theorem rr_mid (r k : Nat) (h : r < 9218868437227405312) (hk : r / 4503599627370496 - 1 = k + 1) : rr (mag r + 2 ^ k) = r ∨ rr (mag r + 2 ^ k) = r + 1 := by
  obtain ⟨s1, s2⟩ := sig_bound r (by omega)
  have hp : 0 < 2 ^ k := Nat.two_pow_pos k
  have hN : mag r + 2 ^ k = (2 * sig r + 1) * 2 ^ k := by
    rw [mag_eq, hk, Nat.pow_succ, Nat.add_mul, Nat.one_mul, Nat.mul_comm (2 ^ k) 2, ← Nat.mul_assoc, Nat.mul_comm (sig r) 2]
  rw [hN]
  unfold rr
  have l : ((2 * sig r + 1) * 2 ^ k).log2 = 53 + k := by
    rw [log2_scale _ _ (by omega), log2_of (2 * sig r + 1) 53 (by omega) (by omega)]
  have l1 : (2 * sig r + 1).log2 = 53 := log2_of (2 * sig r + 1) 53 (by omega) (by omega)
  rw [l, show 53 + k - 52 = 1 + k from by omega]
  have c1 := cut_scale false false (2 * sig r + 1) 1 k (Nat.succ_ne_zero _) (by rw [l1]; decide)
  rw [← c1]
  have c2 := cut_or false (2 * sig r + 1) 1 (Nat.le_trans (by decide : 1 ≤ 2) (Nat.le_add_left 2 _))
  clear c1 l l1 hN
  have e : sig r = 4503599627370496 + r % 4503599627370496 := by unfold sig; rw [if_neg (by omega)]
  have d1 : (2 * sig r + 1) / 2 ^ 1 = sig r := by omega
  rw [d1] at c2
  generalize Ieee.Toward.even.cut false (2 * sig r + 1) 1 = t at c2
  clear d1
  rcases c2 with c | c
  · left; rw [c, e]; omega
  · right; rw [c, e]; omega

end Fl
end Go.Proofs.Ytefpaagbopmmlaa
