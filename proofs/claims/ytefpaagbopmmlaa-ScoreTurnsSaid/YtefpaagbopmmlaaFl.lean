/- Proved: two words of a double that are no NaN's stand to each other as their rungs with their signs do; a NaN stands to nothing. -/
import Derived.Laws.Cover2
import Derived.Laws.FloatArith
namespace Go.Proofs.Ytefpaagbopmmlaa
namespace Fl

/-- The magnitude of a rung, in units of the least subnormal number. -/
def mag (r : Nat) : Nat := if r < 4503599627370496 then r else (4503599627370496 + r % 4503599627370496) * 2 ^ (r / 4503599627370496 - 1)

def sig (r : Nat) : Nat := if r < 4503599627370496 then r else 4503599627370496 + r % 4503599627370496

theorem mag_eq (r : Nat) : mag r = sig r * 2 ^ (r / 4503599627370496 - 1) := by
  unfold mag sig
  split
  · have : r / 4503599627370496 = 0 := by omega
    simp [this]
  · rfl

theorem mag_succ (r : Nat) : mag (r + 1) = mag r + 2 ^ (r / 4503599627370496 - 1) := by
  rw [mag_eq, mag_eq]
  by_cases h : r < 4503599627370496
  · have h0 : r / 4503599627370496 = 0 := by omega
    have h1 : (r + 1) / 4503599627370496 - 1 = 0 := by omega
    have h2 : sig (r + 1) = sig r + 1 := by unfold sig; split <;> (try split) <;> omega
    rw [h0, h1, h2]; simp
  · by_cases hq : (r + 1) % 4503599627370496 = 0
    · have h1 : (r + 1) / 4503599627370496 - 1 = (r / 4503599627370496 - 1) + 1 := by omega
      have h2 : sig (r + 1) = 4503599627370496 := by unfold sig; split <;> omega
      have h3 : sig r + 1 = 2 * 4503599627370496 := by unfold sig; split <;> omega
      have h4 : sig r = 2 * 4503599627370496 - 1 := by omega
      rw [h1, h2, h4, Nat.pow_succ]; omega
    · have h1 : (r + 1) / 4503599627370496 = r / 4503599627370496 := by omega
      have h2 : sig (r + 1) = sig r + 1 := by unfold sig; split <;> (try split) <;> omega
      rw [h1, h2, Nat.succ_mul]

theorem mag_lt_succ (r : Nat) : mag r < mag (r + 1) := by
  rw [mag_succ]; have := Nat.two_pow_pos (r / 4503599627370496 - 1); omega

theorem mag_lt {r s : Nat} (h : r < s) : mag r < mag s := by
  induction s with
  | zero => omega
  | succ n ih =>
    by_cases e : r = n
    · subst e; exact mag_lt_succ r
    · exact Nat.lt_trans (ih (by omega)) (mag_lt_succ n)

theorem mag_zero : mag 0 = 0 := rfl

theorem mag_le {r s : Nat} (h : r ≤ s) : mag r ≤ mag s := by
  by_cases e : r = s
  · subst e; exact Nat.le_refl _
  · exact Nat.le_of_lt (mag_lt (by omega))

theorem mag_inj {r s : Nat} (h : mag r = mag s) : r = s := by
  by_cases a : r < s
  · have := mag_lt a; omega
  · by_cases b : s < r
    · have := mag_lt b; omega
    · omega

/-- A NaN's bits. -/
def isN (b : Nat) : Bool := decide (9218868437227405312 < b % 9223372036854775808)

/-- The signed rung of a word. -/
def sr (b : Nat) : Int := if b < 9223372036854775808 then (b : Int) else 9223372036854775808 - (b : Int)

/-- The signed magnitude of a word. -/
def sm (b : Nat) : Int := if b < 9223372036854775808 then (mag (b % 9223372036854775808) : Int) else -(mag (b % 9223372036854775808) : Int)

theorem sm_lt (a b : Nat) (ha : a < 18446744073709551616) (hb : b < 18446744073709551616) : sm a < sm b ↔ sr a < sr b := by
  have e (r s : Nat) : mag r < mag s ↔ r < s := ⟨fun h => by
    by_cases c : s ≤ r
    · have := mag_le c; omega
    · omega, mag_lt⟩
  have z (r : Nat) : mag r = 0 ↔ r = 0 := ⟨fun h => mag_inj (h.trans mag_zero.symm), fun h => by subst h; rfl⟩
  have h1 := e (a % 9223372036854775808) (b % 9223372036854775808)
  have h2 := e (b % 9223372036854775808) (a % 9223372036854775808)
  have h3 := z (a % 9223372036854775808)
  have h4 := z (b % 9223372036854775808)
  unfold sm sr
  split <;> split <;> omega

theorem sm_eq (a b : Nat) (ha : a < 18446744073709551616) (hb : b < 18446744073709551616) : sm a = sm b ↔ sr a = sr b := by
  have h1 := sm_lt a b ha hb
  have h2 := sm_lt b a hb ha
  omega

theorem neg_eq (b : Nat) (hb : b < 18446744073709551616) : (b / 9223372036854775808 % 2 == 1) = decide (9223372036854775808 ≤ b) := by
  rw [Bool.eq_iff_iff]; simp; omega

theorem place_eq : Ieee.double.leastPlace = -1074 := by decide

/-- What a word of a double stands for. -/
theorem read_eq (b : Nat) (hb : b < 18446744073709551616) : Ieee.double.read b =
    if b % 9223372036854775808 < 9218868437227405312 then .number (decide (9223372036854775808 ≤ b)) (sig (b % 9223372036854775808)) (-1074 + ((b % 9223372036854775808) / 4503599627370496 - 1 : Nat))
    else if b % 9223372036854775808 = 9218868437227405312 then .infinity (decide (9223372036854775808 ≤ b))
    else .nan (decide (9223372036854775808 ≤ b)) (b % 9223372036854775808 - 9218868437227405312) := by
  have e1 : Ieee.double.signWeight = 9223372036854775808 := by decide
  have e2 : Ieee.double.binade = 4503599627370496 := by decide
  have e3 : Ieee.double.infRung = 9218868437227405312 := by decide
  unfold Ieee.Format.read
  rw [e1, e2, e3, place_eq, neg_eq b hb]
  dsimp only
  by_cases h : b % 9223372036854775808 < 4503599627370496
  · rw [if_pos h, if_pos (by omega)]
    have h0 : (b % 9223372036854775808) / 4503599627370496 = 0 := by omega
    have h1 : sig (b % 9223372036854775808) = b % 9223372036854775808 := by unfold sig; rw [if_pos h]
    rw [h0, h1]; simp
  · rw [if_neg h]
    have h1 : sig (b % 9223372036854775808) = 4503599627370496 + b % 9223372036854775808 % 4503599627370496 := by unfold sig; rw [if_neg h]
    rw [h1]

theorem compare_scale (x y : Int) (k : Nat) : compare (x * 2 ^ k) (y * 2 ^ k) = compare x y := by
  have hp : (0 : Int) < 2 ^ k := Int.pow_pos (by decide)
  rcases Int.lt_trichotomy x y with h | h | h
  · have : x * 2 ^ k < y * 2 ^ k := Int.mul_lt_mul_of_pos_right h hp
    simp [compare, compareOfLessAndEq, h, this]
  · subst h; simp [compare, compareOfLessAndEq]
  · have h2 : y * 2 ^ k < x * 2 ^ k := Int.mul_lt_mul_of_pos_right h hp
    have a : ¬ x < y := by omega
    have b : ¬ x = y := by omega
    have c : ¬ x * 2 ^ k < y * 2 ^ k := by omega
    have d : ¬ x * 2 ^ k = y * 2 ^ k := by omega
    simp only [compare, compareOfLessAndEq, a, b, c, d, if_false]

theorem signed_scale (n : Bool) (m u k : Nat) : Ieee.signed n m u * 2 ^ k = if n then -((m * 2 ^ (u + k) : Nat) : Int) else ((m * 2 ^ (u + k) : Nat) : Int) := by
  unfold Ieee.signed
  cases n <;> simp [Nat.shiftLeft_eq, Int.pow_add, Int.mul_assoc, Int.neg_mul]

/-- The order of two words, neither a NaN's: that of their signed rungs. -/
theorem order_eq (a b : Nat) (ha : a < 18446744073709551616) (hb : b < 18446744073709551616) (na : isN a = false) (nb : isN b = false) :
    Ieee.double.order a b = some (compare (sr a) (sr b)) := by
  have na' : a % 9223372036854775808 ≤ 9218868437227405312 := by simpa [isN] using na
  have nb' : b % 9223372036854775808 ≤ 9218868437227405312 := by simpa [isN] using nb
  unfold Ieee.Format.order
  rw [read_eq a ha, read_eq b hb]
  by_cases h1 : a % 9223372036854775808 < 9218868437227405312 <;> by_cases h2 : b % 9223372036854775808 < 9218868437227405312
  · rw [if_pos h1, if_pos h2]
    simp only [Ieee.Datum.order]
    congr 1
    have key : ∀ (p q : Nat), compare (Ieee.signed (decide (9223372036854775808 ≤ a)) (sig (a % 9223372036854775808)) ((-1074 + (p : Int)) - min (-1074 + (p : Int)) (-1074 + (q : Int))).toNat)
        (Ieee.signed (decide (9223372036854775808 ≤ b)) (sig (b % 9223372036854775808)) ((-1074 + (q : Int)) - min (-1074 + (p : Int)) (-1074 + (q : Int))).toNat)
        = compare (if decide (9223372036854775808 ≤ a) then -((sig (a % 9223372036854775808) * 2 ^ p : Nat) : Int) else ((sig (a % 9223372036854775808) * 2 ^ p : Nat) : Int))
          (if decide (9223372036854775808 ≤ b) then -((sig (b % 9223372036854775808) * 2 ^ q : Nat) : Int) else ((sig (b % 9223372036854775808) * 2 ^ q : Nat) : Int)) := by
      intro p q
      have e1 : ((-1074 + (p : Int)) - min (-1074 + (p : Int)) (-1074 + (q : Int))).toNat = p - min p q := by omega
      have e2 : ((-1074 + (q : Int)) - min (-1074 + (p : Int)) (-1074 + (q : Int))).toNat = q - min p q := by omega
      rw [e1, e2, ← compare_scale _ _ (min p q), signed_scale, signed_scale]
      have e3 : p - min p q + min p q = p := by omega
      have e4 : q - min p q + min p q = q := by omega
      rw [e3, e4]
    rw [key, ← mag_eq, ← mag_eq]
    have s1 : (if decide (9223372036854775808 ≤ a) = true then -((mag (a % 9223372036854775808) : Nat) : Int) else ((mag (a % 9223372036854775808) : Nat) : Int)) = sm a := by
      unfold sm; simp only [decide_eq_true_eq]; split <;> split <;> omega
    have s2 : (if decide (9223372036854775808 ≤ b) = true then -((mag (b % 9223372036854775808) : Nat) : Int) else ((mag (b % 9223372036854775808) : Nat) : Int)) = sm b := by
      unfold sm; simp only [decide_eq_true_eq]; split <;> split <;> omega
    rw [s1, s2]
    have t1 := sm_lt a b ha hb
    have t2 := sm_eq a b ha hb
    simp only [compare, compareOfLessAndEq, t1, t2]
  · rw [if_pos h1, if_neg h2, if_pos (by omega)]
    simp only [Ieee.Datum.order]
    congr 1
    by_cases c : 9223372036854775808 ≤ b
    · have : sr b < sr a := by unfold sr; split <;> split <;> omega
      have x1 : ¬ sr a < sr b := by omega
      have x2 : ¬ sr a = sr b := by omega
      simp only [compare, compareOfLessAndEq, c, x1, x2, decide_true, if_true, if_false]
    · have : sr a < sr b := by unfold sr; split <;> split <;> omega
      simp only [compare, compareOfLessAndEq, c, this, decide_false, if_true]; rfl
  · rw [if_neg h1, if_pos h2, if_pos (by omega)]
    simp only [Ieee.Datum.order]
    congr 1
    by_cases c : 9223372036854775808 ≤ a
    · have : sr a < sr b := by unfold sr; split <;> split <;> omega
      simp only [compare, compareOfLessAndEq, c, this, decide_true, if_true]
    · have : sr b < sr a := by unfold sr; split <;> split <;> omega
      have x1 : ¬ sr a < sr b := by omega
      have x2 : ¬ sr a = sr b := by omega
      simp only [compare, compareOfLessAndEq, c, x1, x2, decide_false, if_false]; rfl
  · rw [if_neg h1, if_neg h2, if_pos (by omega), if_pos (by omega)]
    simp only [Ieee.Datum.order]
    congr 1
    by_cases c : 9223372036854775808 ≤ a <;> by_cases d : 9223372036854775808 ≤ b
    · have x1 : ¬ sr a < sr b := by unfold sr; split <;> split <;> omega
      have x2 : sr a = sr b := by unfold sr; split <;> split <;> omega
      simp [c, d, compare, compareOfLessAndEq, x2]
    · have x1 : sr a < sr b := by unfold sr; split <;> split <;> omega
      simp [c, d, compare, compareOfLessAndEq, x1]
    · have x1 : ¬ sr a < sr b := by unfold sr; split <;> split <;> omega
      have x2 : ¬ sr a = sr b := by unfold sr; split <;> split <;> omega
      simp [c, d, compare, compareOfLessAndEq, x1, x2]
    · have x1 : ¬ sr a < sr b := by unfold sr; split <;> split <;> omega
      have x2 : sr a = sr b := by unfold sr; split <;> split <;> omega
      simp [c, d, compare, compareOfLessAndEq, x2]

theorem order_nan_left (a b : Nat) (ha : a < 18446744073709551616) (na : isN a = true) : Ieee.double.order a b = none := by
  have na' : 9218868437227405312 < a % 9223372036854775808 := by simpa [isN] using na
  unfold Ieee.Format.order
  rw [read_eq a ha, if_neg (by omega), if_neg (by omega)]
  simp [Ieee.Datum.order]

theorem order_nan_right (a b : Nat) (hb : b < 18446744073709551616) (nb : isN b = true) : Ieee.double.order a b = none := by
  have nb' : 9218868437227405312 < b % 9223372036854775808 := by simpa [isN] using nb
  unfold Ieee.Format.order
  rw [read_eq b hb, if_neg (by omega), if_neg (by omega)]
  cases Ieee.double.read a <;> simp [Ieee.Datum.order]

end Fl
end Go.Proofs.Ytefpaagbopmmlaa
