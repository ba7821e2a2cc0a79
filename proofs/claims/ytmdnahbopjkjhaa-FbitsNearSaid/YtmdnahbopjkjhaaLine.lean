/- Proved: the law FbitsLine answers true at every two numbers, and leaves all as it was: the keys stand in the numbers' order. No condition. -/
import Derived.Test.YtmdnahbopjkjhaaNext
import Derived.ProofKit
namespace Go.Proofs.Ytmdnahbopjkjhaa
open Go.ChangeShapes Go.WideShapes Go.ChangeAt Go.RowKit Fl

theorem kb_num (b : Nat) (hn : isN b = false) (hb : b < 18446744073709551616) : (kb b : Int) = if b < 9223372036854775808 then 9223372036854775808 + sr b else 9223372036854775807 + sr b := by
  have h := isN_lit b hn
  have hc := cb_of b h
  unfold kb sr; rw [hc]
  repeat' split
  all_goals omega
theorem sr_sign (b : Nat) : (b < 9223372036854775808 ∧ 0 ≤ sr b) ∨ (9223372036854775808 ≤ b ∧ sr b ≤ 0) := by
  unfold sr; split <;> omega
theorem kb_lt_of (x y : Nat) (hx : x < 18446744073709551616) (hy : y < 18446744073709551616) (nx : isN x = false) (ny : isN y = false) (h : sr x < sr y) : kb x < kb y := by
  have h1 := kb_num x nx hx
  have h2 := kb_num y ny hy
  have h3 := sr_sign x
  have h4 := sr_sign y
  repeat' split at h1
  all_goals repeat' split at h2
  all_goals omega
theorem kb_nan (x : Nat) (nx : isN x = true) : kb x = 18444492273895866368 := by
  unfold kb; rw [cb_nan x nx]; decide
theorem kb_lt_nan (x : Nat) (hx : x < 18446744073709551616) (nx : isN x = false) : kb x < 18444492273895866368 := by
  have h1 := isN_lit x nx
  have hc := cb_of x h1
  unfold kb; rw [hc]; split <;> omega
theorem kb_inj (x y : Nat) (hx : x < 18446744073709551616) (hy : y < 18446744073709551616) (h : kb x = kb y) : cb x = cb y := by
  have h1 := cb_lt x hx
  have h2 := cb_lt y hy
  unfold kb at h
  repeat' split at h
  all_goals omega

theorem ord_nan_l (a b : Nat) (ha : a < 18446744073709551616) (na : isN a = true) : FloatKind.f64.format.order a b = none := order_nan_left a b ha na
theorem ord_nan_r (a b : Nat) (hb : b < 18446744073709551616) (nb : isN b = true) : FloatKind.f64.format.order a b = none := order_nan_right a b hb nb
theorem ord_self (a : Nat) (ha : a < 18446744073709551616) (na : isN a = false) : FloatKind.f64.format.order a a = some .eq := by
  show Ieee.double.order a a = _
  rw [order_eq a a ha ha na na]; simp [compare, compareOfLessAndEq]
theorem ord_lt (a b : Nat) (ha : a < 18446744073709551616) (hb : b < 18446744073709551616) (na : isN a = false) (nb : isN b = false) (h : sr a < sr b) : FloatKind.f64.format.order a b = some .lt := by
  show Ieee.double.order a b = _
  rw [order_eq a b ha hb na nb]; simp [compare, compareOfLessAndEq, h]
theorem ord_eq (a b : Nat) (ha : a < 18446744073709551616) (hb : b < 18446744073709551616) (na : isN a = false) (nb : isN b = false) (h : sr a = sr b) : FloatKind.f64.format.order a b = some .eq := by
  show Ieee.double.order a b = _
  rw [order_eq a b ha hb na nb]; simp [compare, compareOfLessAndEq, h]
theorem ord_gt (a b : Nat) (ha : a < 18446744073709551616) (hb : b < 18446744073709551616) (na : isN a = false) (nb : isN b = false) (h : sr b < sr a) : FloatKind.f64.format.order a b = some .gt := by
  show Ieee.double.order a b = _
  rw [order_eq a b ha hb na nb]; simp only [compare, compareOfLessAndEq]; rw [if_neg (by omega), if_neg (by omega)]

set_option maxHeartbeats 1000000 in
theorem line_num (x y : Nat) (hx : x < 18446744073709551616) (hy : y < 18446744073709551616) (nx : isN x = false) (ny : isN y = false) (w : World) :
    Calls Try.prog 6 #[.float .f64 x, .float .f64 y] w fun e w' => e = .returned (.bool true) ∧ w = w' := by
  have o1 := ord_self x hx nx
  have o2 := ord_self y hy ny
  rcases Int.lt_trichotomy (sr x) (sr y) with h | h | h
  · have o3 := ord_lt x y hx hy nx ny h
    have k1 := kb_lt_of x y hx hy nx ny h
    have k2 : decide (kb x < kb y) = true := decide_eq_true k1
    clear h
    go_enter Try.func6, Try.ntmps6
    go_wp2_with (first | (go_at_call 15; refine (key_any _ (by assumption) _).mono ?_; rintro e w' ⟨rfl, rfl⟩) | (go_at_call 23; refine (awake_any _).mono ?_; rintro e w' ⟨rfl, rfl⟩))
    go_ret
    exact ⟨rfl, rfl⟩
  · have o3 := ord_eq x y hx hy nx ny h
    clear h
    by_cases hc : cb x = cb y
    · have k1 : kb x = kb y := by unfold kb; rw [hc]
      have k2 : ((kb x : Int) == (kb y : Int)) = true := by rw [k1]; simp
      have k3 : smB x y = true := decide_eq_true hc
      clear k1 hc
      go_enter Try.func6, Try.ntmps6
      go_wp2_with (first | (go_at_call 15; refine (key_any _ (by assumption) _).mono ?_; rintro e w' ⟨rfl, rfl⟩) | (go_at_call 22; refine (same_any _ _ (by assumption) (by assumption) _).mono ?_; rintro e w' ⟨rfl, rfl⟩) | (go_at_call 23; refine (awake_any _).mono ?_; rintro e w' ⟨rfl, rfl⟩))
      go_ret
      exact ⟨rfl, rfl⟩
    · have k2 : ((kb x : Int) == (kb y : Int)) = false := by
        rw [beq_eq_false_iff_ne]; intro e; exact hc (kb_inj x y hx hy (by omega))
      have k3 : smB x y = false := decide_eq_false hc
      clear hc
      go_enter Try.func6, Try.ntmps6
      go_wp2_with (first | (go_at_call 15; refine (key_any _ (by assumption) _).mono ?_; rintro e w' ⟨rfl, rfl⟩) | (go_at_call 22; refine (same_any _ _ (by assumption) (by assumption) _).mono ?_; rintro e w' ⟨rfl, rfl⟩) | (go_at_call 23; refine (awake_any _).mono ?_; rintro e w' ⟨rfl, rfl⟩))
      go_ret
      exact ⟨rfl, rfl⟩
  · have o3 := ord_gt x y hx hy nx ny h
    have k1 := kb_lt_of y x hy hx ny nx h
    have k2 : decide (kb y < kb x) = true := decide_eq_true k1
    clear h
    go_enter Try.func6, Try.ntmps6
    go_wp2_with (first | (go_at_call 15; refine (key_any _ (by assumption) _).mono ?_; rintro e w' ⟨rfl, rfl⟩) | (go_at_call 23; refine (awake_any _).mono ?_; rintro e w' ⟨rfl, rfl⟩))
    go_ret
    exact ⟨rfl, rfl⟩

set_option maxHeartbeats 1000000 in
theorem line_nan (x y : Nat) (hx : x < 18446744073709551616) (hy : y < 18446744073709551616) (hn : isN x = true ∨ isN y = true) (w : World) :
    Calls Try.prog 6 #[.float .f64 x, .float .f64 y] w fun e w' => e = .returned (.bool true) ∧ w = w' := by
  by_cases nx : isN x = true
  · have o1 := ord_nan_l x x hx nx
    have o3 := ord_nan_l x y hx nx
    have k1 := kb_nan x nx
    by_cases ny : isN y = true
    · have o2 := ord_nan_l y y hy ny
      have k2 : ((kb x : Int) == (kb y : Int)) = true := by rw [k1, kb_nan y ny]; simp
      clear k1
      go_enter Try.func6, Try.ntmps6
      go_wp2_with (first | (go_at_call 15; refine (key_any _ (by assumption) _).mono ?_; rintro e w' ⟨rfl, rfl⟩) | (go_at_call 23; refine (awake_any _).mono ?_; rintro e w' ⟨rfl, rfl⟩))
      go_ret
      exact ⟨rfl, rfl⟩
    · have ny : isN y = false := by simpa using ny
      have o2 := ord_self y hy ny
      have k2 : kb y < kb x := by rw [k1]; exact kb_lt_nan y hy ny
      have k3 : decide (kb y < kb x) = true := decide_eq_true k2
      clear k1
      go_enter Try.func6, Try.ntmps6
      go_wp2_with (first | (go_at_call 15; refine (key_any _ (by assumption) _).mono ?_; rintro e w' ⟨rfl, rfl⟩) | (go_at_call 23; refine (awake_any _).mono ?_; rintro e w' ⟨rfl, rfl⟩))
      go_ret
      exact ⟨rfl, rfl⟩
  · have ny : isN y = true := by simpa [nx] using hn
    have nx : isN x = false := by simpa using nx
    have o1 := ord_self x hx nx
    have o2 := ord_nan_l y y hy ny
    have o3 := ord_nan_r x y hy ny
    have k2 : kb x < kb y := by rw [kb_nan y ny]; exact kb_lt_nan x hx nx
    have k3 : decide (kb x < kb y) = true := decide_eq_true k2
    go_enter Try.func6, Try.ntmps6
    go_wp2_with (first | (go_at_call 15; refine (key_any _ (by assumption) _).mono ?_; rintro e w' ⟨rfl, rfl⟩) | (go_at_call 23; refine (awake_any _).mono ?_; rintro e w' ⟨rfl, rfl⟩))
    go_ret
    exact ⟨rfl, rfl⟩

theorem line_any (x y : Nat) (hx : x < 18446744073709551616) (hy : y < 18446744073709551616) (w : World) :
    Calls Try.prog 6 #[.float .f64 x, .float .f64 y] w fun e w' => e = .returned (.bool true) ∧ w = w' := by
  by_cases h : isN x = true ∨ isN y = true
  · exact line_nan x y hx hy h w
  · rw [not_or] at h
    exact line_num x y hx hy (by simpa using h.1) (by simpa using h.2) w

end Go.Proofs.Ytmdnahbopjkjhaa
