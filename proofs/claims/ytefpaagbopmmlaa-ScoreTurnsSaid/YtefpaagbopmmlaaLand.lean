/- Proved: what the landed small functions of fbits, forder and score give, each a plain function of numbers' bits: Bits, From, Key, Compare, canonical. -/
import Derived.Test.YtefpaagbopmmlaaRef
namespace Go.Proofs.Ytefpaagbopmmlaa
open Go.RowKit Fl

set_option maxHeartbeats 400000 in
theorem bits_any (b : Nat) (hb : b < 18446744073709551616) (w : World) :
    Calls Try.prog 32 #[.float .f64 b] w fun e w' => e = .returned (.int .u64 (cb b : Int)) ∧ w = w' := by
  have hl := fl_bits b
  by_cases hn : isN b = true
  · have h1 := cmp_nan b hb hn
    go_enter Try.func32, Try.ntmps32
    go_wp2
    go_ret
    exact ⟨by simp [cb, hn], rfl⟩
  · have h1 := cmp_self b hb (by simpa using hn)
    go_enter Try.func32, Try.ntmps32
    go_wp2
    go_ret
    exact ⟨by simp [cb, hn], rfl⟩
set_option maxHeartbeats 400000 in
theorem isnan_any (n : Int) (h0 : 0 ≤ n) (h1 : n < 18446744073709551616) (w : World) :
    Calls Try.prog 39 #[.int .u64 n] w fun e w' => e = .returned (.bool (isN n.toNat)) ∧ w = w' := by
  have h2 := isN_andNot n h0 h1
  go_enter Try.func39, Try.ntmps39
  go_wp2
  go_ret
  exact ⟨rfl, rfl⟩
set_option maxHeartbeats 400000 in
theorem from_any (n : Int) (h0 : 0 ≤ n) (h1 : n < 18446744073709551616) (w : World) :
    Calls Try.prog 31 #[.int .u64 n] w fun e w' => e = .returned (.float .f64 (cb n.toNat)) ∧ w = w' := by
  have hl := fl_from n
  have hl2 := fl_from 9221120237041090560
  by_cases hn : isN n.toNat = true
  · go_enter Try.func31, Try.ntmps31
    go_wp2_with (go_at_call 39; refine (isnan_any _ h0 h1 _).mono ?_; rintro e w' ⟨rfl, rfl⟩)
    go_ret
    exact ⟨by simp [cb, hn], rfl⟩
  · have hn : isN n.toNat = false := by simpa using hn
    go_enter Try.func31, Try.ntmps31
    go_wp2_with (go_at_call 39; refine (isnan_any _ h0 h1 _).mono ?_; rintro e w' ⟨rfl, rfl⟩)
    go_ret
    exact ⟨by simp [cb, hn], rfl⟩
set_option maxHeartbeats 400000 in
theorem key_any (b : Nat) (hb : b < 18446744073709551616) (w : World) :
    Calls Try.prog 38 #[.float .f64 b] w fun e w' => e = .returned (.int .u64 (kb b : Int)) ∧ w = w' := by
  have hc := cb_lt b hb
  by_cases hs : cb b < 9223372036854775808
  · have h1 := and_sign_lo (cb b) hs
    have h2 : bits .or .u64 (cb b : Int) 9223372036854775808 = (kb b : Int) := by rw [or_sign_lo (cb b) hs]; unfold kb; rw [if_pos hs]
    go_enter Try.func38, Try.ntmps38
    go_wp2_with (go_at_call 32; refine (bits_any _ hb _).mono ?_; rintro e w' ⟨rfl, rfl⟩)
    go_ret
    exact ⟨rfl, rfl⟩
  · have h1 := and_sign_hi (cb b) hc (by omega)
    have h2 : bits .xor .u64 IntKind.u64.max (cb b : Int) = (kb b : Int) := by
      rw [u64_max, not64 (cb b) hc]; unfold kb; rw [if_neg hs]
    go_enter Try.func38, Try.ntmps38
    go_wp2_with (go_at_call 32; refine (bits_any _ hb _).mono ?_; rintro e w' ⟨rfl, rfl⟩)
    go_ret
    exact ⟨rfl, rfl⟩
set_option maxHeartbeats 400000 in
theorem cmpnan_any (n : Int) (w : World) :
    Calls Try.prog 42 #[.int .u64 n] w fun e w' => e = .returned (.bool false) ∧ w = w' := by
  go_enter Try.func42, Try.ntmps42
  go_wp2
  go_ret
  exact ⟨rfl, rfl⟩
set_option maxHeartbeats 400000 in
theorem hC (a b : Nat) (ha : a < 18446744073709551616) (hb : b < 18446744073709551616) (w : World) :
    Calls Try.prog 30 #[.float .f64 a, .float .f64 b] w fun e w' => e = .returned (.int .i64 (cmpI a b)) ∧ w = w' := by
  have hk : ∀ (x : Nat), x < 18446744073709551616 → kb x < 18446744073709551616 := fun x hx => by
    have := cb_lt x hx
    unfold kb; split <;> omega
  have ka := hk a ha
  have kb' := hk b hb
  clear hk
  have cmp : Calls Try.prog 37 #[.int .u64 (kb a : Int), .int .u64 (kb b : Int)] w fun e w' => e = .returned (.int .i64 (cmpI a b)) ∧ w = w' := by
    rcases Nat.lt_trichotomy (kb a) (kb b) with h | h | h
    · have HC : Hid (cmpI a b = -1) := Lib.hid (by unfold cmpI; rw [if_pos h])
      go_enter Try.func37, Try.ntmps37
      go_wp2_with (go_at_call 42; refine (cmpnan_any _ _).mono ?_; rintro e w' ⟨rfl, rfl⟩)
      go_ret
      exact ⟨by rw [HC.out]; rfl, rfl⟩
    · have HC : Hid (cmpI a b = 0) := Lib.hid (by unfold cmpI; rw [if_neg (by omega), if_neg (by omega)])
      have h1 : decide (kb a < kb b) = false := decide_eq_false (by omega)
      have h2 : decide (kb b < kb a) = false := decide_eq_false (by omega)
      clear h
      go_enter Try.func37, Try.ntmps37
      go_wp2_with (go_at_call 42; refine (cmpnan_any _ _).mono ?_; rintro e w' ⟨rfl, rfl⟩)
      go_ret
      exact ⟨by rw [HC.out]; rfl, rfl⟩
    · have HC : Hid (cmpI a b = 1) := Lib.hid (by unfold cmpI; rw [if_neg (by omega), if_pos h])
      have h1 : decide (kb a < kb b) = false := decide_eq_false (by omega)
      go_enter Try.func37, Try.ntmps37
      go_wp2_with (go_at_call 42; refine (cmpnan_any _ _).mono ?_; rintro e w' ⟨rfl, rfl⟩)
      go_ret
      exact ⟨by rw [HC.out]; rfl, rfl⟩
  clear ka kb'
  go_enter Try.func30, Try.ntmps30
  go_wp2_with (first | (go_at_call 38; refine (key_any _ (by assumption) _).mono ?_; rintro e w' ⟨rfl, rfl⟩) | (go_at_call 37; refine cmp.mono ?_; rintro e w' ⟨rfl, rfl⟩))
  go_ret
  exact ⟨rfl, rfl⟩
set_option maxHeartbeats 400000 in
theorem fcanon_any (b : Nat) (hb : b < 18446744073709551616) (w : World) :
    Calls Try.prog 22 #[.float .f64 b] w fun e w' => e = .returned (.float .f64 (cb b)) ∧ w = w' := by
  have hc := cb_lt b hb
  have hcc := Lib.hid (cb_cb b)
  go_enter Try.func22, Try.ntmps22
  go_wp2_with (first | (go_at_call 32; refine (bits_any _ hb _).mono ?_; rintro e w' ⟨rfl, rfl⟩) | (go_at_call 31; refine (from_any _ (by omega) (by omega) _).mono ?_; rintro e w' ⟨rfl, rfl⟩))
  go_ret
  exact ⟨by simp [hcc.out], rfl⟩

end Go.Proofs.Ytefpaagbopmmlaa
