/- Proved: what the document's own answers of chapter 1, and their order, give: each a plain function of a number's bits. -/
import Derived.Test.YtefpaagbopmmlaaRows
import Derived.Test.YtefpaagbopmmlaaPure
import Derived.WalkSpells
import Derived.Deep.QuietTactic
import Derived.BigQuiet
namespace Go.Proofs.Ytefpaagbopmmlaa
open Go.RowKit Fl

theorem fl_bits (b : Nat) (w : World) : (callFunc 34 #[.float .f64 b]).run Try.prog w = .ok (.value (.int .u64 (b : Int))) w := by
  rw [run_callFunc_extern Try.func34 (by kernel_rfl) (by kernel_rfl) (by kernel_rfl) (e := Extern.MathFloatBits.float64bits) (by kernel_rfl)]
  rfl

theorem fl_from (n : Int) (w : World) : (callFunc 33 #[.int .u64 n]).run Try.prog w = .ok (.value (.float .f64 n.toNat)) w := by
  rw [run_callFunc_extern Try.func33 (by kernel_rfl) (by kernel_rfl) (by kernel_rfl) (e := Extern.MathFloatBits.float64frombits) (by kernel_rfl)]
  rfl

set_option maxHeartbeats 400000 in
theorem rbits_any (b : Nat) (hb : b < 18446744073709551616) (w : World) :
    Calls Try.prog 26 #[.float .f64 b] w fun e w' => e = .returned (.int .u64 (cb b : Int)) ∧ w = w' := by
  have hl := fl_bits b
  by_cases hn : isN b = true
  · have h1 : (FloatKind.f64.format.order b b != some .eq) = true := by
      show (Ieee.double.order b b != some .eq) = true
      rw [order_nan_left b b hb hn]; rfl
    go_enter Try.func26, Try.ntmps26
    go_wp2
    go_ret
    exact ⟨by simp [cb, hn], rfl⟩
  · have h1 : (FloatKind.f64.format.order b b != some .eq) = false := by
      show (Ieee.double.order b b != some .eq) = false
      rw [order_eq b b hb hb (by simpa using hn) (by simpa using hn)]; simp [compare, compareOfLessAndEq]
    go_enter Try.func26, Try.ntmps26
    go_wp2
    go_ret
    exact ⟨by simp [cb, hn], rfl⟩

set_option maxHeartbeats 400000 in
theorem rfrom_any (n : Int) (h0 : 0 ≤ n) (h1 : n < 18446744073709551616) (w : World) :
    Calls Try.prog 25 #[.int .u64 n] w fun e w' => e = .returned (.float .f64 (cb n.toNat)) ∧ w = w' := by
  have hl := fl_from n
  have hl2 := fl_from 9221120237041090560
  have h2 := isN_andNot n h0 h1
  by_cases hn : isN n.toNat = true
  · rw [hn] at h2
    go_enter Try.func25, Try.ntmps25
    go_wp2
    go_ret
    exact ⟨by simp [cb, hn], rfl⟩
  · have hn : isN n.toNat = false := by simpa using hn
    rw [hn] at h2
    go_enter Try.func25, Try.ntmps25
    go_wp2
    go_ret
    exact ⟨by simp [cb, hn], rfl⟩

set_option maxHeartbeats 400000 in
theorem rkey_any (b : Nat) (hb : b < 18446744073709551616) (w : World) :
    Calls Try.prog 35 #[.float .f64 b] w fun e w' => e = .returned (.int .u64 (kb b : Int)) ∧ w = w' := by
  have hc := cb_lt b hb
  by_cases hs : cb b < 9223372036854775808
  · have h1 := and_sign_lo (cb b) hs
    have h2 : bits .xor .u64 (cb b : Int) 9223372036854775808 = (kb b : Int) := by rw [xor_sign_lo (cb b) hs]; unfold kb; rw [if_pos hs]
    go_enter Try.func35, Try.ntmps35
    go_wp2_with (go_at_call 26; refine (rbits_any _ hb _).mono ?_; rintro e w' ⟨rfl, rfl⟩)
    go_ret
    exact ⟨rfl, rfl⟩
  · have h1 := and_sign_hi (cb b) hc (by omega)
    have h2 : bits .xor .u64 IntKind.u64.max (cb b : Int) = (kb b : Int) := by
      rw [u64_max, not64 (cb b) hc]; unfold kb; rw [if_neg hs]
    go_enter Try.func35, Try.ntmps35
    go_wp2_with (go_at_call 26; refine (rbits_any _ hb _).mono ?_; rintro e w' ⟨rfl, rfl⟩)
    go_ret
    exact ⟨rfl, rfl⟩

set_option maxHeartbeats 400000 in
theorem rsame_any (a b : Nat) (ha : a < 18446744073709551616) (hb : b < 18446744073709551616) (w : World) :
    Calls Try.prog 13 #[.float .f64 a, .float .f64 b] w fun e w' => e = .returned (.bool (smB a b)) ∧ w = w' := by
  have h1 := smB_int a b
  go_enter Try.func13, Try.ntmps13
  go_wp2_with (go_at_call 26; refine (rbits_any _ (by assumption) _).mono ?_; rintro e w' ⟨rfl, rfl⟩)
  go_ret
  exact ⟨rfl, rfl⟩

theorem rfrom_as (n : Int) (c : Nat) (h0 : 0 ≤ n) (h1 : n < 18446744073709551616) (hc : Hid (cb n.toNat = c)) (w : World) :
    Calls Try.prog 25 #[.int .u64 n] w fun e w' => e = .returned (.float .f64 c) ∧ w = w' := by
  have := rfrom_any n h0 h1 w
  rw [hc.out] at this
  exact this

/-- How two numbers stand, by their keys. -/
def cmpI (a b : Nat) : Int := if kb a < kb b then -1 else if kb b < kb a then 1 else 0

set_option maxHeartbeats 400000 in
theorem rcompare_any (a b : Nat) (ha : a < 18446744073709551616) (hb : b < 18446744073709551616) (w : World) :
    Calls Try.prog 27 #[.float .f64 a, .float .f64 b] w fun e w' => e = .returned (.int .i64 (cmpI a b)) ∧ w = w' := by
  rcases Nat.lt_trichotomy (kb a) (kb b) with h | h | h
  · have hc : cmpI a b = -1 := by unfold cmpI; rw [if_pos h]
    have HC := Lib.hid hc
    clear hc
    go_enter Try.func27, Try.ntmps27
    go_wp2_with (go_at_call 35; refine (rkey_any _ (by assumption) _).mono ?_; rintro e w' ⟨rfl, rfl⟩)
    go_ret
    exact ⟨by rw [HC.out]; rfl, rfl⟩
  · have hc : cmpI a b = 0 := by unfold cmpI; rw [if_neg (by omega), if_neg (by omega)]
    have HC := Lib.hid hc
    have h1 : decide (kb a < kb b) = false := decide_eq_false (by omega)
    have h2 : decide (kb b < kb a) = false := decide_eq_false (by omega)
    clear hc h
    go_enter Try.func27, Try.ntmps27
    go_wp2_with (go_at_call 35; refine (rkey_any _ (by assumption) _).mono ?_; rintro e w' ⟨rfl, rfl⟩)
    go_ret
    exact ⟨by rw [HC.out]; rfl, rfl⟩
  · have hc : cmpI a b = 1 := by unfold cmpI; rw [if_neg (by omega), if_pos h]
    have HC := Lib.hid hc
    have h1 : decide (kb a < kb b) = false := decide_eq_false (by omega)
    clear hc
    go_enter Try.func27, Try.ntmps27
    go_wp2_with (go_at_call 35; refine (rkey_any _ (by assumption) _).mono ?_; rintro e w' ⟨rfl, rfl⟩)
    go_ret
    exact ⟨by rw [HC.out]; rfl, rfl⟩

end Go.Proofs.Ytefpaagbopmmlaa
