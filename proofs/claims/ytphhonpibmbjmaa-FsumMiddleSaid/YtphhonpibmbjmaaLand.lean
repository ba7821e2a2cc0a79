/- Proved: what the landed small functions of fbits and forder give, each a plain function of numbers' bits: Bits, From, Key, Compare, canonical, theNaN, Clamp. -/
import Derived.Test.YtphhonpibmbjmaaDev
namespace Go.Proofs.Ytphhonpibmbjmaa
open Go.RowKit Fl

set_option maxHeartbeats 400000 in
theorem bits_any (b : Nat) (hb : b < 18446744073709551616) (w : World) :
    Calls Try.prog 41 #[.float .f64 b] w fun e w' => e = .returned (.int .u64 (cb b : Int)) ∧ w = w' := by
  have hl := fl_bits b
  by_cases hn : isN b = true
  · have h1 := cmp_nan b hb hn
    go_enter Try.func41, Try.ntmps41
    go_wp2
    go_ret
    exact ⟨by simp [cb, hn], rfl⟩
  · have h1 := cmp_self b hb (by simpa using hn)
    go_enter Try.func41, Try.ntmps41
    go_wp2
    go_ret
    exact ⟨by simp [cb, hn], rfl⟩

set_option maxHeartbeats 400000 in
theorem isnan_any (n : Int) (h0 : 0 ≤ n) (h1 : n < 18446744073709551616) (w : World) :
    Calls Try.prog 52 #[.int .u64 n] w fun e w' => e = .returned (.bool (isN n.toNat)) ∧ w = w' := by
  have h2 := isN_andNot n h0 h1
  go_enter Try.func52, Try.ntmps52
  go_wp2
  go_ret
  exact ⟨rfl, rfl⟩

set_option maxHeartbeats 400000 in
theorem from_any (n : Int) (h0 : 0 ≤ n) (h1 : n < 18446744073709551616) (w : World) :
    Calls Try.prog 40 #[.int .u64 n] w fun e w' => e = .returned (.float .f64 (cb n.toNat)) ∧ w = w' := by
  have hl := fl_from n
  have hl2 := fl_from 9221120237041090560
  by_cases hn : isN n.toNat = true
  · go_enter Try.func40, Try.ntmps40
    go_wp2_with (go_at_call 52; refine (isnan_any _ h0 h1 _).mono ?_; rintro e w' ⟨rfl, rfl⟩)
    go_ret
    exact ⟨by simp [cb, hn], rfl⟩
  · have hn : isN n.toNat = false := by simpa using hn
    go_enter Try.func40, Try.ntmps40
    go_wp2_with (go_at_call 52; refine (isnan_any _ h0 h1 _).mono ?_; rintro e w' ⟨rfl, rfl⟩)
    go_ret
    exact ⟨by simp [cb, hn], rfl⟩

set_option maxHeartbeats 400000 in
theorem key_any (b : Nat) (hb : b < 18446744073709551616) (w : World) :
    Calls Try.prog 62 #[.float .f64 b] w fun e w' => e = .returned (.int .u64 (kb b : Int)) ∧ w = w' := by
  have hc := cb_lt b hb
  by_cases hs : cb b < 9223372036854775808
  · have h1 := and_sign_lo (cb b) hs
    have h2 : bits .or .u64 (cb b : Int) 9223372036854775808 = (kb b : Int) := by rw [or_sign_lo (cb b) hs]; unfold kb; rw [if_pos hs]
    go_enter Try.func62, Try.ntmps62
    go_wp2_with (go_at_call 41; refine (bits_any _ hb _).mono ?_; rintro e w' ⟨rfl, rfl⟩)
    go_ret
    exact ⟨rfl, rfl⟩
  · have h1 := and_sign_hi (cb b) hc (by omega)
    have h2 : bits .xor .u64 IntKind.u64.max (cb b : Int) = (kb b : Int) := by
      rw [u64_max, not64 (cb b) hc]; unfold kb; rw [if_neg hs]
    go_enter Try.func62, Try.ntmps62
    go_wp2_with (go_at_call 41; refine (bits_any _ hb _).mono ?_; rintro e w' ⟨rfl, rfl⟩)
    go_ret
    exact ⟨rfl, rfl⟩

set_option maxHeartbeats 400000 in
theorem cmpnan_any (n : Int) (w : World) :
    Calls Try.prog 65 #[.int .u64 n] w fun e w' => e = .returned (.bool false) ∧ w = w' := by
  go_enter Try.func65, Try.ntmps65
  go_wp2
  go_ret
  exact ⟨rfl, rfl⟩

set_option maxHeartbeats 400000 in
theorem hC : DCompare := by
  intro a b ha hb w
  have hk : ∀ (x : Nat), x < 18446744073709551616 → kb x < 18446744073709551616 := fun x hx => by
    have := cb_lt x hx
    unfold kb; split <;> omega
  have ka := hk a ha
  have kb' := hk b hb
  clear hk
  have cmp : Calls Try.prog 61 #[.int .u64 (kb a : Int), .int .u64 (kb b : Int)] w fun e w' => e = .returned (.int .i64 (cmpI a b)) ∧ w = w' := by
    rcases Nat.lt_trichotomy (kb a) (kb b) with h | h | h
    · have HC : Hid (cmpI a b = -1) := Lib.hid (by unfold cmpI; rw [if_pos h])
      go_enter Try.func61, Try.ntmps61
      go_wp2_with (go_at_call 65; refine (cmpnan_any _ _).mono ?_; rintro e w' ⟨rfl, rfl⟩)
      go_ret
      exact ⟨by rw [HC.out]; rfl, rfl⟩
    · have HC : Hid (cmpI a b = 0) := Lib.hid (by unfold cmpI; rw [if_neg (by omega), if_neg (by omega)])
      have h1 : decide (kb a < kb b) = false := decide_eq_false (by omega)
      have h2 : decide (kb b < kb a) = false := decide_eq_false (by omega)
      clear h
      go_enter Try.func61, Try.ntmps61
      go_wp2_with (go_at_call 65; refine (cmpnan_any _ _).mono ?_; rintro e w' ⟨rfl, rfl⟩)
      go_ret
      exact ⟨by rw [HC.out]; rfl, rfl⟩
    · have HC : Hid (cmpI a b = 1) := Lib.hid (by unfold cmpI; rw [if_neg (by omega), if_pos h])
      have h1 : decide (kb a < kb b) = false := decide_eq_false (by omega)
      go_enter Try.func61, Try.ntmps61
      go_wp2_with (go_at_call 65; refine (cmpnan_any _ _).mono ?_; rintro e w' ⟨rfl, rfl⟩)
      go_ret
      exact ⟨by rw [HC.out]; rfl, rfl⟩
  clear ka kb'
  go_enter Try.func58, Try.ntmps58
  go_wp2_with (first | (go_at_call 62; refine (key_any _ (by assumption) _).mono ?_; rintro e w' ⟨rfl, rfl⟩) | (go_at_call 61; refine cmp.mono ?_; rintro e w' ⟨rfl, rfl⟩))
  go_ret
  exact ⟨rfl, rfl⟩

set_option maxHeartbeats 400000 in
theorem canon_any (b : Nat) (hb : b < 18446744073709551616) (w : World) :
    Calls Try.prog 46 #[.float .f64 b] w fun e w' => e = .returned (.float .f64 (cb b)) ∧ w = w' := by
  have hc := cb_lt b hb
  have hcc := Lib.hid (cb_cb b)
  go_enter Try.func46, Try.ntmps46
  go_wp2_with (first | (go_at_call 41; refine (bits_any _ hb _).mono ?_; rintro e w' ⟨rfl, rfl⟩) | (go_at_call 40; refine (from_any _ (by omega) (by omega) _).mono ?_; rintro e w' ⟨rfl, rfl⟩))
  go_ret
  exact ⟨by simp [hcc.out], rfl⟩

set_option maxHeartbeats 400000 in
theorem either_any (n : Bool) (x y : Int) (w : World) :
    Calls Try.prog 53 #[.bool n, .int .i64 x, .int .i64 y] w fun e w' => e = .returned (.int .i64 (if n then x else y)) ∧ w = w' := by
  cases n
  · go_enter Try.func53, Try.ntmps53
    go_wp2
    go_ret
    exact ⟨rfl, rfl⟩
  · go_enter Try.func53, Try.ntmps53
    go_wp2
    go_ret
    exact ⟨rfl, rfl⟩

set_option maxHeartbeats 1000000 in
theorem class_any (b : Nat) (hb : b < 18446744073709551616) (w : World) :
    Calls Try.prog 44 #[.float .f64 b] w fun e w' => e = .returned (.int .i64 (cls b)) ∧ w = w' := by
  have hl := fl_bits b
  rcases cls_cases b hb with ⟨hn, hc⟩ | ⟨hn, _, h⟩
  · have h1 := cmp_nan b hb hn
    go_enter Try.func44, Try.ntmps44
    go_wp2
    go_ret
    exact ⟨congrArg (fun n => Ending.returned (.int .i64 n)) hc.symm, rfl⟩
  · have h1 := cmp_self b hb hn
    have e1 := f_neg b hb
    have e2 := f_exp1 b hb
    have e3 := f_exp0 b hb
    have e4 := f_frac b hb
    rcases h with ⟨k, hc⟩ | ⟨k, k', hc⟩ | ⟨k, k', hc⟩ | ⟨k, hc⟩ | ⟨k, hc⟩ | ⟨k, k', hc⟩ | ⟨k, k', hc⟩ | ⟨k, hc⟩
    all_goals
      first | (replace e1 := e1.trans (decide_eq_true (by omega))) | (replace e1 := e1.trans (decide_eq_false (by omega)))
      first | (replace e2 := e2.trans (decide_eq_true (by omega))) | (replace e2 := e2.trans (decide_eq_false (by omega)))
      first | (replace e3 := e3.trans (decide_eq_true (by omega))) | (replace e3 := e3.trans (decide_eq_false (by omega)))
      first | (replace e4 := e4.trans (decide_eq_true (by omega))) | (replace e4 := e4.trans (decide_eq_false (by omega))) | skip
      have K := Lib.hid k
      clear k
      go_enter Try.func44, Try.ntmps44
      go_wp2_with (go_at_call 53; refine (either_any _ _ _ _).mono ?_; rintro e w' ⟨rfl, rfl⟩)
      go_ret
      exact ⟨congrArg (fun n => Ending.returned (.int .i64 n)) hc.symm, rfl⟩



set_option maxHeartbeats 400000 in
theorem same_any (a b : Nat) (ha : a < 18446744073709551616) (hb : b < 18446744073709551616) (w : World) :
    Calls Try.prog 48 #[.float .f64 a, .float .f64 b] w fun e w' => e = .returned (.bool (smB a b)) ∧ w = w' := by
  have h1 := smB_int a b
  go_enter Try.func48, Try.ntmps48
  go_wp2_with (go_at_call 41; refine (bits_any _ (by assumption) _).mono ?_; rintro e w' ⟨rfl, rfl⟩)
  go_ret
  exact ⟨rfl, rfl⟩

set_option maxHeartbeats 400000 in
theorem fcanon_any (b : Nat) (hb : b < 18446744073709551616) (w : World) :
    Calls Try.prog 28 #[.float .f64 b] w fun e w' => e = .returned (.float .f64 (cb b)) ∧ w = w' := by
  have hc := cb_lt b hb
  have hcc := Lib.hid (cb_cb b)
  go_enter Try.func28, Try.ntmps28
  go_wp2_with (first | (go_at_call 41; refine (bits_any _ hb _).mono ?_; rintro e w' ⟨rfl, rfl⟩) | (go_at_call 40; refine (from_any _ (by omega) (by omega) _).mono ?_; rintro e w' ⟨rfl, rfl⟩))
  go_ret
  exact ⟨by simp [hcc.out], rfl⟩

end Go.Proofs.Ytphhonpibmbjmaa
