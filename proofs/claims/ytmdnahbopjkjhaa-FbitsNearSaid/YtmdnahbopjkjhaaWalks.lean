/- Proved: what the small functions of fbits and of its twin give, each a plain function of a number's bits. -/
import Derived.Test.YtmdnahbopjkjhaaRows
import Derived.Test.YtmdnahbopjkjhaaFl
import Derived.Test.YtmdnahbopjkjhaaBit
import Derived.WalkKit
import Derived.WalkSpells
import Derived.WalkLawsBesides
import Derived.Lib.Hide
import Derived.Deep.QuietTactic
import Derived.BigQuiet
namespace Go.Proofs.Ytmdnahbopjkjhaa
open Go.RowKit Fl

theorem fl_bits (b : Nat) (w : World) : (callFunc 31 #[.float .f64 b]).run Try.prog w = .ok (.value (.int .u64 (b : Int))) w := by
  rw [run_callFunc_extern Try.func31 (by kernel_rfl) (by kernel_rfl) (by kernel_rfl) (e := Extern.MathFloatBits.float64bits) (by kernel_rfl)]
  rfl
theorem fl_from (n : Int) (w : World) : (callFunc 35 #[.int .u64 n]).run Try.prog w = .ok (.value (.float .f64 n.toNat)) w := by
  rw [run_callFunc_extern Try.func35 (by kernel_rfl) (by kernel_rfl) (by kernel_rfl) (e := Extern.MathFloatBits.float64frombits) (by kernel_rfl)]
  rfl

theorem u64_max : IntKind.u64.max = 18446744073709551615 := by decide
def cb (b : Nat) : Nat := if isN b = true then 9221120237041090560 else b
theorem cb_lt (b : Nat) (hb : b < 18446744073709551616) : cb b < 18446744073709551616 := by unfold cb; split <;> omega
def kb (b : Nat) : Nat := if cb b < 9223372036854775808 then cb b + 9223372036854775808 else 18446744073709551615 - cb b
def smB (a b : Nat) : Bool := decide (cb a = cb b)
def side (b : Nat) (lo hi : Int) : Int := if b < 9223372036854775808 then hi else lo
def cls (b : Nat) : Int :=
  if isN b = true then 1
  else if b % 9223372036854775808 = 9218868437227405312 then side b 2 9
  else if b % 9223372036854775808 = 0 then side b 5 6
  else if b % 9223372036854775808 < 4503599627370496 then side b 4 7
  else side b 3 8

set_option maxHeartbeats 400000 in
theorem bits_any (b : Nat) (hb : b < 18446744073709551616) (w : World) :
    Calls Try.prog 13 #[.float .f64 b] w fun e w' => e = .returned (.int .u64 (cb b : Int)) ∧ w = w' := by
  have hl := fl_bits b
  by_cases hn : isN b = true
  · have h1 : (FloatKind.f64.format.order b b != some .eq) = true := by
      show (Ieee.double.order b b != some .eq) = true
      rw [order_nan_left b b hb hn]; rfl
    go_enter Try.func13, Try.ntmps13
    go_wp2
    go_ret
    exact ⟨by simp [cb, hn], rfl⟩
  · have h1 : (FloatKind.f64.format.order b b != some .eq) = false := by
      show (Ieee.double.order b b != some .eq) = false
      rw [order_eq b b hb hb (by simpa using hn) (by simpa using hn)]; simp [compare, compareOfLessAndEq]
    go_enter Try.func13, Try.ntmps13
    go_wp2
    go_ret
    exact ⟨by simp [cb, hn], rfl⟩

set_option maxHeartbeats 400000 in
theorem rbits_any (b : Nat) (hb : b < 18446744073709551616) (w : World) :
    Calls Try.prog 14 #[.float .f64 b] w fun e w' => e = .returned (.int .u64 (cb b : Int)) ∧ w = w' := by
  have hl := fl_bits b
  by_cases hn : isN b = true
  · have h1 : (FloatKind.f64.format.order b b != some .eq) = true := by
      show (Ieee.double.order b b != some .eq) = true
      rw [order_nan_left b b hb hn]; rfl
    go_enter Try.func14, Try.ntmps14
    go_wp2
    go_ret
    exact ⟨by simp [cb, hn], rfl⟩
  · have h1 : (FloatKind.f64.format.order b b != some .eq) = false := by
      show (Ieee.double.order b b != some .eq) = false
      rw [order_eq b b hb hb (by simpa using hn) (by simpa using hn)]; simp [compare, compareOfLessAndEq]
    go_enter Try.func14, Try.ntmps14
    go_wp2
    go_ret
    exact ⟨by simp [cb, hn], rfl⟩

theorem isN_andNot (n : Int) (h0 : 0 ≤ n) (h1 : n < 18446744073709551616) : decide (9218868437227405312 < bits .andNot .u64 n 9223372036854775808) = isN n.toNat := by
  obtain ⟨c, rfl⟩ := Int.eq_ofNat_of_zero_le h0
  rw [andNot_sign c (by omega)]
  unfold isN
  simp only [Int.toNat_natCast]
  rw [Bool.eq_iff_iff, decide_eq_true_eq, decide_eq_true_eq]; omega

set_option maxHeartbeats 400000 in
theorem isnan_any (n : Int) (h0 : 0 ≤ n) (h1 : n < 18446744073709551616) (w : World) :
    Calls Try.prog 34 #[.int .u64 n] w fun e w' => e = .returned (.bool (isN n.toNat)) ∧ w = w' := by
  have h2 := isN_andNot n h0 h1
  go_enter Try.func34, Try.ntmps34
  go_wp2
  go_ret
  exact ⟨rfl, rfl⟩

set_option maxHeartbeats 400000 in
theorem from_any (n : Int) (h0 : 0 ≤ n) (h1 : n < 18446744073709551616) (w : World) :
    Calls Try.prog 26 #[.int .u64 n] w fun e w' => e = .returned (.float .f64 (cb n.toNat)) ∧ w = w' := by
  have hl := fl_from n
  have hl2 := fl_from 9221120237041090560
  by_cases hn : isN n.toNat = true
  · go_enter Try.func26, Try.ntmps26
    go_wp2_with (go_at_call 34; refine (isnan_any _ h0 h1 _).mono ?_; rintro e w' ⟨rfl, rfl⟩)
    go_ret
    exact ⟨by simp [cb, hn], rfl⟩
  · have hn : isN n.toNat = false := by simpa using hn
    go_enter Try.func26, Try.ntmps26
    go_wp2_with (go_at_call 34; refine (isnan_any _ h0 h1 _).mono ?_; rintro e w' ⟨rfl, rfl⟩)
    go_ret
    exact ⟨by simp [cb, hn], rfl⟩

set_option maxHeartbeats 400000 in
theorem rfrom_any (n : Int) (h0 : 0 ≤ n) (h1 : n < 18446744073709551616) (w : World) :
    Calls Try.prog 27 #[.int .u64 n] w fun e w' => e = .returned (.float .f64 (cb n.toNat)) ∧ w = w' := by
  have hl := fl_from n
  have hl2 := fl_from 9221120237041090560
  have h2 := isN_andNot n h0 h1
  by_cases hn : isN n.toNat = true
  · rw [hn] at h2
    go_enter Try.func27, Try.ntmps27
    go_wp2
    go_ret
    exact ⟨by simp [cb, hn], rfl⟩
  · have hn : isN n.toNat = false := by simpa using hn
    rw [hn] at h2
    go_enter Try.func27, Try.ntmps27
    go_wp2
    go_ret
    exact ⟨by simp [cb, hn], rfl⟩

set_option maxHeartbeats 400000 in
theorem key_any (b : Nat) (hb : b < 18446744073709551616) (w : World) :
    Calls Try.prog 15 #[.float .f64 b] w fun e w' => e = .returned (.int .u64 (kb b : Int)) ∧ w = w' := by
  have hc := cb_lt b hb
  by_cases hs : cb b < 9223372036854775808
  · have h1 := and_sign_lo (cb b) hs
    have h2 : bits .or .u64 (cb b : Int) 9223372036854775808 = (kb b : Int) := by rw [or_sign_lo (cb b) hs]; unfold kb; rw [if_pos hs]
    go_enter Try.func15, Try.ntmps15
    go_wp2_with (go_at_call 13; refine (bits_any _ hb _).mono ?_; rintro e w' ⟨rfl, rfl⟩)
    go_ret
    exact ⟨rfl, rfl⟩
  · have h1 := and_sign_hi (cb b) hc (by omega)
    have h2 : bits .xor .u64 IntKind.u64.max (cb b : Int) = (kb b : Int) := by
      rw [u64_max, not64 (cb b) hc]; unfold kb; rw [if_neg hs]
    go_enter Try.func15, Try.ntmps15
    go_wp2_with (go_at_call 13; refine (bits_any _ hb _).mono ?_; rintro e w' ⟨rfl, rfl⟩)
    go_ret
    exact ⟨rfl, rfl⟩

set_option maxHeartbeats 400000 in
theorem rkey_any (b : Nat) (hb : b < 18446744073709551616) (w : World) :
    Calls Try.prog 16 #[.float .f64 b] w fun e w' => e = .returned (.int .u64 (kb b : Int)) ∧ w = w' := by
  have hc := cb_lt b hb
  by_cases hs : cb b < 9223372036854775808
  · have h1 := and_sign_lo (cb b) hs
    have h2 : bits .xor .u64 (cb b : Int) 9223372036854775808 = (kb b : Int) := by rw [xor_sign_lo (cb b) hs]; unfold kb; rw [if_pos hs]
    go_enter Try.func16, Try.ntmps16
    go_wp2_with (go_at_call 14; refine (rbits_any _ hb _).mono ?_; rintro e w' ⟨rfl, rfl⟩)
    go_ret
    exact ⟨rfl, rfl⟩
  · have h1 := and_sign_hi (cb b) hc (by omega)
    have h2 : bits .xor .u64 IntKind.u64.max (cb b : Int) = (kb b : Int) := by
      rw [u64_max, not64 (cb b) hc]; unfold kb; rw [if_neg hs]
    go_enter Try.func16, Try.ntmps16
    go_wp2_with (go_at_call 14; refine (rbits_any _ hb _).mono ?_; rintro e w' ⟨rfl, rfl⟩)
    go_ret
    exact ⟨rfl, rfl⟩

set_option maxHeartbeats 400000 in
theorem either_any (n : Bool) (x y : Int) (w : World) :
    Calls Try.prog 32 #[.bool n, .int .i64 x, .int .i64 y] w fun e w' => e = .returned (.int .i64 (if n then x else y)) ∧ w = w' := by
  cases n
  · go_enter Try.func32, Try.ntmps32
    go_wp2
    go_ret
    exact ⟨rfl, rfl⟩
  · go_enter Try.func32, Try.ntmps32
    go_wp2
    go_ret
    exact ⟨rfl, rfl⟩

theorem smB_int (a b : Nat) : ((cb a : Int) == (cb b : Int)) = smB a b := by
  unfold smB; rw [Bool.eq_iff_iff]; simp; omega

set_option maxHeartbeats 400000 in
theorem same_any (a b : Nat) (ha : a < 18446744073709551616) (hb : b < 18446744073709551616) (w : World) :
    Calls Try.prog 22 #[.float .f64 a, .float .f64 b] w fun e w' => e = .returned (.bool (smB a b)) ∧ w = w' := by
  have h1 := smB_int a b
  go_enter Try.func22, Try.ntmps22
  go_wp2_with (go_at_call 13; refine (bits_any _ (by assumption) _).mono ?_; rintro e w' ⟨rfl, rfl⟩)
  go_ret
  exact ⟨rfl, rfl⟩
set_option maxHeartbeats 400000 in
theorem rsame_any (a b : Nat) (ha : a < 18446744073709551616) (hb : b < 18446744073709551616) (w : World) :
    Calls Try.prog 17 #[.float .f64 a, .float .f64 b] w fun e w' => e = .returned (.bool (smB a b)) ∧ w = w' := by
  have h1 := smB_int a b
  go_enter Try.func17, Try.ntmps17
  go_wp2_with (go_at_call 14; refine (rbits_any _ (by assumption) _).mono ?_; rintro e w' ⟨rfl, rfl⟩)
  go_ret
  exact ⟨rfl, rfl⟩

theorem f_neg (b : Nat) (h : b < 18446744073709551616) : (bits .and .u64 (b : Int) 9223372036854775808 != 0) = decide (9223372036854775808 ≤ b) := by
  rw [and_sign b h, Bool.eq_iff_iff]; simp only [bne_iff_ne, decide_eq_true_eq]; omega
theorem f_exp1 (b : Nat) (h : b < 18446744073709551616) : (bits .and .u64 (b : Int) 9218868437227405312 == 9218868437227405312) = decide (9218868437227405312 ≤ b % 9223372036854775808) := by
  rw [and_exp b h, Bool.eq_iff_iff]; simp only [beq_iff_eq, decide_eq_true_eq]; omega
theorem f_exp0 (b : Nat) (h : b < 18446744073709551616) : (bits .and .u64 (b : Int) 9218868437227405312 != 0) = decide (4503599627370496 ≤ b % 9223372036854775808) := by
  rw [and_exp b h, Bool.eq_iff_iff]; simp only [bne_iff_ne, decide_eq_true_eq]; omega
theorem f_frac (b : Nat) (h : b < 18446744073709551616) : (bits .and .u64 (b : Int) 4503599627370495 != 0) = decide (0 < b % 4503599627370496) := by
  rw [and_frac b h, Bool.eq_iff_iff]; simp only [bne_iff_ne, decide_eq_true_eq]; omega
theorem g_gt (b : Nat) (h : b < 18446744073709551616) : decide (9218868437227405312 < bits .andNot .u64 (b : Int) 9223372036854775808) = decide (9218868437227405312 < b % 9223372036854775808) := by
  rw [andNot_sign b h, Bool.eq_iff_iff]; simp only [decide_eq_true_eq]; omega
theorem g_inf (b : Nat) (h : b < 18446744073709551616) : (bits .andNot .u64 (b : Int) 9223372036854775808 == 9218868437227405312) = decide (b % 9223372036854775808 = 9218868437227405312) := by
  rw [andNot_sign b h, Bool.eq_iff_iff]; simp only [beq_iff_eq, decide_eq_true_eq]; omega
theorem g_zero (b : Nat) (h : b < 18446744073709551616) : (bits .andNot .u64 (b : Int) 9223372036854775808 == 0) = decide (b % 9223372036854775808 = 0) := by
  rw [andNot_sign b h, Bool.eq_iff_iff]; simp only [beq_iff_eq, decide_eq_true_eq]; omega
theorem g_sub (b : Nat) (h : b < 18446744073709551616) : decide (bits .andNot .u64 (b : Int) 9223372036854775808 < 4503599627370496) = decide (b % 9223372036854775808 < 4503599627370496) := by
  rw [andNot_sign b h, Bool.eq_iff_iff]; simp only [decide_eq_true_eq]; omega

theorem cls_cases (b : Nat) (hb : b < 18446744073709551616) :
    (isN b = true ∧ cls b = 1) ∨ (isN b = false ∧ cb b = b ∧
      ((b = 18442240474082181120 ∧ cls b = 2) ∨ (9227875636482146304 ≤ b ∧ b < 18442240474082181120 ∧ cls b = 3) ∨ (9223372036854775808 < b ∧ b < 9227875636482146304 ∧ cls b = 4) ∨ (b = 9223372036854775808 ∧ cls b = 5)
        ∨ (b = 0 ∧ cls b = 6) ∨ (0 < b ∧ b < 4503599627370496 ∧ cls b = 7) ∨ (4503599627370496 ≤ b ∧ b < 9218868437227405312 ∧ cls b = 8) ∨ (b = 9218868437227405312 ∧ cls b = 9))) := by
  unfold cls side
  by_cases hn : isN b = true
  · left; simp [hn]
  · right
    have hn' : isN b = false := by simpa using hn
    have hm : ¬ 9218868437227405312 < b % 9223372036854775808 := by simpa [isN] using hn
    refine ⟨hn', by simp [cb, hn'], ?_⟩
    rw [if_neg hn]
    repeat' split
    all_goals omega

theorem cmp_self (b : Nat) (hb : b < 18446744073709551616) (hn : isN b = false) : (FloatKind.f64.format.order b b != some .eq) = false := by
  show (Ieee.double.order b b != some .eq) = false
  rw [order_eq b b hb hb hn hn]; simp [compare, compareOfLessAndEq]
theorem cmp_nan (b : Nat) (hb : b < 18446744073709551616) (hn : isN b = true) : (FloatKind.f64.format.order b b != some .eq) = true := by
  show (Ieee.double.order b b != some .eq) = true
  rw [order_nan_left b b hb hn]; rfl

set_option maxHeartbeats 1000000 in
theorem class_any (b : Nat) (hb : b < 18446744073709551616) (w : World) :
    Calls Try.prog 11 #[.float .f64 b] w fun e w' => e = .returned (.int .i64 (cls b)) ∧ w = w' := by
  have hl := fl_bits b
  rcases cls_cases b hb with ⟨hn, hc⟩ | ⟨hn, _, h⟩
  · have h1 := cmp_nan b hb hn
    go_enter Try.func11, Try.ntmps11
    go_wp2
    go_ret
    exact ⟨congrArg (fun n => Ending.returned (.int .i64 n)) hc.symm, rfl⟩
  · have h1 := cmp_self b hb hn
    have e1 := f_neg b hb
    have e2 := f_exp1 b hb
    have e3 := f_exp0 b hb
    have e4 := f_frac b hb
    rcases h with ⟨k, hc⟩ | ⟨k, k', hc⟩ | ⟨k, k', hc⟩ | ⟨k, hc⟩ | ⟨k, hc⟩ | ⟨k, k', hc⟩ | ⟨k, k', hc⟩ | ⟨k, hc⟩
    all_goals
      first | (replace e1 := e1.trans (decide_eq_true (by omega))) | (replace e1 := e1.trans (decide_eq_false (by omega)))
      first | (replace e2 := e2.trans (decide_eq_true (by omega))) | (replace e2 := e2.trans (decide_eq_false (by omega)))
      first | (replace e3 := e3.trans (decide_eq_true (by omega))) | (replace e3 := e3.trans (decide_eq_false (by omega)))
      first | (replace e4 := e4.trans (decide_eq_true (by omega))) | (replace e4 := e4.trans (decide_eq_false (by omega))) | skip
      have K := Lib.hid k
      clear k
      go_enter Try.func11, Try.ntmps11
      go_wp2_with (go_at_call 32; refine (either_any _ _ _ _).mono ?_; rintro e w' ⟨rfl, rfl⟩)
      go_ret
      exact ⟨congrArg (fun n => Ending.returned (.int .i64 n)) hc.symm, rfl⟩

theorem cb_nan (b : Nat) (hn : isN b = true) : cb b = 9221120237041090560 := by unfold cb; rw [if_pos hn]
theorem cb_of (b : Nat) (h : ¬ 9218868437227405312 < b % 9223372036854775808) : cb b = b := by
  unfold cb isN; rw [if_neg (by simpa using h)]
theorem cb_cb (b : Nat) : cb (cb b) = cb b := by
  by_cases hn : isN b = true
  · rw [cb_nan b hn]; decide
  · have : cb b = b := by unfold cb; rw [if_neg hn]
    rw [this, this]

set_option maxHeartbeats 1000000 in
theorem rclass_any (b : Nat) (hb : b < 18446744073709551616) (w : World) :
    Calls Try.prog 12 #[.float .f64 b] w fun e w' => e = .returned (.int .i64 (cls b)) ∧ w = w' := by
  have hlt := cb_lt b hb
  have e1 := f_neg (cb b) hlt
  have e2 := g_gt (cb b) hlt
  have e3 := g_inf (cb b) hlt
  have e4 := g_zero (cb b) hlt
  have e5 := g_sub (cb b) hlt
  rcases cls_cases b hb with ⟨hn, hc⟩ | ⟨hn, k0, h⟩
  · have k0 := cb_nan b hn
    first | (replace e1 := e1.trans (decide_eq_true (by omega))) | (replace e1 := e1.trans (decide_eq_false (by omega)))
    first | (replace e2 := e2.trans (decide_eq_true (by omega))) | (replace e2 := e2.trans (decide_eq_false (by omega)))
    have K0 := Lib.hid k0
    clear k0 e3 e4 e5
    go_enter Try.func12, Try.ntmps12
    go_wp2_with (go_at_call 14; refine (rbits_any _ hb _).mono ?_; rintro e w' ⟨rfl, rfl⟩)
    go_ret
    exact ⟨congrArg (fun n => Ending.returned (.int .i64 n)) hc.symm, rfl⟩
  · rcases h with ⟨k, hc⟩ | ⟨k, k', hc⟩ | ⟨k, k', hc⟩ | ⟨k, hc⟩ | ⟨k, hc⟩ | ⟨k, k', hc⟩ | ⟨k, k', hc⟩ | ⟨k, hc⟩
    all_goals
      first | (replace e1 := e1.trans (decide_eq_true (by omega))) | (replace e1 := e1.trans (decide_eq_false (by omega)))
      first | (replace e2 := e2.trans (decide_eq_true (by omega))) | (replace e2 := e2.trans (decide_eq_false (by omega)))
      first | (replace e3 := e3.trans (decide_eq_true (by omega))) | (replace e3 := e3.trans (decide_eq_false (by omega)))
      first | (replace e4 := e4.trans (decide_eq_true (by omega))) | (replace e4 := e4.trans (decide_eq_false (by omega)))
      first | (replace e5 := e5.trans (decide_eq_true (by omega))) | (replace e5 := e5.trans (decide_eq_false (by omega)))
      have K := Lib.hid k
      have K0 := Lib.hid k0
      clear k k0
      go_enter Try.func12, Try.ntmps12
      go_wp2_with (go_at_call 14; refine (rbits_any _ hb _).mono ?_; rintro e w' ⟨rfl, rfl⟩)
      go_ret
      exact ⟨congrArg (fun n => Ending.returned (.int .i64 n)) hc.symm, rfl⟩

/-- The number whose key it is. -/
def unk (n : Nat) : Nat := if n < 9223372036854775808 then 18446744073709551615 - n else n - 9223372036854775808

set_option maxHeartbeats 400000 in
theorem unkey_any (n : Int) (h0 : 0 ≤ n) (h1 : n < 18446744073709551616) (w : World) :
    Calls Try.prog 33 #[.int .u64 n] w fun e w' => e = .returned (.float .f64 (cb (unk n.toNat))) ∧ w = w' := by
  obtain ⟨c, rfl⟩ := Int.eq_ofNat_of_zero_le h0
  have hc : c < 18446744073709551616 := by omega
  clear h0 h1
  have e1 := f_neg c hc
  rw [Int.toNat_natCast]
  by_cases hs : c < 9223372036854775808
  · replace e1 := e1.trans (decide_eq_false (by omega))
    have h2 : bits .xor .u64 IntKind.u64.max (c : Int) = (unk c : Int) := by
      rw [u64_max, not64 c hc]; unfold unk; rw [if_pos hs]
    have hu : unk c < 18446744073709551616 := by unfold unk; rw [if_pos hs]; omega
    go_enter Try.func33, Try.ntmps33
    go_wp2_with (go_at_call 27; refine (rfrom_any _ (by omega) (by omega) _).mono ?_; rintro e w' ⟨rfl, rfl⟩)
    go_ret
    exact ⟨rfl, rfl⟩
  · replace e1 := e1.trans (decide_eq_true (by omega))
    have h2 : bits .xor .u64 (c : Int) 9223372036854775808 = (unk c : Int) := by
      rw [xor_sign_hi c (by omega) hc]; unfold unk; rw [if_neg hs]
    have hu : unk c < 18446744073709551616 := by unfold unk; rw [if_neg hs]; omega
    go_enter Try.func33, Try.ntmps33
    go_wp2_with (go_at_call 27; refine (rfrom_any _ (by omega) (by omega) _).mono ?_; rintro e w' ⟨rfl, rfl⟩)
    go_ret
    exact ⟨rfl, rfl⟩

/-- The bits of the number above, and of the one below. -/
def nx (b : Nat) : Nat :=
  if isN b = true then 9221120237041090560 else if b = 9218868437227405312 then b else if b % 9223372036854775808 = 0 then 1 else if 9223372036854775808 ≤ b then b - 1 else b + 1
def pv (b : Nat) : Nat :=
  if isN b = true then 9221120237041090560 else if b = 18442240474082181120 then b else if b % 9223372036854775808 = 0 then 9223372036854775809 else if 9223372036854775808 ≤ b then b + 1 else b - 1

end Go.Proofs.Ytmdnahbopjkjhaa
