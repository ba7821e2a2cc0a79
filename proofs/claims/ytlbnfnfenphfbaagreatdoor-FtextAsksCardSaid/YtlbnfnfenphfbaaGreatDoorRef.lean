/- Proved: what the document's own Bits, From and Same, and the landed fbits' Bits, From, Class and isNaN, give: each a plain function of a number's bits. -/
import Derived.Test.YtlbnfnfenphfbaaGreatDoorRows
import Derived.Test.YtlbnfnfenphfbaaGreatDoorPure
import Derived.WalkSpells
import Derived.Deep.QuietTactic
import Derived.BigQuiet
namespace Go.Proofs.YtlbnfnfenphfbaaGreatDoor
open Go.RowKit Fl

theorem fl_bits (b : Nat) (w : World) : (callFunc 38 #[.float .f64 b]).run Tryz.prog w = .ok (.value (.int .u64 (b : Int))) w := by
  rw [run_callFunc_extern Tryz.func38 (by kernel_rfl) (by kernel_rfl) (by kernel_rfl) (e := Extern.MathFloatBits.float64bits) (by kernel_rfl)]
  rfl

theorem fl_from (n : Int) (w : World) : (callFunc 37 #[.int .u64 n]).run Tryz.prog w = .ok (.value (.float .f64 n.toNat)) w := by
  rw [run_callFunc_extern Tryz.func37 (by kernel_rfl) (by kernel_rfl) (by kernel_rfl) (e := Extern.MathFloatBits.float64frombits) (by kernel_rfl)]
  rfl

set_option maxHeartbeats 400000 in
theorem rbits_any (b : Nat) (hb : b < 18446744073709551616) (w : World) :
    Calls Tryz.prog 23 #[.float .f64 b] w fun e w' => e = .returned (.int .u64 (cb b : Int)) ∧ w = w' := by
  have hl := fl_bits b
  by_cases hn : isN b = true
  · have h1 : (FloatKind.f64.format.order b b != some .eq) = true := by
      show (Ieee.double.order b b != some .eq) = true
      rw [order_nan_left b b hb hn]; rfl
    go_enter Tryz.func23, Tryz.ntmps23
    go_wp2
    go_ret
    exact ⟨by simp [cb, hn], rfl⟩
  · have h1 : (FloatKind.f64.format.order b b != some .eq) = false := by
      show (Ieee.double.order b b != some .eq) = false
      rw [order_eq b b hb hb (by simpa using hn) (by simpa using hn)]; simp [compare, compareOfLessAndEq]
    go_enter Tryz.func23, Tryz.ntmps23
    go_wp2
    go_ret
    exact ⟨by simp [cb, hn], rfl⟩

set_option maxHeartbeats 400000 in
theorem rfrom_any (n : Int) (h0 : 0 ≤ n) (h1 : n < 18446744073709551616) (w : World) :
    Calls Tryz.prog 18 #[.int .u64 n] w fun e w' => e = .returned (.float .f64 (cb n.toNat)) ∧ w = w' := by
  have hl := fl_from n
  have hl2 := fl_from 9221120237041090560
  have h2 := isN_andNot n h0 h1
  by_cases hn : isN n.toNat = true
  · rw [hn] at h2
    go_enter Tryz.func18, Tryz.ntmps18
    go_wp2
    go_ret
    exact ⟨by simp [cb, hn], rfl⟩
  · have hn : isN n.toNat = false := by simpa using hn
    rw [hn] at h2
    go_enter Tryz.func18, Tryz.ntmps18
    go_wp2
    go_ret
    exact ⟨by simp [cb, hn], rfl⟩

set_option maxHeartbeats 400000 in
theorem rsame_any (a b : Nat) (ha : a < 18446744073709551616) (hb : b < 18446744073709551616) (w : World) :
    Calls Tryz.prog 11 #[.float .f64 a, .float .f64 b] w fun e w' => e = .returned (.bool (smB a b)) ∧ w = w' := by
  have h1 := smB_int a b
  go_enter Tryz.func11, Tryz.ntmps11
  go_wp2_with (go_at_call 23; refine (rbits_any _ (by assumption) _).mono ?_; rintro e w' ⟨rfl, rfl⟩)
  go_ret
  exact ⟨rfl, rfl⟩

theorem rfrom_as (n : Int) (c : Nat) (h0 : 0 ≤ n) (h1 : n < 18446744073709551616) (hc : Hid (cb n.toNat = c)) (w : World) :
    Calls Tryz.prog 18 #[.int .u64 n] w fun e w' => e = .returned (.float .f64 c) ∧ w = w' := by
  have := rfrom_any n h0 h1 w
  rw [hc.out] at this
  exact this

set_option maxHeartbeats 400000 in
theorem bits_any (b : Nat) (hb : b < 18446744073709551616) (w : World) :
    Calls Tryz.prog 22 #[.float .f64 b] w fun e w' => e = .returned (.int .u64 (cb b : Int)) ∧ w = w' := by
  have hl := fl_bits b
  by_cases hn : isN b = true
  · have h1 := cmp_nan b hb hn
    go_enter Tryz.func22, Tryz.ntmps22
    go_wp2
    go_ret
    exact ⟨by simp [cb, hn], rfl⟩
  · have h1 := cmp_self b hb (by simpa using hn)
    go_enter Tryz.func22, Tryz.ntmps22
    go_wp2
    go_ret
    exact ⟨by simp [cb, hn], rfl⟩

set_option maxHeartbeats 400000 in
theorem isnan_any (n : Int) (h0 : 0 ≤ n) (h1 : n < 18446744073709551616) (w : World) :
    Calls Tryz.prog 52 #[.int .u64 n] w fun e w' => e = .returned (.bool (isN n.toNat)) ∧ w = w' := by
  have h2 := isN_andNot n h0 h1
  go_enter Tryz.func52, Tryz.ntmps52
  go_wp2
  go_ret
  exact ⟨rfl, rfl⟩

set_option maxHeartbeats 400000 in
theorem from_any (n : Int) (h0 : 0 ≤ n) (h1 : n < 18446744073709551616) (w : World) :
    Calls Tryz.prog 36 #[.int .u64 n] w fun e w' => e = .returned (.float .f64 (cb n.toNat)) ∧ w = w' := by
  have hl := fl_from n
  have hl2 := fl_from 9221120237041090560
  by_cases hn : isN n.toNat = true
  · go_enter Tryz.func36, Tryz.ntmps36
    go_wp2_with (go_at_call 52; refine (isnan_any _ h0 h1 _).mono ?_; rintro e w' ⟨rfl, rfl⟩)
    go_ret
    exact ⟨by simp [cb, hn], rfl⟩
  · have hn : isN n.toNat = false := by simpa using hn
    go_enter Tryz.func36, Tryz.ntmps36
    go_wp2_with (go_at_call 52; refine (isnan_any _ h0 h1 _).mono ?_; rintro e w' ⟨rfl, rfl⟩)
    go_ret
    exact ⟨by simp [cb, hn], rfl⟩

set_option maxHeartbeats 400000 in
theorem either_any (n : Bool) (x y : Int) (w : World) :
    Calls Tryz.prog 39 #[.bool n, .int .i64 x, .int .i64 y] w fun e w' => e = .returned (.int .i64 (if n then x else y)) ∧ w = w' := by
  cases n
  · go_enter Tryz.func39, Tryz.ntmps39
    go_wp2
    go_ret
    exact ⟨rfl, rfl⟩
  · go_enter Tryz.func39, Tryz.ntmps39
    go_wp2
    go_ret
    exact ⟨rfl, rfl⟩

set_option maxHeartbeats 1000000 in
theorem class_any (b : Nat) (hb : b < 18446744073709551616) (w : World) :
    Calls Tryz.prog 20 #[.float .f64 b] w fun e w' => e = .returned (.int .i64 (cls b)) ∧ w = w' := by
  have hl := fl_bits b
  rcases cls_cases b hb with ⟨hn, hc⟩ | ⟨hn, _, h⟩
  · have h1 := cmp_nan b hb hn
    go_enter Tryz.func20, Tryz.ntmps20
    go_wp2
    go_ret
    exact ⟨congrArg (fun n => Ending.returned (.int .i64 n)) hc.symm, rfl⟩
  · have h1 := cmp_self b hb hn
    have e1 := f_neg b hb
    have e2 := f_exp1 b hb
    have e3 := f_exp0 b hb
    have e4 := f_frac b hb
    rcases h with ⟨k, hc⟩ | ⟨k, k', hc⟩ | ⟨k, k', hc⟩ | ⟨k, hc⟩ | ⟨k, hc⟩ | ⟨k, k', hc⟩ | ⟨k, k', hc⟩ | ⟨k, hc⟩
    all_goals
      first | (replace e1 := e1.trans (decide_eq_true (by omega))) | (replace e1 := e1.trans (decide_eq_false (by omega)))
      first | (replace e2 := e2.trans (decide_eq_true (by omega))) | (replace e2 := e2.trans (decide_eq_false (by omega)))
      first | (replace e3 := e3.trans (decide_eq_true (by omega))) | (replace e3 := e3.trans (decide_eq_false (by omega)))
      first | (replace e4 := e4.trans (decide_eq_true (by omega))) | (replace e4 := e4.trans (decide_eq_false (by omega))) | skip
      have K := Lib.hid k
      clear k
      go_enter Tryz.func20, Tryz.ntmps20
      go_wp2_with (go_at_call 39; refine (either_any _ _ _ _).mono ?_; rintro e w' ⟨rfl, rfl⟩)
      go_ret
      exact ⟨congrArg (fun n => Ending.returned (.int .i64 n)) hc.symm, rfl⟩

end Go.Proofs.YtlbnfnfenphfbaaGreatDoor
