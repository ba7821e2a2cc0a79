/- Proved: the law ScoreUse answers true at all numbers. -/
import Derived.Test.YtefpaagbopmmlaaAwk
namespace Go.Proofs.Ytefpaagbopmmlaa
open Go.RowKit Fl

theorem ge_ok {x y : Nat} (hx : x ≤ 9218868437227405312) (hy : y ≤ 9218868437227405312) (h : y ≤ x) : FloatKind.f64.format.order x y = some .gt ∨ FloatKind.f64.format.order x y = some .eq := by
  rw [ord_nums hx hy]
  by_cases e : x = y
  · right; rw [if_neg (by omega), if_pos e]
  · left; rw [if_neg (by omega), if_neg e]
theorem le_ok {x y : Nat} (hx : x ≤ 9218868437227405312) (hy : y ≤ 9218868437227405312) (h : x ≤ y) : FloatKind.f64.format.order x y = some .lt ∨ FloatKind.f64.format.order x y = some .eq := by
  rw [ord_nums hx hy]
  by_cases e : x = y
  · right; rw [if_neg (by omega), if_pos e]
  · left; rw [if_pos (by omega)]

set_option maxHeartbeats 2000000 in
theorem luse_out (s a b : Int) (w : World) (h : s < 0 ∨ 1073741824 < s ∨ a < 0 ∨ b < a ∨ s < b) : Calls Try.prog 7 #[.int .i64 s, .int .i64 a, .int .i64 b] w (Gives (.bool true) w) := by
  by_cases h1 : s < 0
  · clear h
    go_enter Try.func7, Try.ntmps7
    go_wp2_with (go_at_call 14; refine (awake_any _).mono ?_; rintro e w' ⟨rfl, hb⟩)
    go_ret
    exact ⟨rfl, hb⟩
  · have k1 : decide (s < 0) = false := decide_eq_false h1
    by_cases h2 : 1073741824 < s
    · clear h
      go_enter Try.func7, Try.ntmps7
      go_wp2_with (go_at_call 14; refine (awake_any _).mono ?_; rintro e w' ⟨rfl, hb⟩)
      go_ret
      exact ⟨rfl, hb⟩
    · have k2 : decide (1073741824 < s) = false := decide_eq_false h2
      by_cases h3 : a < 0
      · clear h
        go_enter Try.func7, Try.ntmps7
        go_wp2_with (go_at_call 14; refine (awake_any _).mono ?_; rintro e w' ⟨rfl, hb⟩)
        go_ret
        exact ⟨rfl, hb⟩
      · have k3 : decide (a < 0) = false := decide_eq_false h3
        by_cases h4 : b < a
        · clear h
          go_enter Try.func7, Try.ntmps7
          go_wp2_with (go_at_call 14; refine (awake_any _).mono ?_; rintro e w' ⟨rfl, hb⟩)
          go_ret
          exact ⟨rfl, hb⟩
        · have k4 : decide (b < a) = false := decide_eq_false h4
          have h5 : s < b := by omega
          clear h
          go_enter Try.func7, Try.ntmps7
          go_wp2_with (go_at_call 14; refine (awake_any _).mono ?_; rintro e w' ⟨rfl, hb⟩)
          go_ret
          exact ⟨rfl, hb⟩

set_option maxHeartbeats 4000000 in
theorem luse_in (s a b : Int) (w : World) (h1 : 0 ≤ s) (h2 : s ≤ 1073741824) (h3 : 0 ≤ a) (h4 : a ≤ b) (h5 : b ≤ s) : Calls Try.prog 7 #[.int .i64 s, .int .i64 a, .int .i64 b] w (Gives (.bool true) w) := by
  have k1 : decide (s < 0) = false := decide_eq_false (by omega)
  have k2 : decide (1073741824 < s) = false := decide_eq_false (by omega)
  have k3 : decide (a < 0) = false := decide_eq_false (by omega)
  have k4 : decide (b < a) = false := decide_eq_false (by omega)
  have k5 : decide (s < b) = false := decide_eq_false (by omega)
  have va : Vld a s 0 := ⟨h3, by omega, h2, by omega, by omega⟩
  have vb : Vld b s 0 := ⟨by omega, h5, h2, by omega, by omega⟩
  have ha := fun w => use_yes a s 0 w va
  have hb := fun w => use_yes b s 0 w vb
  have hA0 := At.start w
  by_cases hs : s = 0
  · have e1 : ∀ l, useV l s = 9221120237041090560 := fun l => if_pos hs
    rw [e1] at ha hb
    have o1 : FloatKind.f64.format.order 9221120237041090560 9221120237041090560 = none := ord_nan_l _ _ (by decide) (by decide)
    have s1 : (s == 0) = true := by rw [beq_iff_eq]; exact hs
    unfold zv at *
    have HA := Lib.hid ha
    have HB := Lib.hid hb
    clear ha hb e1 hs va vb
    go_enter Try.func7, Try.ntmps7
    go_wp2_with (first
      | (go_at_call 9; (with_reducible refine (HA.out _).mono ?_); rintro e w' ⟨rfl, hq⟩; have hA := At.next (w0 := w) (by assumption) hq; clear hq)
      | (go_at_call 9; (with_reducible refine (HB.out _).mono ?_); rintro e w' ⟨rfl, hq⟩; have hA := At.next (w0 := w) (by assumption) hq; clear hq)
      | (go_at_call 14; refine (awake_any _).mono ?_; rintro e w' ⟨rfl, hq⟩; have hA := At.next (w0 := w) (by assumption) hq; clear hq))
    go_ret
    exact ⟨rfl, (by assumption : At w _)⟩
  · have e1 : ∀ l, useV l s = useW l s := fun l => if_neg hs
    rw [e1] at ha hb
    have s1 : (s == 0) = false := by rw [beq_eq_false_iff_ne]; exact hs
    obtain ⟨a1, _, _, a4, _⟩ := use_facts a s h3 (by omega) (by omega) h2
    obtain ⟨b1, _, _, _, b5⟩ := use_facts b s (by omega) h5 (by omega) h2
    have hm := use_mono a b s h3 h4 h5 (by omega) h2
    generalize useW a s = x at *
    generalize useW b s = y at *
    have o1 := ge_ok (x := x) (y := 0) (by omega) (by omega) (by omega)
    have o2 := le_ok (x := x) (y := y) (by omega) (by omega) hm
    have o3 := le_ok (x := y) (y := 4607182418800017408) (by omega) (by omega) b1
    have o1e : FloatKind.f64.format.order x 0 = some .eq ↔ a = 0 := by
      rw [← a4, ord_nums (by omega) (by omega)]
      constructor
      · intro h; by_cases e : x = 0
        · exact e
        · rw [if_neg (by omega), if_neg e] at h; cases h
      · intro h; rw [if_neg (by omega), if_pos h]
    have o3e : FloatKind.f64.format.order y 4607182418800017408 = some .eq ↔ b = s := by
      rw [← b5, ord_nums (by omega) (by omega)]
      constructor
      · intro h; by_cases e : y = 4607182418800017408
        · exact e
        · rw [if_pos (by omega)] at h; cases h
      · intro h; rw [if_neg (by omega), if_pos h]
    have n1 : (a == 0) = decide (FloatKind.f64.format.order x 0 = some .eq) := by rw [Bool.eq_iff_iff, beq_iff_eq, decide_eq_true_eq, o1e]
    have n3 : (b == s) = decide (FloatKind.f64.format.order y 4607182418800017408 = some .eq) := by rw [Bool.eq_iff_iff, beq_iff_eq, decide_eq_true_eq, o3e]
    unfold zv at *
    have HA := Lib.hid ha
    have HB := Lib.hid hb
    clear ha hb e1 hs va vb a1 a4 b1 b5 hm o1e o3e
    rcases o1 with o1 | o1 <;> rcases o2 with o2 | o2 <;> rcases o3 with o3 | o3
    all_goals
      rw [o1] at n1
      rw [o3] at n3
      simp only [reduceCtorEq, decide_false, decide_true, Option.some.injEq] at n1 n3
      go_enter Try.func7, Try.ntmps7
      go_wp2_with (first
        | (go_at_call 9; (with_reducible refine (HA.out _).mono ?_); rintro e w' ⟨rfl, hq⟩; have hA := At.next (w0 := w) (by assumption) hq; clear hq)
        | (go_at_call 9; (with_reducible refine (HB.out _).mono ?_); rintro e w' ⟨rfl, hq⟩; have hA := At.next (w0 := w) (by assumption) hq; clear hq)
        | (go_at_call 14; refine (awake_any _).mono ?_; rintro e w' ⟨rfl, hq⟩; have hA := At.next (w0 := w) (by assumption) hq; clear hq))
      go_ret
      exact ⟨rfl, (by assumption : At w _)⟩

end Go.Proofs.Ytefpaagbopmmlaa
