/- Proved: the law ScoreFewer answers true at all numbers; a score is no greater where more is live, no less where the zone is elder. -/
import Derived.Test.YtefpaagbopmmlaaLuse
namespace Go.Proofs.Ytefpaagbopmmlaa
open Go.RowKit Fl

theorem scV_le {l s t now : Int} (h : Jdg l s t now) (hs : 1 ≤ s) : scV l s t now ≤ 9218868437227405312 := by
  obtain ⟨⟨h1, h2, h3, h4, h5⟩, h6, h7⟩ := h
  unfold scV
  rw [if_neg (by omega)]
  split
  · omega
  · have := (score_facts (useW l s) (now - t) (use_facts l s h1 h2 hs h3).1 (by omega) (by omega)).1
    omega
/-- Fewer live blocks, or an elder zone: no less a score. -/
theorem scV_mono {a b s t u now : Int} (ha : Jdg a s u now) (hb : Jdg b s t now) (hs : 1 ≤ s) (hab : a ≤ b) (hut : u ≤ t) : scV b s t now ≤ scV a s u now := by
  have hle := scV_le hb hs
  obtain ⟨⟨h1, h2, h3, h4, h5⟩, h6, h7⟩ := ha
  obtain ⟨⟨g1, g2, g3, g4, g5⟩, g6, g7⟩ := hb
  by_cases h0 : a = 0
  · have : scV a s u now = 9218868437227405312 := by unfold scV; rw [if_neg (by omega), if_pos h0]
    omega
  · unfold scV
    rw [if_neg (by omega), if_neg (by omega), if_neg (by omega), if_neg h0]
    exact score_mono (useW a s) (useW b s) (now - t) (now - u) (use_mono a b s h1 hab g2 hs h3) (use_facts b s g1 g2 hs h3).1 (by omega) (by omega) (by omega)

set_option maxHeartbeats 4000000 in
theorem lfew_out (z a b s t now : Int) (w : World) (h : ¬ (1 ≤ z ∧ z ≤ 1048576 ∧ 0 ≤ a ∧ a ≤ b ∧ b ≤ z ∧ 0 ≤ s ∧ s ≤ t ∧ t ≤ now ∧ now ≤ 1073741824)) :
    Calls Try.prog 6 #[.int .i64 z, .int .i64 a, .int .i64 b, .int .i64 s, .int .i64 t, .int .i64 now] w (Gives (.bool true) w) := by
  have key : z < 1 ∨ (decide (z < 1) = false ∧ (1048576 < z ∨ (decide (1048576 < z) = false ∧ (a < 0 ∨ (decide (a < 0) = false ∧ (b < a ∨ (decide (b < a) = false ∧ (z < b ∨ (decide (z < b) = false ∧ (s < 0 ∨ (decide (s < 0) = false ∧ (t < s ∨ (decide (t < s) = false ∧ (now < t ∨ (decide (now < t) = false ∧ 1073741824 < now))))))))))))))) := by
    simp only [decide_eq_false_iff_not]
    omega
  clear h
  rcases key with k | ⟨k1, k | ⟨k2, k | ⟨k3, k | ⟨k4, k | ⟨k5, k | ⟨k6, k | ⟨k7, k | ⟨k8, k⟩⟩⟩⟩⟩⟩⟩⟩
  all_goals
    go_enter Try.func6, Try.ntmps6
    go_wp2_with (go_at_call 14; refine (awake_any _).mono ?_; rintro e w' ⟨rfl, hb⟩)
    go_ret
    exact ⟨rfl, hb⟩

set_option maxHeartbeats 4000000 in
theorem lfew_in (z a b s t now : Int) (w : World) (h1 : 1 ≤ z) (h2 : z ≤ 1048576) (h3 : 0 ≤ a) (h4 : a ≤ b) (h5 : b ≤ z) (h6 : 0 ≤ s) (h7 : s ≤ t) (h8 : t ≤ now) (h9 : now ≤ 1073741824) :
    Calls Try.prog 6 #[.int .i64 z, .int .i64 a, .int .i64 b, .int .i64 s, .int .i64 t, .int .i64 now] w (Gives (.bool true) w) := by
  have k1 : decide (z < 1) = false := decide_eq_false (by omega)
  have k2 : decide (1048576 < z) = false := decide_eq_false (by omega)
  have k3 : decide (a < 0) = false := decide_eq_false (by omega)
  have k4 : decide (b < a) = false := decide_eq_false (by omega)
  have k5 : decide (z < b) = false := decide_eq_false (by omega)
  have k6 : decide (s < 0) = false := decide_eq_false (by omega)
  have k7 : decide (t < s) = false := decide_eq_false (by omega)
  have k8 : decide (now < t) = false := decide_eq_false (by omega)
  have k9 : decide (1073741824 < now) = false := decide_eq_false (by omega)
  have ja : Jdg a z t now := ⟨⟨h3, by omega, by omega, by omega, by omega⟩, by omega, by omega⟩
  have jb : Jdg b z t now := ⟨⟨by omega, by omega, by omega, by omega, by omega⟩, by omega, by omega⟩
  have jc : Jdg b z s now := ⟨⟨by omega, by omega, by omega, by omega, by omega⟩, by omega, by omega⟩
  have ha := fun w => score_yes a z t now w ja
  have hb := fun w => score_yes b z t now w jb
  have hc := fun w => score_yes b z s now w jc
  have l1 := scV_le ja h1
  have l2 := scV_le jb h1
  have l3 := scV_le jc h1
  have m1 := scV_mono ja jb h1 h4 (Int.le_refl _)
  have m2 := scV_mono jc jb h1 (Int.le_refl _) h7
  generalize scV a z t now = x at *
  generalize scV b z t now = y at *
  generalize scV b z s now = v at *
  have o1 := ge_ok l1 l2 m1
  have o2 := ge_ok l3 l2 m2
  have o3 := ge_ok l2 (show 0 ≤ 9218868437227405312 by omega) (Nat.zero_le y)
  have hA0 := At.start w
  unfold zv at *
  have HA := Lib.hid ha
  have HB := Lib.hid hb
  have HC := Lib.hid hc
  clear ha hb hc ja jb jc l1 l2 l3 m1 m2 h1 h2 h3 h4 h5 h6 h7 h8 h9
  rcases o1 with o1 | o1 <;> rcases o2 with o2 | o2 <;> rcases o3 with o3 | o3
  all_goals
    go_enter Try.func6, Try.ntmps6
    go_wp2_with (first
      | (go_at_call 11; (with_reducible refine (HA.out _).mono ?_); rintro e w' ⟨rfl, hq⟩; have hA := At.next (w0 := w) (by assumption) hq; clear hq)
      | (go_at_call 11; (with_reducible refine (HB.out _).mono ?_); rintro e w' ⟨rfl, hq⟩; have hA := At.next (w0 := w) (by assumption) hq; clear hq)
      | (go_at_call 11; (with_reducible refine (HC.out _).mono ?_); rintro e w' ⟨rfl, hq⟩; have hA := At.next (w0 := w) (by assumption) hq; clear hq)
      | (go_at_call 14; refine (awake_any _).mono ?_; rintro e w' ⟨rfl, hq⟩; have hA := At.next (w0 := w) (by assumption) hq; clear hq))
    go_ret
    exact ⟨rfl, (by assumption : At w _)⟩

end Go.Proofs.Ytefpaagbopmmlaa
