/- Proved: the law ForderClamps answers true at every three numbers, and leaves what there was as it was, if forder keeps its chapter (said as hypotheses on its functions' calls). -/
import Derived.Test.YtfpiojohodgncaaFLine
namespace Go.Proofs.Ytfpiojohodgncaa
open Go.RowKit Fl

theorem cmpI_le (a b : Nat) : decide (cmpI a b ≤ 0) = decide (kb a ≤ kb b) := by
  rcases Nat.lt_trichotomy (kb a) (kb b) with h | h | h
  · rw [cmpI_lt h]; simp; omega
  · rw [cmpI_eq h]; simp; omega
  · rw [cmpI_gt h]; simp; omega

set_option maxHeartbeats 2000000 in
theorem fclamps_any (hCl : DClamp) (hC : DCompare) (hS : DSort) (hM : DMost0 13) (x lo hi : Nat) (hx : x < 18446744073709551616) (hlo : lo < 18446744073709551616) (hhi : hi < 18446744073709551616) (w : World) :
    Calls Try.prog 8 #[.float .f64 x, .float .f64 lo, .float .f64 hi] w fun e w' => e = .returned (.bool true) ∧ Below w.heap.size w w' := by
  have on := ord_nan_l 9221120237041090560 9221120237041090560 (by decide) (by decide)
  by_cases n1 : isN x = true
  · have o1 := ord_nan_l x x hx n1
    have hv : clS x lo hi = 9221120237041090560 := by unfold clS; rw [if_pos (Or.inl n1)]
    go_enter Try.func8, Try.ntmps8
    go_wp2_with (first | (go_at_call 24; refine (hCl _ _ _ (by assumption) (by assumption) (by assumption) _).mono ?_; rintro e w' ⟨rfl, rfl⟩) | (go_at_call 17; refine (rcompare_any _ _ (by assumption) (by assumption) _).mono ?_; rintro e w' ⟨rfl, rfl⟩) | (go_at_call 21; refine (rsame_any _ _ (by assumption) (by assumption) _).mono ?_; rintro e w' ⟨rfl, rfl⟩) | (go_at_call 12; refine (awake2_any hS hM hC _).mono ?_; rintro e w' ⟨rfl, hbelow⟩))
    go_ret
    exact ⟨rfl, by assumption⟩
  replace n1 : isN x = false := by simpa using n1
  have o1 := ord_self x hx n1
  by_cases n2 : isN lo = true
  · have o2 := ord_nan_l lo lo hlo n2
    have hv : clS x lo hi = 9221120237041090560 := by unfold clS; rw [if_pos (Or.inr (Or.inl n2))]
    go_enter Try.func8, Try.ntmps8
    go_wp2_with (first | (go_at_call 24; refine (hCl _ _ _ (by assumption) (by assumption) (by assumption) _).mono ?_; rintro e w' ⟨rfl, rfl⟩) | (go_at_call 17; refine (rcompare_any _ _ (by assumption) (by assumption) _).mono ?_; rintro e w' ⟨rfl, rfl⟩) | (go_at_call 21; refine (rsame_any _ _ (by assumption) (by assumption) _).mono ?_; rintro e w' ⟨rfl, rfl⟩) | (go_at_call 12; refine (awake2_any hS hM hC _).mono ?_; rintro e w' ⟨rfl, hbelow⟩))
    go_ret
    exact ⟨rfl, by assumption⟩
  replace n2 : isN lo = false := by simpa using n2
  have o2 := ord_self lo hlo n2
  by_cases n3 : isN hi = true
  · have o3 := ord_nan_l hi hi hhi n3
    have hv : clS x lo hi = 9221120237041090560 := by unfold clS; rw [if_pos (Or.inr (Or.inr (Or.inl n3)))]
    go_enter Try.func8, Try.ntmps8
    go_wp2_with (first | (go_at_call 24; refine (hCl _ _ _ (by assumption) (by assumption) (by assumption) _).mono ?_; rintro e w' ⟨rfl, rfl⟩) | (go_at_call 17; refine (rcompare_any _ _ (by assumption) (by assumption) _).mono ?_; rintro e w' ⟨rfl, rfl⟩) | (go_at_call 21; refine (rsame_any _ _ (by assumption) (by assumption) _).mono ?_; rintro e w' ⟨rfl, rfl⟩) | (go_at_call 12; refine (awake2_any hS hM hC _).mono ?_; rintro e w' ⟨rfl, hbelow⟩))
    go_ret
    exact ⟨rfl, by assumption⟩
  replace n3 : isN hi = false := by simpa using n3
  have o3 := ord_self hi hhi n3
  by_cases n4 : kb hi < kb lo
  · have c1 := (cmpI_pos lo hi).trans (decide_eq_true n4)
    have hv : clS x lo hi = 9221120237041090560 := by unfold clS; rw [if_pos (Or.inr (Or.inr (Or.inr n4)))]
    go_enter Try.func8, Try.ntmps8
    go_wp2_with (first | (go_at_call 24; refine (hCl _ _ _ (by assumption) (by assumption) (by assumption) _).mono ?_; rintro e w' ⟨rfl, rfl⟩) | (go_at_call 17; refine (rcompare_any _ _ (by assumption) (by assumption) _).mono ?_; rintro e w' ⟨rfl, rfl⟩) | (go_at_call 21; refine (rsame_any _ _ (by assumption) (by assumption) _).mono ?_; rintro e w' ⟨rfl, rfl⟩) | (go_at_call 12; refine (awake2_any hS hM hC _).mono ?_; rintro e w' ⟨rfl, hbelow⟩))
    go_ret
    exact ⟨rfl, by assumption⟩
  have c1 := (cmpI_pos lo hi).trans (decide_eq_false n4)
  have l1 := (cmpI_le lo hi).trans (decide_eq_true (by omega))
  have hno : ∀ z, isN z = false → ¬ (isN z = true ∨ isN lo = true ∨ isN hi = true ∨ kb hi < kb lo) := fun z hz => by rw [hz, n2, n3]; simp; omega
  have HNO := Lib.hid hno
  clear hno
  by_cases n5 : kb x < kb lo
  · have hv : clS x lo hi = lo := by unfold clS; rw [if_neg (HNO.out x n1), if_pos n5]
    have hv2 : clS lo lo hi = lo := by unfold clS; rw [if_neg (HNO.out lo n2), if_neg (by omega), if_neg n4]
    have l2 := (cmpI_le lo x).trans (decide_eq_false (by omega))
    have l3 := (cmpI_le lo lo).trans (decide_eq_true (Nat.le_refl _))
    have s1 := smB_ne (a := lo) (b := x) (by omega)
    have s2 : smB lo lo = true := decide_eq_true rfl
    clear n4 n5
    go_enter Try.func8, Try.ntmps8
    go_wp2_with (first | (go_at_call 24; refine (hCl _ _ _ (by assumption) (by assumption) (by assumption) _).mono ?_; rintro e w' ⟨rfl, rfl⟩) | (go_at_call 17; refine (rcompare_any _ _ (by assumption) (by assumption) _).mono ?_; rintro e w' ⟨rfl, rfl⟩) | (go_at_call 21; refine (rsame_any _ _ (by assumption) (by assumption) _).mono ?_; rintro e w' ⟨rfl, rfl⟩) | (go_at_call 12; refine (awake2_any hS hM hC _).mono ?_; rintro e w' ⟨rfl, hbelow⟩))
    go_ret
    exact ⟨rfl, by assumption⟩
  by_cases n6 : kb hi < kb x
  · have hv : clS x lo hi = hi := by unfold clS; rw [if_neg (HNO.out x n1), if_neg n5, if_pos n6]
    have hv2 : clS hi lo hi = hi := by unfold clS; rw [if_neg (HNO.out hi n3), if_neg n4, if_neg (by omega)]
    have l2 := (cmpI_le lo x).trans (decide_eq_true (by omega))
    have l3 := (cmpI_le x hi).trans (decide_eq_false (by omega))
    have l4 := (cmpI_le hi hi).trans (decide_eq_true (Nat.le_refl _))
    have s1 := smB_ne (a := hi) (b := x) (by omega)
    have s2 : smB hi hi = true := decide_eq_true rfl
    clear n4 n5 n6
    go_enter Try.func8, Try.ntmps8
    go_wp2_with (first | (go_at_call 24; refine (hCl _ _ _ (by assumption) (by assumption) (by assumption) _).mono ?_; rintro e w' ⟨rfl, rfl⟩) | (go_at_call 17; refine (rcompare_any _ _ (by assumption) (by assumption) _).mono ?_; rintro e w' ⟨rfl, rfl⟩) | (go_at_call 21; refine (rsame_any _ _ (by assumption) (by assumption) _).mono ?_; rintro e w' ⟨rfl, rfl⟩) | (go_at_call 12; refine (awake2_any hS hM hC _).mono ?_; rintro e w' ⟨rfl, hbelow⟩))
    go_ret
    exact ⟨rfl, by assumption⟩
  · have hv : clS x lo hi = x := by unfold clS; rw [if_neg (HNO.out x n1), if_neg n5, if_neg n6]
    have l2 := (cmpI_le lo x).trans (decide_eq_true (by omega))
    have l3 := (cmpI_le x hi).trans (decide_eq_true (by omega))
    have s2 : smB x x = true := decide_eq_true rfl
    clear n4 n5 n6
    go_enter Try.func8, Try.ntmps8
    go_wp2_with (first | (go_at_call 24; refine (hCl _ _ _ (by assumption) (by assumption) (by assumption) _).mono ?_; rintro e w' ⟨rfl, rfl⟩) | (go_at_call 17; refine (rcompare_any _ _ (by assumption) (by assumption) _).mono ?_; rintro e w' ⟨rfl, rfl⟩) | (go_at_call 21; refine (rsame_any _ _ (by assumption) (by assumption) _).mono ?_; rintro e w' ⟨rfl, rfl⟩) | (go_at_call 12; refine (awake2_any hS hM hC _).mono ?_; rintro e w' ⟨rfl, hbelow⟩))
    go_ret
    exact ⟨rfl, by assumption⟩

end Go.Proofs.Ytfpiojohodgncaa
