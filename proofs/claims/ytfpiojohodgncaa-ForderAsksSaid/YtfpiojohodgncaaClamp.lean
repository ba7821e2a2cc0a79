/- Proved: what the document's own Clamp answers. -/
import Derived.Test.YtfpiojohodgncaaSortNone
namespace Go.Proofs.Ytfpiojohodgncaa
open Go.RowKit Fl

theorem cmpI_pos (a b : Nat) : decide (0 < cmpI a b) = decide (kb b < kb a) := by
  unfold cmpI
  by_cases h : kb a < kb b
  · rw [if_pos h]; simp; omega
  · rw [if_neg h]
    by_cases h2 : kb b < kb a
    · rw [if_pos h2]; simp [h2]
    · rw [if_neg h2]; simp [h2]

def clS (x lo hi : Nat) : Nat :=
  if isN x = true ∨ isN lo = true ∨ isN hi = true ∨ kb hi < kb lo then 9221120237041090560 else if kb x < kb lo then lo else if kb hi < kb x then hi else x

set_option maxHeartbeats 2000000 in
theorem rclamp_any (x lo hi : Nat) (hx : x < 18446744073709551616) (hlo : lo < 18446744073709551616) (hhi : hi < 18446744073709551616) (w : World) :
    Calls Try.prog 25 #[.float .f64 x, .float .f64 lo, .float .f64 hi] w fun e w' => e = .returned (.float .f64 (clS x lo hi)) ∧ w = w' := by
  have hnan : Hid (cb (9221120237041090560 : Int).toNat = 9221120237041090560) := Lib.hid (by decide)
  by_cases n1 : isN x = true
  · have o1 := ord_nan_l x x hx n1
    have HV : Hid (clS x lo hi = 9221120237041090560) := Lib.hid (by unfold clS; rw [if_pos (Or.inl n1)])
    go_enter Try.func25, Try.ntmps25
    go_wp2_with (first | (go_at_call 17; refine (rcompare_any _ _ (by assumption) (by assumption) _).mono ?_; rintro e w' ⟨rfl, rfl⟩) | (go_at_call 27; refine (rfrom_as _ _ (by decide) (by decide) hnan _).mono ?_; rintro e w' ⟨rfl, rfl⟩))
    go_ret
    exact ⟨ret_float HV.out.symm, rfl⟩
  replace n1 : isN x = false := by simpa using n1
  have o1 := ord_self x hx n1
  by_cases n2 : isN lo = true
  · have o2 := ord_nan_l lo lo hlo n2
    have HV : Hid (clS x lo hi = 9221120237041090560) := Lib.hid (by unfold clS; rw [if_pos (Or.inr (Or.inl n2))])
    go_enter Try.func25, Try.ntmps25
    go_wp2_with (first | (go_at_call 17; refine (rcompare_any _ _ (by assumption) (by assumption) _).mono ?_; rintro e w' ⟨rfl, rfl⟩) | (go_at_call 27; refine (rfrom_as _ _ (by decide) (by decide) hnan _).mono ?_; rintro e w' ⟨rfl, rfl⟩))
    go_ret
    exact ⟨ret_float HV.out.symm, rfl⟩
  replace n2 : isN lo = false := by simpa using n2
  have o2 := ord_self lo hlo n2
  by_cases n3 : isN hi = true
  · have o3 := ord_nan_l hi hi hhi n3
    have HV : Hid (clS x lo hi = 9221120237041090560) := Lib.hid (by unfold clS; rw [if_pos (Or.inr (Or.inr (Or.inl n3)))])
    go_enter Try.func25, Try.ntmps25
    go_wp2_with (first | (go_at_call 17; refine (rcompare_any _ _ (by assumption) (by assumption) _).mono ?_; rintro e w' ⟨rfl, rfl⟩) | (go_at_call 27; refine (rfrom_as _ _ (by decide) (by decide) hnan _).mono ?_; rintro e w' ⟨rfl, rfl⟩))
    go_ret
    exact ⟨ret_float HV.out.symm, rfl⟩
  replace n3 : isN hi = false := by simpa using n3
  have o3 := ord_self hi hhi n3
  by_cases n4 : kb hi < kb lo
  · have c1 := (cmpI_pos lo hi).trans (decide_eq_true n4)
    have HV : Hid (clS x lo hi = 9221120237041090560) := Lib.hid (by unfold clS; rw [if_pos (Or.inr (Or.inr (Or.inr n4)))])
    go_enter Try.func25, Try.ntmps25
    go_wp2_with (first | (go_at_call 17; refine (rcompare_any _ _ (by assumption) (by assumption) _).mono ?_; rintro e w' ⟨rfl, rfl⟩) | (go_at_call 27; refine (rfrom_as _ _ (by decide) (by decide) hnan _).mono ?_; rintro e w' ⟨rfl, rfl⟩))
    go_ret
    exact ⟨ret_float HV.out.symm, rfl⟩
  have c1 := (cmpI_pos lo hi).trans (decide_eq_false n4)
  have hno : ¬ (isN x = true ∨ isN lo = true ∨ isN hi = true ∨ kb hi < kb lo) := by rw [n1, n2, n3]; simp; omega
  have HNO := Lib.hid hno
  clear hno n4
  by_cases n5 : kb x < kb lo
  · have c2 := (cmpI_neg x lo).trans (decide_eq_true n5)
    have HV : Hid (clS x lo hi = lo) := Lib.hid (by unfold clS; rw [if_neg HNO.out, if_pos n5])
    go_enter Try.func25, Try.ntmps25
    go_wp2_with (first | (go_at_call 17; refine (rcompare_any _ _ (by assumption) (by assumption) _).mono ?_; rintro e w' ⟨rfl, rfl⟩) | (go_at_call 27; refine (rfrom_as _ _ (by decide) (by decide) hnan _).mono ?_; rintro e w' ⟨rfl, rfl⟩))
    go_ret
    exact ⟨ret_float HV.out.symm, rfl⟩
  have c2 := (cmpI_neg x lo).trans (decide_eq_false n5)
  by_cases n6 : kb hi < kb x
  · have c3 := (cmpI_pos x hi).trans (decide_eq_true n6)
    have HV : Hid (clS x lo hi = hi) := Lib.hid (by unfold clS; rw [if_neg HNO.out, if_neg n5, if_pos n6])
    go_enter Try.func25, Try.ntmps25
    go_wp2_with (first | (go_at_call 17; refine (rcompare_any _ _ (by assumption) (by assumption) _).mono ?_; rintro e w' ⟨rfl, rfl⟩) | (go_at_call 27; refine (rfrom_as _ _ (by decide) (by decide) hnan _).mono ?_; rintro e w' ⟨rfl, rfl⟩))
    go_ret
    exact ⟨ret_float HV.out.symm, rfl⟩
  · have c3 := (cmpI_pos x hi).trans (decide_eq_false n6)
    have HV : Hid (clS x lo hi = x) := Lib.hid (by unfold clS; rw [if_neg HNO.out, if_neg n5, if_neg n6])
    go_enter Try.func25, Try.ntmps25
    go_wp2_with (first | (go_at_call 17; refine (rcompare_any _ _ (by assumption) (by assumption) _).mono ?_; rintro e w' ⟨rfl, rfl⟩) | (go_at_call 27; refine (rfrom_as _ _ (by decide) (by decide) hnan _).mono ?_; rintro e w' ⟨rfl, rfl⟩))
    go_ret
    exact ⟨ret_float HV.out.symm, rfl⟩

end Go.Proofs.Ytfpiojohodgncaa
