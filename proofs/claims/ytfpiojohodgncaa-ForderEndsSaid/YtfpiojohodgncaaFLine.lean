/- Proved: the law ForderLine answers true at every three numbers, and leaves what there was as it was, if forder keeps its chapter (said as hypotheses on its functions' calls). -/
import Derived.Test.YtfpiojohodgncaaDev
namespace Go.Proofs.Ytfpiojohodgncaa
open Go.RowKit Fl

theorem cmpI_lt {a b : Nat} (h : kb a < kb b) : cmpI a b = -1 := by unfold cmpI; rw [if_pos h]
theorem cmpI_gt {a b : Nat} (h : kb b < kb a) : cmpI a b = 1 := by unfold cmpI; rw [if_neg (by omega), if_pos h]
theorem cmpI_eq {a b : Nat} (h : kb a = kb b) : cmpI a b = 0 := by unfold cmpI; rw [if_neg (by omega), if_neg (by omega)]
theorem smB_ne {a b : Nat} (h : kb a ≠ kb b) : smB a b = false := decide_eq_false (fun e => h (by unfold kb; rw [e]))
theorem smB_eq {a b : Nat} (ha : a < 18446744073709551616) (hb : b < 18446744073709551616) (h : kb a = kb b) : smB a b = true := decide_eq_true (kb_inj a b ha hb h)

set_option maxHeartbeats 2000000 in
theorem fline_any (hC : DCompare) (hS : DSort) (hM : DMost0 13) (a b c : Nat) (ha : a < 18446744073709551616) (hb : b < 18446744073709551616) (hc : c < 18446744073709551616) (w : World) :
    Calls Try.prog 6 #[.float .f64 a, .float .f64 b, .float .f64 c] w fun e w' => e = .returned (.bool true) ∧ Below w.heap.size w w' := by
  have saa := cmpI_eq (a := a) (b := a) rfl
  rcases Nat.lt_trichotomy (kb a) (kb b) with h | h | h
  · have x1 := cmpI_lt h
    have x2 := cmpI_gt h
    have x3 := smB_ne (Nat.ne_of_lt h)
    by_cases k : kb c < kb b
    · have y1 := cmpI_gt k
      have h := Lib.hid h
      go_enter Try.func6, Try.ntmps6
      go_wp2_with (first | (go_at_call 16; refine (hC _ _ (by assumption) (by assumption) _).mono ?_; rintro e w' ⟨rfl, rfl⟩) | (go_at_call 21; refine (rsame_any _ _ (by assumption) (by assumption) _).mono ?_; rintro e w' ⟨rfl, rfl⟩) | (go_at_call 12; refine (awake2_any hS hM hC _).mono ?_; rintro e w' ⟨rfl, hbelow⟩))
      go_ret
      exact ⟨rfl, by assumption⟩
    · have y2 := cmpI_lt (a := a) (b := c) (by omega)
      rcases Nat.lt_or_eq_of_le (show kb b ≤ kb c by omega) with g | g
      all_goals
        first | have y1 := cmpI_lt g | have y1 := cmpI_eq g
        have h := Lib.hid h
        have g := Lib.hid g
        go_enter Try.func6, Try.ntmps6
        go_wp2_with (first | (go_at_call 16; refine (hC _ _ (by assumption) (by assumption) _).mono ?_; rintro e w' ⟨rfl, rfl⟩) | (go_at_call 21; refine (rsame_any _ _ (by assumption) (by assumption) _).mono ?_; rintro e w' ⟨rfl, rfl⟩) | (go_at_call 12; refine (awake2_any hS hM hC _).mono ?_; rintro e w' ⟨rfl, hbelow⟩))
        go_ret
        exact ⟨rfl, by assumption⟩
  · have x1 := cmpI_eq h
    have x2 := cmpI_eq h.symm
    have x3 := smB_eq ha hb h
    by_cases k : kb c < kb b
    · have y1 := cmpI_gt k
      have h := Lib.hid h
      go_enter Try.func6, Try.ntmps6
      go_wp2_with (first | (go_at_call 16; refine (hC _ _ (by assumption) (by assumption) _).mono ?_; rintro e w' ⟨rfl, rfl⟩) | (go_at_call 21; refine (rsame_any _ _ (by assumption) (by assumption) _).mono ?_; rintro e w' ⟨rfl, rfl⟩) | (go_at_call 12; refine (awake2_any hS hM hC _).mono ?_; rintro e w' ⟨rfl, hbelow⟩))
      go_ret
      exact ⟨rfl, by assumption⟩
    · rcases Nat.lt_or_eq_of_le (show kb b ≤ kb c by omega) with g | g
      · have y1 := cmpI_lt g
        have y2 := cmpI_lt (a := a) (b := c) (by omega)
        have h := Lib.hid h
        go_enter Try.func6, Try.ntmps6
        go_wp2_with (first | (go_at_call 16; refine (hC _ _ (by assumption) (by assumption) _).mono ?_; rintro e w' ⟨rfl, rfl⟩) | (go_at_call 21; refine (rsame_any _ _ (by assumption) (by assumption) _).mono ?_; rintro e w' ⟨rfl, rfl⟩) | (go_at_call 12; refine (awake2_any hS hM hC _).mono ?_; rintro e w' ⟨rfl, hbelow⟩))
        go_ret
        exact ⟨rfl, by assumption⟩
      · have y1 := cmpI_eq g
        have y2 := cmpI_eq (a := a) (b := c) (by omega)
        have h := Lib.hid h
        have g := Lib.hid g
        go_enter Try.func6, Try.ntmps6
        go_wp2_with (first | (go_at_call 16; refine (hC _ _ (by assumption) (by assumption) _).mono ?_; rintro e w' ⟨rfl, rfl⟩) | (go_at_call 21; refine (rsame_any _ _ (by assumption) (by assumption) _).mono ?_; rintro e w' ⟨rfl, rfl⟩) | (go_at_call 12; refine (awake2_any hS hM hC _).mono ?_; rintro e w' ⟨rfl, hbelow⟩))
        go_ret
        exact ⟨rfl, by assumption⟩
  · have x1 := cmpI_gt h
    have x2 := cmpI_lt h
    have x3 := smB_ne (Nat.ne_of_gt h)
    have h := Lib.hid h
    go_enter Try.func6, Try.ntmps6
    go_wp2_with (first | (go_at_call 16; refine (hC _ _ (by assumption) (by assumption) _).mono ?_; rintro e w' ⟨rfl, rfl⟩) | (go_at_call 21; refine (rsame_any _ _ (by assumption) (by assumption) _).mono ?_; rintro e w' ⟨rfl, rfl⟩) | (go_at_call 12; refine (awake2_any hS hM hC _).mono ?_; rintro e w' ⟨rfl, hbelow⟩))
    go_ret
    exact ⟨rfl, by assumption⟩

end Go.Proofs.Ytfpiojohodgncaa
