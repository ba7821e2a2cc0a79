/- Proved: the law AllocNothing answers true for any three numbers: nothing is nothing; what may not be is refused. -/
import Derived.Test.YtheldhbdhadliaaAwk
namespace Go.Proofs.Ytheldhbdhadliaa
open Go.RowKit

set_option maxHeartbeats 2000000 in
set_option maxRecDepth 100000 in
theorem nothing_yes (n sp : Nat) (k : Int) (h1 : 1 ≤ n) (h2 : n ≤ 64) (h3 : sp ≤ n) (w : World) : Calls Try.prog 7 #[.int .i64 (n : Int), .int .i64 (sp : Int), .int .i64 k] w (Gives (.bool true) w) := by
  have q1 : (1 : Int) ≤ (n : Int) := by omega
  have q2 : (n : Int) ≤ 64 := by omega
  have q3 : (0 : Int) ≤ (sp : Int) := by omega
  have q4 : (sp : Int) ≤ (n : Int) := by omega
  go_enter Try.func7, Try.ntmps7
  go_wp2_with (go_at_call 11; refine (take_nil _ _).mono ?_; rintro e w' ⟨rfl, rfl⟩)
  refine (new_ok n sp h1 h2 h3 _).mono ?_
  rintro e w1 ⟨b, z, rfl, hn⟩
  have A1 := Lib.hid hn.stands
  clear hn
  go_wp2_with (first
    | (go_at_call 13; refine (free_nil _ _).mono ?_; rintro e w' ⟨rfl, rfl⟩)
    | (go_at_call 15; refine (mark_nil _ _).mono ?_; rintro e w' ⟨rfl, rfl⟩)
    | (go_at_call 17; refine (count_nil _).mono ?_; rintro e w' ⟨rfl, rfl⟩)
    | (go_at_call 22; refine (wear_nil _ _).mono ?_; rintro e w' ⟨rfl, rfl⟩)
    | (go_at_call 20; refine (list_nil _).mono ?_; rintro e w' ⟨rfl, rfl⟩))
  refine (awake_any _).mono ?_
  rintro e w2 ⟨rfl, a2⟩
  have A2 : Hid (At w w2) := Lib.hid (A1.out.next a2)
  clear a2
  go_wp2
  go_ret
  exact ⟨rfl, A2.out⟩
/-- The law's own test of two numbers that make none. -/
theorem nothing_no (n sp k : Int) (h : ¬ May n sp) (w : World) : Calls Try.prog 7 #[.int .i64 n, .int .i64 sp, .int .i64 k] w (Gives (.bool true) w) := by
  have hb := new_bad n sp h
  have HB := Lib.hid hb
  clear hb
  have goes : ∀ w', Calls Try.prog 8 #[] w' (Gives (.bool true) w') := awake_any
  have HG := Lib.hid goes
  clear goes
  by_cases h1 : 1 ≤ n
  · by_cases h2 : n ≤ 64
    · by_cases h3 : 0 ≤ sp
      · have h4 : decide (sp ≤ n) = false := decide_eq_false (fun h4 => h ⟨h1, h2, h3, h4⟩)
        clear h
        go_enter Try.func7, Try.ntmps7
        go_wp2_with (first
          | (go_at_call 11; refine (take_nil _ _).mono ?_; rintro e w' ⟨rfl, rfl⟩)
          | (go_at_call 9; refine (HB.out _).mono ?_; rintro e w' ⟨rfl, rfl⟩)
          | (go_at_call 13; refine (free_nil _ _).mono ?_; rintro e w' ⟨rfl, rfl⟩)
          | (go_at_call 15; refine (mark_nil _ _).mono ?_; rintro e w' ⟨rfl, rfl⟩)
          | (go_at_call 17; refine (count_nil _).mono ?_; rintro e w' ⟨rfl, rfl⟩)
          | (go_at_call 22; refine (wear_nil _ _).mono ?_; rintro e w' ⟨rfl, rfl⟩)
          | (go_at_call 20; refine (list_nil _).mono ?_; rintro e w' ⟨rfl, rfl⟩)
          | (go_at_call 8; refine (HG.out _).mono ?_; rintro e w' ⟨rfl, hb⟩))
        go_ret
        exact ⟨rfl, hb⟩
      · clear h
        go_enter Try.func7, Try.ntmps7
        go_wp2_with (first
          | (go_at_call 11; refine (take_nil _ _).mono ?_; rintro e w' ⟨rfl, rfl⟩)
          | (go_at_call 9; refine (HB.out _).mono ?_; rintro e w' ⟨rfl, rfl⟩)
          | (go_at_call 13; refine (free_nil _ _).mono ?_; rintro e w' ⟨rfl, rfl⟩)
          | (go_at_call 15; refine (mark_nil _ _).mono ?_; rintro e w' ⟨rfl, rfl⟩)
          | (go_at_call 17; refine (count_nil _).mono ?_; rintro e w' ⟨rfl, rfl⟩)
          | (go_at_call 22; refine (wear_nil _ _).mono ?_; rintro e w' ⟨rfl, rfl⟩)
          | (go_at_call 20; refine (list_nil _).mono ?_; rintro e w' ⟨rfl, rfl⟩)
          | (go_at_call 8; refine (HG.out _).mono ?_; rintro e w' ⟨rfl, hb⟩))
        go_ret
        exact ⟨rfl, hb⟩
    · clear h
      go_enter Try.func7, Try.ntmps7
      go_wp2_with (first
        | (go_at_call 11; refine (take_nil _ _).mono ?_; rintro e w' ⟨rfl, rfl⟩)
        | (go_at_call 9; refine (HB.out _).mono ?_; rintro e w' ⟨rfl, rfl⟩)
        | (go_at_call 13; refine (free_nil _ _).mono ?_; rintro e w' ⟨rfl, rfl⟩)
        | (go_at_call 15; refine (mark_nil _ _).mono ?_; rintro e w' ⟨rfl, rfl⟩)
        | (go_at_call 17; refine (count_nil _).mono ?_; rintro e w' ⟨rfl, rfl⟩)
        | (go_at_call 22; refine (wear_nil _ _).mono ?_; rintro e w' ⟨rfl, rfl⟩)
        | (go_at_call 20; refine (list_nil _).mono ?_; rintro e w' ⟨rfl, rfl⟩)
        | (go_at_call 8; refine (HG.out _).mono ?_; rintro e w' ⟨rfl, hb⟩))
      go_ret
      exact ⟨rfl, hb⟩
  · clear h
    go_enter Try.func7, Try.ntmps7
    go_wp2_with (first
      | (go_at_call 11; refine (take_nil _ _).mono ?_; rintro e w' ⟨rfl, rfl⟩)
      | (go_at_call 9; refine (HB.out _).mono ?_; rintro e w' ⟨rfl, rfl⟩)
      | (go_at_call 13; refine (free_nil _ _).mono ?_; rintro e w' ⟨rfl, rfl⟩)
      | (go_at_call 15; refine (mark_nil _ _).mono ?_; rintro e w' ⟨rfl, rfl⟩)
      | (go_at_call 17; refine (count_nil _).mono ?_; rintro e w' ⟨rfl, rfl⟩)
      | (go_at_call 22; refine (wear_nil _ _).mono ?_; rintro e w' ⟨rfl, rfl⟩)
      | (go_at_call 20; refine (list_nil _).mono ?_; rintro e w' ⟨rfl, rfl⟩)
      | (go_at_call 8; refine (HG.out _).mono ?_; rintro e w' ⟨rfl, hb⟩))
    go_ret
    exact ⟨rfl, hb⟩

theorem nothing_any (n sp k : Int) (w : World) : Calls Try.prog 7 #[.int .i64 n, .int .i64 sp, .int .i64 k] w (Gives (.bool true) w) := by
  by_cases h : May n sp
  · obtain ⟨h1, h2, h3, h4⟩ := h
    obtain ⟨a, rfl⟩ := Int.eq_ofNat_of_zero_le (show 0 ≤ n by omega)
    obtain ⟨c, rfl⟩ := Int.eq_ofNat_of_zero_le h3
    exact nothing_yes a c k (by omega) (by omega) (by omega) w
  · exact nothing_no n sp k h w

end Go.Proofs.Ytheldhbdhadliaa
