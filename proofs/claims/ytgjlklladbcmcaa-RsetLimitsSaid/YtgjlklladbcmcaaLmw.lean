/- Proved: the law RsetLimits' walk. -/
import Derived.Test.YtgjlklladbcmcaaLim
namespace Go.Proofs.Ytgjlklladbcmcaa
open Go.RowKit

/-- What the law's first read is held against. -/
theorem lim_want (n : Int) : ∃ b1 b2 : Bool, ∃ z : Int, decide (n < 1) = b1 ∧ decide ((16 : Int) < n) = b2 ∧ rcode 200 [] 0 n = z ∧ ((b1 = true ∧ z = 3) ∨ (b1 = false ∧ b2 = true ∧ z = 3) ∨ (b1 = false ∧ b2 = false ∧ z = 0)) := by
  refine ⟨_, _, _, rfl, rfl, rfl, ?_⟩
  rw [lim_first]
  by_cases h1 : n < 1
  · left; exact ⟨decide_eq_true h1, if_neg (by omega)⟩
  · right
    by_cases h2 : 16 < n
    · left; exact ⟨decide_eq_false h1, decide_eq_true h2, if_neg (by omega)⟩
    · right; exact ⟨decide_eq_false h1, decide_eq_false h2, if_pos (by omega)⟩

set_option maxHeartbeats 4000000 in
set_option maxRecDepth 100000 in
theorem limits_in (n : Int) (K : Nat) (h1 : -1 ≤ n) (h2 : n ≤ 20) (h3 : K ≤ 70) (w : World) : Calls Try.prog 5 #[.int .i64 n, .int .i64 (K : Int)] w (Gives (.bool true) w) := by
  have HN := Lib.hid (fresh_any 200 (by omega) (by omega) 0)
  rw [show ((200 : Nat) : Int) = 200 from rfl] at HN
  have HAW := Lib.hid awake_any
  obtain ⟨b1, b2, z, q1, q2, hz, hw⟩ := lim_want n
  have HZ := Lib.hid hz
  have g1 : decide (n < -1) = false := decide_eq_false (by omega)
  have g2 : decide ((20 : Int) < n) = false := decide_eq_false (by omega)
  have g3 : decide ((K : Int) < 0) = false := decide_eq_false (by omega)
  have g4 : decide ((70 : Int) < (K : Int)) = false := decide_eq_false (by omega)
  clear hz
  rcases hw with ⟨rfl, rfl⟩ | ⟨rfl, rfl, rfl⟩ | ⟨rfl, rfl, rfl⟩
  all_goals
    go_enter Try.func5, Try.ntmps5
    go_wp2_with fail
    refine (HN.out w).mono ?_
    rintro e w1 ⟨A, F, rfl, hW, -, -⟩
    have HW := Lib.hid hW
    have c2 := hW.cells.2.2.1
    clear hW
    go_wp2_with fail
    refine (HW.out.readz (by simp) 0 n _ HZ.out).mono ?_
    rintro e w2 ⟨X, N, c, F2, rfl, hW2⟩
    have HA2 : Hid (At w w2) := Lib.hid hW2.at_
    clear hW2 c2 HW
    go_wp2_with fail
    refine (HN.out w2).mono ?_
    rintro e w3 ⟨A, F, rfl, hW, -, -⟩
    have HW3 := Lib.hid hW
    clear hW q1 q2 g1 g2 g3 g4
    go_wp2_with fail
    go_loopw [12] (fun c12 wr => ∃ (j : Nat) (F : Nat → Nat → Prop) (R : List Rd), j ≤ K ∧ c12 = .int .i64 (j : Int) ∧ Hid (Ww w2 wr F A (Em.st0 200) (st0 200 16) 0 (lad (min j 64)) R) ∧ Hid (R.length ≤ 16 * j)) (fun c12 _ => K - (RowKit.intOf c12).toNat)
    case atStart => exact ⟨0, F, [], Nat.zero_le _, rfl, Lib.hid HW3.out, Lib.hid (by simp)⟩
    case round =>
      obtain ⟨j, F, R, hj, rfl, HX, HR⟩ := hrel
      have c2 := HX.out.cells.2.2.1
      by_cases hlt : j < K
      · have hrd := lim_round j (by omega)
        have hrl := rdR_len (Em.st0 200) (st0 200 16) 0 (lad (min j 64)) R (2 * (j : Int)) 1
        have HRD := Lib.hid hrd
        have HRL : Hid ((rdR (Em.st0 200) (st0 200 16) 0 (lad (min j 64)) R (2 * (j : Int)) 1).length ≤ 16 * (j + 1)) := Lib.hid (by have := HR.out; omega)
        clear hrd hrl
        by_cases h64 : j < 64
        · have q1 : decide ((j : Int) < 64) = true := decide_eq_true (by omega)
          have HZ2 : Hid (rcode (Em.st0 200).n (lad (min j 64)) (2 * (j : Int)) 1 = 0) := Lib.hid (by have := HRD.out.1; rwa [if_pos h64] at this)
          go_wp2_with fail
          refine (HX.out.readz (by have := HR.out; omega) (2 * (j : Int)) 1 0 HZ2.out).mono ?_
          rintro e w4 ⟨X4, N4, c4, F4, rfl, hW4⟩
          have HX4 : Hid (Ww w2 w4 F4 A (Em.st0 200) (st0 200 16) 0 (lad (min (j + 1) 64)) (rdR (Em.st0 200) (st0 200 16) 0 (lad (min j 64)) R (2 * (j : Int)) 1)) := Lib.hid (by rw [← HRD.out.2]; exact hW4)
          clear hW4 c2
          go_wp2
          go_roundw
          case rel => exact ⟨j + 1, F4, _, by omega, by go_num, HX4, HRL⟩
          case measure => simp [RowKit.intOf]; omega
        · have q1 : decide ((j : Int) < 64) = false := decide_eq_false (by omega)
          have HZ2 : Hid (rcode (Em.st0 200).n (lad (min j 64)) (2 * (j : Int)) 1 = 7) := Lib.hid (by have := HRD.out.1; rwa [if_neg h64] at this)
          go_wp2_with fail
          refine (HX.out.readz (by have := HR.out; omega) (2 * (j : Int)) 1 7 HZ2.out).mono ?_
          rintro e w4 ⟨X4, N4, c4, F4, rfl, hW4⟩
          have HX4 : Hid (Ww w2 w4 F4 A (Em.st0 200) (st0 200 16) 0 (lad (min (j + 1) 64)) (rdR (Em.st0 200) (st0 200 16) 0 (lad (min j 64)) R (2 * (j : Int)) 1)) := Lib.hid (by rw [← HRD.out.2]; exact hW4)
          clear hW4 c2
          go_wp2
          go_roundw
          case rel => exact ⟨j + 1, F4, _, by omega, by go_num, HX4, HRL⟩
          case measure => simp [RowKit.intOf]; omega
      · have HZ2 : Hid (rcode (Em.st0 200).n (lad (min j 64)) 0 3 = 0) := Lib.hid (rcode_ok (by omega) (show (0 : Int) ≤ 0 ∧ (0 : Int) + 3 ≤ ((200 : Nat) : Int) by omega) (lad_join _ (by omega)))
        go_wp2_with fail
        refine (HX.out.readz (by have := HR.out; omega) 0 3 0 HZ2.out).mono ?_
        rintro e w4 ⟨X4, N4, c4, F4, rfl, hW4⟩
        have hl4 := rdR_len (Em.st0 200) (st0 200 16) 0 (lad (min j 64)) R 0 3
        have HX4 := Lib.hid hW4
        have HL4 : Hid ((rdR (Em.st0 200) (st0 200 16) 0 (lad (min j 64)) R 0 3).length ≤ 100000) := Lib.hid (by have := HR.out; omega)
        have c2 := hW4.cells.2.2.1
        clear hW4 hl4
        go_wp2_with fail
        refine (HX4.out.readz HL4.out 190 16 2 (rcode_range (by omega) (show ¬ ((0 : Int) ≤ 190 ∧ (190 : Int) + 16 ≤ ((200 : Nat) : Int)) by omega))).mono ?_
        rintro e w5 ⟨X5, N5, c5, F5, rfl, hW5⟩
        have HA5 : Hid (At w w5) := Lib.hid (HA2.out.next hW5.at_)
        clear hW5 c2 HX4 HL4
        go_wp2_with fail
        refine (HAW.out _).mono ?_
        rintro e w6 ⟨rfl, hA6⟩
        have HE := Lib.hid (HA5.out.next hA6)
        clear hA6
        go_wp2
        go_ret
        exact ⟨rfl, HE.out⟩

set_option maxHeartbeats 2000000 in
theorem limits_any (n k : Int) (w : World) : Calls Try.prog 5 #[.int .i64 n, .int .i64 k] w (Gives (.bool true) w) := by
  by_cases hin : -1 ≤ n ∧ n ≤ 20 ∧ 0 ≤ k ∧ k ≤ 70
  · obtain ⟨K, rfl⟩ : ∃ K : Nat, k = (K : Int) := ⟨k.toNat, by omega⟩
    exact limits_in n K hin.1 hin.2.1 (by omega) w
  · have HAW := Lib.hid (awake_any w)
    by_cases h1 : n < -1
    · have g1 : decide (n < -1) = true := decide_eq_true h1
      clear hin h1
      go_enter Try.func5, Try.ntmps5
      go_wp2_with fail
      refine HAW.out.mono ?_
      rintro e w1 ⟨rfl, hA⟩
      have HA := Lib.hid hA
      clear hA
      go_wp2
      go_ret
      exact ⟨rfl, HA.out⟩
    · have g1 : decide (n < -1) = false := decide_eq_false h1
      by_cases h2 : 20 < n
      · have g2 : decide ((20 : Int) < n) = true := decide_eq_true h2
        clear hin h1 h2
        go_enter Try.func5, Try.ntmps5
        go_wp2_with fail
        refine HAW.out.mono ?_
        rintro e w1 ⟨rfl, hA⟩
        have HA := Lib.hid hA
        clear hA
        go_wp2
        go_ret
        exact ⟨rfl, HA.out⟩
      · have g2 : decide ((20 : Int) < n) = false := decide_eq_false h2
        by_cases h3 : k < 0
        · have g3 : decide (k < 0) = true := decide_eq_true h3
          clear hin h1 h2 h3
          go_enter Try.func5, Try.ntmps5
          go_wp2_with fail
          refine HAW.out.mono ?_
          rintro e w1 ⟨rfl, hA⟩
          have HA := Lib.hid hA
          clear hA
          go_wp2
          go_ret
          exact ⟨rfl, HA.out⟩
        · have g3 : decide (k < 0) = false := decide_eq_false h3
          have g4 : decide ((70 : Int) < k) = true := decide_eq_true (by omega)
          clear hin h1 h2 h3
          go_enter Try.func5, Try.ntmps5
          go_wp2_with fail
          refine HAW.out.mono ?_
          rintro e w1 ⟨rfl, hA⟩
          have HA := Lib.hid hA
          clear hA
          go_wp2
          go_ret
          exact ⟨rfl, HA.out⟩

end Go.Proofs.Ytgjlklladbcmcaa
