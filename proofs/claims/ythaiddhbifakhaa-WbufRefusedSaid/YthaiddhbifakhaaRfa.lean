/- Proved: the law WbufRefused for whatever numbers. -/
import Derived.Test.YthaiddhbifakhaaRfu
namespace Go.Proofs.Ythaiddhbifakhaa
open Go.RowKit

set_option maxHeartbeats 1000000 in
set_option maxRecDepth 100000 in
theorem refused_all (x n : Int) (tw : Bool) (m : Int) (w : World) :
    Calls Try.prog 5 #[.int .i64 x, .int .i64 n, .bool tw, .int .i64 m] w (Gives (.bool true) w) := by
  by_cases h : (1 ≤ m ∧ m ≤ 20) ∧ 0 ≤ n ∧ n ≤ 80
  · obtain ⟨⟨h1, h2⟩, h3, h4⟩ := h
    obtain ⟨m', rfl⟩ : ∃ m' : Nat, m = (m' : Int) := ⟨m.toNat, by omega⟩
    obtain ⟨n', rfl⟩ : ∃ n' : Nat, n = (n' : Int) := ⟨n.toNat, by omega⟩
    exact refused_any x n' tw m' (by omega) (by omega) (by omega) w
  · have HAW := Lib.hid (awake_any w)
    by_cases c1 : m < 1
    · clear h
      go_enter Try.func5, Try.ntmps5
      go_wp2_with fail
      refine HAW.out.mono ?_
      rintro e w1 ⟨rfl, hA⟩
      have HA : Hid (At w w1) := Lib.hid hA
      clear hA
      go_wp2
      go_ret
      exact ⟨rfl, HA.out⟩
    · have q1 : decide (m < 1) = false := decide_eq_false c1
      by_cases c2 : 20 < m
      · clear h c1
        go_enter Try.func5, Try.ntmps5
        go_wp2_with fail
        refine HAW.out.mono ?_
        rintro e w1 ⟨rfl, hA⟩
        have HA : Hid (At w w1) := Lib.hid hA
        clear hA
        go_wp2
        go_ret
        exact ⟨rfl, HA.out⟩
      · have q2 : decide (20 < m) = false := decide_eq_false c2
        by_cases c3 : n < 0
        · clear h c1 c2
          go_enter Try.func5, Try.ntmps5
          go_wp2_with fail
          refine HAW.out.mono ?_
          rintro e w1 ⟨rfl, hA⟩
          have HA : Hid (At w w1) := Lib.hid hA
          clear hA
          go_wp2
          go_ret
          exact ⟨rfl, HA.out⟩
        · have q3 : decide (n < 0) = false := decide_eq_false c3
          have c4 : 80 < n := by omega
          clear h c1 c2 c3
          go_enter Try.func5, Try.ntmps5
          go_wp2_with fail
          refine HAW.out.mono ?_
          rintro e w1 ⟨rfl, hA⟩
          have HA : Hid (At w w1) := Lib.hid hA
          clear hA
          go_wp2
          go_ret
          exact ⟨rfl, HA.out⟩

end Go.Proofs.Ythaiddhbifakhaa
