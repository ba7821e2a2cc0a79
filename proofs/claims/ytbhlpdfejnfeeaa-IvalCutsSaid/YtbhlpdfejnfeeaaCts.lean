/- Proved: the law IvalCuts answers true for any extent and any extents, those that it lets by included. -/
import Derived.Test.YtbhlpdfejnfeeaaCtl
namespace Go.Proofs.Ytbhlpdfejnfeeaa
open Go.RowKit

set_option maxHeartbeats 1000000 in
set_option maxRecDepth 100000 in
theorem cuts_any (a n : Int) (A : Option Addr) (m c : Nat) (l : List (Int × Int)) (w : World) (hz : A = none → m = 0 ∧ c = 0) (hl : l.length = m) (hx : EV w A l) :
    Calls Try.prog 4 #[.agg #[.int .i64 a, .int .i64 n], .slice A m c] w (Gives (.bool true) w) := by
  have HB : Hid (At w (w.alloc (.cells #[.int .i64 a, .int .i64 n] 28))) := Lib.hid ((At.start w).alloc _)
  have hcb := box_cells (w := w) (a := a) (n := n) _ (At.start _)
  obtain ⟨c1, c2⟩ := hcb
  by_cases hm : m ≤ 150
  · by_cases h1 : 0 ≤ a
    · by_cases h2 : a ≤ 1000
      · by_cases h3 : 1 ≤ n
        · by_cases h4 : n ≤ 300
          · exact cuts_yes a n A m c l w h1 h2 h3 h4 hm hz hl hx
          · clear hx hl hz
            have HSM : Hid (∀ W, Calls Try.prog 15 #[.slice A m c] W fun e w' => e = .returned (.bool true) ∧ W = w') := Lib.hid (fun W => small_any A m c W hm)
            go_enter Try.func4, Try.ntmps4
            go_wp2_with fail
            generalize w.alloc (.cells #[.int .i64 a, .int .i64 n] 28) = wb at *
            refine (HSM.out _).mono ?_
            rintro e w' ⟨rfl, rfl⟩
            go_wp2_with fail
            refine (awake_any _).mono ?_
            rintro e w5 ⟨rfl, ha5⟩
            have HA5 := Lib.hid (HB.out.next ha5)
            clear ha5
            go_wp2
            go_ret
            exact ⟨rfl, HA5.out⟩
        · clear hx hl hz
          have HSM : Hid (∀ W, Calls Try.prog 15 #[.slice A m c] W fun e w' => e = .returned (.bool true) ∧ W = w') := Lib.hid (fun W => small_any A m c W hm)
          go_enter Try.func4, Try.ntmps4
          go_wp2_with fail
          generalize w.alloc (.cells #[.int .i64 a, .int .i64 n] 28) = wb at *
          refine (HSM.out _).mono ?_
          rintro e w' ⟨rfl, rfl⟩
          go_wp2_with fail
          refine (awake_any _).mono ?_
          rintro e w5 ⟨rfl, ha5⟩
          have HA5 := Lib.hid (HB.out.next ha5)
          clear ha5
          go_wp2
          go_ret
          exact ⟨rfl, HA5.out⟩
      · clear hx hl hz
        have HSM : Hid (∀ W, Calls Try.prog 15 #[.slice A m c] W fun e w' => e = .returned (.bool true) ∧ W = w') := Lib.hid (fun W => small_any A m c W hm)
        go_enter Try.func4, Try.ntmps4
        go_wp2_with fail
        generalize w.alloc (.cells #[.int .i64 a, .int .i64 n] 28) = wb at *
        refine (HSM.out _).mono ?_
        rintro e w' ⟨rfl, rfl⟩
        go_wp2_with fail
        refine (awake_any _).mono ?_
        rintro e w5 ⟨rfl, ha5⟩
        have HA5 := Lib.hid (HB.out.next ha5)
        clear ha5
        go_wp2
        go_ret
        exact ⟨rfl, HA5.out⟩
    · clear hx hl hz
      have HSM : Hid (∀ W, Calls Try.prog 15 #[.slice A m c] W fun e w' => e = .returned (.bool true) ∧ W = w') := Lib.hid (fun W => small_any A m c W hm)
      go_enter Try.func4, Try.ntmps4
      go_wp2_with fail
      generalize w.alloc (.cells #[.int .i64 a, .int .i64 n] 28) = wb at *
      refine (HSM.out _).mono ?_
      rintro e w' ⟨rfl, rfl⟩
      go_wp2_with fail
      refine (awake_any _).mono ?_
      rintro e w5 ⟨rfl, ha5⟩
      have HA5 := Lib.hid (HB.out.next ha5)
      clear ha5
      go_wp2
      go_ret
      exact ⟨rfl, HA5.out⟩
  · clear hx hl hz
    have HSM : Hid (∀ W, Calls Try.prog 15 #[.slice A m c] W fun e w' => e = .returned (.bool false) ∧ W = w') := Lib.hid (fun W => large_any A m c W hm)
    go_enter Try.func4, Try.ntmps4
    go_wp2_with fail
    generalize w.alloc (.cells #[.int .i64 a, .int .i64 n] 28) = wb at *
    refine (HSM.out _).mono ?_
    rintro e w' ⟨rfl, rfl⟩
    go_wp2_with fail
    refine (awake_any _).mono ?_
    rintro e w5 ⟨rfl, ha5⟩
    have HA5 := Lib.hid (HB.out.next ha5)
    clear ha5
    go_wp2
    go_ret
    exact ⟨rfl, HA5.out⟩

end Go.Proofs.Ytbhlpdfejnfeeaa
