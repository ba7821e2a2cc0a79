/- Proved: the law HorizonNothing's walk: of no book each call answers as the document says. -/
import Derived.Test.YtjgmgkglpfcihaaAwk
namespace Go.Proofs.Ytjgmgkglpfcihaa
open Go.RowKit

set_option maxHeartbeats 1000000 in
set_option maxRecDepth 100000 in
theorem nothing_any (x now : Int) (w : World) : Calls Try.prog 5 #[.int .i64 x, .int .i64 now] w (Gives (.bool true) w) := by
  have HT := Lib.hid (at_nil 1 (by decide))
  have HC := Lib.hid (close_nil 1 (by decide))
  have HL := Lib.hid (low_nil now)
  have HN := Lib.hid count_nil
  have HS := Lib.hid list_nil
  have HW := Lib.hid awake_any
  have nb : (now == now) = true := by simp
  by_cases h : 0 ≤ x ∧ x ≤ 1099511627776
  · have HO : Hid (∀ W, Calls Try.prog 10 #[.pointer none, .int .i64 x] W fun e w' => e = .returned (.tuple #[.int .i64 0, .int .i64 6]) ∧ At W w') := Lib.hid (open_nil x h.1 h.2)
    have g0 : decide (x < 0) = false := decide_eq_false (by omega)
    have g1 : decide ((1099511627776 : Int) < x) = false := decide_eq_false (by omega)
    clear h
    go_enter Try.func5, Try.ntmps5
    go_wp2_with fail
    refine (HO.out _).mono ?_
    rintro e w1 ⟨rfl, hA⟩
    have HA1 := Lib.hid hA
    clear hA
    go_wp2_with (first
      | (go_at_call 14; refine (HT.out _).mono ?_; rintro e w' ⟨rfl, rfl⟩)
      | (go_at_call 12; refine (HC.out _).mono ?_; rintro e w' ⟨rfl, rfl⟩)
      | (go_at_call 16; refine (HL.out _).mono ?_; rintro e w2 ⟨rfl, hA2⟩; have HA2 := Lib.hid (HA1.out.next hA2); clear hA2)
      | (go_at_call 18; refine (HN.out _).mono ?_; rintro e w' ⟨rfl, rfl⟩)
      | (go_at_call 20; refine (HS.out _).mono ?_; rintro e w3 ⟨rfl, hA3⟩; have HA3 := Lib.hid (HA2.out.next hA3); clear hA3)
      | (go_at_call 8; refine (HW.out _).mono ?_; rintro e w4 ⟨rfl, hA4⟩; have HA4 := Lib.hid (HA3.out.next hA4); clear hA4))
    go_ret
    exact ⟨rfl, HA4.out⟩
  have HO : Hid (∀ W, Calls Try.prog 10 #[.pointer none, .int .i64 x] W fun e w' => e = .returned (.tuple #[.int .i64 0, .int .i64 1]) ∧ At W w') := Lib.hid fun W => (open_arg none x h W).mono fun e w' ⟨h1, h2⟩ => ⟨h1, by rw [← h2]; exact At.start W⟩
  by_cases h0 : 0 ≤ x
  · have g0 : decide (x < 0) = false := decide_eq_false (by omega)
    have g1 : (1099511627776 : Int) < x := by omega
    clear h h0
    go_enter Try.func5, Try.ntmps5
    go_wp2_with fail
    refine (HO.out _).mono ?_
    rintro e w1 ⟨rfl, hA⟩
    have HA1 := Lib.hid hA
    clear hA
    go_wp2_with (first
      | (go_at_call 14; refine (HT.out _).mono ?_; rintro e w' ⟨rfl, rfl⟩)
      | (go_at_call 12; refine (HC.out _).mono ?_; rintro e w' ⟨rfl, rfl⟩)
      | (go_at_call 16; refine (HL.out _).mono ?_; rintro e w2 ⟨rfl, hA2⟩; have HA2 := Lib.hid (HA1.out.next hA2); clear hA2)
      | (go_at_call 18; refine (HN.out _).mono ?_; rintro e w' ⟨rfl, rfl⟩)
      | (go_at_call 20; refine (HS.out _).mono ?_; rintro e w3 ⟨rfl, hA3⟩; have HA3 := Lib.hid (HA2.out.next hA3); clear hA3)
      | (go_at_call 8; refine (HW.out _).mono ?_; rintro e w4 ⟨rfl, hA4⟩; have HA4 := Lib.hid (HA3.out.next hA4); clear hA4))
    go_ret
    exact ⟨rfl, HA4.out⟩
  · have g0 : x < 0 := by omega
    clear h h0
    go_enter Try.func5, Try.ntmps5
    go_wp2_with fail
    refine (HO.out _).mono ?_
    rintro e w1 ⟨rfl, hA⟩
    have HA1 := Lib.hid hA
    clear hA
    go_wp2_with (first
      | (go_at_call 14; refine (HT.out _).mono ?_; rintro e w' ⟨rfl, rfl⟩)
      | (go_at_call 12; refine (HC.out _).mono ?_; rintro e w' ⟨rfl, rfl⟩)
      | (go_at_call 16; refine (HL.out _).mono ?_; rintro e w2 ⟨rfl, hA2⟩; have HA2 := Lib.hid (HA1.out.next hA2); clear hA2)
      | (go_at_call 18; refine (HN.out _).mono ?_; rintro e w' ⟨rfl, rfl⟩)
      | (go_at_call 20; refine (HS.out _).mono ?_; rintro e w3 ⟨rfl, hA3⟩; have HA3 := Lib.hid (HA2.out.next hA3); clear hA3)
      | (go_at_call 8; refine (HW.out _).mono ?_; rintro e w4 ⟨rfl, hA4⟩; have HA4 := Lib.hid (HA3.out.next hA4); clear hA4))
    go_ret
    exact ⟨rfl, HA4.out⟩

end Go.Proofs.Ytjgmgkglpfcihaa
