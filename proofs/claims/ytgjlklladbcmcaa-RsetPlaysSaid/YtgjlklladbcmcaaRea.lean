/- Proved: Read of an extent that may not be is refused. -/
import Derived.Test.YtgjlklladbcmcaaVw
import Derived.Deep.RegionLaw
namespace Go.Proofs.Ytgjlklladbcmcaa
open Go.RowKit

set_option maxHeartbeats 1000000 in
theorem read_len (p : Option Addr) (a m : Int) (hm : ¬ (1 ≤ m ∧ m ≤ 16)) (w : World) :
    Calls Try.prog 11 #[.pointer p, .agg #[.int .i64 a, .int .i64 m]] w (Gives (.tuple #[.slice none 0 0, .int .i64 3]) w) := by
  have HE : Hid (At w (w.alloc (.cells #[.int .i64 a, .int .i64 m] 29))) := Lib.hid ((At.start w).alloc _)
  by_cases h1 : m < 1
  · have q1 : decide (m < 1) = true := decide_eq_true h1
    clear hm h1
    go_enter Try.func11, Try.ntmps11
    go_wp2
    go_ret2
    exact ⟨rfl, HE.out⟩
  · have q1 : decide (m < 1) = false := decide_eq_false h1
    have q2 : decide ((16 : Int) < m) = true := decide_eq_true (by omega)
    clear hm h1
    go_enter Try.func11, Try.ntmps11
    go_wp2
    go_ret2
    exact ⟨rfl, HE.out⟩

set_option maxHeartbeats 1000000 in
set_option maxRecDepth 100000 in
theorem read_range (p : Option Addr) (N : Nat) (hN : N ≤ 1048576) (a m : Int) (hm : 1 ≤ m ∧ m ≤ 16) (h : ¬ (0 ≤ a ∧ a + m ≤ (N : Int))) (w : World) (hb : ∀ W, At w W → Calls Try.prog 34 #[.pointer p] W fun e w' => e = .returned (.int .i64 (N : Int)) ∧ W = w') :
    Calls Try.prog 11 #[.pointer p, .agg #[.int .i64 a, .int .i64 m]] w (Gives (.tuple #[.slice none 0 0, .int .i64 2]) w) := by
  have HB := Lib.hid hb
  obtain ⟨q, hq⟩ : ∃ q, w.heap.size = q := ⟨_, rfl⟩
  obtain ⟨wa, hwa⟩ : ∃ wa, w.alloc (.cells #[.int .i64 a, .int .i64 m] 29) = wa := ⟨_, rfl⟩
  have HA0 : Hid (At w wa) := Lib.hid (by rw [← hwa]; exact (At.start w).alloc _)
  have HQ : Hid (wa.heap[q]? = some (.cells #[.int .i64 a, .int .i64 m] 29 (0, 0))) := Lib.hid (by rw [← hwa, ← hq]; exact heap_alloc_new w _)
  have p0 : wa.cell? ⟨q, 0, none⟩ = some (.int .i64 a) := (cell_at HQ.out 0).trans rfl
  have p1 : wa.cell? ⟨q, 1, none⟩ = some (.int .i64 m) := (cell_at HQ.out 1).trans rfl
  obtain ⟨m1, m2⟩ := hm
  have q1 : decide (m < 1) = false := decide_eq_false (by omega)
  have q2 : decide ((16 : Int) < m) = false := decide_eq_false (by omega)
  have HBL : Hid (∀ W, At wa W → Calls Try.prog 34 #[.pointer p] W fun e w' => e = .returned (.int .i64 (N : Int)) ∧ W = w') := Lib.hid fun W hW => HB.out W (HA0.out.next hW)
  by_cases h0 : a < 0
  · have q3 : decide (a < 0) = true := decide_eq_true h0
    clear hb h h0
    go_enter Try.func11, Try.ntmps11
    go_wp2
    go_quiet (fail)
    go_wp2
    go_ret2
    exact ⟨rfl, HA0.out.drewN _⟩
  · have q3 : decide (a < 0) = false := decide_eq_false h0
    have q4 : IntKind.i64.wrap ((N : Int) - m) = (N : Int) - m := IntWalk.i64_in _ (by omega)
    have q5 : decide ((N : Int) - m < a) = true := decide_eq_true (by omega)
    clear hb h h0
    go_enter Try.func11, Try.ntmps11
    go_wp2
    go_quiet ((go_at_call 34; exact Calls.quiet_of_same ((HBL.out _ ((At.start _).drewN _)).mono fun _ _ h => ⟨h.1, h.2.symm⟩)))
    go_wp2
    go_ret2
    exact ⟨rfl, HA0.out.drewN _⟩

end Go.Proofs.Ytgjlklladbcmcaa
