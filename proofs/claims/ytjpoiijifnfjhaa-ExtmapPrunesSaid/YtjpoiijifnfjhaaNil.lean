/- Proved: Range of what is no part of a map is refused; of no map nothing is pruned and nothing dumped. -/
import Derived.Test.YtjpoiijifnfjhaaWrn
namespace Go.Proofs.Ytjpoiijifnfjhaa
open Go.RowKit

set_option maxHeartbeats 400000 in
theorem range_no {w : World} (p : Option Addr) (N : Nat) (hb : ∀ W, At w W → Calls Try.prog 21 #[.pointer p] W fun e w' => e = .returned (.int .i64 (N : Int)) ∧ W = w') (a n t : Int) (hno : ¬ (Va (a, n) ∧ a + n ≤ (N : Int))) :
    Calls Try.prog 18 #[.pointer p, .agg #[.int .i64 a, .int .i64 n], .int .i64 t] w (Gives (.tuple #[.slice none 0 0, .int .i64 2]) w) := by
  have hA0 : At w ((w.alloc (.cells #[.int .i64 a, .int .i64 n] 48)).alloc (.cells #[.int .i64 t] 3)) := ((At.start w).alloc _).alloc _
  have HH := Lib.hid (has_gen (w := (w.alloc (.cells #[.int .i64 a, .int .i64 n] 48)).alloc (.cells #[.int .i64 t] 3)) p N (fun W hW => hb W (hA0.next hW)) a n)
  rw [haB_no hno] at HH
  have HA0 := Lib.hid hA0
  clear hA0 hb hno
  go_enter Try.func18, Try.ntmps18
  go_wp2_with fail
  refine HH.out.mono ?_
  rintro e w1 ⟨rfl, hA⟩
  have HA := Lib.hid (HA0.out.next hA)
  clear hA
  go_wp2
  go_ret2
  exact ⟨rfl, HA.out⟩
set_option maxHeartbeats 400000 in
theorem dump_nil (w : World) : Calls Try.prog 19 #[.pointer none] w (Gives (.slice none 0 0) w) := by
  have HL := Lib.hid (lbas_nil w)
  go_enter Try.func19, Try.ntmps19
  go_wp2_with fail
  refine HL.out.mono ?_
  rintro e w1 ⟨rfl, hA⟩
  have HA := Lib.hid hA
  clear hA
  go_wp2
  refine wp_loop_rounds 1 ?_
  rw [rounds_succ]
  go_wp2
  go_ret
  exact ⟨rfl, HA.out⟩
set_option maxHeartbeats 400000 in
theorem prune_nil (t : Int) (w : World) : Calls Try.prog 16 #[.pointer none, .int .i64 t] w (Gives (.int .i64 0) w) := by
  have HL := Lib.hid (lbas_nil w)
  go_enter Try.func16, Try.ntmps16
  go_wp2_with fail
  refine HL.out.mono ?_
  rintro e w1 ⟨rfl, hA⟩
  have HA := Lib.hid hA
  clear hA
  go_wp2
  refine wp_loop_rounds 1 ?_
  rw [rounds_succ]
  go_wp2
  go_ret
  exact ⟨rfl, HA.out⟩

end Go.Proofs.Ytjpoiijifnfjhaa
