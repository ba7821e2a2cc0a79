/- Proved: what the document's own Encode answers: the 64 bytes of a block that may be, in memory of their own; or which error. -/
import Derived.Test.YtgmekkenodiclaaLaw
import Derived.Test.YtgmekkenodiclaaApp
namespace Go.Proofs.Ytgmekkenodiclaa
open Go.RowKit

set_option maxHeartbeats 1000000 in
set_option maxRecDepth 100000 in
theorem rencode_0 (k e s l : Int) (A : Option Addr) (n c : Nat) (t0 : k < 1) (w : World) :
    Calls Try.prog 42 #[.agg #[.int .i64 k, .int .i64 e, .int .i64 s, .int .i64 l, .slice A n c]] w (Gives (.tuple #[.slice none 0 0, .int .i64 1]) w) := by
  have d0 : decide (k < 1) = true := decide_eq_true t0
  have HA := Lib.hid ((At.start w).alloc (.cells #[.int .i64 k, .int .i64 e, .int .i64 s, .int .i64 l, .slice A n c] 63))
  go_enter Try.func42, Try.ntmps42
  go_wp2
  go_ret2
  exact ⟨rfl, HA.out⟩
set_option maxHeartbeats 1000000 in
set_option maxRecDepth 100000 in
theorem rencode_1 (k e s l : Int) (A : Option Addr) (n c : Nat) (t0 : ¬ k < 1) (t1 : 4 < k) (w : World) :
    Calls Try.prog 42 #[.agg #[.int .i64 k, .int .i64 e, .int .i64 s, .int .i64 l, .slice A n c]] w (Gives (.tuple #[.slice none 0 0, .int .i64 1]) w) := by
  have d0 : decide (k < 1) = false := decide_eq_false t0
  have d1 : decide (4 < k) = true := decide_eq_true t1
  have HA := Lib.hid ((At.start w).alloc (.cells #[.int .i64 k, .int .i64 e, .int .i64 s, .int .i64 l, .slice A n c] 63))
  go_enter Try.func42, Try.ntmps42
  go_wp2
  go_ret2
  exact ⟨rfl, HA.out⟩
set_option maxHeartbeats 1000000 in
set_option maxRecDepth 100000 in
theorem rencode_2 (k e s l : Int) (A : Option Addr) (n c : Nat) (t0 : ¬ k < 1) (t1 : ¬ 4 < k) (t2 : e < 0) (w : World) :
    Calls Try.prog 42 #[.agg #[.int .i64 k, .int .i64 e, .int .i64 s, .int .i64 l, .slice A n c]] w (Gives (.tuple #[.slice none 0 0, .int .i64 1]) w) := by
  have d0 : decide (k < 1) = false := decide_eq_false t0
  have d1 : decide (4 < k) = false := decide_eq_false t1
  have d2 : decide (e < 0) = true := decide_eq_true t2
  have HA := Lib.hid ((At.start w).alloc (.cells #[.int .i64 k, .int .i64 e, .int .i64 s, .int .i64 l, .slice A n c] 63))
  go_enter Try.func42, Try.ntmps42
  go_wp2
  go_ret2
  exact ⟨rfl, HA.out⟩
set_option maxHeartbeats 1000000 in
set_option maxRecDepth 100000 in
theorem rencode_3 (k e s l : Int) (A : Option Addr) (n c : Nat) (t0 : ¬ k < 1) (t1 : ¬ 4 < k) (t2 : ¬ e < 0) (t3 : 4294967295 < e) (w : World) :
    Calls Try.prog 42 #[.agg #[.int .i64 k, .int .i64 e, .int .i64 s, .int .i64 l, .slice A n c]] w (Gives (.tuple #[.slice none 0 0, .int .i64 1]) w) := by
  have d0 : decide (k < 1) = false := decide_eq_false t0
  have d1 : decide (4 < k) = false := decide_eq_false t1
  have d2 : decide (e < 0) = false := decide_eq_false t2
  have d3 : decide (4294967295 < e) = true := decide_eq_true t3
  have HA := Lib.hid ((At.start w).alloc (.cells #[.int .i64 k, .int .i64 e, .int .i64 s, .int .i64 l, .slice A n c] 63))
  go_enter Try.func42, Try.ntmps42
  go_wp2
  go_ret2
  exact ⟨rfl, HA.out⟩
set_option maxHeartbeats 1000000 in
set_option maxRecDepth 100000 in
theorem rencode_4 (k e s l : Int) (A : Option Addr) (n c : Nat) (t0 : ¬ k < 1) (t1 : ¬ 4 < k) (t2 : ¬ e < 0) (t3 : ¬ 4294967295 < e) (t4 : s < 0) (w : World) :
    Calls Try.prog 42 #[.agg #[.int .i64 k, .int .i64 e, .int .i64 s, .int .i64 l, .slice A n c]] w (Gives (.tuple #[.slice none 0 0, .int .i64 1]) w) := by
  have d0 : decide (k < 1) = false := decide_eq_false t0
  have d1 : decide (4 < k) = false := decide_eq_false t1
  have d2 : decide (e < 0) = false := decide_eq_false t2
  have d3 : decide (4294967295 < e) = false := decide_eq_false t3
  have d4 : decide (s < 0) = true := decide_eq_true t4
  have HA := Lib.hid ((At.start w).alloc (.cells #[.int .i64 k, .int .i64 e, .int .i64 s, .int .i64 l, .slice A n c] 63))
  go_enter Try.func42, Try.ntmps42
  go_wp2
  go_ret2
  exact ⟨rfl, HA.out⟩
set_option maxHeartbeats 1000000 in
set_option maxRecDepth 100000 in
theorem rencode_5 (k e s l : Int) (A : Option Addr) (n c : Nat) (t0 : ¬ k < 1) (t1 : ¬ 4 < k) (t2 : ¬ e < 0) (t3 : ¬ 4294967295 < e) (t4 : ¬ s < 0) (t5 : 1099511627776 < s) (w : World) :
    Calls Try.prog 42 #[.agg #[.int .i64 k, .int .i64 e, .int .i64 s, .int .i64 l, .slice A n c]] w (Gives (.tuple #[.slice none 0 0, .int .i64 1]) w) := by
  have d0 : decide (k < 1) = false := decide_eq_false t0
  have d1 : decide (4 < k) = false := decide_eq_false t1
  have d2 : decide (e < 0) = false := decide_eq_false t2
  have d3 : decide (4294967295 < e) = false := decide_eq_false t3
  have d4 : decide (s < 0) = false := decide_eq_false t4
  have d5 : decide (1099511627776 < s) = true := decide_eq_true t5
  have HA := Lib.hid ((At.start w).alloc (.cells #[.int .i64 k, .int .i64 e, .int .i64 s, .int .i64 l, .slice A n c] 63))
  go_enter Try.func42, Try.ntmps42
  go_wp2
  go_ret2
  exact ⟨rfl, HA.out⟩
set_option maxHeartbeats 1000000 in
set_option maxRecDepth 100000 in
theorem rencode_6 (k e s l : Int) (A : Option Addr) (n c : Nat) (t0 : ¬ k < 1) (t1 : ¬ 4 < k) (t2 : ¬ e < 0) (t3 : ¬ 4294967295 < e) (t4 : ¬ s < 0) (t5 : ¬ 1099511627776 < s) (t6 : l < 0) (w : World) :
    Calls Try.prog 42 #[.agg #[.int .i64 k, .int .i64 e, .int .i64 s, .int .i64 l, .slice A n c]] w (Gives (.tuple #[.slice none 0 0, .int .i64 1]) w) := by
  have d0 : decide (k < 1) = false := decide_eq_false t0
  have d1 : decide (4 < k) = false := decide_eq_false t1
  have d2 : decide (e < 0) = false := decide_eq_false t2
  have d3 : decide (4294967295 < e) = false := decide_eq_false t3
  have d4 : decide (s < 0) = false := decide_eq_false t4
  have d5 : decide (1099511627776 < s) = false := decide_eq_false t5
  have d6 : decide (l < 0) = true := decide_eq_true t6
  have HA := Lib.hid ((At.start w).alloc (.cells #[.int .i64 k, .int .i64 e, .int .i64 s, .int .i64 l, .slice A n c] 63))
  go_enter Try.func42, Try.ntmps42
  go_wp2
  go_ret2
  exact ⟨rfl, HA.out⟩
set_option maxHeartbeats 1000000 in
set_option maxRecDepth 100000 in
theorem rencode_7 (k e s l : Int) (A : Option Addr) (n c : Nat) (t0 : ¬ k < 1) (t1 : ¬ 4 < k) (t2 : ¬ e < 0) (t3 : ¬ 4294967295 < e) (t4 : ¬ s < 0) (t5 : ¬ 1099511627776 < s) (t6 : ¬ l < 0) (t7 : 1048576 < l) (w : World) :
    Calls Try.prog 42 #[.agg #[.int .i64 k, .int .i64 e, .int .i64 s, .int .i64 l, .slice A n c]] w (Gives (.tuple #[.slice none 0 0, .int .i64 1]) w) := by
  have d0 : decide (k < 1) = false := decide_eq_false t0
  have d1 : decide (4 < k) = false := decide_eq_false t1
  have d2 : decide (e < 0) = false := decide_eq_false t2
  have d3 : decide (4294967295 < e) = false := decide_eq_false t3
  have d4 : decide (s < 0) = false := decide_eq_false t4
  have d5 : decide (1099511627776 < s) = false := decide_eq_false t5
  have d6 : decide (l < 0) = false := decide_eq_false t6
  have d7 : decide (1048576 < l) = true := decide_eq_true t7
  have HA := Lib.hid ((At.start w).alloc (.cells #[.int .i64 k, .int .i64 e, .int .i64 s, .int .i64 l, .slice A n c] 63))
  go_enter Try.func42, Try.ntmps42
  go_wp2
  go_ret2
  exact ⟨rfl, HA.out⟩
set_option maxHeartbeats 1000000 in
set_option maxRecDepth 100000 in
theorem rencode_len (k e s l : Int) (A : Option Addr) (n c : Nat) (t0 : ¬ k < 1) (t1 : ¬ 4 < k) (t2 : ¬ e < 0) (t3 : ¬ 4294967295 < e) (t4 : ¬ s < 0) (t5 : ¬ 1099511627776 < s) (t6 : ¬ l < 0) (t7 : ¬ 1048576 < l) (h : 40 < n) (w : World) :
    Calls Try.prog 42 #[.agg #[.int .i64 k, .int .i64 e, .int .i64 s, .int .i64 l, .slice A n c]] w (Gives (.tuple #[.slice none 0 0, .int .i64 3]) w) := by
  have d0 : decide (k < 1) = false := decide_eq_false t0
  have d1 : decide (4 < k) = false := decide_eq_false t1
  have d2 : decide (e < 0) = false := decide_eq_false t2
  have d3 : decide (4294967295 < e) = false := decide_eq_false t3
  have d4 : decide (s < 0) = false := decide_eq_false t4
  have d5 : decide (1099511627776 < s) = false := decide_eq_false t5
  have d6 : decide (l < 0) = false := decide_eq_false t6
  have d7 : decide (1048576 < l) = false := decide_eq_false t7
  have d8 : decide ((40 : Int) < (n : Int)) = true := decide_eq_true (by omega)
  have HA := Lib.hid ((At.start w).alloc (.cells #[.int .i64 k, .int .i64 e, .int .i64 s, .int .i64 l, .slice A n c] 63))
  go_enter Try.func42, Try.ntmps42
  go_wp2
  go_ret2
  exact ⟨rfl, HA.out⟩
theorem rencode_no (k e s l : Int) (A : Option Addr) (n c : Nat) (h : ¬ Nums k e s l) (w : World) :
    Calls Try.prog 42 #[.agg #[.int .i64 k, .int .i64 e, .int .i64 s, .int .i64 l, .slice A n c]] w (Gives (.tuple #[.slice none 0 0, .int .i64 1]) w) := by
  by_cases t0 : k < 1
  · exact rencode_0 k e s l A n c t0 w
  by_cases t1 : 4 < k
  · exact rencode_1 k e s l A n c t0 t1 w
  by_cases t2 : e < 0
  · exact rencode_2 k e s l A n c t0 t1 t2 w
  by_cases t3 : 4294967295 < e
  · exact rencode_3 k e s l A n c t0 t1 t2 t3 w
  by_cases t4 : s < 0
  · exact rencode_4 k e s l A n c t0 t1 t2 t3 t4 w
  by_cases t5 : 1099511627776 < s
  · exact rencode_5 k e s l A n c t0 t1 t2 t3 t4 t5 w
  by_cases t6 : l < 0
  · exact rencode_6 k e s l A n c t0 t1 t2 t3 t4 t5 t6 w
  by_cases t7 : 1048576 < l
  · exact rencode_7 k e s l A n c t0 t1 t2 t3 t4 t5 t6 t7 w
  exact absurd ⟨⟨by omega, by omega⟩, ⟨by omega, by omega⟩, ⟨by omega, by omega⟩, ⟨by omega, by omega⟩⟩ h

end Go.Proofs.Ytgmekkenodiclaa
