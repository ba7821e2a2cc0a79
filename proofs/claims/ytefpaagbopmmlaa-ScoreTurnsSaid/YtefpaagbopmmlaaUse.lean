/- Proved: what the landed Use and Score give of a zone, and the document's own: the same plain functions of its numbers. -/
import Derived.Test.YtefpaagbopmmlaaScp
import Derived.Test.YtefpaagbopmmlaaLand
import Derived.Below
import Derived.Deep.Draws
namespace Go.Proofs.Ytefpaagbopmmlaa
open Go.RowKit Fl

/-- A zone's value. -/
def zv (l s t : Int) : Value := .agg #[.int .i64 l, .int .i64 s, .int .i64 t]
/-- May the zone be? -/
def Vld (l s t : Int) : Prop := 0 ≤ l ∧ l ≤ s ∧ s ≤ 1073741824 ∧ 0 ≤ t ∧ t ≤ 1099511627776
instance (l s t : Int) : Decidable (Vld l s t) := by unfold Vld; infer_instance

/-- A contract that makes memory alone. -/
def Gives (v : Value) (w : World) (e : Ending) (w' : World) : Prop := e = .returned v ∧ Below w.heap.size w w'
theorem below_alloc (w : World) (o : Obj) : Below w.heap.size w (w.alloc o) := (Below.refl _ _).alloc (Nat.le_refl _) o

set_option maxHeartbeats 1000000 in
theorem valid_yes (l s t : Int) (w : World) (h : Vld l s t) : Calls Try.prog 21 #[zv l s t] w (Gives (.bool true) w) := by
  obtain ⟨h1, h2, h3, h4, h5⟩ := h
  unfold zv
  go_enter Try.func21, Try.ntmps21
  go_wp2
  go_ret
  exact ⟨rfl, below_alloc _ _⟩
set_option maxHeartbeats 1000000 in
theorem valid_no (l s t : Int) (w : World) (h : ¬ Vld l s t) : Calls Try.prog 21 #[zv l s t] w (Gives (.bool false) w) := by
  unfold zv
  by_cases h1 : 0 ≤ l
  · by_cases h2 : l ≤ s
    · by_cases h3 : s ≤ 1073741824
      · by_cases h4 : 0 ≤ t
        · have h5 : decide (t ≤ 1099511627776) = false := decide_eq_false (fun h5 => h ⟨h1, h2, h3, h4, h5⟩)
          clear h
          go_enter Try.func21, Try.ntmps21
          go_wp2
          go_ret
          exact ⟨by first | rfl | exact congrArg (fun b => Ending.returned (Value.bool b)) h5, below_alloc _ _⟩
        · have h4' : decide (0 ≤ t) = false := decide_eq_false h4
          clear h
          go_enter Try.func21, Try.ntmps21
          go_wp2
          go_ret
          exact ⟨rfl, below_alloc _ _⟩
      · have h3' : decide (s ≤ 1073741824) = false := decide_eq_false h3
        clear h
        go_enter Try.func21, Try.ntmps21
        go_wp2
        go_ret
        exact ⟨rfl, below_alloc _ _⟩
    · have h2' : decide (l ≤ s) = false := decide_eq_false h2
      clear h
      go_enter Try.func21, Try.ntmps21
      go_wp2
      go_ret
      exact ⟨rfl, below_alloc _ _⟩
  · have h1' : decide (0 ≤ l) = false := decide_eq_false h1
    clear h
    go_enter Try.func21, Try.ntmps21
    go_wp2
    go_ret
    exact ⟨rfl, below_alloc _ _⟩
set_option maxHeartbeats 1000000 in
theorem may_yes (l s t : Int) (w : World) (h : Vld l s t) : Calls Try.prog 23 #[zv l s t] w (Gives (.bool true) w) := by
  obtain ⟨h1, h2, h3, h4, h5⟩ := h
  unfold zv
  go_enter Try.func23, Try.ntmps23
  go_wp2
  go_ret
  exact ⟨rfl, below_alloc _ _⟩
set_option maxHeartbeats 1000000 in
theorem may_no (l s t : Int) (w : World) (h : ¬ Vld l s t) : Calls Try.prog 23 #[zv l s t] w (Gives (.bool false) w) := by
  unfold zv
  by_cases h1 : 0 ≤ l
  · by_cases h2 : l ≤ s
    · by_cases h3 : s ≤ 1073741824
      · by_cases h4 : 0 ≤ t
        · have h5 : decide (t ≤ 1099511627776) = false := decide_eq_false (fun h5 => h ⟨h1, h2, h3, h4, h5⟩)
          clear h
          go_enter Try.func23, Try.ntmps23
          go_wp2
          go_ret
          exact ⟨by first | rfl | exact congrArg (fun b => Ending.returned (Value.bool b)) h5, below_alloc _ _⟩
        · have h4' : decide (0 ≤ t) = false := decide_eq_false h4
          clear h
          go_enter Try.func23, Try.ntmps23
          go_wp2
          go_ret
          exact ⟨rfl, below_alloc _ _⟩
      · have h3' : decide (s ≤ 1073741824) = false := decide_eq_false h3
        clear h
        go_enter Try.func23, Try.ntmps23
        go_wp2
        go_ret
        exact ⟨rfl, below_alloc _ _⟩
    · have h2' : decide (l ≤ s) = false := decide_eq_false h2
      clear h
      go_enter Try.func23, Try.ntmps23
      go_wp2
      go_ret
      exact ⟨rfl, below_alloc _ _⟩
  · have h1' : decide (0 ≤ l) = false := decide_eq_false h1
    clear h
    go_enter Try.func23, Try.ntmps23
    go_wp2
    go_ret
    exact ⟨rfl, below_alloc _ _⟩

end Go.Proofs.Ytefpaagbopmmlaa
