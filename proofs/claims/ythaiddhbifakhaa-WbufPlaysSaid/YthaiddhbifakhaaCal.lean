/- Proved: a buffer's plain calls: size, all, Len; New. -/
import Derived.Test.YthaiddhbifakhaaBf
namespace Go.Proofs.Ythaiddhbifakhaa
open Go.RowKit

section
variable {w : World} {b mb : Nat} {S : St}
set_option maxHeartbeats 400000 in
theorem all_bf (h : Bf w b mb S) : Calls Try.prog 31 #[.pointer (some ⟨b, 0, none⟩)] w fun e w' => e = .returned (.map (some mb)) ∧ w = w' := by
  obtain ⟨-, -, c0⟩ := h.cells
  clear h
  go_enter Try.func31, Try.ntmps31
  go_wp2
  go_ret
  exact ⟨rfl, rfl⟩
set_option maxHeartbeats 400000 in
theorem all_nil (w : World) : Calls Try.prog 31 #[.pointer none] w fun e w' => e = .returned (.map none) ∧ w = w' := by
  go_enter Try.func31, Try.ntmps31
  go_wp2
  go_ret
  exact ⟨rfl, rfl⟩
set_option maxHeartbeats 400000 in
theorem size_bf (h : Bf w b mb S) : Calls Try.prog 51 #[.pointer (some ⟨b, 0, none⟩)] w fun e w' => e = .returned (.int .i64 (S.n : Int)) ∧ w = w' := by
  obtain ⟨c0, -, -⟩ := h.cells
  clear h
  go_enter Try.func51, Try.ntmps51
  go_wp2
  go_ret
  exact ⟨rfl, rfl⟩
set_option maxHeartbeats 400000 in
theorem size_nil (w : World) : Calls Try.prog 51 #[.pointer none] w fun e w' => e = .returned (.int .i64 0) ∧ w = w' := by
  go_enter Try.func51, Try.ntmps51
  go_wp2
  go_ret
  exact ⟨rfl, rfl⟩
set_option maxHeartbeats 400000 in
theorem len_bf (h : Bf w b mb S) : Calls Try.prog 14 #[.pointer (some ⟨b, 0, none⟩)] w fun e w' => e = .returned (.int .i64 ((us S).length : Int)) ∧ w = w' := by
  have HA := Lib.hid (all_bf h)
  obtain ⟨D, h⟩ := h
  have hlen := h.own.len Try.underlying65 3
  rw [h.size] at hlen
  clear h
  go_enter Try.func14, Try.ntmps14
  go_wp2_with fail
  refine HA.out.mono ?_
  rintro e w' ⟨rfl, rfl⟩
  go_wp2
  go_ret
  exact ⟨rfl, rfl⟩
set_option maxHeartbeats 400000 in
theorem len_nil (w : World) : Calls Try.prog 14 #[.pointer none] w fun e w' => e = .returned (.int .i64 0) ∧ w = w' := by
  have HA := Lib.hid (all_nil w)
  have hlen := Maps.len_nil (P := Try.prog) (w := w) Try.underlying65 3
  go_enter Try.func14, Try.ntmps14
  go_wp2_with fail
  refine HA.out.mono ?_
  rintro e w' ⟨rfl, rfl⟩
  go_wp2
  go_ret
  exact ⟨rfl, rfl⟩
end

/-- A new buffer. -/
def News (n : Nat) (m : Int) (w : World) (e : Ending) (w' : World) : Prop := ∃ b mb, e = .returned (.tuple #[.pointer (some ⟨b, 0, none⟩), .int .i64 0]) ∧ Bf w' b mb (st0 n m) ∧ w.heap.size ≤ b ∧ w.heap.size ≤ mb ∧ At w w'
set_option maxHeartbeats 1000000 in
theorem new_ok (n : Nat) (m : Int) (h1 : 1 ≤ n) (h2 : n ≤ 1048576) (h3 : 0 ≤ m) (w : World) : Calls Try.prog 10 #[.int .i64 (n : Int), .int .i64 m] w (News n m w) := by
  have HO := Lib.hid (st0_ok h1 h2 h3)
  have hmm := @run_makeMap Try.prog
  have g1 : decide ((n : Int) < 1) = false := decide_eq_false (by omega)
  have g2 : decide ((1048576 : Int) < (n : Int)) = false := decide_eq_false (by omega)
  have g3 : decide (m < 0) = false := decide_eq_false (by omega)
  clear h1 h2 h3
  go_enter Try.func10, Try.ntmps10
  go_wp2
  go_ret2
  refine ⟨w.heap.size + 1, w.heap.size, rfl, ⟨.map [], HO.out, ?_, fun k => ?_, fun k => ?_, fun l hl => ?_, ?_⟩, by omega, Nat.le_refl _, ?_⟩
  · exact (World.ownsMap_made w Try.prog 3 raw).alloc _
  · rw [gz_no (by unfold gi; split <;> rfl)]; rfl
  · exact ⟨fun h => (nomatch h), fun h => absurd (by unfold gi; split <;> rfl) h⟩
  · cases hl
  · have := heap_alloc_new (w.alloc (.map #[] 0)) (.cells #[.int .i64 (n : Int), .int .i64 m, .map (some w.heap.size)] 67)
    rw [World.size_alloc] at this
    exact this
  · exact ((At.start w).alloc _).alloc _
/-- What may be no buffer. -/
def May (n m : Int) : Prop := 1 ≤ n ∧ n ≤ 1048576 ∧ 0 ≤ m
set_option maxHeartbeats 1000000 in
theorem new_bad (n m : Int) (h : ¬ May n m) (w : World) : Calls Try.prog 10 #[.int .i64 n, .int .i64 m] w fun e w' => e = .returned (.tuple #[.pointer none, .int .i64 1]) ∧ w = w' := by
  by_cases h1 : 1 ≤ n
  · have g1 : decide (n < 1) = false := decide_eq_false (by omega)
    by_cases h2 : n ≤ 1048576
    · have g2 : decide ((1048576 : Int) < n) = false := decide_eq_false (by omega)
      have h3 : m < 0 := by
        have : ¬ 0 ≤ m := fun h3 => h ⟨h1, h2, h3⟩
        omega
      clear h h1 h2
      go_enter Try.func10, Try.ntmps10
      go_wp2
      go_ret2
      exact ⟨rfl, rfl⟩
    · have h2' : (1048576 : Int) < n := by omega
      clear h h1 h2
      go_enter Try.func10, Try.ntmps10
      go_wp2
      go_ret2
      exact ⟨rfl, rfl⟩
  · have h1' : n < 1 := by omega
    clear h h1
    go_enter Try.func10, Try.ntmps10
    go_wp2
    go_ret2
    exact ⟨rfl, rfl⟩

end Go.Proofs.Ythaiddhbifakhaa
