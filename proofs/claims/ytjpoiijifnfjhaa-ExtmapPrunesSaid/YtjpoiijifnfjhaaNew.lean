/- Proved: New makes a map in which nothing is written. -/
import Derived.Test.YtjpoiijifnfjhaaApp
namespace Go.Proofs.Ytjpoiijifnfjhaa
open Go.RowKit

/-- The state of a new map. -/
def st0 (n : Nat) : St := ⟨n, 0, fun _ => [], 0⟩
theorem st0_ok {n : Nat} (h1 : 1 ≤ n) (h2 : n ≤ 1048576) : Ok (st0 n) :=
  ⟨h1, h2, Int.le_refl _, by show (0 : Int) ≤ 1099511627776; omega, fun _ v hv => (by cases hv), fun _ _ => rfl, fun _ => Nat.le_refl _, Nat.zero_le _⟩
def News (n : Nat) (w : World) (e : Ending) (w' : World) : Prop := ∃ b F, e = .returned (.tuple #[.pointer (some ⟨b, 0, none⟩), .int .i64 0]) ∧ Mp w' b (st0 n) F ∧ (∀ g, F g → w.heap.size ≤ g) ∧ At w w'
set_option maxHeartbeats 1000000 in
theorem new_any (n : Nat) (h1 : 1 ≤ n) (h2 : n ≤ 1048576) (w : World) : Calls Try.prog 10 #[.int .i64 (n : Int)] w (News n w) := by
  have HO := Lib.hid (st0_ok h1 h2)
  have hmm := @run_makeMap Try.prog
  have g1 : decide ((n : Int) < 1) = false := decide_eq_false (by omega)
  have g2 : decide ((1048576 : Int) < (n : Int)) = false := decide_eq_false (by omega)
  go_enter Try.func10, Try.ntmps10
  go_wp2
  go_ret2
  refine ⟨w.heap.size + 1, fun g => g = w.heap.size ∨ g = w.heap.size + 1, ?_, ⟨w.heap.size, .map [], fun _ => nl, ⟨⟨HO.out, ?_, fun _ => rfl, fun k => ?_, fun l hl => ?_, fun _ => Vo.nil _, fun _ _ g _ h => (by cases h), Or.inl rfl, fun _ g h => (by cases h), fun g hg => ?_⟩, ?_, Or.inr rfl⟩⟩, fun g hg => ?_, ?_⟩
  · rfl
  · exact (World.ownsMap_made w Try.prog 3 raw).alloc _
  · exact ⟨fun h => (nomatch h), fun h => absurd rfl h⟩
  · cases hl
  · rcases hg with rfl | rfl
    · simp; omega
    · simp
  · have := heap_alloc_new (w.alloc (.map #[] 0)) (.cells #[.int .i64 (n : Int), .map (some w.heap.size), .int .i64 0] 62)
    rw [World.size_alloc] at this
    exact this
  · rcases hg with rfl | rfl
    · exact Nat.le_refl _
    · omega
  · exact ((At.start w).alloc _).alloc _

end Go.Proofs.Ytjpoiijifnfjhaa
