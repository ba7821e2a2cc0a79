/- Proved: a list and the same list in order hold each number equally often; Round answers with a number from 0 to below its second one. -/
import Derived.Test.YtfpiojohodgncaaFPlaces
namespace Go.Proofs.Ytfpiojohodgncaa
open Go.RowKit Fl

/-- How many of the first j are the same as z. -/
def cnt (L : List Nat) (z j : Nat) : Nat := (L.take j).countP (fun y => smB y z)
theorem cnt_step (L : List Nat) (z j : Nat) (hj : j < L.length) (b : Bool) (hb : smB (L.getD j 0) z = b) : cnt L z (j + 1) = cnt L z j + b.toNat := by
  unfold cnt
  rw [List.take_add_one, List.getElem?_eq_getElem hj, List.countP_append]
  rw [List.getD_eq_getElem?_getD, List.getElem?_eq_getElem hj] at hb
  simp only [Option.toList, List.countP_cons, List.countP_nil, Option.getD_some] at hb ⊢
  rw [hb]
  cases b <;> rfl
theorem cnt_le (L : List Nat) (z j : Nat) : cnt L z j ≤ j := Nat.le_trans List.countP_le_length (List.length_take_le _ _)
theorem cnt_key (L : List Nat) (z : Nat) (hz : z < 18446744073709551616) (hf : ∀ x ∈ L, x < 18446744073709551616) : cnt L z L.length = (L.map kb).countP (· == kb z) := by
  unfold cnt
  rw [List.take_length, List.countP_map]
  apply List.countP_congr
  intro x hx
  simp only [Function.comp, beq_iff_eq]
  exact smB_iff x z (hf x hx) hz
theorem cnt_same {L R : List Nat} (h : Sorts L R) (hf : ∀ x ∈ L, x < 18446744073709551616) (z : Nat) (hz : z < 18446744073709551616) : cnt L z L.length = cnt R z L.length := by
  rw [cnt_key L z hz hf, ← sorts_len h, cnt_key R z hz h.2.2]
  exact (h.2.1.countP_eq _).symm

set_option maxHeartbeats 400000 in
theorem round_any (k n : Int) (w : World) (hn : 0 < n) (hn2 : n ≤ 1000) :
    Calls Try.prog 26 #[.int .i64 k, .int .i64 n] w fun e w' => ∃ r : Int, 0 ≤ r ∧ r < n ∧ e = .returned (.int .i64 r) ∧ w = w' := by
  have t1 := Int.tmod_lt_of_pos k hn
  have t2 : -n < k.tmod n := by
    have := Int.tmod_lt_of_pos (-k) hn
    rw [Int.neg_tmod] at this
    omega
  go_enter Try.func26, Try.ntmps26
  go_wp2
  · go_ret
    exact ⟨_, by omega, by omega, rfl, rfl⟩
  · go_ret
    exact ⟨_, by omega, by omega, rfl, rfl⟩

theorem rsame_val (a b : Nat) (ha : a < 18446744073709551616) (hb : b < 18446744073709551616) (v : Bool) (h : Hid (smB a b = v)) (w : World) :
    Calls Try.prog 21 #[.float .f64 a, .float .f64 b] w fun e w' => e = .returned (.bool v) ∧ w = w' := by
  have := rsame_any a b ha hb w
  rw [h.out] at this
  exact this

end Go.Proofs.Ytfpiojohodgncaa
