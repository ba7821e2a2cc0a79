/- Proved: a block by value handed on is as it was; two blocks are held against each other; rows of any length; awake answers true; Round keeps a number from 0 to ahead of n. -/
import Derived.Test.YtkohkpmpbcgodaaDec
namespace Go.Proofs.Ytkohkpmpbcgodaa
open Go.RowKit

set_option maxRecDepth 100000 in
theorem made_any (k e s l : Int) (A : Option Addr) (n c : Nat) (w : World) :
    Calls Try.prog 10 #[.agg #[.int .i64 k, .int .i64 e, .int .i64 s, .int .i64 l, .slice A n c]] w (Gives (.agg #[.int .i64 k, .int .i64 e, .int .i64 s, .int .i64 l, .slice A n c]) w) := by
  go_enter Try.func10, Try.ntmps10
  go_wp2
  (try simp only [Exit.inBlock, Exit.then])
  refine bodyPost_ret (results_cell_row rfl _ _ (w.heap.size + 1) 29 #[.int .i64 k, .int .i64 e, .int .i64 s, .int .i64 l, .slice A n c] (0, 0) _ rfl (heap_alloc2_new _ _ _) Try.underlying29 rfl info_blk) rfl ⟨rfl, ((At.start w).alloc _).alloc _⟩

set_option maxRecDepth 100000 in
/-- Two rows are held against each other. -/
theorem bytes_all (A1 A2 : Option Addr) (n m c1 c2 : Nat) (L M : List Nat) (w : World) (hn : n ≤ 1000000) (hl : L.length = n) (hm : M.length = m) (hL : AllB L) (hM : AllB M) (hx : BV w A1 L) (hy : BV w A2 M) :
    Calls Try.prog 14 #[.slice A1 n c1, .slice A2 m c2] w fun e w' => e = .returned (.bool (decide (L = M))) ∧ At w w' := by
  by_cases h : n = m
  · subst h
    refine (bytes_any A1 A2 n c1 c2 L M w hn hl hm hL hM hx hy).mono ?_
    rintro e w' ⟨rfl, k, rfl⟩
    exact ⟨rfl, (At.start w).drewN k⟩
  · have nb : ((n : Int) != (m : Int)) = true := by simp; omega
    have hd : decide (L = M) = false := decide_eq_false fun he => h (by rw [← hl, ← hm, he])
    rw [hd]
    clear hl hm hx hy hd
    go_enter Try.func14, Try.ntmps14
    go_wp2
    go_ret
    exact ⟨rfl, At.start w⟩

/-- The number from 0 to ahead of n that Round keeps. -/
def rd (k : Int) (n : Nat) : Nat := if k.tmod (n : Int) < 0 then (k.tmod (n : Int) + (n : Int)).toNat else (k.tmod (n : Int)).toNat
theorem rd_lt (k : Int) (n : Nat) (h : 1 ≤ n) : rd k n < n := by
  have b1 : k.tmod (n : Int) < (n : Int) := Int.tmod_lt_of_pos k (by omega)
  have b2 : -(n : Int) < k.tmod (n : Int) := Int.lt_tmod_of_pos k (show (0 : Int) < (n : Int) by omega)
  unfold rd; split <;> omega
set_option maxHeartbeats 400000 in
theorem round_any (k : Int) (n : Nat) (h1 : 1 ≤ n) (h2 : n ≤ 100000) (w : World) : Calls Try.prog 17 #[.int .i64 k, .int .i64 (n : Int)] w fun e w' => e = .returned (.int .i64 (rd k n : Int)) ∧ w = w' := by
  have b1 : k.tmod (n : Int) < (n : Int) := Int.tmod_lt_of_pos k (by omega)
  have b2 : -(n : Int) < k.tmod (n : Int) := Int.lt_tmod_of_pos k (show (0 : Int) < (n : Int) by omega)
  have hr : rd k n = if k.tmod (n : Int) < 0 then (k.tmod (n : Int) + (n : Int)).toNat else (k.tmod (n : Int)).toNat := rfl
  obtain ⟨r, hrd⟩ : ∃ r, r = rd k n := ⟨_, rfl⟩
  rw [← hrd] at hr ⊢
  clear hrd
  obtain ⟨t, ht⟩ : ∃ t, k.tmod (n : Int) = t := ⟨_, rfl⟩
  rw [ht] at b1 b2 hr
  have hn0 : ¬ ((n : Int) = 0) := by omega
  by_cases h : t < 0
  · rw [if_pos h] at hr
    have hr2 : t + (n : Int) = (r : Int) := by omega
    have HR := Lib.hid hr2
    clear hr hr2
    go_enter Try.func17, Try.ntmps17
    go_wp2
    go_ret
    exact ⟨by rw [← HR.out]; rfl, rfl⟩
  · rw [if_neg h] at hr
    have hr2 : t = (r : Int) := by omega
    have HR := Lib.hid hr2
    clear hr hr2
    go_enter Try.func17, Try.ntmps17
    go_wp2
    go_ret
    exact ⟨by rw [← HR.out]; rfl, rfl⟩

end Go.Proofs.Ytkohkpmpbcgodaa
