/- Proved: the law RsetNothing's walk: of no view each call answers as the document says. -/
import Derived.Test.YtgjlklladbcmcaaAwa
namespace Go.Proofs.Ytgjlklladbcmcaa
open Go.RowKit

/-- What Read of nothing answers. -/
def nz (m : Int) : Int := if 1 ≤ m ∧ m ≤ 16 then 2 else 3
theorem read_none (a m : Int) (w : World) : Calls Try.prog 11 #[.pointer none, .agg #[.int .i64 a, .int .i64 m]] w (Gives (.tuple #[.slice none 0 0, .int .i64 (nz m)]) w) := by
  by_cases h : 1 ≤ m ∧ m ≤ 16
  · unfold nz; rw [if_pos h]
    exact read_range none 0 (by omega) a m h (by omega) w fun W _ => blocks_nil W
  · unfold nz; rw [if_neg h]
    exact read_len none a m h w

set_option maxHeartbeats 2000000 in
set_option maxRecDepth 100000 in
theorem nothing_any (a m : Int) (w : World) : Calls Try.prog 6 #[.agg #[.int .i64 a, .int .i64 m]] w (Gives (.bool true) w) := by
  have HRD := Lib.hid (read_none a m)
  have HS := Lib.hid set_nil
  have HNV := Lib.hid (newv_nil none 0)
  have HRS := Lib.hid reads_nil
  have HAT := Lib.hid at_nil
  have HAW := Lib.hid awake_any
  obtain ⟨q, hq⟩ : ∃ q, w.heap.size = q := ⟨_, rfl⟩
  obtain ⟨wa, hwa⟩ : ∃ wa, w.alloc (.cells #[.int .i64 a, .int .i64 m] 29) = wa := ⟨_, rfl⟩
  have HA0 : Hid (At w wa) := Lib.hid (by rw [← hwa]; exact (At.start w).alloc _)
  have hQ : wa.heap[q]? = some (.cells #[.int .i64 a, .int .i64 m] 29 (0, 0)) := by rw [← hwa, ← hq]; exact heap_alloc_new w _
  have HQ := Lib.hid hQ
  have p0 : wa.cell? ⟨q, 0, none⟩ = some (.int .i64 a) := (cell_at hQ 0).trans rfl
  have p1 : wa.cell? ⟨q, 1, none⟩ = some (.int .i64 m) := (cell_at hQ 1).trans rfl
  obtain ⟨z, hz⟩ : ∃ z, z = nz m := ⟨_, rfl⟩
  rw [← hz] at HRD
  have HZ := Lib.hid hz
  clear hQ hz
  go_enter Try.func6, Try.ntmps6
  go_wp2_with fail
  refine (HRD.out _).mono ?_
  rintro e w1 ⟨rfl, hA⟩
  have HA1 : Hid (At w w1) := Lib.hid (HA0.out.next hA)
  have p1 : w1.cell? ⟨q, 1, none⟩ = some (.int .i64 m) := (cell_at (At.keep hA HQ.out) 1).trans rfl
  clear hA hwa hq p0 HA0
  have hw : ∃ b1 b2 : Bool, decide (m < 1) = b1 ∧ decide ((16 : Int) < m) = b2 ∧ ((b1 = true ∧ z = 3) ∨ (b1 = false ∧ b2 = true ∧ z = 3) ∨ (b1 = false ∧ b2 = false ∧ z = 2)) := by
    refine ⟨_, _, rfl, rfl, ?_⟩
    rw [HZ.out]
    unfold nz
    by_cases h1 : m < 1
    · left; exact ⟨decide_eq_true h1, if_neg (by omega)⟩
    · right
      by_cases h2 : 16 < m
      · left; exact ⟨decide_eq_false h1, decide_eq_true h2, if_neg (by omega)⟩
      · right; exact ⟨decide_eq_false h1, decide_eq_false h2, if_pos (by omega)⟩
  obtain ⟨b1, b2, q1, q2, hw⟩ := hw
  clear HZ
  rcases hw with ⟨rfl, rfl⟩ | ⟨rfl, rfl, rfl⟩ | ⟨rfl, rfl, rfl⟩
  all_goals
    go_wp2_with fail
    refine (HS.out _).mono ?_
    rintro e w2 ⟨b, v, rfl, hs, hA⟩
    have HS2 := Lib.hid hs
    have HA2 : Hid (At w w2) := Lib.hid (HA1.out.next hA)
    clear hs hA
    go_wp2_with fail
    refine (HNV.out _).mono ?_
    rintro e w' ⟨rfl, rfl⟩
    go_wp2_with fail
    refine (HRS.out _).mono ?_
    rintro e w' ⟨rfl, rfl⟩
    go_wp2_with fail
    refine (HAT.out _).mono ?_
    rintro e w' ⟨rfl, rfl⟩
    have HC := Lib.hid (Iv.count_any HS2.out (by simp))
    rw [show Iv.sm [] = 0 from rfl] at HC
    go_wp2_with fail
    refine HC.out.mono ?_
    rintro e w3 ⟨rfl, hA⟩
    have HA3 : Hid (At w w3) := Lib.hid (HA2.out.next hA)
    clear hA HC
    go_wp2_with fail
    refine (HAW.out _).mono ?_
    rintro e w4 ⟨rfl, hA⟩
    have HA4 : Hid (At w w4) := Lib.hid (HA3.out.next hA)
    clear hA
    go_wp2
    go_ret
    exact ⟨rfl, HA4.out⟩

end Go.Proofs.Ytgjlklladbcmcaa
