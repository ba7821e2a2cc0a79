/- Proved: Block lays so many bytes, in memory of their own. -/
import Derived.Test.YthaiddhbifakhaaIn
namespace Go.Proofs.Ythaiddhbifakhaa
open Go.RowKit

set_option maxHeartbeats 1000000 in
set_option maxRecDepth 100000 in
theorem block_n (n : Nat) (hn : n ≤ 80) (k : Int) (w : World) :
    Calls Try.prog 25 #[.int .i64 (n : Int), .int .i64 k] w fun x w' => ∃ g L, x = .returned (.slice (some ⟨g, 0, none⟩) n n) ∧ w.heap.size ≤ g ∧ g < w'.heap.size ∧ L.length = n ∧ AllB L ∧ BV w' (some ⟨g, 0, none⟩) L ∧ At w w' := by
  obtain ⟨g, hg⟩ : ∃ g, g = w.heap.size := ⟨_, rfl⟩
  have hmk := make_u8 n (by omega) w
  rw [made_zn, ← hg] at hmk
  obtain ⟨w1, hw1⟩ : ∃ w1, w1 = w.alloc (.cells ((zr n).map bt).toArray 5) := ⟨_, rfl⟩
  rw [← hw1] at hmk
  have R1 : Hid (Row w1 g (zr n)) := Lib.hid (by rw [hw1, hg]; exact row_new _ _ _ rfl)
  have A1 : Hid (At w w1) := Lib.hid (by rw [hw1]; exact (At.start w).alloc _)
  have HG := Lib.hid hg
  have HR : Hid (∀ (k : Int) (w' : World), Calls Try.prog 28 #[.int .i64 k, .int .i64 251] w' fun e w'' => ∃ r : Nat, r < 251 ∧ e = .returned (.int .i64 (r : Int)) ∧ w' = w'') := Lib.hid (fun k w' => (round_any k 251 (by omega) (by omega) w').mono fun _ _ h => ⟨_, rd_lt _ _ (by omega), h.1, h.2⟩)
  have hmax : max (n : Int) 0 = (n : Int) := by omega
  have hmax2 : decide ((n : Int) < 0) = false := decide_eq_false (by omega)
  clear hg hw1
  go_enter Try.func25, Try.ntmps25
  go_wp2
  go_loopw [6] (fun c6 wr => ∃ (j : Nat) (Q : List Nat), j ≤ n ∧ c6 = .int .i64 (j : Int) ∧ Hid (Q.length = n) ∧ Hid (AllB Q) ∧ Hid (Row wr g Q) ∧ Hid (At w wr)) (fun c6 _ => n - (RowKit.intOf c6).toNat)
  case atStart => exact ⟨0, zr n, Nat.zero_le _, rfl, Lib.hid (zr_len n), Lib.hid (allB_zr n), R1, A1⟩
  case round =>
    obtain ⟨j, Q, hj, rfl, HL, HB, HQ, HA⟩ := hrel
    by_cases hlt : j < n
    · have e1 := HQ.out.cell j (by rw [HL.out]; exact hlt)
      have f1 := HQ.out.free j
      have g1 : (0 : Int) ≤ (j : Int) := by omega
      have g2 : (j : Int) < (n : Int) := by omega
      go_wp2_with fail
      refine (HR.out _ _).mono ?_
      rintro x w' ⟨r, hrl, rfl, rfl⟩
      obtain ⟨HQ2, HA2⟩ := (⟨Lib.hid (HQ.out.set j r), Lib.hid (Below.setCell (p := ⟨g, j, none⟩) HA.out (by rw [HG.out]; exact Nat.le_refl _) _)⟩ : Hid (Row (wr.setCell ⟨g, j, none⟩ (.int .u8 (r : Int))) g (Q.set j r)) ∧ Hid (At w (wr.setCell ⟨g, j, none⟩ (.int .u8 (r : Int)))))
      go_wp2
      go_roundw
      case rel => exact ⟨j + 1, Q.set j r, by omega, by go_num, Lib.hid (by rw [List.length_set]; exact HL.out), Lib.hid (allB_set HB.out j (by omega)), HQ2, HA2⟩
      case measure => simp [RowKit.intOf]; omega
    · have hjn : j = n := by omega
      have HE : Hid (g < wr.heap.size) := Lib.hid (lt_heap HQ.out)
      subst hjn
      go_wp2
      go_ret
      exact ⟨g, Q, rfl, by rw [HG.out]; exact Nat.le_refl _, HE.out, HL.out, HB.out, HQ.out.bv, HA.out⟩

end Go.Proofs.Ythaiddhbifakhaa
