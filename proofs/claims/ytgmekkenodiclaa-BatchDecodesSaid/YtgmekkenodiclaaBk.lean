/- Proved: scarpalike.Data lays 40 bytes that hang on a number, in memory of their own. -/
import Derived.Test.YtgmekkenodiclaaMv
import Derived.LoopN
namespace Go.Proofs.Ytgmekkenodiclaa
open Go.RowKit

open Go.RowKit
open Go.RowKit
theorem made_zn (n : Nat) : madeCells (Value.int .u8 0).cells n = ((zr n).map bt).toArray := by
  apply Array.toList_inj.1
  show (madeCells #[Value.int .u8 0] n).toList = _
  rw [toList_madeCells_one]
  simp [zr, bt]
/-- The byte at place j of a block that hangs on k, and the 40 of them. -/
def bk1 (k : Int) (j : Nat) : Nat := rd (IntKind.i64.wrap (IntKind.i64.wrap ((j : Int) * (j : Int) + IntKind.i64.wrap (k * 7)) + 1)) 251
def bk (k : Int) : List Nat := (List.range 40).map (bk1 k)
theorem bk_len (k : Int) : (bk k).length = 40 := by simp [bk]
theorem bk_byte (k : Int) : AllB (bk k) := by
  intro c hc
  obtain ⟨j, _, rfl⟩ := List.mem_map.1 hc
  have := rd_lt (IntKind.i64.wrap (IntKind.i64.wrap ((j : Int) * (j : Int) + IntKind.i64.wrap (k * 7)) + 1)) 251 (by omega)
  unfold bk1; omega
theorem bk_at (k : Int) (j : Nat) (h : j < 40) : (bk k).getD j 0 = bk1 k j := by
  unfold bk
  rw [List.getD_eq_getElem?_getD, List.getElem?_map, List.getElem?_range h]; rfl

open Go.RowKit
theorem eq_of_at {Q R : List Nat} (h : Q.length = R.length) (hj : ∀ j, j < Q.length → Q.getD j 0 = R.getD j 0) : Q = R := by
  apply List.ext_getElem h
  intro j h1 h2
  have := hj j h1
  rwa [List.getD_eq_getElem?_getD, List.getD_eq_getElem?_getD, List.getElem?_eq_getElem h1, List.getElem?_eq_getElem h2] at this
theorem set_at (Q : List Nat) (j i x : Nat) (hj : j < Q.length) : (Q.set j x).getD i 0 = if i = j then x else Q.getD i 0 := by
  rw [List.getD_eq_getElem?_getD, List.getD_eq_getElem?_getD, List.getElem?_set]
  by_cases h : j = i
  · subst h; simp [hj]
  · rw [if_neg h, if_neg (fun e => h e.symm)]

set_option maxHeartbeats 1000000 in
set_option maxRecDepth 100000 in
/-- 40 bytes that hang on a number. -/
theorem block_any (k : Int) (w : World) :
    Calls Try.prog 31 #[.int .i64 40, .int .i64 k] w fun x w' => ∃ g, x = .returned (.slice (some ⟨g, 0, none⟩) 40 40) ∧ w.heap.size ≤ g ∧ BV w' (some ⟨g, 0, none⟩) (bk k) ∧ At w w' := by
  obtain ⟨g, hg⟩ : ∃ g, g = w.heap.size := ⟨_, rfl⟩
  have hmk := make_u8 40 (by omega) w
  rw [made_zn, ← hg] at hmk
  rw [show ((40 : Nat) : Int) = 40 from rfl] at hmk
  obtain ⟨w1, hw1⟩ : ∃ w1, w1 = w.alloc (.cells ((zr 40).map bt).toArray 5) := ⟨_, rfl⟩
  rw [← hw1] at hmk
  have R1 : Hid (Row w1 g (zr 40)) := Lib.hid (by rw [hw1, hg]; exact row_new _ _ _ rfl)
  have A1 : Hid (At w w1) := Lib.hid (by rw [hw1]; exact (At.start w).alloc _)
  have HG := Lib.hid hg
  have HR := Lib.hid (fun k w' => round_any k 251 (by omega) (by omega) w')
  have HK : Hid (∀ j, bk1 k j = rd (IntKind.i64.wrap (IntKind.i64.wrap ((j : Int) * (j : Int) + IntKind.i64.wrap (k * 7)) + 1)) 251) := Lib.hid fun _ => rfl
  obtain ⟨q, hq⟩ : ∃ q, q = IntKind.i64.wrap (k * 7) := ⟨_, rfl⟩
  have hqs : IntKind.i64.wrap (k * 7) = q := hq.symm
  rw [hqs] at HK
  clear hg hw1 hq
  go_enter Try.func31, Try.ntmps31
  go_wp2
  go_loopw [6] (fun c6 wr => ∃ (j : Nat) (Q : List Nat), j ≤ 40 ∧ c6 = .int .i64 (j : Int) ∧ Hid (Q.length = 40) ∧ Hid (∀ i, i < j → Q.getD i 0 = bk1 k i) ∧ Hid (Row wr g Q) ∧ Hid (At w wr)) (fun c6 _ => 40 - (RowKit.intOf c6).toNat)
  case atStart => exact ⟨0, zr 40, Nat.zero_le _, rfl, Lib.hid (zr_len 40), Lib.hid (fun i h => absurd h (Nat.not_lt_zero i)), R1, A1⟩
  case round =>
    obtain ⟨j, Q, hj, rfl, HL, HB, HQ, HA⟩ := hrel
    by_cases hlt : j < 40
    · have e1 := HQ.out.cell j (by rw [HL.out]; exact hlt)
      have f1 := HQ.out.free j
      have hjj : j * j ≤ 4096 := Nat.le_trans (Nat.mul_le_mul (show j ≤ 40 by omega) (show j ≤ 40 by omega)) (by omega)
      obtain ⟨m, hm⟩ : ∃ m, m = j * j := ⟨_, rfl⟩
      rw [← hm] at hjj
      have hm2 : (j : Int) * (j : Int) = (m : Int) := by rw [hm]; simp
      have hk := HK.out j
      rw [hm2, IntWalk.i64_left, IntWalk.i64_left] at hk
      have hr : bk1 k j < 251 := by rw [hk]; exact rd_lt _ 251 (by omega)
      clear hm
      obtain ⟨r, hre⟩ : ∃ r, r = bk1 k j := ⟨_, rfl⟩
      rw [← hre] at hr hk
      obtain ⟨HQ2, HA2⟩ := (⟨Lib.hid (HQ.out.set j r), Lib.hid (Below.setCell (p := ⟨g, j, none⟩) HA.out (by rw [HG.out]; exact Nat.le_refl _) _)⟩ : Hid (Row (wr.setCell ⟨g, j, none⟩ (.int .u8 (r : Int))) g (Q.set j r)) ∧ Hid (At w (wr.setCell ⟨g, j, none⟩ (.int .u8 (r : Int)))))
      have HRE := Lib.hid hre
      have HK1 := Lib.hid hk
      clear hre hk
      go_wp2_with fail
      refine (HR.out _ _).mono ?_
      rintro x w' ⟨rfl, rfl⟩
      rw [← HK1.out]
      go_wp2
      go_roundw
      case rel => exact ⟨j + 1, Q.set j r, by omega, by go_num, Lib.hid (by rw [List.length_set]; exact HL.out), Lib.hid (fun i hi => by
        rw [set_at _ _ _ _ (by rw [HL.out]; exact hlt)]
        by_cases h : i = j
        · rw [if_pos h, HRE.out, h]
        · rw [if_neg h]; exact HB.out i (by omega)), HQ2, HA2⟩
      case measure => simp [RowKit.intOf]; omega
    · have hjn : j = 40 := by omega
      subst hjn
      have HE : Hid (Q = bk k) := Lib.hid (eq_of_at (by rw [HL.out, bk_len]) fun i hi => by rw [HL.out] at hi; rw [HB.out i hi, bk_at k i hi])
      go_wp2
      go_ret
      exact ⟨g, rfl, by rw [HG.out]; exact Nat.le_refl _, by rw [← HE.out]; exact HQ.out.bv, HA.out⟩

open Go.RowKit
open Go.RowKit
set_option maxHeartbeats 400000 in
theorem data_any (k : Int) (w : World) : Calls Try.prog 16 #[.int .i64 k] w fun x w' => ∃ g, x = .returned (.slice (some ⟨g, 0, none⟩) 40 40) ∧ w.heap.size ≤ g ∧ BV w' (some ⟨g, 0, none⟩) (bk k) ∧ At w w' := by
  have HB := Lib.hid (block_any k w)
  go_enter Try.func16, Try.ntmps16
  go_wp2_with fail
  refine HB.out.mono ?_
  rintro e w' ⟨g, rfl, h1, h2, h3⟩
  have H1 := Lib.hid h1
  have H2 := Lib.hid h2
  have H3 := Lib.hid h3
  clear h1 h2 h3
  go_wp2
  go_ret
  exact ⟨g, rfl, H1.out, H2.out, H3.out⟩


end Go.Proofs.Ytgmekkenodiclaa
