/- Proved: Block lays 64 bytes that hang on a number, in memory of their own. -/
import Derived.Test.YtgehnljkiocijaaRow
namespace Go.Proofs.Ytgehnljkiocijaa
open Go.RowKit

/-- A call hands back v and writes only what is new. -/
def Gives (v : Value) (w : World) (e : Ending) (w' : World) : Prop := e = .returned v ∧ Below w.heap.size w w'

theorem eq_of_at {Q R : List Nat} (h : Q.length = R.length) (hj : ∀ j, j < Q.length → Q.getD j 0 = R.getD j 0) : Q = R := by
  apply List.ext_getElem h
  intro j h1 h2
  have := hj j h1
  rwa [List.getD_eq_getElem?_getD, List.getD_eq_getElem?_getD, List.getElem?_eq_getElem h1, List.getElem?_eq_getElem h2] at this
theorem set_at (Q : List Nat) (j i x : Nat) (hj : j < Q.length) : (Q.set j x).getD i 0 = if i = j then x else Q.getD i 0 := by
  rw [List.getD_eq_getElem?_getD, List.getD_eq_getElem?_getD, List.getElem?_set]
  by_cases h : j = i
  · subst h; simp [hj]
  · rw [if_neg h, if_neg (fun e => h e.symm)]

set_option maxHeartbeats 1000000 in
set_option maxRecDepth 100000 in
/-- 64 bytes that hang on a number. -/
theorem block_any (k : Int) (w : World) :
    Calls Try.prog 13 #[.int .i64 64, .int .i64 k] w fun x w' => ∃ g, x = .returned (.slice (some ⟨g, 0, none⟩) 64 64) ∧ w.heap.size ≤ g ∧ BV w' (some ⟨g, 0, none⟩) (bk k) ∧ At w w' := by
  obtain ⟨g, hg⟩ : ∃ g, g = w.heap.size := ⟨_, rfl⟩
  have hmk := make_u8 64 (by omega) w
  rw [made_zn, ← hg] at hmk
  rw [show ((64 : Nat) : Int) = 64 from rfl] at hmk
  obtain ⟨w1, hw1⟩ : ∃ w1, w1 = w.alloc (.cells ((zr 64).map bt).toArray 5) := ⟨_, rfl⟩
  rw [← hw1] at hmk
  have R1 : Hid (Row w1 g (zr 64)) := Lib.hid (by rw [hw1, hg]; exact row_new _ _ _ rfl)
  have A1 : Hid (At w w1) := Lib.hid (by rw [hw1]; exact (At.start w).alloc _)
  have HG := Lib.hid hg
  have HR := Lib.hid (fun k w' => round_any k 251 (by omega) (by omega) w')
  have HK : Hid (∀ j, bk1 k j = rd (IntKind.i64.wrap (IntKind.i64.wrap ((j : Int) * (j : Int) + IntKind.i64.wrap (k * 7)) + 1)) 251) := Lib.hid fun _ => rfl
  obtain ⟨q, hq⟩ : ∃ q, q = IntKind.i64.wrap (k * 7) := ⟨_, rfl⟩
  have hqs : IntKind.i64.wrap (k * 7) = q := hq.symm
  rw [hqs] at HK
  clear hg hw1 hq
  go_enter Try.func13, Try.ntmps13
  go_wp2
  go_loopw [6] (fun c6 wr => ∃ (j : Nat) (Q : List Nat), j ≤ 64 ∧ c6 = .int .i64 (j : Int) ∧ Hid (Q.length = 64) ∧ Hid (∀ i, i < j → Q.getD i 0 = bk1 k i) ∧ Hid (Row wr g Q) ∧ Hid (At w wr)) (fun c6 _ => 64 - (intOf c6).toNat)
  case atStart => exact ⟨0, zr 64, Nat.zero_le _, rfl, Lib.hid (zr_len 64), Lib.hid (fun i h => absurd h (Nat.not_lt_zero i)), R1, A1⟩
  case round =>
    obtain ⟨j, Q, hj, rfl, HL, HB, HQ, HA⟩ := hrel
    by_cases hlt : j < 64
    · have e1 := HQ.out.cell j (by rw [HL.out]; exact hlt)
      have f1 := HQ.out.free j
      have hjj : j * j ≤ 4096 := Nat.le_trans (Nat.mul_le_mul (show j ≤ 64 by omega) (show j ≤ 64 by omega)) (by omega)
      obtain ⟨m, hm⟩ : ∃ m, m = j * j := ⟨_, rfl⟩
      rw [← hm] at hjj
      have hm2 : (j : Int) * (j : Int) = (m : Int) := by rw [hm]; simp
      have hk := HK.out j
      rw [hm2, IntWalk.i64_left, IntWalk.i64_left] at hk
      have hr : bk1 k j < 251 := by rw [hk]; exact rd_lt _ 251 (by omega)
      clear hm
      obtain ⟨r, hre⟩ : ∃ r, r = bk1 k j := ⟨_, rfl⟩
      rw [← hre] at hr hk
      obtain ⟨HQ2, HA2⟩ := (⟨Lib.hid (HQ.out.set j r), Lib.hid (Below.setCell (p := ⟨g, j, none⟩) HA.out (by rw [HG.out]; exact Nat.le_refl _) _)⟩ : Hid (Row (wr.setCell ⟨g, j, none⟩ (.int .u8 (r : Int))) g (Q.set j r)) ∧ Hid (At w (wr.setCell ⟨g, j, none⟩ (.int .u8 (r : Int)))))
      have HRE := Lib.hid hre
      have HK1 := Lib.hid hk
      clear hre hk
      go_wp2_with fail
      refine (HR.out _ _).mono ?_
      rintro x w' ⟨rfl, rfl⟩
      rw [← HK1.out]
      go_wp2
      go_roundw
      case rel => exact ⟨j + 1, Q.set j r, by omega, by go_num, Lib.hid (by rw [List.length_set]; exact HL.out), Lib.hid (fun i hi => by
        rw [set_at _ _ _ _ (by rw [HL.out]; exact hlt)]
        by_cases h : i = j
        · rw [if_pos h, HRE.out, h]
        · rw [if_neg h]; exact HB.out i (by omega)), HQ2, HA2⟩
      case measure => simp [intOf]; omega
    · have hjn : j = 64 := by omega
      subst hjn
      have HE : Hid (Q = bk k) := Lib.hid (eq_of_at (by rw [HL.out, bk_len]) fun i hi => by rw [HL.out] at hi; rw [HB.out i hi, bk_at k i hi])
      go_wp2
      go_ret
      exact ⟨g, rfl, by rw [HG.out]; exact Nat.le_refl _, by rw [← HE.out]; exact HQ.out.bv, HA.out⟩

end Go.Proofs.Ytgehnljkiocijaa
