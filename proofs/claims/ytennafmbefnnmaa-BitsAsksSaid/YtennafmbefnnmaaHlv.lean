/- Proved: the law BitsHalves answers true at every number and leaves what there was as it was: eight bytes are the four of the lower half and the four of the upper one. -/
import Derived.Test.YtennafmbefnnmaaAwk
namespace Go.Proofs.Ytennafmbefnnmaa
open Go.RowKit

theorem pt_lo (v : Nat) : (pt 8 v).take 4 = pt 4 v := by
  rw [show (8 : Nat) = 4 + 4 from rfl, pt_two, List.take_append_of_le_length (by rw [pt_len]; omega), List.take_of_length_le (by rw [pt_len]; omega)]
theorem pt_hi (v : Nat) : (pt 8 v).drop 4 = pt 4 (v / 4294967296) := by
  rw [show (8 : Nat) = 4 + 4 from rfl, pt_two, List.drop_append_of_le_length (by rw [pt_len]; omega), List.drop_of_length_le (by rw [pt_len]; omega)]
  rfl
theorem gn_lo (v : Nat) : gn (pt 8 v) 4 = v % 4294967296 := by
  unfold gn
  rw [if_pos (by rw [pt_len]; omega), pt_lo, gt_pt]
theorem gn_pt (n v : Nat) (R : List Nat) : gn (pt n v ++ R) n = v % 2 ^ (8 * n) := by
  unfold gn
  rw [if_pos (by rw [List.length_append, pt_len]; omega), List.take_append_of_le_length (by rw [pt_len]; omega), List.take_of_length_le (by rw [pt_len]; omega), gt_pt]

set_option maxHeartbeats 4000000 in
set_option maxRecDepth 100000 in
theorem halves_any (v : Nat) (hv : v < 18446744073709551616) (w : World) :
    Calls Try.prog 7 #[.int .u64 (v : Int)] w (Gives (.bool true) w) := by
  have HP := Lib.hid (fun w => put64_any v hv w)
  have hlo : ∀ w, Calls Try.prog 17 #[.int .u32 ((v : Int) % 4294967296)] w (Lays (pt 4 v) w) := fun w => by
    have := put32_any (v % 4294967296) (by omega) w
    rw [show pt 4 (v % 4294967296) = pt 4 v from pt_mod 4 v] at this
    exact this
  have hhi : ∀ w, Calls Try.prog 17 #[.int .u32 ((v : Int) / 4294967296)] w (Lays (pt 4 (v / 4294967296)) w) := fun w => put32_any (v / 4294967296) (by omega) w
  have HLO := Lib.hid hlo
  have HHI := Lib.hid hhi
  clear hlo hhi
  go_enter Try.func7, Try.ntmps7
  go_wp2_with fail
  refine (HP.out _).mono ?_
  rintro e w1 ⟨g1, c1, rfl, hc1, hv1, hb1⟩
  rw [pt_len] at hc1 ⊢
  have HV1 := Lib.hid hv1
  have HB1 := Lib.hid hb1
  clear hv1 hb1
  go_wp2_with fail
  refine (HLO.out _).mono ?_
  rintro e w2 ⟨g2, c2, rfl, hc2, hv2, hb2⟩
  rw [pt_len] at hc2 ⊢
  have HV1' := Lib.hid (HV1.out.below hb2)
  have HV2 := Lib.hid hv2
  have HB2 := Lib.hid (HB1.out.trans (hb2.mono HB1.out.size))
  clear hv2 hb2 HB1 HV1
  go_wp2_with fail
  refine (HHI.out _).mono ?_
  rintro e w3 ⟨g3, c3, rfl, hc3, hv3, hb3⟩
  rw [pt_len] at hc3 ⊢
  have HV1 := Lib.hid (HV1'.out.below hb3)
  have HV2' := Lib.hid (HV2.out.below hb3)
  have HV3 := Lib.hid hv3
  have HB3 := Lib.hid (HB2.out.trans (hb3.mono HB2.out.size))
  clear hv3 hb3 HB2 HV1' HV2
  have a0 := HV1.out.at0 0 (by rw [pt_len]; omega)
  rw [show (pt 8 v).getD 0 0 = v % 256 from rfl] at a0
  have hg1 : ∀ W, BV W (some ⟨g1, 0, none⟩) (pt 8 v) → Calls Try.prog 11 #[.slice (some ⟨g1, 0, none⟩) 8 c1] W fun e w' => e = .returned (.tuple #[.int .u32 ((v : Int) % 4294967296), .bool true]) ∧ W = w' := fun W h => by
    have := get32_any (some ⟨g1, 0, none⟩) 8 c1 (pt 8 v) hc1 (pt_len 8 v) (allB_pt 8 v) W h
    rw [gn_lo] at this
    exact this
  have hg2 : ∀ W, BV W (some ⟨g1, 0, none⟩) (pt 8 v) → Calls Try.prog 11 #[.slice (some ⟨g1, 4, none⟩) 4 (c1 - 4)] W fun e w' => e = .returned (.tuple #[.int .u32 ((v : Int) / 4294967296), .bool true]) ∧ W = w' := fun W h => by
    have h2 := h.drop 4
    rw [pt_hi] at h2
    have := get32_any (some ⟨g1, 4, none⟩) 4 (c1 - 4) (pt 4 (v / 4294967296)) (by omega) (pt_len 4 _) (allB_pt 4 _) W (by simpa using h2)
    rw [show gn (pt 4 (v / 4294967296)) 4 = v / 4294967296 by have := gn_pt 4 (v / 4294967296) []; rw [List.append_nil] at this; rw [this]; exact Nat.mod_eq_of_lt (by omega)] at this
    exact this
  have hx1 : ∀ W, BV W (some ⟨g1, 0, none⟩) (pt 8 v) → BV W (some ⟨g2, 0, none⟩) (pt 4 v) → Calls Try.prog 14 #[.slice (some ⟨g1, 0, none⟩) 4 c1, .slice (some ⟨g2, 0, none⟩) 4 c2] W fun e w' => e = .returned (.bool true) ∧ ∃ k, w' = W.drewN k := fun W h k => by
    have h2 := h.take 4
    rw [pt_lo] at h2
    have := bytes_any (some ⟨g1, 0, none⟩) (some ⟨g2, 0, none⟩) 4 c1 c2 (pt 4 v) (pt 4 v) W (by omega) (pt_len 4 v) (pt_len 4 v) (allB_pt 4 v) (allB_pt 4 v) h2 k
    rw [decide_eq_true rfl] at this
    exact this
  have hx2 : ∀ W, BV W (some ⟨g1, 0, none⟩) (pt 8 v) → BV W (some ⟨g3, 0, none⟩) (pt 4 (v / 4294967296)) → Calls Try.prog 14 #[.slice (some ⟨g1, 4, none⟩) 4 (c1 - 4), .slice (some ⟨g3, 0, none⟩) 4 c3] W fun e w' => e = .returned (.bool true) ∧ ∃ k, w' = W.drewN k := fun W h k => by
    have h2 := h.drop 4
    rw [pt_hi] at h2
    have := bytes_any (some ⟨g1, 4, none⟩) (some ⟨g3, 0, none⟩) 4 (c1 - 4) c3 (pt 4 (v / 4294967296)) (pt 4 (v / 4294967296)) W (by omega) (pt_len 4 _) (pt_len 4 _) (allB_pt 4 _) (allB_pt 4 _) (by simpa using h2) k
    rw [decide_eq_true rfl] at this
    exact this
  have HG1 := Lib.hid hg1
  have HG2 := Lib.hid hg2
  have HX1 := Lib.hid hx1
  have HX2 := Lib.hid hx2
  have hn4 : ¬ c1 = 4 := by omega
  have hn4' : (4 : Int) ≤ (c1 : Int) := by omega
  clear hg1 hg2 hx1 hx2
  go_wp2_with fail
  refine (HG1.out _ HV1.out).mono ?_
  rintro e w4 ⟨rfl, rfl⟩
  go_wp2_with fail

  refine (HG2.out _ HV1.out).mono ?_
  rintro e w4 ⟨rfl, rfl⟩
  go_wp2_with fail
  refine (HX1.out _ HV1.out HV2'.out).mono ?_
  rintro e w4 ⟨rfl, k, rfl⟩
  go_wp2_with fail
  refine (HX2.out _ (HV1.out.drewN k) (HV3.out.drewN k)).mono ?_
  rintro e w4 ⟨rfl, k2, rfl⟩
  go_wp2_with (go_at_call 8; refine (awake_any _).mono ?_; rintro e w4 ⟨rfl, hb4⟩; have HB4 := Lib.hid hb4; clear hb4)
  go_ret
  exact ⟨rfl, (At.drewN HB3.out _).next HB4.out⟩

end Go.Proofs.Ytennafmbefnnmaa
