/- Proved: the law BitsShort answers true at every number and leaves what there was as it was: a number has as many groups as its binary digits have sevens. -/
import Derived.Test.YtennafmbefnnmaaAwk
namespace Go.Proofs.Ytennafmbefnnmaa
open Go.RowKit

set_option maxHeartbeats 4000000 in
set_option maxRecDepth 100000 in
theorem short_any (v : Nat) (hv : v < 18446744073709551616) (w : World) :
    Calls Try.prog 5 #[.int .u64 (v : Int)] w (Gives (.bool true) w) := by
  have HV := Lib.hid (fun w => varint_any v hv w)
  have hvt := vi_ten hv
  have hvp := vi_pos v
  have HM := Lib.hid (vi_more v)
  have HL := Lib.hid (vi_last v)
  have HG := Lib.hid (gv_vi v)
  obtain ⟨n, e7⟩ : ∃ n, n = (vi v).length := ⟨_, rfl⟩
  rw [← e7] at hvt hvp HM HL HG
  have HN := Lib.hid e7
  clear e7
  go_enter Try.func5, Try.ntmps5
  go_wp2
  go_loop [3, 4] (fun c3 c4 => ∃ t x : Nat, c3 = .int .i64 (t : Int) ∧ c4 = .int .u64 (x : Int) ∧ 1 ≤ t ∧ t ≤ n ∧ x < 18446744073709551616 ∧ Hid (t + gv x = n)) (fun _ c4 => (intOf c4).toNat)
  case atStart => exact ⟨1, v / 128, rfl, rfl, by omega, by omega, by omega, HG.out.symm⟩
  case round =>
    obtain ⟨t, x, rfl, rfl, ht1, ht2, hx, HT⟩ := hrel
    by_cases hx0 : 0 < x
    · have hg := gv_step hx0
      have HT2 : Hid (t + 1 + gv (x / 128) = n) := Lib.hid (by rw [← HT.out, hg]; omega)
      have ht3 : t + 1 ≤ n := by have := HT2.out; omega
      clear hg
      go_wp2
      go_round
      case rel => exact ⟨t + 1, x / 128, by go_num, by go_num, by omega, by omega, by omega, HT2⟩
      case measure => simp [intOf]; omega
    · have hz : x = 0 := by omega
      subst hz
      have htn : t = n := by have := HT.out; simpa [gv] using this
      subst htn
      go_wp2_with fail
      refine (HV.out _).mono ?_
      rintro e w1 ⟨g1, c1, rfl, _, v1, b1⟩
      rw [← HN.out]
      have HB := Lib.hid b1
      have HC := Lib.hid v1.at0
      clear v1 b1
      go_wp2
      go_loop [6] (fun c6 => ∃ k : Nat, c6 = .int .i64 (k : Int) ∧ k + 1 ≤ t) (fun c6 => t - (intOf c6).toNat)
      case atStart => exact ⟨0, rfl, by omega⟩
      case round =>
        obtain ⟨k, rfl, hk⟩ := hrel
        by_cases hlt : k + 1 < t
        · have e1 := HC.out k (by rw [← HN.out]; omega)
          have d1 := HM.out k hlt
          obtain ⟨y, hy⟩ : ∃ y, y = (vi v).getD k 0 := ⟨_, rfl⟩
          rw [← hy] at e1 d1
          have t1 : decide ((y : Int) < 128) = false := decide_eq_false (by omega)
          clear hy
          go_wp2
          go_round
          case rel => exact ⟨k + 1, by go_num, by omega⟩
          case measure => simp [intOf]; omega
        · obtain rfl : t = k + 1 := by omega
          have e1 := HC.out k (by rw [← HN.out]; omega)
          have d1 := HL.out
          rw [Nat.add_sub_cancel] at d1
          obtain ⟨y, hy⟩ : ∃ y, y = (vi v).getD k 0 := ⟨_, rfl⟩
          rw [← hy] at e1 d1
          have t1 : (y : Int) < 128 := by omega
          clear hy
          go_wp2_with (go_at_call 8; refine (awake_any _).mono ?_; rintro e w4 ⟨rfl, hb4⟩; have HB4 := Lib.hid hb4; clear hb4)
          go_ret
          exact ⟨rfl, HB.out.trans (HB4.out.mono HB.out.size)⟩

end Go.Proofs.Ytennafmbefnnmaa
