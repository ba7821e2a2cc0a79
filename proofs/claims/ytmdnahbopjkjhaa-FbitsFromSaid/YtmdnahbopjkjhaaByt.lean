/- Proved: Bytes answers true of two rows of eight bytes that are the same. -/
import Derived.Test.YtmdnahbopjkjhaaRenc
namespace Go.Proofs.Ytmdnahbopjkjhaa
open Go.RowKit Fl

set_option maxHeartbeats 1000000 in
theorem bytes8 (B1 cap1 B2 cap2 : Nat) (f : Nat → Int) (w : World)
    (hx : ∀ j, j < 8 → w.cell? ⟨B1, j, none⟩ = some (.int .u8 (f j))) (hy : ∀ j, j < 8 → w.cell? ⟨B2, j, none⟩ = some (.int .u8 (f j))) :
    Calls Try.prog 28 #[.slice (some ⟨B1, 0, none⟩) 8 cap1, .slice (some ⟨B2, 0, none⟩) 8 cap2] w fun e w' => e = .returned (.bool true) ∧ ∃ n, w' = w.drewN n := by
  go_enter Try.func28, Try.ntmps28
  go_wp2
  go_loopw [5] (fun i wr => ∃ k : Nat, k ≤ 8 ∧ i = .int .i64 k ∧ ∃ n, wr = w.drewN n) (fun i _ => 8 - (intOf i).toNat)
  case atStart => exact ⟨0, Nat.zero_le _, rfl, 0, rfl⟩
  case round =>
    obtain ⟨k, hk, rfl, n, rfl⟩ := hrel
    by_cases hlt : k < 8
    · have c1 := hx k hlt
      have c2 := hy k hlt
      have b1 : (0 : Int) ≤ (k : Int) := by omega
      have b2 : (k : Int) < 8 := by omega
      go_wp2
      go_quiet (fail)
      go_wp2
      go_roundw
      case rel => exact ⟨k + 1, by omega, by go_num, _, rfl⟩
      case measure => simp [intOf]; omega
    · have hk8 : k = 8 := by omega
      subst hk8
      go_wp2
      go_ret
      exact ⟨rfl, _, rfl⟩

end Go.Proofs.Ytmdnahbopjkjhaa
