/- Proved: Nums answers true of two lists whose numbers are the same one by one. -/
import Derived.Test.YtfpiojohodgncaaRef
namespace Go.Proofs.Ytfpiojohodgncaa
open Go.RowKit Fl

/-- A call that leaves the world alone, met inside a region whose world has already been drawn from. -/
theorem same_drawn {P : Program} {f : FuncId} {args : Array Value} {w : World} {a n : Nat} {v : Value} (h : Calls P f args (w.drewN (a + n)) fun e w' => e = .returned v ∧ w.drewN (a + n) = w') :
    Calls P f args (w.drewN (a + n)) fun e w'' => e = .returned v ∧ ∃ m, w'' = w.drewN (a + m) :=
  h.mono fun _ _ hr => ⟨hr.1, n, hr.2.symm⟩

set_option maxHeartbeats 1000000 in
theorem nums_some (B1 o1 cap1 B2 o2 cap2 n : Nat) (f g : Nat → Nat) (w : World) (hn : n ≤ 9223372036854775807)
    (hx : ∀ j, j < n → w.cell? ⟨B1, o1 + j, none⟩ = some (.float .f64 (f j))) (hy : ∀ j, j < n → w.cell? ⟨B2, o2 + j, none⟩ = some (.float .f64 (g j)))
    (hf : ∀ j, j < n → f j < 18446744073709551616) (hg : ∀ j, j < n → g j < 18446744073709551616) (hs : ∀ j, j < n → smB (f j) (g j) = true) :
    Calls Try.prog 18 #[.slice (some ⟨B1, o1, none⟩) n cap1, .slice (some ⟨B2, o2, none⟩) n cap2] w fun e w' => e = .returned (.bool true) ∧ ∃ m, w' = w.drewN m := by
  go_enter Try.func18, Try.ntmps18
  go_wp2
  go_loopw [5] (fun i wr => ∃ k : Nat, k ≤ n ∧ i = .int .i64 k ∧ ∃ m, wr = w.drewN m) (fun i _ => n - (intOf i).toNat)
  case atStart => exact ⟨0, Nat.zero_le _, rfl, 0, rfl⟩
  case round =>
    obtain ⟨k, hk, rfl, m, rfl⟩ := hrel
    by_cases hlt : k < n
    · have c1 := hx k hlt
      have c2 := hy k hlt
      have d1 := hf k hlt
      have d2 := hg k hlt
      have s1 := hs k hlt
      have b1 : (0 : Int) ≤ (k : Int) := by omega
      have b2 : (k : Int) < (n : Int) := by omega
      clear hx hy hf hg hs
      go_wp2
      go_quiet ((go_at_call 21; exact same_drawn (rsame_any _ _ d1 d2 _)))
      go_wp2
      go_roundw
      case rel => exact ⟨k + 1, by omega, by go_num, _, rfl⟩
      case measure => simp [intOf]; omega
    · have hk8 : k = n := by omega
      subst hk8
      go_wp2
      go_ret
      exact ⟨rfl, _, rfl⟩

theorem nums_none (a b : Option Addr) (cap1 cap2 : Nat) (w : World) :
    Calls Try.prog 18 #[.slice a 0 cap1, .slice b 0 cap2] w fun e w' => e = .returned (.bool true) ∧ ∃ m, w' = w.drewN m := by
  go_enter Try.func18, Try.ntmps18
  go_wp2
  refine wp_loop_rounds 1 ?_
  rw [rounds_succ]
  go_wp2
  go_ret
  exact ⟨rfl, 0, rfl⟩

end Go.Proofs.Ytfpiojohodgncaa
