/- Proved: any number is rounded and told as an int as the document's own answers say. -/
import Derived.Test.YtlbnfnfenphfbaaGreatDoorInt
namespace Go.Proofs.YtlbnfnfenphfbaaGreatDoor
open Go.RowKit Fl Tx

theorem intR_form (b : Nat) : ∃ v c : Int, intR b = .tuple #[.int .i64 v, .int .i64 c] ∧ (c = 0 ∧ intV b = some v ∨ c = 13 ∧ v = 0 ∧ intV b = none) := by
  cases h : intV b with
  | some v => exact ⟨v, 0, intR_some b v h, .inl ⟨rfl, rfl⟩⟩
  | none => exact ⟨0, 13, intR_none b h, .inr ⟨rfl, rfl, rfl⟩⟩

set_option maxHeartbeats 1000000 in
theorem lawrounds_any (b : Nat) (hb : b < 18446744073709551616) (w : World) (hE : Env w) :
    Calls Tryz.prog 4 #[.float .f64 b] w fun e w' => e = .returned (.bool true) ∧ Below w.heap.size w w' := by
  have hI := fun w => int_any b hb w
  have hJ := fun w => rint_any b hb w
  obtain ⟨v, c, hvc, _⟩ := intR_form b
  rw [hvc] at hI hJ
  have hR := fun w => round_any b hb w
  have hS := fun w => rround_any b hb w
  have hcan := rnd_can b hb
  have hsx := fun w => rsame_val (rndW b) (rndW b) true hcan.2 hcan.2 (by rw [smB_can _ _ hcan hcan]; simp) w
  have h0 : At w w := ⟨hE, Below.refl _ _⟩
  clear hvc hcan
  go_enter Tryz.func4, Tryz.ntmps4
  go_wp2_with (first
    | (go_at_call 12; refine (hI _).mono ?_; rintro e w' ⟨rfl, rfl⟩)
    | (go_at_call 13; refine (hJ _).mono ?_; rintro e w' ⟨rfl, rfl⟩)
    | (go_at_call 14; refine (hR _).mono ?_; rintro e w' ⟨rfl, hb⟩; have hA := At.next (w0 := w) (by assumption) hb)
    | (go_at_call 15; refine (hS _).mono ?_; rintro e w' ⟨rfl, rfl⟩)
    | (go_at_call 11; refine (hsx _).mono ?_; rintro e w' ⟨rfl, rfl⟩)
    | (go_at_call 6; refine (awake_any _ (by assumption : At w _).env).mono ?_; rintro e w' ⟨rfl, hb⟩; have hA := At.next (w0 := w) (by assumption) hb))
  go_ret
  exact ⟨rfl, (by assumption : At w _).below⟩

end Go.Proofs.YtlbnfnfenphfbaaGreatDoor
