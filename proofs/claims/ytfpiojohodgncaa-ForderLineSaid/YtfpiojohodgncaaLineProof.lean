/- For any three numbers Compare turned round is its negative, is 0 just of the same numbers, and goes on from the first to the third. No condition. -/
import Derived.Test.YtfpiojohodgncaaLandS
import Derived.Test.YtfpiojohodgncaaFLine
import Derived.ProofKit
import Derived.OpenShut
namespace Go.Proofs.Ytfpiojohodgncaa
open Go.ChangeShapes Go.WideShapes Go.ChangeAt Go.RowKit

theorem forderLine_own : ownKnob Try.prog.godebug = none := by kernel_rfl

set_option maxRecDepth 100000 in
theorem forderLine_lifted  (os : Os) (started : os.Started) (H : Type) (enc : TypeId × Value → H) :
    ReturnsInHanded {} Try.checked os 6 .any (Rows.forderLineSpec.pre6 enc Try.prog Try.f6 Rows.forderLineRow.domain false) (Rows.forderLineSpec.post enc Try.prog Try.f6 false true false false) := by
  refine returnsInHanded_of_change (C := Try.checked) forderLine_own started (by kernel_rfl) Try.func6
    (ChangeSpec.witness6 (enc := enc) (C := Try.checked) false ⟨#[], #[.float .f64 0, .float .f64 0, .float .f64 0], []⟩ 8 (by kernel_rfl) (by kernel_rfl) (by kernel_rfl) (by kernel_rfl)) ?_
  intro W base args ds gs before hval0 hW hcnd _
  have hval : ∀ (j : Nat) t v, Try.f6.params[j]? = some t → args[j]? = some v → Value.okWide Try.prog W .any base t v := hval0
  have hW' := hW
  obtain ⟨p, q, hA0, hV, rfl, hfz, hnd⟩ := hW
  have hA : DataW.TrodAll enc Try.prog W 0 (fun _ => true) true Try.f6.params.toList args.toList ds p := hA0
  rw [Try.params6] at hA hval
  obtain ⟨v0, vs0, d0, ds0, p0, q0, hargs, rfl, rfl, h0, r0⟩ := trodAll_cons hA
  obtain ⟨v1, vs1, d1, ds1, p1, q1, rfl, rfl, rfl, h1, r1⟩ := trodAll_cons r0
  obtain ⟨v2, vs2, d2, ds2, p2, q2, rfl, rfl, rfl, h2, r2⟩ := trodAll_cons r1
  obtain ⟨rfl, rfl, rfl⟩ := trodAll_nil r2
  obtain rfl : args = #[v0, v1, v2] := by cases args; simp_all
  obtain ⟨rfl, rfl⟩ := trodVars_none hV
  obtain ⟨a0, rfl, rfl, rfl, wa0⟩ := open_float Try.underlying22 (hval 0 22 v0 rfl rfl) h0
  have hb0 : a0 < 18446744073709551616 := by simpa [Lit.wf] using wa0
  obtain ⟨a1, rfl, rfl, rfl, wa1⟩ := open_float Try.underlying22 (hval 1 22 v1 rfl rfl) h1
  have hb1 : a1 < 18446744073709551616 := by simpa [Lit.wf] using wa1
  obtain ⟨a2, rfl, rfl, rfl, wa2⟩ := open_float Try.underlying22 (hval 2 22 v2 rfl rfl) h2
  have hb2 : a2 < 18446744073709551616 := by simpa [Lit.wf] using wa2
  clear hA0 hval0
  simp only [List.append_nil] at hW'
  have walk : Calls Try.prog 6 #[.float .f64 a0, .float .f64 a1, .float .f64 a2] W fun e w' => e = .returned (.bool true) ∧ Below W.heap.size W w' := by
    exact fline_any hC hS hM a0 a1 a2 hb0 hb1 hb2 W
  refine walk.mono fun e W' ⟨he, hw⟩ => ?_
  subst he
  exact ⟨_, rfl, _, _, _, [], _, [], hW', trodAll_mk1 (shut_bool Try.underlying4 true), (trodAll_cons_mk (shut_float Try.underlying22 wa0) (trodAll_cons_mk (shut_float Try.underlying22 wa1) (trodAll_cons_mk (shut_float Try.underlying22 wa2) trodAll_mk0))), rfl, hw.frame _, fun h => by cases h⟩

theorem forderLine_holds  : Rows.ForderLineSaid :=
  OpenClaim.holds_of_wide 6 Try.f6 rfl rfl rfl rfl rfl rfl rfl ⟨rfl, rfl, rfl, rfl, rfl⟩ rfl rfl rfl rfl rfl (by kernel_rfl) Try.func6 (by kernel_rfl)
    (of_decide_eq_true (by kernel_rfl)) (by unfold Func.isWrapper; first | (rw [if_pos (by decide +kernel)]; kernel_rfl) | (rw [if_neg (by decide +kernel)]; exact ⟨rfl, rfl⟩))
    (fun os started H enc _ => forderLine_lifted  os started H enc)

end Go.Proofs.Ytfpiojohodgncaa
