/- For any list and numbers Find and Clamp answer just as the document's own, sorted or not. No condition. -/
import Derived.Test.YtfpiojohodgncaaLandS
import Derived.Test.YtfpiojohodgncaaFFinds
import Derived.ProofKit
import Derived.OpenShut
namespace Go.Proofs.Ytfpiojohodgncaa
open Go.ChangeShapes Go.WideShapes Go.ChangeAt Go.RowKit

theorem forderFinds_own : ownKnob Try.prog.godebug = none := by kernel_rfl
theorem forderFinds_laidOut : laidOutB Try.prog = true := by kernel_rfl

set_option maxRecDepth 100000 in
theorem forderFinds_lifted  (os : Os) (started : os.Started) (H : Type) (enc : TypeId × Value → H) :
    ReturnsInHanded {} Try.checked os 4 .any (Rows.forderFindsSpec.pre6 enc Try.prog Try.f4 Rows.forderFindsRow.domain false) (Rows.forderFindsSpec.post enc Try.prog Try.f4 false true false false) := by
  refine returnsInHanded_of_change (C := Try.checked) forderFinds_own started (by kernel_rfl) Try.func4
    (ChangeSpec.witness6 (enc := enc) (C := Try.checked) false ⟨#[], #[.slice none 0 0, .float .f64 0, .float .f64 0, .float .f64 0], []⟩ 8 (by kernel_rfl) (by kernel_rfl) (by kernel_rfl) (by kernel_rfl)) ?_
  intro W base args ds gs before hval0 hW hcnd _
  have hval : ∀ (j : Nat) t v, Try.f4.params[j]? = some t → args[j]? = some v → Value.okWide Try.prog W .any base t v := hval0
  have hW' := hW
  obtain ⟨p, q, hA0, hV, rfl, hfz, hnd⟩ := hW
  have hA : DataW.TrodAll enc Try.prog W 0 (fun _ => true) true Try.f4.params.toList args.toList ds p := hA0
  rw [Try.params4] at hA hval
  obtain ⟨v0, vs0, d0, ds0, p0, q0, hargs, rfl, rfl, h0, r0⟩ := trodAll_cons hA
  obtain ⟨v1, vs1, d1, ds1, p1, q1, rfl, rfl, rfl, h1, r1⟩ := trodAll_cons r0
  obtain ⟨v2, vs2, d2, ds2, p2, q2, rfl, rfl, rfl, h2, r2⟩ := trodAll_cons r1
  obtain ⟨v3, vs3, d3, ds3, p3, q3, rfl, rfl, rfl, h3, r3⟩ := trodAll_cons r2
  obtain ⟨rfl, rfl, rfl⟩ := trodAll_nil r3
  obtain rfl : args = #[v0, v1, v2, v3] := by cases args; simp_all
  obtain ⟨rfl, rfl⟩ := trodVars_none hV
  obtain ⟨a0, len0, cap0, rfl⟩ := okWide_slice Try.underlying23 (hval 0 23 v0 rfl rfl)
  have h0k := h0
  obtain ⟨fuel0, hr0⟩ := h0
  obtain ⟨L0, hL0, hv0, hf0⟩ := read_view (by simpa [Value.cells] using hr0)
  obtain ⟨a1, rfl, rfl, rfl, wa1⟩ := open_float Try.underlying22 (hval 1 22 v1 rfl rfl) h1
  have hb1 : a1 < 18446744073709551616 := by simpa [Lit.wf] using wa1
  obtain ⟨a2, rfl, rfl, rfl, wa2⟩ := open_float Try.underlying22 (hval 2 22 v2 rfl rfl) h2
  have hb2 : a2 < 18446744073709551616 := by simpa [Lit.wf] using wa2
  obtain ⟨a3, rfl, rfl, rfl, wa3⟩ := open_float Try.underlying22 (hval 3 22 v3 rfl rfl) h3
  have hb3 : a3 < 18446744073709551616 := by simpa [Lit.wf] using wa3
  clear hA0 hval0
  simp only [List.append_nil] at hW'
  have hlt0 : ∀ x ∈ p0, x.block < W.heap.size := fun x hx => by simpa using hW'.lt x (by simp [hx])
  have walk : Calls Try.prog 4 #[.slice a0 len0 cap0, .float .f64 a1, .float .f64 a2, .float .f64 a3] W fun e w' => e = .returned (.bool true) ∧ Below W.heap.size W w' := by
    by_cases hl : 300 < len0
    · exact ffinds_big hC hS hM a1 a2 a3 a0 len0 cap0 hl W
    · exact ffinds_small hC hS hM hFi hCl a1 a2 a3 hb1 hb2 hb3 a0 len0 cap0 L0 (by omega) hL0 W hv0 hf0
  refine walk.mono fun e W' ⟨he, hw⟩ => ?_
  subst he
  exact ⟨_, rfl, _, _, _, [], _, [], hW', trodAll_mk1 (shut_bool Try.underlying4 true), (trodAll_cons_mk (Below.trod forderFinds_laidOut (by kernel_rfl) (of_decide_eq_true (by kernel_rfl)) h0k hw hlt0) (trodAll_cons_mk (shut_float Try.underlying22 wa1) (trodAll_cons_mk (shut_float Try.underlying22 wa2) (trodAll_cons_mk (shut_float Try.underlying22 wa3) trodAll_mk0)))), rfl, hw.frame _, fun h => by cases h⟩

theorem forderFinds_holds  : Rows.ForderFindsSaid :=
  OpenClaim.holds_of_wide 4 Try.f4 rfl rfl rfl rfl rfl rfl rfl ⟨rfl, rfl, rfl, rfl, rfl⟩ rfl rfl rfl rfl rfl (by kernel_rfl) Try.func4 (by kernel_rfl)
    (of_decide_eq_true (by kernel_rfl)) (by unfold Func.isWrapper; first | (rw [if_pos (by decide +kernel)]; kernel_rfl) | (rw [if_neg (by decide +kernel)]; exact ⟨rfl, rfl⟩))
    (fun os started H enc _ => forderFinds_lifted  os started H enc)

end Go.Proofs.Ytfpiojohodgncaa
