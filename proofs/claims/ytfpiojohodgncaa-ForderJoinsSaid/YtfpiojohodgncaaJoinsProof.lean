/- For any two lists Min and Max of both together are Min and Max of both lists' own. No condition. -/
import Derived.Test.YtfpiojohodgncaaLandS
import Derived.Test.YtfpiojohodgncaaFPlaces
import Derived.ProofKit
import Derived.OpenShut
namespace Go.Proofs.Ytfpiojohodgncaa
open Go.ChangeShapes Go.WideShapes Go.ChangeAt Go.RowKit

theorem forderJoins_own : ownKnob Try.prog.godebug = none := by kernel_rfl
theorem forderJoins_laidOut : laidOutB Try.prog = true := by kernel_rfl

set_option maxRecDepth 100000 in
theorem forderJoins_lifted  (os : Os) (started : os.Started) (H : Type) (enc : TypeId × Value → H) :
    ReturnsInHanded {} Try.checked os 9 .any (Rows.forderJoinsSpec.pre6 enc Try.prog Try.f9 Rows.forderJoinsRow.domain false) (Rows.forderJoinsSpec.post enc Try.prog Try.f9 false true false false) := by
  refine returnsInHanded_of_change (C := Try.checked) forderJoins_own started (by kernel_rfl) Try.func9
    (ChangeSpec.witness6 (enc := enc) (C := Try.checked) false ⟨#[], #[.slice none 0 0, .slice none 0 0], []⟩ 8 (by kernel_rfl) (by kernel_rfl) (by kernel_rfl) (by kernel_rfl)) ?_
  intro W base args ds gs before hval0 hW hcnd _
  have hval : ∀ (j : Nat) t v, Try.f9.params[j]? = some t → args[j]? = some v → Value.okWide Try.prog W .any base t v := hval0
  have hW' := hW
  obtain ⟨p, q, hA0, hV, rfl, hfz, hnd⟩ := hW
  have hA : DataW.TrodAll enc Try.prog W 0 (fun _ => true) true Try.f9.params.toList args.toList ds p := hA0
  rw [Try.params9] at hA hval
  obtain ⟨v0, vs0, d0, ds0, p0, q0, hargs, rfl, rfl, h0, r0⟩ := trodAll_cons hA
  obtain ⟨v1, vs1, d1, ds1, p1, q1, rfl, rfl, rfl, h1, r1⟩ := trodAll_cons r0
  obtain ⟨rfl, rfl, rfl⟩ := trodAll_nil r1
  obtain rfl : args = #[v0, v1] := by cases args; simp_all
  obtain ⟨rfl, rfl⟩ := trodVars_none hV
  obtain ⟨a0, len0, cap0, rfl⟩ := okWide_slice Try.underlying23 (hval 0 23 v0 rfl rfl)
  have h0k := h0
  obtain ⟨fuel0, hr0⟩ := h0
  obtain ⟨L0, hL0, hv0, hf0⟩ := read_view (by simpa [Value.cells] using hr0)
  obtain ⟨a1, len1, cap1, rfl⟩ := okWide_slice Try.underlying23 (hval 1 23 v1 rfl rfl)
  have h1k := h1
  obtain ⟨fuel1, hr1⟩ := h1
  obtain ⟨L1, hL1, hv1, hf1⟩ := read_view (by simpa [Value.cells] using hr1)
  clear hA0 hval0
  simp only [List.append_nil] at hW'
  have hlt0 : ∀ x ∈ p0, x.block < W.heap.size := fun x hx => by simpa using hW'.lt x (by simp [hx])
  have hlt1 : ∀ x ∈ p1, x.block < W.heap.size := fun x hx => by simpa using hW'.lt x (by simp [hx])
  have walk : Calls Try.prog 9 #[.slice a0 len0 cap0, .slice a1 len1 cap1] W fun e w' => e = .returned (.bool true) ∧ Below W.heap.size W w' := by
    by_cases hl : 300 < len0 ∨ 300 < len1 ∨ len0 = 0 ∨ len1 = 0
    · exact fjoins_out hC hS hM a0 len0 cap0 a1 len1 cap1 hl W
    · obtain ⟨b, o, c, e, hb, hc⟩ := view_pos hv0 (by omega)
      obtain ⟨b', o', c', e', hb', hc'⟩ := view_pos hv1 (by omega)
      injection e with e1 e2 e3
      injection e' with e1' e2' e3'
      subst e1 e1'
      rw [hL0] at hc
      rw [hL1] at hc'
      exact fjoins_in hC hS hMin hMax hM b o cap0 b' o' cap1 len0 len1 L0 L1 (by omega) (by omega) (by omega) (by omega) hL0 hL1 W hv0 hv1 hb hb' hc hc' hf0 hf1
  refine walk.mono fun e W' ⟨he, hw⟩ => ?_
  subst he
  exact ⟨_, rfl, _, _, _, [], _, [], hW', trodAll_mk1 (shut_bool Try.underlying4 true), (trodAll_cons_mk (Below.trod forderJoins_laidOut (by kernel_rfl) (of_decide_eq_true (by kernel_rfl)) h0k hw hlt0) (trodAll_cons_mk (Below.trod forderJoins_laidOut (by kernel_rfl) (of_decide_eq_true (by kernel_rfl)) h1k hw hlt1) trodAll_mk0)), rfl, hw.frame _, fun h => by cases h⟩

theorem forderJoins_holds  : Rows.ForderJoinsSaid :=
  OpenClaim.holds_of_wide 9 Try.f9 rfl rfl rfl rfl rfl rfl rfl ⟨rfl, rfl, rfl, rfl, rfl⟩ rfl rfl rfl rfl rfl (by kernel_rfl) Try.func9 (by kernel_rfl)
    (of_decide_eq_true (by kernel_rfl)) (by unfold Func.isWrapper; first | (rw [if_pos (by decide +kernel)]; kernel_rfl) | (rw [if_neg (by decide +kernel)]; exact ⟨rfl, rfl⟩))
    (fun os started H enc _ => forderJoins_lifted  os started H enc)

end Go.Proofs.Ytfpiojohodgncaa
