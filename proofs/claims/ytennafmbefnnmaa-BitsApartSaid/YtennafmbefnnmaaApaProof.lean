/- The law BitsApart answers true at every list of numbers and leaves all as it was: unlike numbers have unlike bytes, none of two is the other one's beginning, and a row of them is read one by one. No condition; at more than 60 numbers the law looks at nothing. -/
import Derived.Test.YtennafmbefnnmaaIn
import Derived.Test.YtennafmbefnnmaaApa
import Derived.ProofKit
import Derived.OpenShut
namespace Go.Proofs.Ytennafmbefnnmaa
open Go.ChangeShapes Go.WideShapes Go.ChangeAt Go.RowKit

theorem bitsApart_own : ownKnob Try.prog.godebug = none := by kernel_rfl
theorem bitsApart_laidOut : laidOutB Try.prog = true := by kernel_rfl

set_option maxRecDepth 100000 in
theorem bitsApart_lifted  (os : Os) (started : os.Started) (H : Type) (enc : TypeId × Value → H) :
    ReturnsInHanded {} Try.checked os 6 .any (Rows.bitsApartSpec.pre6 enc Try.prog Try.f6 Rows.bitsApartRow.domain false) (Rows.bitsApartSpec.post enc Try.prog Try.f6 false true false false) := by
  refine returnsInHanded_of_change (C := Try.checked) bitsApart_own started (by kernel_rfl) Try.func6
    (ChangeSpec.witness6 (enc := enc) (C := Try.checked) false ⟨#[], #[.slice none 0 0], []⟩ 8 (by kernel_rfl) (by kernel_rfl) (by kernel_rfl) (by kernel_rfl)) ?_
  intro W base args ds gs before hval0 hW hcnd _
  have hval : ∀ (j : Nat) t v, Try.f6.params[j]? = some t → args[j]? = some v → Value.okWide Try.prog W .any base t v := hval0
  have hW' := hW
  obtain ⟨p, q, hA0, hV, rfl, hfz, hnd⟩ := hW
  have hA : DataW.TrodAll enc Try.prog W 0 (fun _ => true) true Try.f6.params.toList args.toList ds p := hA0
  rw [Try.params6] at hA hval
  obtain ⟨v0, vs0, d0, ds0, p0, q0, hargs, rfl, rfl, h0, r0⟩ := trodAll_cons hA
  obtain ⟨rfl, rfl, rfl⟩ := trodAll_nil r0
  obtain rfl : args = #[v0] := by cases args; simp_all
  obtain ⟨rfl, rfl⟩ := trodVars_none hV
  obtain ⟨a0, len0, cap0, rfl⟩ := okWide_slice Try.underlying42 (hval 0 42 v0 rfl rfl)
  have h0k := h0
  obtain ⟨fuel0, hr0⟩ := h0
  obtain ⟨L0, hL0, hv0, hB0⟩ := read_uv (by simpa [Value.cells] using hr0)
  clear hA0 hval0
  simp only [List.append_nil] at hW'
  have hlt0 : ∀ x ∈ p0, x.block < W.heap.size := fun x hx => by simpa using hW'.lt x (by simp [hx])
  have walk : Calls Try.prog 6 #[.slice a0 len0 cap0] W fun e w' => e = .returned (.bool true) ∧ Below W.heap.size W w' := by
    by_cases hl : 60 < len0
    · exact apart_big a0 len0 cap0 hl W
    · rcases Nat.eq_zero_or_pos len0 with hz | hz
      · subst hz
        exact apart_zero a0 cap0 W
      · obtain ⟨b, o, rfl, hlt, hx⟩ := hv0.pos (by omega)
        exact apart_some b o len0 cap0 L0 (by omega) hz hL0 hB0 W hlt hx
  refine walk.mono fun e W' ⟨he, hw⟩ => ?_
  subst he
  exact ⟨_, rfl, _, _, _, [], _, [], hW', trodAll_mk1 (shut_bool Try.underlying4 true), (trodAll_cons_mk (Below.trod bitsApart_laidOut (by kernel_rfl) (of_decide_eq_true (by kernel_rfl)) h0k hw hlt0) trodAll_mk0), rfl, hw.frame _, fun h => by cases h⟩

theorem bitsApart_holds  : Rows.BitsApartSaid :=
  OpenClaim.holds_of_wide 6 Try.f6 rfl rfl rfl rfl rfl rfl rfl ⟨rfl, rfl, rfl, rfl, rfl⟩ rfl rfl rfl rfl rfl (by kernel_rfl) Try.func6 (by kernel_rfl)
    (of_decide_eq_true (by kernel_rfl)) (by unfold Func.isWrapper; first | (rw [if_pos (by decide +kernel)]; kernel_rfl) | (rw [if_neg (by decide +kernel)]; exact ⟨rfl, rfl⟩))
    (fun os started H enc _ => bitsApart_lifted  os started H enc)

end Go.Proofs.Ytennafmbefnnmaa
