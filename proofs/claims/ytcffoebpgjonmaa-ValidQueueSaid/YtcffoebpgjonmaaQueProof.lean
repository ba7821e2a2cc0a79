/- the law ValidQueue answers true for any transaction and any extents that were read and written, and leaves what there was as it was: what waits counts as what is committed. -/
import Derived.Test.YtcffoebpgjonmaaQue
import Derived.Test.YtcffoebpgjonmaaIn
import Derived.ProofKit
import Derived.OpenShut
namespace Go.Proofs.Ytcffoebpgjonmaa
open Go.ChangeShapes Go.WideShapes Go.ChangeAt Go.RowKit

theorem validQueue_own : ownKnob Try.prog.godebug = none := by kernel_rfl
theorem validQueue_laidOut : laidOutB Try.prog = true := by kernel_rfl

set_option maxRecDepth 100000 in
theorem validQueue_lifted  (os : Os) (started : os.Started) (H : Type) (enc : TypeId × Value → H) :
    ReturnsInHanded {} Try.checked os 6 .any (Rows.validQueueSpec.pre6 enc Try.prog Try.f6 Rows.validQueueRow.domain false) (Rows.validQueueSpec.post enc Try.prog Try.f6 false true false false) := by
  refine returnsInHanded_of_change (C := Try.checked) validQueue_own started (by kernel_rfl) Try.func6
    (ChangeSpec.witness6 (enc := enc) (C := Try.checked) false ⟨#[], #[.agg #[.int .i64 0, .slice none 0 0], .slice none 0 0, .slice none 0 0], []⟩ 8 (by kernel_rfl) (by kernel_rfl) (by kernel_rfl) (by kernel_rfl)) ?_
  intro W base args ds gs before hval0 hW hcnd _
  have hval : ∀ (j : Nat) t v, Try.f6.params[j]? = some t → args[j]? = some v → Value.okWide Try.prog W .any base t v := hval0
  have hW' := hW
  obtain ⟨p, q, hA0, hV, rfl, hfz, hnd⟩ := hW
  have hA : DataW.TrodAll enc Try.prog W 0 (fun _ => true) true Try.f6.params.toList args.toList ds p := hA0
  rw [Try.params6] at hA hval
  obtain ⟨v0, vs0, d0, ds0, p0, q0, hargs, rfl, rfl, h0, r0⟩ := trodAll_cons hA
  obtain ⟨v1, vs1, d1, ds1, p1, q1, rfl, rfl, rfl, h1, r1⟩ := trodAll_cons r0
  obtain ⟨v2, vs2, d2, ds2, p2, q2, rfl, rfl, rfl, h2, r2⟩ := trodAll_cons r1
  obtain ⟨rfl, rfl, rfl⟩ := trodAll_nil r2
  obtain rfl : args = #[v0, v1, v2] := by cases args; simp_all
  obtain ⟨rfl, rfl⟩ := trodVars_none hV
  have h0k := h0
  obtain ⟨T0, a0, P0, cap0, rfl, hv0, hB0, hm0⟩ := open_tx (hval 0 36 v0 rfl rfl) h0
  obtain ⟨a1, len1, cap1, rfl⟩ := okWide_slice Try.underlying23 (hval 1 23 v1 rfl rfl)
  have h1k := h1
  obtain ⟨fuel1, hr1⟩ := h1
  obtain ⟨L1, hL1, hv1, hc1, hz1⟩ := read_ex (by simpa [Value.cells] using hr1)
  obtain ⟨a2, len2, cap2, rfl⟩ := okWide_slice Try.underlying23 (hval 2 23 v2 rfl rfl)
  have h2k := h2
  obtain ⟨fuel2, hr2⟩ := h2
  obtain ⟨L2, hL2, hv2, hc2, hz2⟩ := read_ex (by simpa [Value.cells] using hr2)
  clear hA0 hval0
  simp only [List.append_nil] at hW'
  have hlt0 : ∀ x ∈ p0, x.block < W.heap.size := fun x hx => by simpa using hW'.lt x (by simp [hx])
  have hlt1 : ∀ x ∈ p1, x.block < W.heap.size := fun x hx => by simpa using hW'.lt x (by simp [hx])
  have hlt2 : ∀ x ∈ p2, x.block < W.heap.size := fun x hx => by simpa using hW'.lt x (by simp [hx])
  have walk : Calls Try.prog 6 #[.agg #[.int .i64 T0, .slice a0 P0.length cap0], .slice a1 len1 cap1, .slice a2 len2 cap2] W fun e w' => e = .returned (.bool true) ∧ Below W.heap.size W w' := by
    exact queue_any T0 a0 P0 P0.length cap0 rfl hm0 hB0 a1 L1 len1 cap1 hL1 hz1 a2 L2 len2 cap2 hL2 hz2 W hv0 hv1 hv2
  refine walk.mono fun e W' ⟨he, hw⟩ => ?_
  subst he
  exact ⟨_, rfl, _, _, _, [], _, [], hW', trodAll_mk1 (shut_bool Try.underlying4 true), (trodAll_cons_mk (Below.trod validQueue_laidOut (by kernel_rfl) (of_decide_eq_true (by kernel_rfl)) h0k hw hlt0) (trodAll_cons_mk (Below.trod validQueue_laidOut (by kernel_rfl) (of_decide_eq_true (by kernel_rfl)) h1k hw hlt1) (trodAll_cons_mk (Below.trod validQueue_laidOut (by kernel_rfl) (of_decide_eq_true (by kernel_rfl)) h2k hw hlt2) trodAll_mk0))), rfl, hw.frame _, fun h => by cases h⟩

theorem validQueue_holds  : Rows.ValidQueueSaid :=
  OpenClaim.holds_of_wide 6 Try.f6 rfl rfl rfl rfl rfl rfl rfl ⟨rfl, rfl, rfl, rfl, rfl⟩ rfl rfl rfl rfl rfl (by kernel_rfl) Try.func6 (by kernel_rfl)
    (of_decide_eq_true (by kernel_rfl)) (by unfold Func.isWrapper; first | (rw [if_pos (by decide +kernel)]; kernel_rfl) | (rw [if_neg (by decide +kernel)]; exact ⟨rfl, rfl⟩))
    (fun os started H enc _ => validQueue_lifted  os started H enc)

end Go.Proofs.Ytcffoebpgjonmaa
