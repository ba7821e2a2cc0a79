/- The law CrcAdds answers true at any three rows of bytes and leaves all as it was: of rows as long as each other, put over each other bit by bit, the sum is their sums put over each other. No condition; of more than 2000 bytes, or of rows of unlike length, the law looks at nothing. -/
import Derived.Test.YtplddmkikdfonaaIn
import Derived.Test.YtplddmkikdfonaaAdd
import Derived.ProofKit
import Derived.OpenShut
namespace Go.Proofs.Ytplddmkikdfonaa
open Go.ChangeShapes Go.WideShapes Go.ChangeAt Go.RowKit

theorem crcAdds_own : ownKnob Try.prog.godebug = none := by kernel_rfl
theorem crcAdds_laidOut : laidOutB Try.prog = true := by kernel_rfl

set_option maxRecDepth 100000 in
theorem crcAdds_lifted  (os : Os) (started : os.Started) (H : Type) (enc : TypeId × Value → H) :
    ReturnsInHanded {} Try.checked os 6 .any (Rows.crcAddsSpec.pre6 enc Try.prog Try.f6 Rows.crcAddsRow.domain false) (Rows.crcAddsSpec.post enc Try.prog Try.f6 false true false false) := by
  refine returnsInHanded_of_change (C := Try.checked) crcAdds_own started (by kernel_rfl) Try.func6
    (ChangeSpec.witness6 (enc := enc) (C := Try.checked) false ⟨#[], #[.slice none 0 0, .slice none 0 0, .slice none 0 0], []⟩ 8 (by kernel_rfl) (by kernel_rfl) (by kernel_rfl) (by kernel_rfl)) ?_
  intro W base args ds gs before hval0 hW hcnd _
  have hval : ∀ (j : Nat) t v, Try.f6.params[j]? = some t → args[j]? = some v → Value.okWide Try.prog W .any base t v := hval0
  have hW' := hW
  obtain ⟨p, q, hA0, hV, rfl, hfz, hnd⟩ := hW
  have hA : DataW.TrodAll enc Try.prog W 0 (fun _ => true) true Try.f6.params.toList args.toList ds p := hA0
  rw [Try.params6] at hA hval
  obtain ⟨v0, vs0, d0, ds0, p0, q0, hargs, rfl, rfl, h0, r0⟩ := trodAll_cons hA
  obtain ⟨v1, vs1, d1, ds1, p1, q1, rfl, rfl, rfl, h1, r1⟩ := trodAll_cons r0
  obtain ⟨v2, vs2, d2, ds2, p2, q2, rfl, rfl, rfl, h2, r2⟩ := trodAll_cons r1
  obtain ⟨rfl, rfl, rfl⟩ := trodAll_nil r2
  obtain rfl : args = #[v0, v1, v2] := by cases args; simp_all
  obtain ⟨rfl, rfl⟩ := trodVars_none hV
  obtain ⟨a0, len0, cap0, rfl⟩ := okWide_slice Try.underlying22 (hval 0 22 v0 rfl rfl)
  have h0k := h0
  obtain ⟨fuel0, hr0⟩ := h0
  obtain ⟨L0, hL0, hv0, hB0, hc0, hz0⟩ := read_bv (by simpa [Value.cells] using hr0)
  obtain ⟨a1, len1, cap1, rfl⟩ := okWide_slice Try.underlying22 (hval 1 22 v1 rfl rfl)
  have h1k := h1
  obtain ⟨fuel1, hr1⟩ := h1
  obtain ⟨L1, hL1, hv1, hB1, hc1, hz1⟩ := read_bv (by simpa [Value.cells] using hr1)
  obtain ⟨a2, len2, cap2, rfl⟩ := okWide_slice Try.underlying22 (hval 2 22 v2 rfl rfl)
  have h2k := h2
  obtain ⟨fuel2, hr2⟩ := h2
  obtain ⟨L2, hL2, hv2, hB2, hc2, hz2⟩ := read_bv (by simpa [Value.cells] using hr2)
  clear hA0 hval0
  simp only [List.append_nil] at hW'
  have hlt0 : ∀ x ∈ p0, x.block < W.heap.size := fun x hx => by simpa using hW'.lt x (by simp [hx])
  have hlt1 : ∀ x ∈ p1, x.block < W.heap.size := fun x hx => by simpa using hW'.lt x (by simp [hx])
  have hlt2 : ∀ x ∈ p2, x.block < W.heap.size := fun x hx => by simpa using hW'.lt x (by simp [hx])
  have walk : Calls Try.prog 6 #[.slice a0 len0 cap0, .slice a1 len1 cap1, .slice a2 len2 cap2] W fun e w' => e = .returned (.bool true) ∧ Below W.heap.size W w' := by
    by_cases hl : 2000 < len0 ∨ len1 ≠ len0 ∨ len2 ≠ len0
    · exact adds_out a0 a1 a2 len0 len1 len2 cap0 cap1 cap2 hl W
    · obtain rfl : len1 = len0 := by omega
      obtain rfl : len2 = len1 := by omega
      exact adds_in a0 a1 a2 len2 cap0 cap1 cap2 L0 L1 L2 (by omega) hL0 hL1 hL2 hB0 hB1 hB2 W hv0 hv1 hv2
  refine walk.mono fun e W' ⟨he, hw⟩ => ?_
  subst he
  exact ⟨_, rfl, _, _, _, [], _, [], hW', trodAll_mk1 (shut_bool Try.underlying4 true), (trodAll_cons_mk (Below.trod crcAdds_laidOut (by kernel_rfl) (of_decide_eq_true (by kernel_rfl)) h0k hw hlt0) (trodAll_cons_mk (Below.trod crcAdds_laidOut (by kernel_rfl) (of_decide_eq_true (by kernel_rfl)) h1k hw hlt1) (trodAll_cons_mk (Below.trod crcAdds_laidOut (by kernel_rfl) (of_decide_eq_true (by kernel_rfl)) h2k hw hlt2) trodAll_mk0))), rfl, hw.frame _, fun h => by cases h⟩

theorem crcAdds_holds  : Rows.CrcAddsSaid :=
  OpenClaim.holds_of_wide 6 Try.f6 rfl rfl rfl rfl rfl rfl rfl ⟨rfl, rfl, rfl, rfl, rfl⟩ rfl rfl rfl rfl rfl (by kernel_rfl) Try.func6 (by kernel_rfl)
    (of_decide_eq_true (by kernel_rfl)) (by unfold Func.isWrapper; first | (rw [if_pos (by decide +kernel)]; kernel_rfl) | (rw [if_neg (by decide +kernel)]; exact ⟨rfl, rfl⟩))
    (fun os started H enc _ => crcAdds_lifted  os started H enc)

end Go.Proofs.Ytplddmkikdfonaa
