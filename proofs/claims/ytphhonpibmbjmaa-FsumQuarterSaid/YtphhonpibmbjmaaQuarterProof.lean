/- A quantile of whole numbers that are not too great rises with its part, from the least to the greatest. No condition. -/
import Derived.Test.YtphhonpibmbjmaaQuarter
import Derived.ProofKit
import Derived.OpenShut
namespace Go.Proofs.Ytphhonpibmbjmaa
open Go.ChangeShapes Go.WideShapes Go.ChangeAt Go.RowKit

theorem fsumQuarter_own : ownKnob Try.prog.godebug = none := by kernel_rfl
theorem fsumQuarter_laidOut : laidOutB Try.prog = true := by kernel_rfl

set_option maxRecDepth 100000 in
theorem fsumQuarter_lifted  (os : Os) (started : os.Started) (H : Type) (enc : TypeId × Value → H) :
    ReturnsInHanded {} Try.checked os 8 .any (Rows.fsumQuarterSpec.pre6 enc Try.prog Try.f8 Rows.fsumQuarterRow.domain false) (Rows.fsumQuarterSpec.post enc Try.prog Try.f8 false true false false) := by
  refine returnsInHanded_of_change (C := Try.checked) fsumQuarter_own started (by kernel_rfl) Try.func8
    (ChangeSpec.witness6 (enc := enc) (C := Try.checked) false ⟨#[], #[.slice none 0 0, .float .f64 0, .float .f64 0], []⟩ 8 (by kernel_rfl) (by kernel_rfl) (by kernel_rfl) (by kernel_rfl)) ?_
  intro W base args ds gs before hval0 hW hcnd _
  have hval : ∀ (j : Nat) t v, Try.f8.params[j]? = some t → args[j]? = some v → Value.okWide Try.prog W .any base t v := hval0
  have hW' := hW
  obtain ⟨p, q, hA0, hV, rfl, hfz, hnd⟩ := hW
  have hA : DataW.TrodAll enc Try.prog W 0 (fun _ => true) true Try.f8.params.toList args.toList ds p := hA0
  rw [Try.params8] at hA hval
  obtain ⟨v0, vs0, d0, ds0, p0, q0, hargs, rfl, rfl, h0, r0⟩ := trodAll_cons hA
  obtain ⟨v1, vs1, d1, ds1, p1, q1, rfl, rfl, rfl, h1, r1⟩ := trodAll_cons r0
  obtain ⟨v2, vs2, d2, ds2, p2, q2, rfl, rfl, rfl, h2, r2⟩ := trodAll_cons r1
  obtain ⟨rfl, rfl, rfl⟩ := trodAll_nil r2
  obtain rfl : args = #[v0, v1, v2] := by cases args; simp_all
  obtain ⟨rfl, rfl⟩ := trodVars_none hV
  obtain ⟨a0, len0, cap0, rfl⟩ := okWide_slice Try.underlying40 (hval 0 40 v0 rfl rfl)
  have h0k := h0
  obtain ⟨fuel0, hr0⟩ := h0
  obtain ⟨L0, hL0, hv0⟩ := read_iview (by simpa [Value.cells] using hr0)
  obtain ⟨a1, rfl, rfl, rfl, wa1⟩ := open_float Try.underlying25 (hval 1 25 v1 rfl rfl) h1
  have hb1 : a1 < 18446744073709551616 := by simpa [Lit.wf] using wa1
  obtain ⟨a2, rfl, rfl, rfl, wa2⟩ := open_float Try.underlying25 (hval 2 25 v2 rfl rfl) h2
  have hb2 : a2 < 18446744073709551616 := by simpa [Lit.wf] using wa2
  clear hA0 hval0
  simp only [List.append_nil] at hW'
  have hlt0 : ∀ x ∈ p0, x.block < W.heap.size := fun x hx => by simpa using hW'.lt x (by simp [hx])
  have walk : Calls Try.prog 8 #[.slice a0 len0 cap0, .float .f64 a1, .float .f64 a2] W fun e w' => e = .returned (.bool true) ∧ Below W.heap.size W w' := by
    by_cases hl : len0 = 0 ∨ 200 < len0
    · exact quarter_big a0 len0 cap0 a1 a2 hl W
    · obtain ⟨b, o, c, e, hb, hc⟩ := iv_pos hv0 (by omega)
      injection e with e1 e2 e3
      subst e1
      rw [hL0] at hc
      cases o1 : (FloatKind.f64.format.order a1 0 == some .gt || FloatKind.f64.format.order a1 0 == some .eq)
      · exact quarter_out _ len0 cap0 a1 a2 (by omega) (by omega) (.inl o1) W
      · cases o2 : (FloatKind.f64.format.order a1 a2 == some .lt || FloatKind.f64.format.order a1 a2 == some .eq)
        · exact quarter_out _ len0 cap0 a1 a2 (by omega) (by omega) (.inr (.inl ⟨o1, o2⟩)) W
        · cases o3 : (FloatKind.f64.format.order a2 4607182418800017408 == some .lt || FloatKind.f64.format.order a2 4607182418800017408 == some .eq)
          · exact quarter_out _ len0 cap0 a1 a2 (by omega) (by omega) (.inr (.inr ⟨o1, o2, o3⟩)) W
          · obtain ⟨m, rfl⟩ : ∃ m, len0 = m + 1 := ⟨len0 - 1, by omega⟩
            exact quarter_some b o cap0 m a1 a2 L0 W hL0 (by omega) hb hb1 hb2 hc o1 o2 o3
  refine walk.mono fun e W' ⟨he, hw⟩ => ?_
  subst he
  exact ⟨_, rfl, _, _, _, [], _, [], hW', trodAll_mk1 (shut_bool Try.underlying4 true), (trodAll_cons_mk (Below.trod fsumQuarter_laidOut (by kernel_rfl) (of_decide_eq_true (by kernel_rfl)) h0k hw hlt0) (trodAll_cons_mk (shut_float Try.underlying25 wa1) (trodAll_cons_mk (shut_float Try.underlying25 wa2) trodAll_mk0))), rfl, hw.frame _, fun h => by cases h⟩

theorem fsumQuarter_holds  : Rows.FsumQuarterSaid :=
  OpenClaim.holds_of_wide 8 Try.f8 rfl rfl rfl rfl rfl rfl rfl ⟨rfl, rfl, rfl, rfl, rfl⟩ rfl rfl rfl rfl rfl (by kernel_rfl) Try.func8 (by kernel_rfl)
    (of_decide_eq_true (by kernel_rfl)) (by unfold Func.isWrapper; first | (rw [if_pos (by decide +kernel)]; kernel_rfl) | (rw [if_neg (by decide +kernel)]; exact ⟨rfl, rfl⟩))
    (fun os started H enc _ => fsumQuarter_lifted  os started H enc)

end Go.Proofs.Ytphhonpibmbjmaa
