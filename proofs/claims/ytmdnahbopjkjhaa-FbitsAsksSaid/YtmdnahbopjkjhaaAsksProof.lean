/- Proved: for every two float64 numbers the law FbitsAsks returns true and leaves its arguments as they were (class, bits, key, neighbours and sameness are those of the document's own answer); no condition. -/
import Derived.Test.YtmdnahbopjkjhaaAsks
import Derived.ProofKit
namespace Go.Proofs.Ytmdnahbopjkjhaa
open Go.ChangeShapes Go.WideShapes Go.ChangeAt Go.RowKit

theorem fbitsAsks_own : ownKnob Try.prog.godebug = none := by kernel_rfl

set_option maxRecDepth 100000 in
theorem fbitsAsks_lifted (os : Os) (started : os.Started) (H : Type) (enc : TypeId × Value → H) :
    ReturnsInHanded {} Try.checked os 3 .any (Rows.fbitsAsksSpec.pre6 enc Try.prog Try.f3 Rows.fbitsAsksRow.domain false) (Rows.fbitsAsksSpec.post enc Try.prog Try.f3 false true false false) := by
  refine returnsInHanded_of_change (C := Try.checked) fbitsAsks_own started (by kernel_rfl) Try.func3
    (ChangeSpec.witness6 (enc := enc) (C := Try.checked) false ⟨#[], #[.float .f64 0, .float .f64 0], []⟩ 8 (by kernel_rfl) (by kernel_rfl) (by kernel_rfl) (by kernel_rfl)) ?_
  intro W base args ds gs before hval0 hW hcnd _
  have hval : ∀ (j : Nat) t v, Try.f3.params[j]? = some t → args[j]? = some v → Value.okWide Try.prog W .any base t v := hval0
  have hW' := hW
  obtain ⟨p, q, hA0, hV, rfl, hfz, hnd⟩ := hW
  have hA : DataW.TrodAll enc Try.prog W 0 (fun _ => true) true Try.f3.params.toList args.toList ds p := hA0
  rw [Try.params3] at hA hval
  obtain ⟨v0, v1, d0, d1, p0, p1, rfl, rfl, rfl, h0, h1⟩ := trodAll_two hA
  obtain ⟨rfl, rfl⟩ := trodVars_none hV
  obtain ⟨a0, rfl, rfl, rfl, wa0⟩ := open_float Try.underlying22 (hval 0 22 v0 rfl rfl) h0
  have hb0 : a0 < 18446744073709551616 := by simpa [Lit.wf] using wa0
  obtain ⟨a1, rfl, rfl, rfl, wa1⟩ := open_float Try.underlying22 (hval 1 22 v1 rfl rfl) h1
  have hb1 : a1 < 18446744073709551616 := by simpa [Lit.wf] using wa1
  clear hA0 hval0
  simp only [List.append_nil] at hW'
  refine (asks_any a0 a1 hb0 hb1 W).mono fun e W' ⟨he, hw⟩ => ?_
  subst he; subst hw
  exact ⟨_, rfl, post_of_same (pa := []) (pv := []) hW' (fun _ _ _ => trodAll_mk1 (shut_bool Try.underlying4 true)) (fun sp _ => trodAll_mk2 (shut_float Try.underlying22 wa0) (shut_float Try.underlying22 wa1)) (fun _ _ => rfl) rfl
    (World.keptBut_refl _ _) (fun _ => rfl) (ok_one (by kernel_rfl) rfl (okWide_bool_mk Try.underlying4 true))⟩

theorem fbitsAsks_holds : Rows.FbitsAsksSaid :=
  OpenClaim.holds_of_wide 3 Try.f3 rfl rfl rfl rfl rfl rfl rfl ⟨rfl, rfl, rfl, rfl, rfl⟩ rfl rfl rfl rfl rfl (by kernel_rfl) Try.func3 (by kernel_rfl)
    (of_decide_eq_true (by kernel_rfl)) (by unfold Func.isWrapper; first | (rw [if_pos (by decide +kernel)]; kernel_rfl) | (rw [if_neg (by decide +kernel)]; exact ⟨rfl, rfl⟩))
    (fun os started H enc _ => fbitsAsks_lifted os started H enc)

end Go.Proofs.Ytmdnahbopjkjhaa
