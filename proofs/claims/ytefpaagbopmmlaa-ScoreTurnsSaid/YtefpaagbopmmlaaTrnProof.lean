/- Of alike zones the one with the lesser number stands ahead; one more zone that is worth nothing changes no place. No condition. -/
import Derived.Test.YtefpaagbopmmlaaLtz
import Derived.Test.YtefpaagbopmmlaaRzon
import Derived.ProofKit
import Derived.OpenShut
namespace Go.Proofs.Ytefpaagbopmmlaa
open Go.ChangeShapes Go.WideShapes Go.ChangeAt Go.RowKit

theorem scoreTurns_own : ownKnob Try.prog.godebug = none := by kernel_rfl
theorem scoreTurns_laidOut : laidOutB Try.prog = true := by kernel_rfl

set_option maxRecDepth 100000 in
theorem scoreTurns_lifted  (os : Os) (started : os.Started) (H : Type) (enc : TypeId × Value → H) :
    ReturnsInHanded {} Try.checked os 8 .any (Rows.scoreTurnsSpec.pre6 enc Try.prog Try.f8 Rows.scoreTurnsRow.domain false) (Rows.scoreTurnsSpec.post enc Try.prog Try.f8 false true false false) := by
  refine returnsInHanded_of_change (C := Try.checked) scoreTurns_own started (by kernel_rfl) Try.func8
    (ChangeSpec.witness6 (enc := enc) (C := Try.checked) false ⟨#[], #[.slice none 0 0, .int .i64 0, .int .i64 0], []⟩ 8 (by kernel_rfl) (by kernel_rfl) (by kernel_rfl) (by kernel_rfl)) ?_
  intro W base args ds gs before hval0 hW hcnd _
  have hval : ∀ (j : Nat) t v, Try.f8.params[j]? = some t → args[j]? = some v → Value.okWide Try.prog W .any base t v := hval0
  have hW' := hW
  obtain ⟨p, q, hA0, hV, rfl, hfz, hnd⟩ := hW
  have hA : DataW.TrodAll enc Try.prog W 0 (fun _ => true) true Try.f8.params.toList args.toList ds p := hA0
  rw [Try.params8] at hA hval
  obtain ⟨v0, vs0, d0, ds0, p0, q0, hargs, rfl, rfl, h0, r0⟩ := trodAll_cons hA
  obtain ⟨v1, vs1, d1, ds1, p1, q1, rfl, rfl, rfl, h1, r1⟩ := trodAll_cons r0
  obtain ⟨v2, vs2, d2, ds2, p2, q2, rfl, rfl, rfl, h2, r2⟩ := trodAll_cons r1
  obtain ⟨rfl, rfl, rfl⟩ := trodAll_nil r2
  obtain rfl : args = #[v0, v1, v2] := by cases args; simp_all
  obtain ⟨rfl, rfl⟩ := trodVars_none hV
  obtain ⟨a0, len0, cap0, rfl⟩ := okWide_slice Try.underlying35 (hval 0 35 v0 rfl rfl)
  have h0k := h0
  obtain ⟨fuel0, hr0⟩ := h0
  obtain ⟨L0, hL0, hv0⟩ := read_zview (by simpa [Value.cells] using hr0)
  obtain ⟨a1, rfl, rfl, rfl, wa1⟩ := open_int Try.underlying3 (hval 1 3 v1 rfl rfl) h1
  obtain ⟨a2, rfl, rfl, rfl, wa2⟩ := open_int Try.underlying3 (hval 2 3 v2 rfl rfl) h2
  clear hA0 hval0
  simp only [List.append_nil] at hW'
  have hlt0 : ∀ x ∈ p0, x.block < W.heap.size := fun x hx => by simpa using hW'.lt x (by simp [hx])
  have walk : Calls Try.prog 8 #[.slice a0 len0 cap0, .int .i64 a1, .int .i64 a2] W fun e w' => e = .returned (.bool true) ∧ Below W.heap.size W w' := by
    by_cases hl : 200 < len0 ∨ a1 < 0 ∨ 1099511627776 < a1
    · exact ltrn_out a0 len0 cap0 a1 a2 hl W
    · rcases Nat.eq_zero_or_pos len0 with hz | hz
      · subst hz
        exact ltrn_zero a0 cap0 (fun e => by subst e; exact read_znil (by simpa [Value.cells] using hr0)) a1 a2 (by omega) (by omega) W
      · rcases hv0 with ⟨a, cap, e, hZ⟩ | ⟨b, off, cap, e, hp, hb, hc⟩
        · exact absurd hL0 (by rw [hZ]; simp; omega)
        · injection e with e1 e2 e3
          subst e1
          exact ltrn_in b off len0 cap0 a1 a2 L0 (by omega) hz (read_zcap (by simpa [Value.cells] using hr0)) hL0 (by omega) (by omega) W hb hc
  refine walk.mono fun e W' ⟨he, hw⟩ => ?_
  subst he
  exact ⟨_, rfl, _, _, _, [], _, [], hW', trodAll_mk1 (shut_bool Try.underlying4 true), (trodAll_cons_mk (Below.trod scoreTurns_laidOut (by kernel_rfl) (of_decide_eq_true (by kernel_rfl)) h0k hw hlt0) (trodAll_cons_mk (shut_int Try.underlying3 wa1) (trodAll_cons_mk (shut_int Try.underlying3 wa2) trodAll_mk0))), rfl, hw.frame _, fun h => by cases h⟩

theorem scoreTurns_holds  : Rows.ScoreTurnsSaid :=
  OpenClaim.holds_of_wide 8 Try.f8 rfl rfl rfl rfl rfl rfl rfl ⟨rfl, rfl, rfl, rfl, rfl⟩ rfl rfl rfl rfl rfl (by kernel_rfl) Try.func8 (by kernel_rfl)
    (of_decide_eq_true (by kernel_rfl)) (by unfold Func.isWrapper; first | (rw [if_pos (by decide +kernel)]; kernel_rfl) | (rw [if_neg (by decide +kernel)]; exact ⟨rfl, rfl⟩))
    (fun os started H enc _ => scoreTurns_lifted  os started H enc)

end Go.Proofs.Ytefpaagbopmmlaa
