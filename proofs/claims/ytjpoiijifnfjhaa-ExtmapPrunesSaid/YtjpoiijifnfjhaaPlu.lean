/- Proved: plain facts on a map that was pruned. -/
import Derived.Test.YtjpoiijifnfjhaaPrn
namespace Go.Proofs.Ytjpoiijifnfjhaa

theorem sg_filter (p : Nat → Bool) : ∀ n, sg (fun k => if p k = true then 1 else 0) n = ((List.range n).filter p).length
  | 0 => rfl
  | n + 1 => by
    show sg _ n + (if p n = true then 1 else 0) = _
    rw [sg_filter p n, List.range_succ, List.filter_append, List.length_append]
    by_cases e : p n = true
    · simp [e]
    · simp [e]
/-- Pruned at its last time or later, each block that has a version has one. -/
theorem vs_pru {S : St} (h : Ok S) (t : Int) (ht : S.last ≤ t) : vs (pru S t) = (us S).length := by
  unfold us
  rw [← sg_filter]
  refine sg_congr S.n fun k _ => ?_
  show (pr (S.V k) t).length = _
  rw [pr_all _ _ (h.time k ht)]
  by_cases e : S.V k = []
  · simp [e]
  · simp [e]
theorem pr_twice (L : List Ver) (t : Int) : pr (pr L t) t = pr L t := by
  show (pr L t).drop (rk (pr L t) t - 1) = pr L t
  rw [pr_pr]; rfl
theorem pru_twice (S : St) (t : Int) : pru (pru S t) t = pru S t := by
  unfold pru
  congr 1
  funext u
  exact pr_twice _ _
theorem us_pru (S : St) (t : Int) : us (pru S t) = us S := by
  unfold us
  refine List.filter_congr fun k _ => ?_
  show (!(pr (S.V k) t).isEmpty) = !(S.V k).isEmpty
  by_cases e : S.V k = []
  · rw [(pr_nil _ t).2 e, e]
  · have e2 : pr (S.V k) t ≠ [] := fun h => e ((pr_nil _ t).1 h)
    rw [Bool.eq_false_iff.2 (fun h => e (List.isEmpty_iff.1 h)), Bool.eq_false_iff.2 (fun h => e2 (List.isEmpty_iff.1 h))]
theorem rd_pru (S : St) {h t : Int} (hh : h ≤ t) (k : Nat) : rdv ((pru S h).V k) t = rdv (S.V k) t := rdv_pr (S.V k) hh

end Go.Proofs.Ytjpoiijifnfjhaa
