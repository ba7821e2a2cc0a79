/- Proved: slices.Delete at a row of versions, from its front on. -/
import Derived.Test.YtjpoiijifnfjhaaDel
import Derived.Deep.RegionLaw
namespace Go.Proofs.Ytjpoiijifnfjhaa
open Go.RowKit

theorem step_app {ops : Array Oper} {o : Oper} {a : Act} {K : Act → World → Prop} {w w' : World} {Q : Exit → Act → World → Prop} {E : Prop} (hgd : o.guard = none) (s x : Operand) (t : TypeId) (ho : o.op = .call { callee := .builtin .append, args := #[s, x], argTypes := #[t, t] }) (v1 v2 v : Value) (hs : a.eval s = v1) (hx : a.eval x = v2)
    (hrun : (Builtin.append_ #[t, t] o.type #[v1, v2]).run Try.prog w = .ok v w') (h : K (a.put o.dst v) w') : if Region.wanted o (yielded ops a.tmps) = true then Oper.wp Try.prog o a w K Q else E := by
  have hw : Region.wanted o (yielded ops a.tmps) = true := by simp [Region.wanted, hgd]
  rw [if_pos hw]
  unfold Oper.wp
  simp [execOp, ho, resolve, invoke, builtin, hs, hx, hrun, Result.andThen]
  exact h

/-- The row at g reads as M behind the call. -/
def Dels (g c : Nat) (M : List Ver) (w : World) (e : Ending) (w' : World) : Prop :=
  e = .returned (.slice (some ⟨g, 0, none⟩) M.length c) ∧ ∃ T, w'.heap[g]? = some (.cells (vl M ++ T).toArray 65 (0, 0)) ∧ (vl M ++ T).length = c * 41 ∧ Mv (fun x => x = g) w w'

set_option maxHeartbeats 2000000 in
set_option maxRecDepth 100000 in
theorem delete_any {w : World} {g c j : Nat} {L : List Ver} {T : List Value} (hV : AllV L) (hg : w.heap[g]? = some (.cells (vl L ++ T).toArray 65 (0, 0))) (hc : L.length ≤ c) (hT : (vl L ++ T).length = c * 41) (hj : j < L.length) (hl : L.length ≤ 1000) :
    Calls Try.prog 33 #[.slice (some ⟨g, 0, none⟩) L.length c, .int .i64 0, .int .i64 (j : Int)] w (Dels g c (L.drop j) w) := by
  by_cases h0 : j = 0
  · subst h0
    have HE : Hid (Dels g c (L.drop 0) w (.returned (.slice (some ⟨g, 0, none⟩) L.length c)) w) := Lib.hid ⟨rfl, T, hg, hT, Mv.refl _ w⟩
    obtain ⟨n, hn⟩ : ∃ n, n = L.length := ⟨_, rfl⟩
    rw [← hn] at hc hl HE ⊢
    clear hn hg hT hj hV
    rw [show ((0 : Nat) : Int) = 0 from rfl]
    go_enter Try.func33, Try.ntmps33
    go_wp2
    go_ret
    exact HE.out
  · obtain ⟨w2, T2, hrun, hm2, hg2, hT2⟩ := front_run (w := w.drew) (c := c) hV hg hc hT hj 66
    have hVd : AllV (L.drop j) := fun v hv => hV v (List.mem_of_mem_drop hv)
    have hld := vl_len (L.drop j) hVd
    rw [List.length_drop] at hld
    have hlen : (L.drop j).length = L.length - j := List.length_drop
    obtain ⟨n, hn⟩ : ∃ n, n = L.length := ⟨_, rfl⟩
    rw [← hn] at hc hl hrun hj hld hlen ⊢
    obtain ⟨Y, Z, hYZ, hY⟩ : ∃ Y Z, T2 = Y ++ Z ∧ Y.length = (n - (n - j)) * 41 := ⟨T2.take ((n - (n - j)) * 41), T2.drop ((n - (n - j)) * 41), (List.take_append_drop _ _).symm, by
      rw [List.length_append, hld] at hT2
      rw [List.length_take]; omega⟩
    rw [hYZ] at hg2 hT2
    obtain ⟨w3, Y3, hr4, hm4, hg4, hY4⟩ := clear_run (w := w2) (cc := c - (n - j)) (off := (n - j) * 41) (n := n - (n - j)) hg2 hld.symm hY.symm (by omega) 0
    have HE : Hid (Dels g c (L.drop j) w (.returned (.slice (some ⟨g, 0, none⟩) (n - j) c)) w3) := Lib.hid ⟨by rw [hlen], _, hg4, by rw [← hT2]; simp only [List.length_append, hY4], (Mv.drewN (Mv.refl (fun x => x = g) w) 1).trans (hm2.trans hm4 fun _ h => Or.inl h) fun _ h => Or.inl h⟩
    have HRUN := Lib.hid hrun
    obtain ⟨d, hd⟩ : ∃ d, d = n - j := ⟨_, rfl⟩
    rw [← hd] at hr4 HE
    have HD := Lib.hid hd
    have hq : ((0 : Int) == (j : Int)) = false := by simp; omega
    have g1 : (j : Int) ≤ (n : Int) := by omega
    have g2 : (n : Int) ≤ (c : Int) := by omega
    have g3 : ¬ c = j := by omega
    have g4 : (d : Int) ≤ (n : Int) := by omega
    have g5 : ¬ c = d := by omega
    clear hm2 hg2 hT2 hVd hld hlen hn hYZ hY hm4 hg4 hY4 hrun hg hT hV hd
    go_enter Try.func33, Try.ntmps33
    go_wp2
    go_region_law (first | (refine step_app (by rfl) (.tmp 22) (.tmp 25) 66 (by rfl) (.slice (some ⟨g, 0, none⟩) 0 c) (.slice (some ⟨g, j * 41, none⟩) (n - j) (c - j)) (.slice (some ⟨g, 0, none⟩) (n - j) c) (by rfl) (by rfl) HRUN.out ?_) | fail)
    rw [← HD.out]
    go_wp2
    go_ret
    exact HE.out

end Go.Proofs.Ytjpoiijifnfjhaa
