/- Proved: whether a block of a set's extent has a version that is later than a time. -/
import Derived.Test.YtcffoebpgjonmaaAg
namespace Go.Proofs.Ytcffoebpgjonmaa
open Go.RowKit
open Iv (In Nm Is Vm Va Sv EV vaB vaB_yes)

/-- A block of the extent has a version later than t. -/
def Ch (M : Em.St) (t : Int) (e : Int × Int) : Prop := ∃ k : Nat, (e.1 ≤ (k : Int) ∧ (k : Int) < e.1 + e.2) ∧ ∃ v ∈ M.V k, t < v.1
noncomputable def chB (M : Em.St) (t : Int) (e : Int × Int) : Bool := @decide (Ch M t e) (Classical.propDecidable _)
theorem chB_yes {M : Em.St} {t : Int} {e : Int × Int} (h : Ch M t e) : chB M t e = true := @decide_eq_true _ (Classical.propDecidable _) h
theorem chB_no {M : Em.St} {t : Int} {e : Int × Int} (h : ¬ Ch M t e) : chB M t e = false := @decide_eq_false _ (Classical.propDecidable _) h
theorem lt_take {M : Em.St} {t : Int} {S : List (Int × Int)} {k : Nat} (hk : k < S.length) (h : ¬ Lt_ M t (S.take k)) (h1 : ¬ Ch M t (S.getD k (0, 0))) : ¬ Lt_ M t (S.take (k + 1)) := by
  rintro ⟨x, hx, hv⟩
  rcases (in_take S k hk x).1 hx with h2 | h2
  · exact h ⟨x, h2, hv⟩
  · exact h1 ⟨x, h2, hv⟩
theorem lt_at {M : Em.St} {t : Int} {S : List (Int × Int)} {k : Nat} (hk : k < S.length) (h1 : Ch M t (S.getD k (0, 0))) : Lt_ M t S := by
  obtain ⟨x, hx, hv⟩ := h1
  exact ⟨x, ⟨_, Iv.getD_mem hk, hx⟩, hv⟩
/-- What Written tells of the extent cut at the greatest length is it. -/
theorem wr_ch {M : Em.St} (hM : Em.Ok M) (hU : Up M) {a n t : Int} (he : Vm (a, n)) : Va (a, min n 1048576) ∧ Em.wrB M a (min n 1048576) t = chB M t (a, n) := by
  unfold Vm at he
  simp only at he
  have hv : Va (a, min n 1048576) := by unfold Va; simp only; omega
  refine ⟨hv, ?_⟩
  rw [Bool.eq_iff_iff]
  unfold Em.wrB
  rw [vaB_yes hv, Bool.true_and]
  unfold chB
  rw [@decide_eq_true_iff _ (Classical.propDecidable _), @decide_eq_true_iff _ (Classical.propDecidable _)]
  have hn2 := hM.n2
  constructor
  · rintro ⟨⟨k, h1, h2, h3⟩, h4⟩
    exact ⟨k, ⟨h2, by simp only; omega⟩, (up_iff hU).2 ⟨h1, h4⟩⟩
  · rintro ⟨k, ⟨h1, h2⟩, h3⟩
    obtain ⟨h4, h5⟩ := (up_iff hU).1 h3
    have hk : k < M.n := by
      rcases Nat.lt_or_ge k M.n with h | h
      · exact h
      · exact absurd (hM.e k h) h4
    simp only at h1 h2
    exact ⟨⟨k, h4, h1, by omega⟩, h5⟩

set_option maxHeartbeats 4000000 in
set_option maxRecDepth 100000 in
theorem changed_any {w : World} {b : Nat} {M : Em.St} {F : Nat → Prop} (h : Em.Mp w b M F) (hU : Up M) {a n : Int} (he : Vm (a, n)) (t : Int) :
    Calls Try.prog 33 #[.pointer (some ⟨b, 0, none⟩), .agg #[.int .i64 a, .int .i64 n], .int .i64 t] w (Gives (.bool (chB M t (a, n))) w) := by
  obtain ⟨hva, hwr⟩ := wr_ch h.ok hU (t := t) he
  obtain ⟨mb, D, hd, hq⟩ := h
  obtain ⟨m, hm⟩ : ∃ m, m = min n 1048576 := ⟨_, rfl⟩
  rw [← hm] at hva hwr
  have hmm := hm.symm
  have HW : Hid (∀ W, At w W → Calls Try.prog 52 #[.pointer (some ⟨b, 0, none⟩), .agg #[.int .i64 a, .int .i64 m], .int .i64 t] W (Gives (.bool (chB M t (a, n))) W)) := Lib.hid fun W hW => by
    have := Em.written_any (hq.on hW) a m t hva
    rwa [hwr] at this
  have HA : Hid (At w (w.alloc (.cells #[.int .i64 a, .int .i64 m] 49))) := Lib.hid ((At.start w).alloc _)
  clear hq hva hwr hm hU he
  go_enter Try.func33, Try.ntmps33
  go_wp2_with (go_at_call 52; refine (HW.out _ HA.out).mono ?_; rintro e w1 ⟨rfl, hA1⟩)
  go_ret
  exact ⟨rfl, HA.out.next hA1⟩

end Go.Proofs.Ytcffoebpgjonmaa
