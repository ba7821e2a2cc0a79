/- Proved: what forder's Compare and Sort must give, and what a list's View tells. -/
import Derived.Test.YtphhonpibmbjmaaRead
namespace Go.Proofs.Ytphhonpibmbjmaa
open Go.RowKit Fl

def DCompare : Prop := ∀ (a b : Nat), a < 18446744073709551616 → b < 18446744073709551616 → ∀ w : World,
  Calls Try.prog 58 #[.float .f64 a, .float .f64 b] w fun e w' => e = .returned (.int .i64 (cmpI a b)) ∧ w = w'
def DSort : Prop := ∀ (v : Value) (L : List Nat) (w : World), View w v L → L.length ≤ 1000000 → (∀ x ∈ L, x < 18446744073709551616) →
  Calls Try.prog 36 #[v] w fun e w' => ∃ v' R, e = .returned v' ∧ Sorts L R ∧ View w' v' R ∧ Below w.heap.size w w'
theorem getD_lt (L : List Nat) (hf : ∀ x ∈ L, x < 18446744073709551616) : ∀ j, j < L.length → L.getD j 0 < 18446744073709551616 := by
  intro j hj
  rw [List.getD_eq_getElem?_getD, List.getElem?_eq_getElem hj]
  exact hf _ (List.getElem_mem hj)

theorem cmpI_pos (a b : Nat) : decide (0 < cmpI a b) = decide (kb b < kb a) := by
  unfold cmpI
  by_cases h : kb a < kb b
  · rw [if_pos h]; simp; omega
  · rw [if_neg h]
    by_cases h2 : kb b < kb a
    · rw [if_pos h2]; simp [h2]
    · rw [if_neg h2]; simp [h2]

theorem view_pos {w : World} {v : Value} {L : List Nat} (h : View w v L) (h0 : 0 < L.length) :
    ∃ b off cap, v = .slice (some ⟨b, off, none⟩) L.length cap ∧ b < w.heap.size ∧ ∀ j, j < L.length → w.cell? ⟨b, off + j, none⟩ = some (.float .f64 (L.getD j 0)) := by
  rcases h with ⟨_, rfl⟩ | ⟨ad, cap, _, rfl⟩ | ⟨b, off, cap, rfl, _, hb, hc⟩
  · simp at h0
  · simp at h0
  · exact ⟨b, off, cap, rfl, hb, hc⟩

theorem cb_eq_num (r x : Nat) (hx : isN x = false) (h : cb r = cb x) : r = x := by
  by_cases hr : isN r = true
  · rw [cb_nan r hr, not_nan_cb x hx] at h
    subst h
    exact absurd hx (by decide)
  · rw [not_nan_cb r (by simpa using hr), not_nan_cb x hx] at h
    exact h

end Go.Proofs.Ytphhonpibmbjmaa
