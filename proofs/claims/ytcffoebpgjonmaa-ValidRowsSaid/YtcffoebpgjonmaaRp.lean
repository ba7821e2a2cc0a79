/- Proved: the document's own put: an extent into extents that rise and do not touch. -/
import Derived.Test.YtcffoebpgjonmaaPv
import Derived.Test.YtcffoebpgjonmaaIAd
namespace Go.Proofs.Ytcffoebpgjonmaa
open Go.RowKit
open Iv (In Nm Is Vm)

theorem ex_take (M : List (Int × Int)) (k : Nat) (hk : k < M.length) : M.take (k + 1) = M.take k ++ [M.getD k (0, 0)] := by
  rw [List.take_succ_eq_append_getElem hk, List.getD_eq_getElem?_getD, List.getElem?_eq_getElem hk]; rfl
theorem in_take (M : List (Int × Int)) (k : Nat) (hk : k < M.length) (t : Int) : In (M.take (k + 1)) t ↔ In (M.take k) t ∨ ((M.getD k (0, 0)).1 ≤ t ∧ t < (M.getD k (0, 0)).1 + (M.getD k (0, 0)).2) := by
  rw [ex_take M k hk, Iv.in_app, Iv.in_one]
/-- What is laid out of the first k extents: the new one has become what lies from f to g, and dn says whether it has been laid out. -/
structure Pg (M : List (Int × Int)) (f0 g0 : Int) (k : Nat) (f g : Int) (dn : Bool) (O : List (Int × Int)) : Prop where
  nm : Nm O
  lo : 0 ≤ f
  lt : f < g
  hi : g ≤ 1048577
  up : ∀ r ∈ O, ∀ j, k ≤ j → j < M.length → r.1 + r.2 < (M.getD j (0, 0)).1
  no : dn = false → ∀ r ∈ O, r.1 + r.2 < f
  yes : dn = true → ∀ j, k ≤ j → j < M.length → g < (M.getD j (0, 0)).1
  in_ : ∀ t, (In O t ∨ (dn = false ∧ f ≤ t ∧ t < g)) ↔ (In (M.take k) t ∨ (f0 ≤ t ∧ t < g0))
  len : O.length ≤ k + (if dn then 1 else 0)
theorem pg_zero (M : List (Int × Int)) {f0 g0 : Int} (h0 : 0 ≤ f0) (h1 : f0 < g0) (h2 : g0 ≤ 1048577) : Pg M f0 g0 0 f0 g0 false [] :=
  ⟨Nm.nil, h0, h1, h2, fun r hr => (by cases hr), fun _ r hr => (by cases hr), fun h => (by cases h), fun t => by simp [Iv.in_nil], by simp⟩
section
variable {M : List (Int × Int)} {f0 g0 : Int} {k : Nat} {f g : Int} {dn : Bool} {O : List (Int × Int)}
theorem up_snoc (hM : Nm M) (h : ∀ r ∈ O, ∀ j, k ≤ j → j < M.length → r.1 + r.2 < (M.getD j (0, 0)).1) : ∀ r ∈ O ++ [M.getD k (0, 0)], ∀ j, k + 1 ≤ j → j < M.length → r.1 + r.2 < (M.getD j (0, 0)).1 := fun r hr j hj hl => by
  rcases List.mem_append.1 hr with hr | hr
  · exact h r hr j (by omega) hl
  · rw [List.mem_singleton.1 hr]; exact Iv.nm_lt hM (by omega) hl
theorem pg_before (hM : Nm M) (h : Pg M f0 g0 k f g dn O) (hk : k < M.length) (hx : (M.getD k (0, 0)).1 + (M.getD k (0, 0)).2 < f) : dn = false ∧ Pg M f0 g0 (k + 1) f g dn (O ++ [M.getD k (0, 0)]) := by
  have hv := Iv.nm_at hM hk
  have hv' := hv
  unfold Vm at hv'
  have hd : dn = false := by
    cases hdn : dn with
    | false => rfl
    | true => have := h.yes hdn k (Nat.le_refl _) hk; have := h.lt; omega
  refine ⟨hd, Iv.nm_snoc h.nm (fun r hr => h.up r hr k (Nat.le_refl _) hk) hv, h.lo, h.lt, h.hi, up_snoc hM h.up, fun _ r hr => ?_, fun e => (by rw [hd] at e; cases e), fun t => ?_, ?_⟩
  · rcases List.mem_append.1 hr with hr | hr
    · exact h.no hd r hr
    · rw [List.mem_singleton.1 hr]; exact hx
  · have := h.in_ t
    rw [Iv.in_app, Iv.in_one, in_take M k hk, or_right_comm, this, or_right_comm]
  · have := h.len; rw [List.length_append]; simp; omega
theorem pg_past (hM : Nm M) (h : Pg M f0 g0 k f g true O) (hk : k < M.length) : g < (M.getD k (0, 0)).1 ∧ Pg M f0 g0 (k + 1) f g true (O ++ [M.getD k (0, 0)]) := by
  have hv := Iv.nm_at hM hk
  refine ⟨h.yes rfl k (Nat.le_refl _) hk, Iv.nm_snoc h.nm (fun r hr => h.up r hr k (Nat.le_refl _) hk) hv, h.lo, h.lt, h.hi, up_snoc hM h.up, fun e => (by cases e), fun _ j hj hl => h.yes rfl j (by omega) hl, fun t => ?_, ?_⟩
  · have := h.in_ t
    rw [Iv.in_app, Iv.in_one, in_take M k hk, or_right_comm, this, or_right_comm]
  · have := h.len; rw [List.length_append]; simp at this ⊢; omega
/-- The new one is laid out, ahead of the one that it does not reach. -/
theorem pg_lay (hM : Nm M) (h : Pg M f0 g0 k f g false O) (hk : k < M.length) (hx : g < (M.getD k (0, 0)).1) : Pg M f0 g0 k f g true (O ++ [(f, g - f)]) := by
  have hlt := h.lt
  have hlo := h.lo
  have hhi := h.hi
  refine ⟨Iv.nm_snoc h.nm (h.no rfl) (by unfold Vm; simp only; omega), hlo, hlt, hhi, fun r hr j hj hl => ?_, fun e => (by cases e), fun _ j hj hl => ?_, fun t => ?_, ?_⟩
  · rcases List.mem_append.1 hr with hr | hr
    · exact h.up r hr j hj hl
    · rw [List.mem_singleton.1 hr]
      have : g < (M.getD j (0, 0)).1 := by
        rcases Nat.eq_or_lt_of_le hj with e | e
        · rw [← e]; exact hx
        · have h1 := Iv.nm_lt hM e hl
          have h2 := Iv.nm_at hM hk
          unfold Vm at h2; omega
      simp only; omega
  · rcases Nat.eq_or_lt_of_le hj with e | e
    · rw [← e]; exact hx
    · have h1 := Iv.nm_lt hM e hl
      have h2 := Iv.nm_at hM hk
      unfold Vm at h2; omega
  · have h1 := h.in_ t
    rw [Iv.in_app, Iv.in_one, ← h1]
    have e : f + (g - f) = g := by omega
    simp [e]
  · have := h.len; rw [List.length_append]; simp at this ⊢; omega
theorem pg_join (hM : Nm M) (h : Pg M f0 g0 k f g dn O) (hk : k < M.length) (h1 : ¬ (M.getD k (0, 0)).1 + (M.getD k (0, 0)).2 < f) (h2 : ¬ g < (M.getD k (0, 0)).1) : Pg M f0 g0 (k + 1) (min f (M.getD k (0, 0)).1) (max g ((M.getD k (0, 0)).1 + (M.getD k (0, 0)).2)) dn O := by
  have hv := Iv.nm_at hM hk
  unfold Vm at hv
  have hlt := h.lt
  have hlo := h.lo
  have hhi := h.hi
  have hd : dn = false := by
    cases hdn : dn with
    | false => rfl
    | true => exact absurd (h.yes hdn k (Nat.le_refl _) hk) h2
  subst hd
  refine ⟨h.nm, by omega, by omega, by omega, fun r hr j hj hl => h.up r hr j (by omega) hl, fun _ r hr => ?_, fun e => (by cases e), fun t => ?_, ?_⟩
  · have := h.no rfl r hr
    have := h.up r hr k (Nat.le_refl _) hk
    omega
  · have h3 := h.in_ t
    have h4 : (In (M.take k) t ∨ (f0 ≤ t ∧ t < g0)) ↔ (In O t ∨ (f ≤ t ∧ t < g)) := by rw [← h3]; simp
    rw [in_take M k hk, or_right_comm, h4]
    constructor
    · rintro (h5 | ⟨-, h5, h6⟩)
      · exact Or.inl (Or.inl h5)
      · by_cases h7 : f ≤ t ∧ t < g
        · exact Or.inl (Or.inr h7)
        · exact Or.inr (by omega)
    · rintro ((h5 | h5) | h5)
      · exact Or.inl h5
      · exact Or.inr ⟨rfl, by omega, by omega⟩
      · exact Or.inr ⟨rfl, by omega, by omega⟩
  · have := h.len; simp at this ⊢; omega
theorem pg_end (h : Pg M f0 g0 M.length f g true O) : Is (M ++ [(f0, g0 - f0)]) O ∧ O.length ≤ M.length + 1 :=
  ⟨⟨h.nm, fun t => by
    have h1 := h.in_ t
    rw [List.take_length] at h1
    have e : f0 + (g0 - f0) = g0 := by omega
    rw [Iv.in_app, Iv.in_one, e, ← h1]; simp⟩, by have := h.len; simpa using this⟩
theorem pg_last (h : Pg M f0 g0 M.length f g false O) : Is (M ++ [(f0, g0 - f0)]) (O ++ [(f, g - f)]) ∧ (O ++ [(f, g - f)]).length ≤ M.length + 1 := by
  have hlt := h.lt
  have hlo := h.lo
  have hhi := h.hi
  refine ⟨⟨Iv.nm_snoc h.nm (h.no rfl) (by unfold Vm; simp only; omega), fun t => ?_⟩, ?_⟩
  · have h1 := h.in_ t
    rw [List.take_length] at h1
    have e : f0 + (g0 - f0) = g0 := by omega
    have e' : f + (g - f) = g := by omega
    rw [Iv.in_app, Iv.in_one, Iv.in_app, Iv.in_one, e, e', ← h1]; simp
  · have := h.len; rw [List.length_append]; simp at this ⊢; omega
end

end Go.Proofs.Ytcffoebpgjonmaa
