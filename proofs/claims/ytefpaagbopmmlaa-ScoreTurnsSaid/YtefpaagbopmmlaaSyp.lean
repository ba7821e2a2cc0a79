/- Proved: plain facts of two sorted stretches that are cut so that all of the one half stands ahead of all of the other. -/
import Derived.Test.YtefpaagbopmmlaaSyr
namespace Go.Proofs.Ytefpaagbopmmlaa

/-- What the search has found of g: the g first of A and the D - g first of B stand ahead of all others. -/
def Found (T : Nat → Nat → Prop) (A B : List Nat) (D g0 h0 g h : Nat) : Prop :=
  (∀ t, g0 ≤ t → t < g → T (A.getD t 0) (B.getD (D - 1 - t) 0)) ∧ (∀ t, h ≤ t → t < h0 → T (B.getD (D - 1 - t) 0) (A.getD t 0))

/-- The four parts. -/
structure Parts (T : Nat → Nat → Prop) (A B A1 A2 B1 B2 : List Nat) : Prop where
  a : A = A1 ++ A2
  b : B = B1 ++ B2
  x : ∀ x ∈ A1, ∀ y ∈ B2, T x y
  y : ∀ y ∈ B1, ∀ x ∈ A2, T y x

theorem parts_of {T : Nat → Nat → Prop} (hT : Ord T) {A B : List Nat} (hA : A.Pairwise T) (hB : B.Pairwise T) {D g0 h0 g : Nat} (hF : Found T A B D g0 h0 g g) (h1 : g0 ≤ g) (h2 : g ≤ h0) (h3 : g ≤ A.length) (h4 : g ≤ D) (h5 : D - g ≤ B.length)
    (hg : g0 = 0 ∨ D - g0 = B.length) (hh : h0 = D ∨ h0 = A.length) : ∃ A1 A2 B1 B2, Parts T A B A1 A2 B1 B2 ∧ A1.length = g ∧ B1.length = D - g := by
  obtain ⟨A1, A2, a1, a2, a3⟩ := split_len A g h3
  obtain ⟨B1, B2, b1, b2, b3⟩ := split_len B (D - g) h5
  refine ⟨A1, A2, B1, B2, ⟨a1, b1, ?_, ?_⟩, a2, b2⟩
  · intro x hx y hy
    obtain ⟨t1, ht1, rfl⟩ := mem_at hx
    obtain ⟨t2, ht2, rfl⟩ := mem_at hy
    have e1 : A1.getD t1 0 = A.getD t1 0 := by rw [a1, getD_left _ _ _ ht1]
    have e2 : B2.getD t2 0 = B.getD (D - g + t2) 0 := by rw [b1, ← b2, getD_right]
    rw [e1, e2]
    have hlt : g0 < g := by
      rcases Nat.eq_or_lt_of_le h1 with e | e
      · exfalso; rcases hg with k | k <;> omega
      · exact e
    have hm := hF.1 (g - 1) (by omega) (by omega)
    have ei : D - 1 - (g - 1) = D - g := by omega
    rw [ei] at hm
    have m1 : t1 = g - 1 ∨ T (A.getD t1 0) (A.getD (g - 1) 0) := by
      by_cases e : t1 = g - 1
      · exact .inl e
      · exact .inr (pair_at hA (by omega) (by omega))
    have m2 : t2 = 0 ∨ T (B.getD (D - g) 0) (B.getD (D - g + t2) 0) := by
      by_cases e : t2 = 0
      · exact .inl e
      · exact .inr (pair_at hB (by omega) (by omega))
    have m3 : T (A.getD t1 0) (B.getD (D - g) 0) := by
      rcases m1 with e | e
      · rw [e]; exact hm
      · exact hT.1 _ _ _ e hm
    rcases m2 with e | e
    · rw [e, Nat.add_zero]; exact m3
    · exact hT.1 _ _ _ m3 e
  · intro y hy x hx
    obtain ⟨t1, ht1, rfl⟩ := mem_at hx
    obtain ⟨t2, ht2, rfl⟩ := mem_at hy
    have e1 : A2.getD t1 0 = A.getD (g + t1) 0 := by rw [a1, ← a2, getD_right]
    have e2 : B1.getD t2 0 = B.getD t2 0 := by rw [b1, getD_left _ _ _ ht2]
    rw [e1, e2]
    have hlt : g < h0 := by
      rcases Nat.eq_or_lt_of_le h2 with e | e
      · exfalso; rcases hh with k | k <;> omega
      · exact e
    have hm := hF.2 g (Nat.le_refl _) hlt
    have m1 : t1 = 0 ∨ T (A.getD g 0) (A.getD (g + t1) 0) := by
      by_cases e : t1 = 0
      · exact .inl e
      · exact .inr (pair_at hA (by omega) (by omega))
    have m2 : t2 = D - 1 - g ∨ T (B.getD t2 0) (B.getD (D - 1 - g) 0) := by
      by_cases e : t2 = D - 1 - g
      · exact .inl e
      · exact .inr (pair_at hB (by omega) (by omega))
    have m3 : T (B.getD t2 0) (A.getD g 0) := by
      rcases m2 with e | e
      · rw [e]; exact hm
      · exact hT.1 _ _ _ e hm
    rcases m1 with e | e
    · rw [e, Nat.add_zero]; exact m3
    · exact hT.1 _ _ _ m3 e

/-- The two halves sorted are the whole sorted. -/
theorem halves {T : Nat → Nat → Prop} {A B A1 A2 B1 B2 C1 C2 : List Nat} (hA : A.Pairwise T) (hB : B.Pairwise T) (hP : Parts T A B A1 A2 B1 B2)
    (p1 : C1.Perm (A1 ++ B1)) (s1 : C1.Pairwise T) (p2 : C2.Perm (A2 ++ B2)) (s2 : C2.Pairwise T) : (C1 ++ C2).Perm (A ++ B) ∧ (C1 ++ C2).Pairwise T := by
  obtain ⟨a, b, x, y⟩ := hP
  subst a b
  constructor
  · refine (List.Perm.append p1 p2).trans ?_
    have h : (B1 ++ (A2 ++ B2)).Perm (A2 ++ (B1 ++ B2)) := by
      rw [← List.append_assoc, ← List.append_assoc]
      exact List.Perm.append_right _ List.perm_append_comm
    have := List.Perm.append_left A1 h
    simpa [List.append_assoc] using this
  · rw [List.pairwise_append]
    refine ⟨s1, s2, ?_⟩
    intro u hu v hv
    rw [p1.mem_iff, List.mem_append] at hu
    rw [p2.mem_iff, List.mem_append] at hv
    rcases hu with hu | hu <;> rcases hv with hv | hv
    · exact (List.pairwise_append.1 hA).2.2 u hu v hv
    · exact x u hu v hv
    · exact y u hu v hv
    · exact (List.pairwise_append.1 hB).2.2 u hu v hv

/-- Where one of two stretches is empty both together are sorted. -/
theorem one_empty {T : Nat → Nat → Prop} {A B : List Nat} (hA : A.Pairwise T) (hB : B.Pairwise T) (h : A.length = 0 ∨ B.length = 0) : (A ++ B).Pairwise T := by
  rcases h with h | h
  · rw [List.eq_nil_of_length_eq_zero h]; exact hB
  · rw [List.eq_nil_of_length_eq_zero h, List.append_nil]; exact hA

/-- One round of the search. -/
theorem found_up {T : Nat → Nat → Prop} (hT : Ord T) {A B : List Nat} (hA : A.Pairwise T) (hB : B.Pairwise T) {D g0 h0 g h k : Nat} (hF : Found T A B D g0 h0 g h) (hk : k < A.length) (hD : ∀ t, g0 ≤ t → t < D → D - 1 - t < B.length) (hkD : k < D)
    (hc : T (A.getD k 0) (B.getD (D - 1 - k) 0)) : Found T A B D g0 h0 (k + 1) h := by
  refine ⟨fun t h1 h2 => ?_, hF.2⟩
  by_cases e : t = k
  · rw [e]; exact hc
  · have a := pair_at hA (show t < k by omega) hk
    have b := pair_at hB (show D - 1 - k < D - 1 - t by omega) (hD t h1 (by omega))
    exact hT.1 _ _ _ (hT.1 _ _ _ a hc) b
theorem found_down {T : Nat → Nat → Prop} (hT : Ord T) {A B : List Nat} (hA : A.Pairwise T) (hB : B.Pairwise T) {D g0 h0 g h k : Nat} (hF : Found T A B D g0 h0 g h) (h0A : h0 ≤ A.length) (h0D : h0 ≤ D) (hkD : D - 1 - k < B.length)
    (hc : T (B.getD (D - 1 - k) 0) (A.getD k 0)) : Found T A B D g0 h0 g k := by
  refine ⟨hF.1, fun t h1 h2 => ?_⟩
  by_cases e : t = k
  · rw [e]; exact hc
  · have a := pair_at hA (show k < t by omega) (by omega)
    have b := pair_at hB (show D - 1 - t < D - 1 - k by omega) hkD
    exact hT.1 _ _ _ (hT.1 _ _ _ b hc) a

end Go.Proofs.Ytefpaagbopmmlaa
