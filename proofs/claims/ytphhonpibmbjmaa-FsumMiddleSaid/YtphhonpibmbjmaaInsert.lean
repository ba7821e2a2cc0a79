/- Proved: exchanging neighbours till they stand right inserts a number into those that stand in order; two lists in order with the same keys have the same keys at each place. Nothing of any program. -/
import Derived.Test.YtphhonpibmbjmaaPure
namespace Go.Proofs.Ytphhonpibmbjmaa

abbrev at' (R : List Nat) (j : Nat) : Nat := kb (R.getD j 0)
/-- The first k stand in order. -/
def SortedTo (k : Nat) (R : List Nat) : Prop := ∀ a b, a < b → b < k → at' R a ≤ at' R b
/-- The first k + 1 stand in order but for the one at p, which no one behind it comes before. -/
def Ins (p k : Nat) (R : List Nat) : Prop := (∀ a b, a < b → b ≤ k → a ≠ p → b ≠ p → at' R a ≤ at' R b) ∧ ∀ b, p < b → b ≤ k → at' R p ≤ at' R b
def swapAt (R : List Nat) (q : Nat) : List Nat := (R.set (q + 1) (R.getD q 0)).set q (R.getD (q + 1) 0)

theorem swap_len (R : List Nat) (q : Nat) : (swapAt R q).length = R.length := by simp [swapAt]
theorem swap_perm (R : List Nat) (q : Nat) (h : q + 1 < R.length) : (swapAt R q).Perm R := by
  have := List.set_set_perm (as := R) (i := q + 1) (j := q) h (by omega)
  unfold swapAt
  rw [List.getD_eq_getElem?_getD, List.getD_eq_getElem?_getD, List.getElem?_eq_getElem h, List.getElem?_eq_getElem (show q < R.length by omega)]
  exact this
theorem swap_get (R : List Nat) (q j : Nat) (h : q + 1 < R.length) : (swapAt R q).getD j 0 = if j = q then R.getD (q + 1) 0 else if j = q + 1 then R.getD q 0 else R.getD j 0 := by
  unfold swapAt
  simp only [List.getD_eq_getElem?_getD, List.getElem?_set]
  by_cases e : j = q
  · subst e; simp [show j < R.length by omega]
  · by_cases e2 : j = q + 1
    · subst e2; simp [h]
    · rw [if_neg (by omega), if_neg (by omega), if_neg e, if_neg e2]

theorem ins_start (k : Nat) (R : List Nat) (h : SortedTo k R) : Ins k k R :=
  ⟨fun a b hab hb _ hbk => h a b hab (by omega), fun b hb hk => by omega⟩
theorem ins_zero (k : Nat) (R : List Nat) (h : Ins 0 k R) : SortedTo (k + 1) R := by
  intro a b hab hb
  by_cases e : a = 0
  · subst e; exact h.2 b hab (by omega)
  · exact h.1 a b hab (by omega) e (by omega)
theorem ins_stop (q k : Nat) (R : List Nat) (h : Ins (q + 1) k R) (hs : at' R q ≤ at' R (q + 1)) : SortedTo (k + 1) R := by
  intro a b hab hb
  by_cases e : a = q + 1
  · subst e; exact h.2 b hab (by omega)
  · by_cases e2 : b = q + 1
    · subst e2
      by_cases e3 : a = q
      · subst e3; exact hs
      · exact Nat.le_trans (h.1 a q (by omega) (by omega) e (by omega)) hs
    · exact h.1 a b hab (by omega) e e2
theorem ins_step (q k : Nat) (R : List Nat) (hq : q + 1 ≤ k) (hk : k < R.length) (h : Ins (q + 1) k R) (hs : at' R (q + 1) < at' R q) : Ins q k (swapAt R q) := by
  have g := fun j => swap_get R q j (by omega)
  refine ⟨fun a b hab hb ha hb' => ?_, fun b hqb hb => ?_⟩
  · show kb ((swapAt R q).getD a 0) ≤ kb ((swapAt R q).getD b 0)
    rw [g a, g b, if_neg ha, if_neg hb']
    by_cases e : a = q + 1
    · rw [if_pos e, if_neg (by omega)]; exact h.1 q b (by omega) hb (by omega) (by omega)
    · rw [if_neg e]
      by_cases e2 : b = q + 1
      · rw [if_pos e2]; exact h.1 a q (by omega) (by omega) e (by omega)
      · rw [if_neg e2]; exact h.1 a b hab hb e e2
  · show kb ((swapAt R q).getD q 0) ≤ kb ((swapAt R q).getD b 0)
    rw [g q, g b, if_pos rfl, if_neg (by omega)]
    by_cases e2 : b = q + 1
    · rw [if_pos e2]; exact Nat.le_of_lt hs
    · rw [if_neg e2]; exact h.2 b (by omega) hb

theorem sorted_one (R : List Nat) : SortedTo 1 R := fun a b _ _ => by omega
theorem sorted_pairwise (R : List Nat) (h : SortedTo R.length R) : (R.map kb).Pairwise (· ≤ ·) := by
  rw [List.pairwise_iff_getElem]
  intro i j hi hj hij
  rw [List.length_map] at hi hj
  have := h i j hij hj
  simpa [at', List.getD_eq_getElem?_getD, List.getElem?_eq_getElem hi, List.getElem?_eq_getElem hj] using this
theorem pairwise_sorted (R : List Nat) (h : (R.map kb).Pairwise (· ≤ ·)) : SortedTo R.length R := by
  intro i j hij hj
  rw [List.pairwise_iff_getElem] at h
  have := h i j (by rw [List.length_map]; omega) (by rw [List.length_map]; omega) hij
  simpa [at', List.getD_eq_getElem?_getD, List.getElem?_eq_getElem hj, List.getElem?_eq_getElem (show i < R.length by omega)] using this

/-- R stands in order and has just the keys of L. -/
def Sorts (L R : List Nat) : Prop := (R.map kb).Pairwise (· ≤ ·) ∧ (R.map kb).Perm (L.map kb) ∧ ∀ x ∈ R, x < 18446744073709551616
theorem sorts_len {L R : List Nat} (h : Sorts L R) : R.length = L.length := by
  have := h.2.1.length_eq
  simpa using this
theorem sorts_unique {L M R S : List Nat} (h : Sorts L R) (k : Sorts M S) (e : (L.map kb).Perm (M.map kb)) : R.map kb = S.map kb :=
  List.Perm.eq_of_pairwise (fun _ _ _ _ h1 h2 => Nat.le_antisymm h1 h2) h.1 k.1 (h.2.1.trans (e.trans k.2.1.symm))
theorem sorts_same {L M R S : List Nat} (h : Sorts L R) (k : Sorts M S) (e : (L.map kb).Perm (M.map kb)) (j : Nat) (hj : j < R.length) : smB (R.getD j 0) (S.getD j 0) = true := by
  have u := sorts_unique h k e
  have hl : R.length = S.length := by have := congrArg List.length u; simpa using this
  have v := congrArg (fun l => l[j]?) u
  simp only [List.getElem?_map, List.getElem?_eq_getElem hj, List.getElem?_eq_getElem (show j < S.length by omega), Option.map_some, Option.some.injEq] at v
  have a := h.2.2 _ (List.getElem_mem hj)
  have b := k.2.2 _ (List.getElem_mem (show j < S.length by omega))
  rw [List.getD_eq_getElem?_getD, List.getD_eq_getElem?_getD, List.getElem?_eq_getElem hj, List.getElem?_eq_getElem (show j < S.length by omega)]
  exact decide_eq_true (kb_inj _ _ a b v)

end Go.Proofs.Ytphhonpibmbjmaa
