/- Proved: in a list that stands in order the ends are the least and the greatest, and a NaN stands last. Nothing of any program. -/
import Derived.Test.YtfpiojohodgncaaFFinds
namespace Go.Proofs.Ytfpiojohodgncaa
open Go.RowKit Fl

theorem nan_key (x : Nat) (hx : x < 18446744073709551616) : isN x = true ↔ kb x = 18444492273895866368 := by
  constructor
  · exact kb_nan x
  · intro h
    by_cases hn : isN x = true
    · exact hn
    · have := kb_lt_nan x hx (by simpa using hn); omega
theorem key_le (x : Nat) (hx : x < 18446744073709551616) : kb x ≤ 18444492273895866368 := by
  by_cases hn : isN x = true
  · rw [kb_nan x hn]; exact Nat.le_refl _
  · exact Nat.le_of_lt (kb_lt_nan x hx (by simpa using hn))
theorem getD_mem (L : List Nat) (j : Nat) (hj : j < L.length) : L.getD j 0 ∈ L := by
  rw [List.getD_eq_getElem?_getD, List.getElem?_eq_getElem hj]; exact List.getElem_mem hj
theorem mem_getD (L : List Nat) (x : Nat) (h : x ∈ L) : ∃ j, j < L.length ∧ L.getD j 0 = x := by
  obtain ⟨j, hj, e⟩ := List.getElem_of_mem h
  exact ⟨j, hj, by rw [List.getD_eq_getElem?_getD, List.getElem?_eq_getElem hj]; exact e⟩
/-- Each number of one list has a number with its key in the other. -/
theorem sorts_to {L R : List Nat} (h : Sorts L R) (j : Nat) (hj : j < L.length) : ∃ i, i < R.length ∧ kb (R.getD i 0) = kb (L.getD j 0) := by
  have m : kb (L.getD j 0) ∈ R.map kb := h.2.1.mem_iff.2 (List.mem_map_of_mem (getD_mem L j hj))
  obtain ⟨x, hx, e⟩ := List.mem_map.1 m
  obtain ⟨i, hi, e2⟩ := mem_getD R x hx
  exact ⟨i, hi, by rw [e2]; exact e⟩
theorem sorts_from {L R : List Nat} (h : Sorts L R) (i : Nat) (hi : i < R.length) : ∃ j, j < L.length ∧ kb (L.getD j 0) = kb (R.getD i 0) := by
  have m : kb (R.getD i 0) ∈ L.map kb := h.2.1.mem_iff.1 (List.mem_map_of_mem (getD_mem R i hi))
  obtain ⟨x, hx, e⟩ := List.mem_map.1 m
  obtain ⟨j, hj, e2⟩ := mem_getD L x hx
  exact ⟨j, hj, by rw [e2]; exact e⟩
theorem sorts_le {L R : List Nat} (h : Sorts L R) (i j : Nat) (hij : i ≤ j) (hj : j < R.length) : kb (R.getD i 0) ≤ kb (R.getD j 0) := by
  by_cases e : i = j
  · subst e; exact Nat.le_refl _
  · exact pairwise_sorted R h.1 i j (by omega) hj

theorem ends_nan {L R : List Nat} (h : Sorts L R) (n : Nat) (hn : L.length = n + 1) (hf : ∀ x ∈ L, x < 18446744073709551616) : (∃ j, j < L.length ∧ isN (L.getD j 0) = true) ↔ isN (R.getD n 0) = true := by
  have hl := sorts_len h
  have hR := h.2.2 _ (getD_mem R n (by omega))
  constructor
  · rintro ⟨j, hj, hN⟩
    obtain ⟨i, hi, e⟩ := sorts_to h j hj
    rw [(nan_key _ (hf _ (getD_mem L j hj))).1 hN] at e
    have := sorts_le h i n (by omega) (by omega)
    have := key_le _ hR
    exact (nan_key _ hR).2 (by omega)
  · intro hN
    obtain ⟨j, hj, e⟩ := sorts_from h n (by omega)
    exact ⟨j, hj, (nan_key _ (hf _ (getD_mem L j hj))).2 (by rw [e]; exact (nan_key _ hR).1 hN)⟩
theorem least_first {L R : List Nat} (h : Sorts L R) (n : Nat) (hn : L.length = n + 1) (hf : ∀ x ∈ L, x < 18446744073709551616) (x : Nat) (hx : x < 18446744073709551616) (hN : isN (R.getD n 0) = false)
    (hm : IsMost (-1) L.length (L.getD · 0) x) : smB x (R.getD 0 0) = true := by
  have hl := sorts_len h
  rcases hm with ⟨a, _⟩ | ⟨_, ⟨j, hj, rfl⟩, c⟩
  · have := (ends_nan h n hn hf).1 a; rw [hN] at this; cases this
  · refine decide_eq_true (kb_inj _ _ hx (h.2.2 _ (getD_mem R 0 (by omega))) ?_)
    obtain ⟨i, hi, e⟩ := sorts_to h j hj
    have h1 := sorts_le h 0 i (Nat.zero_le _) hi
    obtain ⟨k, hk, e2⟩ := sorts_from h 0 (by omega)
    have h2 : kb (L.getD j 0) ≤ kb (L.getD k 0) := (c k hk).1 rfl
    show kb (L.getD j 0) = kb (R.getD 0 0)
    omega
theorem greatest_last {L R : List Nat} (h : Sorts L R) (n : Nat) (hn : L.length = n + 1) (hf : ∀ x ∈ L, x < 18446744073709551616) (x : Nat) (hx : x < 18446744073709551616) (hN : isN (R.getD n 0) = false)
    (hm : IsMost 1 L.length (L.getD · 0) x) : smB x (R.getD n 0) = true := by
  have hl := sorts_len h
  rcases hm with ⟨a, _⟩ | ⟨_, ⟨j, hj, rfl⟩, c⟩
  · have := (ends_nan h n hn hf).1 a; rw [hN] at this; cases this
  · refine decide_eq_true (kb_inj _ _ hx (h.2.2 _ (getD_mem R n (by omega))) ?_)
    obtain ⟨i, hi, e⟩ := sorts_to h j hj
    have h1 := sorts_le h i n (by omega) (by omega)
    obtain ⟨k, hk, e2⟩ := sorts_from h n (by omega)
    have h2 : kb (L.getD k 0) ≤ kb (L.getD j 0) := (c k hk).2 rfl
    show kb (L.getD j 0) = kb (R.getD n 0)
    omega
theorem most_nan (way : Int) {L R : List Nat} (h : Sorts L R) (n : Nat) (hn : L.length = n + 1) (hf : ∀ x ∈ L, x < 18446744073709551616) (x : Nat) (hN : isN (R.getD n 0) = true)
    (hm : IsMost way L.length (L.getD · 0) x) : x = 9221120237041090560 := by
  rcases hm with ⟨_, e⟩ | ⟨a, _, _⟩
  · exact e
  · obtain ⟨j, hj, e⟩ := (ends_nan h n hn hf).2 hN
    rw [a j hj] at e; cases e

end Go.Proofs.Ytfpiojohodgncaa
