/- Proved: the law RsetLimits' walk: a read may have so many blocks, a read set so many extents. -/
import Derived.Test.YtgjlklladbcmcaaAwa
namespace Go.Proofs.Ytgjlklladbcmcaa
open Go.RowKit
open Iv (In Nm Is Vm nf nf_is is_one is_len)

/-- Single blocks, each second one. -/
def lad (j : Nat) : List (Int × Int) := (List.range j).map fun i : Nat => (2 * (i : Int), (1 : Int))
theorem lad_len (j : Nat) : (lad j).length = j := by unfold lad; rw [List.length_map, List.length_range]
theorem lad_more (j : Nat) : lad (j + 1) = lad j ++ [(2 * (j : Int), 1)] := by unfold lad; rw [List.range_succ, List.map_append]; rfl
theorem mem_lad {j : Nat} {e : Int × Int} : e ∈ lad j ↔ ∃ i : Nat, i < j ∧ e = (2 * (i : Int), 1) := by
  unfold lad
  rw [List.mem_map]
  constructor
  · rintro ⟨i, hi, rfl⟩; exact ⟨i, List.mem_range.1 hi, rfl⟩
  · rintro ⟨i, hi, rfl⟩; exact ⟨i, List.mem_range.2 hi, rfl⟩
theorem lad_nm (j : Nat) (hj : j ≤ 1000) : Nm (lad j) := by
  refine ⟨fun e he => ?_, ?_⟩
  · obtain ⟨i, hi, rfl⟩ := mem_lad.1 he
    unfold Vm; simp only; omega
  · show (lad j).Pairwise _
    unfold lad
    rw [List.pairwise_map]
    exact (List.pairwise_lt_range (n := j)).imp fun h => by simp only; omega
theorem lad_nf (j : Nat) (hj : j ≤ 999) : nf (lad j ++ [(2 * (j : Int), 1)]) = lad (j + 1) := by
  rw [← lad_more]
  exact is_one (nf_is (lad_nm (j + 1) (by omega)).1) (Is.self (lad_nm (j + 1) (by omega)))
/-- One more behind a gap. -/
theorem lad_far (i : Nat) (h1 : 64 ≤ i) (h2 : i ≤ 70) : (nf (lad 64 ++ [(2 * (i : Int), 1)])).length = 65 := by
  have hn : Nm (lad 64 ++ [(2 * (i : Int), 1)]) := Iv.nm_snoc (lad_nm 64 (by omega)) (fun r hr => by
    obtain ⟨k, hk, rfl⟩ := mem_lad.1 hr
    simp only; omega) (by unfold Vm; simp only; omega)
  rw [is_one (nf_is hn.1) (Is.self hn), List.length_append, lad_len]; rfl
/-- An extent that joins the first two needs no room. -/
theorem lad_join (j : Nat) (hj : j ≤ 64) : (nf (lad j ++ [(0, 3)])).length ≤ 64 := by
  have hv : ∀ e ∈ lad j ++ [((0 : Int), (3 : Int))], Vm e := fun e he => by
    rcases List.mem_append.1 he with he | he
    · exact (lad_nm j (by omega)).1 e he
    · rw [List.mem_singleton] at he; subst he; unfold Vm; simp
  have hi := nf_is hv
  by_cases h : j ≤ 63
  · have := is_len hv hi
    rw [List.length_append, lad_len] at this
    simp at this
    omega
  · obtain rfl : j = 64 := by omega
    have hM : Is (lad 64 ++ [((0 : Int), (3 : Int))]) ((0, 3) :: (List.range 62).map fun i : Nat => (2 * ((i : Int) + 2), (1 : Int))) := by
      refine ⟨⟨fun e he => ?_, ?_⟩, fun x => ?_⟩
      · rcases List.mem_cons.1 he with rfl | he
        · unfold Vm; simp
        · obtain ⟨i, hi, rfl⟩ := List.mem_map.1 he
          have := List.mem_range.1 hi
          unfold Vm; simp only; omega
      · show List.Pairwise _ _
        rw [List.pairwise_cons, List.pairwise_map]
        refine ⟨fun e he => ?_, (List.pairwise_lt_range (n := 62)).imp fun h => by simp only; omega⟩
        obtain ⟨i, hi, rfl⟩ := List.mem_map.1 he
        simp only; omega
      · rw [Iv.in_cons, Iv.in_app, Iv.in_one]
        simp only
        constructor
        · rintro (h | ⟨e, he, h1, h2⟩)
          · right; omega
          · obtain ⟨i, hi, rfl⟩ := List.mem_map.1 he
            have := List.mem_range.1 hi
            left
            exact ⟨(2 * ((i + 2 : Nat) : Int), 1), mem_lad.2 ⟨i + 2, by omega, rfl⟩, by simp only at h1 ⊢; omega, by simp only at h2 ⊢; omega⟩
        · rintro (⟨e, he, h1, h2⟩ | h)
          · obtain ⟨i, hi, rfl⟩ := mem_lad.1 he
            simp only at h1 h2
            by_cases h2i : i < 2
            · left; omega
            · right
              exact ⟨(2 * (((i - 2 : Nat) : Int) + 2), 1), List.mem_map.2 ⟨i - 2, List.mem_range.2 (by omega), rfl⟩, by simp only; omega, by simp only; omega⟩
          · left; omega
    rw [is_one hi hM, List.length_cons, List.length_map, List.length_range]; omega
/-- The first read's answer. -/
theorem lim_first (n : Int) : rcode 200 [] 0 n = if 1 ≤ n ∧ n ≤ 16 then 0 else 3 := by
  by_cases h : 1 ≤ n ∧ n ≤ 16
  · rw [if_pos h]
    refine rcode_ok h (by omega) ?_
    have hv : ∀ e ∈ [] ++ [((0 : Int), n)], Vm e := fun e he => by rw [List.nil_append, List.mem_singleton] at he; subst he; unfold Vm; simp only; omega
    have := is_len hv (nf_is hv)
    exact Nat.le_trans this (by simp)
  · rw [if_neg h]; exact rcode_len h
/-- A read in the loop. -/
theorem lim_round (i : Nat) (h : i ≤ 70) : rcode 200 (lad (min i 64)) (2 * (i : Int)) 1 = (if i < 64 then 0 else 7) ∧ rdL 200 (lad (min i 64)) (2 * (i : Int)) 1 = lad (min (i + 1) 64) := by
  by_cases hi : i < 64
  · have e1 : min i 64 = i := by omega
    have e2 : min (i + 1) 64 = i + 1 := by omega
    have hc : rcode 200 (lad i) (2 * (i : Int)) 1 = 0 := rcode_ok (by omega) (by omega) (by rw [lad_nf i (by omega), lad_len]; omega)
    rw [e1, e2, if_pos hi]
    exact ⟨hc, by unfold rdL; rw [if_pos hc]; exact lad_nf i (by omega)⟩
  · have e1 : min i 64 = 64 := by omega
    have e2 : min (i + 1) 64 = 64 := by omega
    have hc : rcode 200 (lad 64) (2 * (i : Int)) 1 = 7 := rcode_big (by omega) (by omega) (by rw [lad_far i (by omega) h]; omega)
    rw [e1, e2, if_neg hi]
    exact ⟨hc, by unfold rdL; rw [hc]; rfl⟩
theorem rdR_len (M : Em.St) (B : St) (t : Int) (L : List (Int × Int)) (R : List Rd) (a m : Int) : (rdR M B t L R a m).length ≤ R.length + 16 := by
  unfold rdR
  by_cases h : rcode M.n L a m = 0
  · rw [if_pos h, List.length_append, sees_len]
    have := (rcode_0 h).1
    omega
  · rw [if_neg h]; omega

end Go.Proofs.Ytgjlklladbcmcaa
