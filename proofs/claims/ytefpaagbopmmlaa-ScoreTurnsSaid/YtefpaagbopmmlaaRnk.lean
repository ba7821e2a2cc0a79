/- Proved: plain facts of a rank of zones: the places of those that are worth it, in the one order of their scores and places; there is one such list alone. -/
import Derived.Test.YtefpaagbopmmlaaSrt
import Derived.Test.YtefpaagbopmmlaaLfew
namespace Go.Proofs.Ytefpaagbopmmlaa
open Go.RowKit Fl

def zn (Z : List (Int × Int × Int)) (j : Nat) : Int × Int × Int := Z.getD j (0, 0, 0)
/-- A zone's score, and whether it may stand in the rank. -/
def wz (Z : List (Int × Int × Int)) (now : Int) (j : Nat) : Nat := scV (zn Z j).1 (zn Z j).2.1 (zn Z j).2.2 now
def okz (Z : List (Int × Int × Int)) (now : Int) (j : Nat) : Prop := Jdg (zn Z j).1 (zn Z j).2.1 (zn Z j).2.2 now ∧ (zn Z j).2.1 ≠ 0 ∧ wz Z now j ≠ 0
instance (Z : List (Int × Int × Int)) (now : Int) (j : Nat) : Decidable (okz Z now j) := by unfold okz; infer_instance
def kept (Z : List (Int × Int × Int)) (now : Int) (n : Nat) : List Nat := (List.range n).filter fun j => decide (okz Z now j)
/-- Which of two places stands ahead. -/
def Tr (Z : List (Int × Int × Int)) (now : Int) (i j : Nat) : Prop := wz Z now j < wz Z now i ∨ (wz Z now i = wz Z now j ∧ i < j)
theorem ord_tr (Z : List (Int × Int × Int)) (now : Int) : Ord (Tr Z now) := by
  constructor
  · intro x y z h1 h2
    unfold Tr at *
    omega
  · intro x y h1 h2
    unfold Tr at *
    omega
theorem kept_yes {Z : List (Int × Int × Int)} {now : Int} {k : Nat} (h : okz Z now k) : kept Z now (k + 1) = kept Z now k ++ [k] := by
  unfold kept
  rw [List.range_succ, List.filter_append]
  simp [h]
theorem kept_no {Z : List (Int × Int × Int)} {now : Int} {k : Nat} (h : ¬ okz Z now k) : kept Z now (k + 1) = kept Z now k := by
  unfold kept
  rw [List.range_succ, List.filter_append]
  simp [h]
theorem kept_zero (Z : List (Int × Int × Int)) (now : Int) : kept Z now 0 = [] := rfl
theorem mem_kept {Z : List (Int × Int × Int)} {now : Int} {n j : Nat} : j ∈ kept Z now n ↔ j < n ∧ okz Z now j := by
  unfold kept
  simp
theorem kept_len (Z : List (Int × Int × Int)) (now : Int) (n : Nat) : (kept Z now n).length ≤ n := by
  unfold kept
  have := List.length_filter_le (fun j => decide (okz Z now j)) (List.range n)
  simpa using this
theorem kept_sorted (Z : List (Int × Int × Int)) (now : Int) (n : Nat) : (kept Z now n).Pairwise (· < ·) := by
  unfold kept
  exact List.Pairwise.filter _ List.pairwise_lt_range

structure IsRank (Z : List (Int × Int × Int)) (now : Int) (R : List Nat) : Prop where
  p : R.Perm (kept Z now Z.length)
  o : R.Pairwise (Tr Z now)
theorem one_order {T : Nat → Nat → Prop} (hT : Ord T) : ∀ {A B : List Nat}, A.Perm B → A.Pairwise T → B.Pairwise T → A = B
  | [], B, h, _, _ => (List.nil_perm.1 h).symm
  | x :: A, [], h, _, _ => absurd h.length_eq (by simp)
  | x :: A, y :: B, h, ha, hb => by
    rw [List.pairwise_cons] at ha hb
    have hx : x = y := by
      have h1 : x ∈ y :: B := h.mem_iff.1 (by simp)
      have h2 : y ∈ x :: A := h.mem_iff.2 (by simp)
      rcases List.mem_cons.1 h1 with e | h1
      · exact e
      · rcases List.mem_cons.1 h2 with e | h2
        · exact e.symm
        · exact absurd (ha.1 y h2) (hT.2 _ _ (hb.1 x h1))
    subst hx
    rw [one_order hT (List.Perm.cons_inv h) ha.2 hb.2]
theorem rank_one {Z : List (Int × Int × Int)} {now : Int} {R S : List Nat} (h : IsRank Z now R) (k : IsRank Z now S) : R = S := one_order (ord_tr Z now) (h.p.trans k.p.symm) h.o k.o

theorem okz_facts {Z : List (Int × Int × Int)} {now : Int} {j : Nat} (h : okz Z now j) : 1 ≤ (zn Z j).2.1 ∧ wz Z now j ≤ 9218868437227405312 ∧ 0 < wz Z now j := by
  obtain ⟨h1, h2, h3⟩ := h
  have hs : 1 ≤ (zn Z j).2.1 := by have := h1.1.1; have := h1.1.2.1; omega
  exact ⟨hs, scV_le h1 hs, Nat.pos_of_ne_zero h3⟩
theorem kb_pos {x : Nat} (h : x ≤ 9218868437227405312) : kb x = x + 9223372036854775808 := by unfold kb; rw [cb_num x (small_num h), if_pos (by omega)]
theorem cmpI_neg {x y : Nat} (hx : x ≤ 9218868437227405312) (hy : y ≤ 9218868437227405312) : cmpI x y < 0 ↔ x < y := by
  unfold cmpI
  rw [kb_pos hx, kb_pos hy]
  constructor
  · intro h
    split at h
    · omega
    · split at h <;> omega
  · intro h
    rw [if_pos (by omega)]; omega

/-- The order of places of the row that is sorted. -/
def Tk (Z : List (Int × Int × Int)) (now : Int) (K : List Nat) (x y : Nat) : Prop := Tr Z now (K.getD x 0) (K.getD y 0)
theorem ord_tk (Z : List (Int × Int × Int)) (now : Int) (K : List Nat) : Ord (Tk Z now K) :=
  ⟨fun _ _ _ => (ord_tr Z now).1 _ _ _, fun _ _ => (ord_tr Z now).2 _ _⟩
def Fk (K : List Nat) (x : Nat) : Int := ((K.getD x 0 : Nat) : Int)
def cfk (S K : List Nat) (x y : Nat) : Int := cmpI (S.getD (Fk K y).toNat 0) (S.getD (Fk K x).toNat 0)
theorem cross_range {Z : List (Int × Int × Int)} {now : Int} {n : Nat} {S K : List Nat} (hK : K = kept Z now n) (hS : ∀ j ∈ K, S.getD j 0 = wz Z now j) : (List.range K.length).Pairwise (Cross (Tk Z now K) (cfk S K)) := by
  rw [List.pairwise_iff_getElem]
  intro i j hi hj hij
  simp only [List.length_range] at hi hj
  simp only [List.getElem_range]
  have mi : K.getD i 0 ∈ K := at_mem hi
  have mj : K.getD j 0 ∈ K := at_mem hj
  have hlt : K.getD i 0 < K.getD j 0 := by
    have := kept_sorted Z now n
    rw [← hK] at this
    exact pair_at this hij hj
  have oi := okz_facts (mem_kept.1 (by rw [← hK]; exact mi)).2
  have oj := okz_facts (mem_kept.1 (by rw [← hK]; exact mj)).2
  have e : cfk S K j i < 0 ↔ wz Z now (K.getD i 0) < wz Z now (K.getD j 0) := by
    unfold cfk Fk
    rw [Int.toNat_natCast, Int.toNat_natCast, hS _ mi, hS _ mj]
    exact cmpI_neg oi.2.1 oj.2.1
  unfold Cross Tk Tr
  rw [e]
  omega
theorem map_range (K : List Nat) : (List.range K.length).map (fun x => K.getD x 0) = K := by
  apply List.ext_getElem
  · simp
  · intro j h1 h2
    simp [List.getD_eq_getElem?_getD, List.getElem?_eq_getElem h2]
theorem rank_of {Z : List (Int × Int × Int)} {now : Int} {K C : List Nat} (hK : K = kept Z now Z.length) (h1 : C.Perm (List.range K.length)) (h2 : C.Pairwise (Tk Z now K)) : IsRank Z now (C.map fun x => K.getD x 0) := by
  refine ⟨?_, ?_⟩
  · have := h1.map (fun x => K.getD x 0)
    rw [map_range] at this
    rw [← hK]; exact this
  · rw [List.pairwise_map]; exact h2

end Go.Proofs.Ytefpaagbopmmlaa
