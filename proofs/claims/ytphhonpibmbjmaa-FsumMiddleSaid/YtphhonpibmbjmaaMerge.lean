/- Proved: merging two runs that stand in order gives one; runs of a width, merged pair by pair, are runs of twice the width. Nothing of any program. -/
import Derived.Test.YtphhonpibmbjmaaInsert
namespace Go.Proofs.Ytphhonpibmbjmaa

def leB (a b : Nat) : Bool := decide (kb a ≤ kb b)
/-- Two lists in order become one. -/
def mg (A B : List Nat) : List Nat := List.merge A B leB

theorem mg_nil_r (A : List Nat) : mg A [] = A := List.merge_right A
theorem mg_nil_l (B : List Nat) : mg [] B = B := List.nil_merge B
theorem mg_left (x y : Nat) (A B : List Nat) (h : kb x ≤ kb y) : mg (x :: A) (y :: B) = x :: mg A (y :: B) := List.cons_merge_cons_pos leB A B (by simpa [leB] using h)
theorem mg_right (x y : Nat) (A B : List Nat) (h : kb y < kb x) : mg (x :: A) (y :: B) = y :: mg (x :: A) B := List.cons_merge_cons_neg leB A B (by simp [leB]; omega)
theorem mg_perm (A B : List Nat) : (mg A B).Perm (A ++ B) := List.merge_perm_append leB
theorem mg_len (A B : List Nat) : (mg A B).length = A.length + B.length := by simp [mg]
theorem mg_sorted (A B : List Nat) (hA : (A.map kb).Pairwise (· ≤ ·)) (hB : (B.map kb).Pairwise (· ≤ ·)) : ((mg A B).map kb).Pairwise (· ≤ ·) := by
  have e : ∀ L : List Nat, (L.map kb).Pairwise (· ≤ ·) ↔ L.Pairwise (fun a b => leB a b = true) := fun L => by
    rw [List.pairwise_map]
    exact ⟨fun h => h.imp (fun h => by simpa [leB] using h), fun h => h.imp (fun h => by simpa [leB] using h)⟩
  rw [e] at hA hB ⊢
  exact List.pairwise_merge (fun a b c h1 h2 => by simp [leB] at *; omega) (fun a b => by simp [leB]; omega) A B hA hB

theorem drop_at (L : List Nat) (i : Nat) (h : i < L.length) : L.drop i = L.getD i 0 :: L.drop (i + 1) := by
  rw [List.drop_eq_getElem_cons h, List.getD_eq_getElem?_getD, List.getElem?_eq_getElem h]; rfl

/-- What the merge still owes: D is written, of A the first i and of B the first j. -/
def Owes (A B D : List Nat) (i j : Nat) : Prop := D ++ mg (A.drop i) (B.drop j) = mg A B ∧ D.length = i + j
theorem owes_start (A B : List Nat) : Owes A B [] 0 0 := ⟨rfl, rfl⟩
theorem owes_left (A B D : List Nat) (i j : Nat) (hi : i < A.length) (hj : j < B.length) (h : Owes A B D i j) (hc : kb (A.getD i 0) ≤ kb (B.getD j 0)) : Owes A B (D ++ [A.getD i 0]) (i + 1) j := by
  refine ⟨?_, by simp [h.2]; omega⟩
  rw [← h.1, drop_at A i hi, drop_at B j hj, mg_left _ _ _ _ hc, List.append_assoc]; rfl
theorem owes_right (A B D : List Nat) (i j : Nat) (hi : i < A.length) (hj : j < B.length) (h : Owes A B D i j) (hc : kb (B.getD j 0) < kb (A.getD i 0)) : Owes A B (D ++ [B.getD j 0]) i (j + 1) := by
  refine ⟨?_, by simp [h.2]; omega⟩
  rw [← h.1, drop_at A i hi, drop_at B j hj, mg_right _ _ _ _ hc, List.append_assoc]; rfl
theorem owes_rest (A B D : List Nat) (i j : Nat) (hi : A.length ≤ i) (hj : j < B.length) (h : Owes A B D i j) : Owes A B (D ++ [B.getD j 0]) i (j + 1) := by
  refine ⟨?_, by simp [h.2]; omega⟩
  rw [← h.1, List.drop_eq_nil_of_le hi, drop_at B j hj, mg_nil_l, mg_nil_l, List.append_assoc]; rfl
theorem owes_end (A B D : List Nat) (i j : Nat) (hj : B.length ≤ j) (h : Owes A B D i j) : D ++ A.drop i = mg A B := by
  rw [← h.1, List.drop_eq_nil_of_le hj, mg_nil_r]

/-- Each run of wd numbers stands in order. -/
def Runs (wd : Nat) (R : List Nat) : Prop := ∀ a b, a < b → b < R.length → a / wd = b / wd → at' R a ≤ at' R b
theorem runs_one (R : List Nat) : Runs 1 R := fun a b h _ e => by simp at e; omega
theorem runs_all (wd : Nat) (R : List Nat) (h : R.length ≤ wd) (hr : Runs wd R) : SortedTo R.length R := fun a b hab hb =>
  hr a b hab hb (by rw [Nat.div_eq_of_lt (by omega), Nat.div_eq_of_lt (by omega)])
theorem getD_take_drop (R : List Nat) (p m j : Nat) (hj : j < m) : ((R.drop p).take m).getD j 0 = R.getD (p + j) 0 := by
  simp [List.getD_eq_getElem?_getD, hj]
theorem run_sorted (wd : Nat) (R : List Nat) (p m : Nat) (hw : 0 < wd) (hm : m ≤ wd) (hp : wd ∣ p) (hr : Runs wd R) : (((R.drop p).take m).map kb).Pairwise (· ≤ ·) := by
  rw [List.pairwise_iff_getElem]
  intro i j hi hj hij
  simp only [List.length_map, List.length_take, List.length_drop] at hi hj
  obtain ⟨q, rfl⟩ := hp
  have h := hr (wd * q + i) (wd * q + j) (by omega) (by omega) (by rw [Nat.mul_add_div hw, Nat.mul_add_div hw, Nat.div_eq_of_lt (by omega), Nat.div_eq_of_lt (by omega)])
  have e : ∀ t (ht : t < (((R.drop (wd * q)).take m).map kb).length), (((R.drop (wd * q)).take m).map kb)[t] = at' R (wd * q + t) := fun t ht => by
    simp only [List.length_map, List.length_take, List.length_drop] at ht
    rw [List.getElem_map, List.getElem_take, List.getElem_drop]
    unfold at'
    rw [List.getD_eq_getElem?_getD, List.getElem?_eq_getElem (by omega)]; rfl
  rw [e, e]
  exact h
theorem runs_append (w2 : Nat) (D M : List Nat) (hw : 0 < w2) (hd : w2 ∣ D.length) (hM : (M.map kb).Pairwise (· ≤ ·)) (hD : Runs w2 D) : Runs w2 (D ++ M) := by
  intro a b hab hb e
  rw [List.length_append] at hb
  have hs := pairwise_sorted M hM
  obtain ⟨q, hq⟩ := hd
  have gl : ∀ t, t < D.length → at' (D ++ M) t = at' D t := fun t ht => by simp [at', List.getD_eq_getElem?_getD, List.getElem?_append_left ht]
  have gr : ∀ t, D.length ≤ t → at' (D ++ M) t = at' M (t - D.length) := fun t ht => by simp [at', List.getD_eq_getElem?_getD, List.getElem?_append_right ht]
  by_cases h1 : b < D.length
  · rw [gl a (by omega), gl b h1]; exact hD a b hab h1 e
  · by_cases h2 : D.length ≤ a
    · rw [gr a h2, gr b (by omega)]; exact hs _ _ (by omega) (by omega)
    · exfalso
      have e1 : a / w2 < q := Nat.div_lt_of_lt_mul (by rw [← hq]; omega)
      have e2 : q ≤ b / w2 := (Nat.le_div_iff_mul_le hw).2 (by rw [Nat.mul_comm, ← hq]; omega)
      omega

/-- The pairs up to p are merged: D. -/
def Paired (wd : Nat) (R D : List Nat) (p : Nat) : Prop := D.length = p ∧ p ≤ R.length ∧ D.Perm (R.take p) ∧ Runs (2 * wd) D ∧ (p < R.length → 2 * wd ∣ p)
theorem paired_start (wd : Nat) (R : List Nat) : Paired wd R [] 0 := ⟨rfl, Nat.zero_le _, by simp, fun a b _ h => absurd h (Nat.not_lt_zero b), fun _ => Nat.dvd_zero _⟩
theorem paired_step (wd : Nat) (R D : List Nat) (p m e : Nat) (hw : 0 < wd) (hr : Runs wd R) (hp : p < R.length) (hm : m = min wd (R.length - p)) (he : e = min (2 * wd) (R.length - p)) (h : Paired wd R D p) :
    Paired wd R (D ++ mg ((R.drop p).take m) ((R.drop (p + m)).take (e - m))) (p + e) := by
  obtain ⟨h1, h2, h3, h4, h5⟩ := h
  have hd := h5 hp
  have hd' : wd ∣ p := Nat.dvd_trans (Nat.dvd_mul_left wd 2) hd
  have lA : ((R.drop p).take m).length = m := by simp; omega
  have lB : ((R.drop (p + m)).take (e - m)).length = e - m := by simp; omega
  have sA := run_sorted wd R p m hw (by omega) hd' hr
  have sB : (((R.drop (p + m)).take (e - m)).map kb).Pairwise (· ≤ ·) := by
    by_cases c : e - m = 0
    · rw [c]; simp
    · exact run_sorted wd R (p + m) (e - m) hw (by omega) (by rw [show m = wd by omega]; exact Nat.dvd_add hd' (Nat.dvd_refl wd)) hr
  refine ⟨by rw [List.length_append, mg_len, lA, lB]; omega, by omega, ?_, runs_append (2 * wd) D _ (by omega) (by rw [h1]; exact hd) (mg_sorted _ _ sA sB) h4, fun hlt => ?_⟩
  · have e1 : R.take (p + e) = R.take p ++ ((R.drop p).take m ++ (R.drop (p + m)).take (e - m)) := by
      rw [show p + e = p + (m + (e - m)) by omega, List.take_add, List.take_add, List.drop_drop]
    rw [e1]
    exact h3.append (mg_perm _ _)
  · rw [show e = 2 * wd by omega]
    exact Nat.dvd_add hd (Nat.dvd_refl _)
theorem paired_end (wd : Nat) (R D : List Nat) (h : Paired wd R D R.length) : D.Perm R ∧ Runs (2 * wd) D := ⟨by simpa using h.2.2.1, h.2.2.2.1⟩

end Go.Proofs.Ytphhonpibmbjmaa
