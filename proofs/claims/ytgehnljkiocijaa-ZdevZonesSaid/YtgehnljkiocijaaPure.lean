/- Proved: plain facts on lists. No program is named. -/
import Derived.RowKit3
namespace Go.Proofs.Ytgehnljkiocijaa

theorem take_more (L : List Nat) (k : Nat) (h : k < L.length) : L.take (k + 1) = L.take k ++ [L.getD k 0] := by
  rw [List.take_succ_eq_append_getElem h, List.getD_eq_getElem?_getD, List.getElem?_eq_getElem h]; rfl

/-- The k-th of the rows of m that stand one behind the other. -/
def nth (m : Nat) (L : List Nat) (k : Nat) : List Nat := (L.drop (m * k)).take m
theorem nth_len {m n : Nat} {L : List Nat} (h : L.length = m * n) (k : Nat) (hk : k < n) : (nth m L k).length = m := by
  have : m * (k + 1) ≤ m * n := Nat.mul_le_mul_left m hk
  rw [Nat.mul_succ] at this
  simp only [nth, List.length_take, List.length_drop, h]; omega
theorem nth_old {m n : Nat} {L : List Nat} (h : L.length = m * n) (P : List Nat) (k : Nat) (hk : k < n) : nth m (L ++ P) k = nth m L k := by
  have : m * (k + 1) ≤ m * n := Nat.mul_le_mul_left m hk
  rw [Nat.mul_succ] at this
  unfold nth
  rw [List.drop_append_of_le_length (by omega), List.take_append_of_le_length (by simp; omega)]
theorem nth_new {m n : Nat} {L P : List Nat} (h : L.length = m * n) (hP : P.length = m) : nth m (L ++ P) n = P := by
  unfold nth
  rw [← h, List.drop_left' rfl, List.take_of_length_le (by omega)]
theorem nth_all {m n : Nat} {L : List Nat} (h : L.length = m * n) (j : Nat) (hj : j < m * n) : L.getD j 0 = (nth m L (j / m)).getD (j % m) 0 := by
  have h0 : 0 < m := by
    rcases Nat.eq_zero_or_pos m with e | e
    · subst e; omega
    · exact e
  have hd := Nat.div_add_mod j m
  have hm := Nat.mod_lt j h0
  unfold nth
  simp only [List.getD_eq_getElem?_getD, List.getElem?_take, if_pos hm, List.getElem?_drop, hd]

end Go.Proofs.Ytgehnljkiocijaa
