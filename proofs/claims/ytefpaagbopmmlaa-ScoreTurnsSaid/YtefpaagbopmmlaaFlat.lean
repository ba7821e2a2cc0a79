/- Proved: a row of zones of the call's own, and a slice of zones as a source of an append. -/
import Derived.Test.YtefpaagbopmmlaaTrn
namespace Go.Proofs.Ytefpaagbopmmlaa
open Go.RowKit Go.Sort Fl

/-- The cells of zones, one behind the other. -/
def flat : List (Int × Int × Int) → List Value
  | [] => []
  | z :: Z => .int .i64 z.1 :: .int .i64 z.2.1 :: .int .i64 z.2.2 :: flat Z
theorem flat_len : ∀ Z : List (Int × Int × Int), (flat Z).length = Z.length * 3
  | [] => rfl
  | z :: Z => by simp only [flat, List.length_cons, flat_len Z]; omega
theorem flat_app : ∀ A B : List (Int × Int × Int), flat (A ++ B) = flat A ++ flat B
  | [], _ => rfl
  | z :: A, B => by simp only [List.cons_append, flat, flat_app A B]
theorem flat_at : ∀ (Z : List (Int × Int × Int)) (j : Nat), j < Z.length → (flat Z)[j * 3]? = some (.int .i64 (zn Z j).1) ∧ (flat Z)[j * 3 + 1]? = some (.int .i64 (zn Z j).2.1) ∧ (flat Z)[j * 3 + 2]? = some (.int .i64 (zn Z j).2.2)
  | [], j, h => absurd h (by simp)
  | z :: Z, 0, _ => ⟨rfl, rfl, rfl⟩
  | z :: Z, j + 1, h => by
    have := flat_at Z j (by simpa using h)
    rw [show (j + 1) * 3 = j * 3 + 3 by omega]
    exact this
theorem flat_one : ∀ (Z : List (Int × Int × Int)), ∀ u ∈ flat Z, u.oneCell' = true
  | [], _, h => by cases h
  | z :: Z, u, h => by
    simp only [flat, List.mem_cons] at h
    rcases h with rfl | rfl | rfl | h
    · rfl
    · rfl
    · rfl
    · exact flat_one Z u h
/-- The cells of a list of zones lie from here on. -/
def Zc (w : World) (b off : Nat) (Z : List (Int × Int × Int)) : Prop := ∀ j, j < Z.length →
  w.cell? ⟨b, off + j * 3, none⟩ = some (.int .i64 (zn Z j).1) ∧ w.cell? ⟨b, off + j * 3 + 1, none⟩ = some (.int .i64 (zn Z j).2.1) ∧ w.cell? ⟨b, off + j * 3 + 2, none⟩ = some (.int .i64 (zn Z j).2.2)
theorem zc_flat {w : World} {b off : Nat} {Z : List (Int × Int × Int)} (h : Zc w b off Z) : ∀ j u, (flat Z)[j]? = some u → w.cell? ((⟨b, off, none⟩ : Addr).add j) = some u := by
  intro j u hu
  have hj : j < Z.length * 3 := by
    have := (List.getElem?_eq_some_iff.1 hu).1
    rw [flat_len] at this
    exact this
  rw [Go.WideShapes.add_plain]
  obtain ⟨f0, f1, f2⟩ := flat_at Z (j / 3) (by omega)
  obtain ⟨c0, c1, c2⟩ := h (j / 3) (by omega)
  rcases (show j % 3 = 0 ∨ j % 3 = 1 ∨ j % 3 = 2 by omega) with e | e | e
  · rw [show j / 3 * 3 = j by omega] at f0 c0
    rw [f0] at hu; rw [← hu]; exact c0
  · rw [show j / 3 * 3 + 1 = j by omega] at f1
    rw [show off + j / 3 * 3 + 1 = off + j by omega] at c1
    rw [f1] at hu; rw [← hu]; exact c1
  · rw [show j / 3 * 3 + 2 = j by omega] at f2
    rw [show off + j / 3 * 3 + 2 = off + j by omega] at c2
    rw [f2] at hu; rw [← hu]; exact c2
theorem zn_take (Z : List (Int × Int × Int)) (k j : Nat) (h : j < k) : zn (Z.take k) j = zn Z j := by
  unfold zn
  rw [List.getD_eq_getElem?_getD, List.getD_eq_getElem?_getD, List.getElem?_take, if_pos h]
theorem zn_drop (Z : List (Int × Int × Int)) (k j : Nat) : zn (Z.drop k) j = zn Z (k + j) := by
  unfold zn
  rw [List.getD_eq_getElem?_getD, List.getD_eq_getElem?_getD, List.getElem?_drop]
theorem zc_take {w : World} {b off : Nat} {Z : List (Int × Int × Int)} (h : Zc w b off Z) (k : Nat) : Zc w b off (Z.take k) := by
  intro j hj
  rw [List.length_take] at hj
  rw [zn_take Z k j (by omega)]
  exact h j (by omega)
theorem zc_drop {w : World} {b off : Nat} {Z : List (Int × Int × Int)} (h : Zc w b off Z) (k : Nat) : Zc w b (off + k * 3) (Z.drop k) := by
  intro j hj
  rw [List.length_drop] at hj
  rw [zn_drop Z k j]
  have := h (k + j) (by omega)
  rw [show off + k * 3 + j * 3 = off + (k + j) * 3 by omega]
  exact this
theorem zc_below {w w' : World} {B b off : Nat} {Z : List (Int × Int × Int)} (h : Zc w b off Z) (hb : Below B w w') (hB : b < B) : Zc w' b off Z := fun j hj =>
  ⟨(hb.cell (p := ⟨b, off + j * 3, none⟩) hB).trans (h j hj).1, (hb.cell (p := ⟨b, off + j * 3 + 1, none⟩) hB).trans (h j hj).2.1, (hb.cell (p := ⟨b, off + j * 3 + 2, none⟩) hB).trans (h j hj).2.2⟩
/-- A row of the call's own, as a slice of zones. -/
theorem own_zview {w : World} {B T n : Nat} {v : Value} {Z : List (Int × Int × Int)} (h : w.ownsRow B T 3 v n (flat Z)) (hZ : Z.length = n) : ZView w v Z := by
  rcases h.2 with ⟨rfl, rfl⟩ | ⟨g, cap, cur, rfl, _⟩
  · exact .inl ⟨_, _, rfl, List.eq_nil_of_length_eq_zero hZ⟩
  · by_cases h0 : n = 0
    · subst h0
      exact .inl ⟨_, _, rfl, List.eq_nil_of_length_eq_zero hZ⟩
    · refine .inr ⟨g, 0, cap, by rw [hZ], by omega, (h.lt g rfl).2, fun j hj => ?_⟩
      obtain ⟨f0, f1, f2⟩ := flat_at Z j hj
      rw [Nat.zero_add]
      rw [h.cellAt (j * 3) (by omega), h.cellAt (j * 3 + 1) (by omega), h.cellAt (j * 3 + 2) (by omega)]
      exact ⟨f0, f1, f2⟩
theorem info_zone : (Try.prog.info? 23).map (fun i => (i.zero, i.size, i.bytes)) = some (some (.agg #[.int .i64 0, .int .i64 0, .int .i64 0]), 3, 24) := by kernel_rfl
theorem new_zone (w : World) (T : TypeId) : ∀ j u, (flat [(3, 3, 0)])[j]? = some u → (w.alloc (.cells #[.int .i64 3, .int .i64 3, .int .i64 0] T)).cell? ((⟨w.heap.size, 0, none⟩ : Addr).add j) = some u := by
  intro j u hj
  match j, hj with
  | 0, hj => simp [flat] at hj; subst hj; simp [Addr.add, go_sem]
  | 1, hj => simp [flat] at hj; subst hj; simp [Addr.add, go_sem]
  | 2, hj => simp [flat] at hj; subst hj; simp [Addr.add, go_sem]
  | j + 3, hj => simp [flat] at hj
theorem read_zcap {H : Type} {enc : TypeId × Value → H} {W : World} {a0 : Option Addr} {len cap fuel : Nat} {x : DataW H × List MemPlace}
    (hf : DataW.trod enc Try.prog W 0 (fun _ => true) true fuel 35 [.slice a0 len cap] = some x) : len ≤ cap := by
  rcases Go.Deep.open_slice Try.underlying35 hf with ⟨hcs, _⟩ | ⟨a, len', cap', m, n, D, Pl, hcs, _, hl, _⟩
  · simp at hcs
    omega
  · simp at hcs
    obtain ⟨_, rfl, rfl⟩ := hcs
    exact hl

end Go.Proofs.Ytefpaagbopmmlaa
