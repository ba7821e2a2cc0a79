/- Proved: words for transactions: a slice that reads as a list of them; whether they stand in order. -/
import Derived.Test.YtgmekkenodiclaaPv
namespace Go.Proofs.Ytgmekkenodiclaa
open Go.RowKit

/-- The blocks rise. -/
def Rs (P : List Pt) : Prop := ∀ j, 1 ≤ j → j < P.length → (P.getD (j - 1) pz).1 < (P.getD j pz).1
/-- A transaction: its time, its blocks. -/
abbrev Tx := Int × List Pt
def txz : Tx := (0, [])
theorem tx_mem {L : List Tx} {j : Nat} (h : j < L.length) : L.getD j txz ∈ L := by
  rw [List.getD_eq_getElem?_getD, List.getElem?_eq_getElem h]; exact List.getElem_mem _
theorem tx_at {L : List Tx} {x : Tx} (h : x ∈ L) : ∃ j, j < L.length ∧ L.getD j txz = x := by
  obtain ⟨j, hj, e⟩ := List.getElem_of_mem h
  exact ⟨j, hj, by rw [List.getD_eq_getElem?_getD, List.getElem?_eq_getElem hj]; exact e⟩
/-- The slice at A reads as the list L of transactions. -/
def TV (w : World) (A : Option Addr) (L : List Tx) : Prop :=
  L = [] ∨ ∃ g o, A = some ⟨g, o, none⟩ ∧ g < w.heap.size ∧ ∀ j, j < L.length → w.cell? ⟨g, o + j * 2, none⟩ = some (.int .i64 (L.getD j txz).1) ∧ ∃ B c, w.cell? ⟨g, o + j * 2 + 1, none⟩ = some (.slice B (L.getD j txz).2.length c) ∧ PV w B (L.getD j txz).2
theorem TV.pos {w : World} {A : Option Addr} {L : List Tx} (h : TV w A L) (h0 : 0 < L.length) : ∃ g o, A = some ⟨g, o, none⟩ ∧ g < w.heap.size ∧ ∀ j, j < L.length → w.cell? ⟨g, o + j * 2, none⟩ = some (.int .i64 (L.getD j txz).1) ∧ ∃ B c, w.cell? ⟨g, o + j * 2 + 1, none⟩ = some (.slice B (L.getD j txz).2.length c) ∧ PV w B (L.getD j txz).2 := by
  rcases h with rfl | h
  · simp at h0
  · exact h
theorem TV.on {w w' : World} {A : Option Addr} {L : List Tx} (h : TV w A L) (hb : At w w') : TV w' A L := by
  rcases h with h | ⟨g, o, rfl, hlt, hc⟩
  · exact Or.inl h
  · refine Or.inr ⟨g, o, rfl, Nat.lt_of_lt_of_le hlt hb.size, fun j hj => ?_⟩
    obtain ⟨h1, B, c, h2, h3⟩ := hc j hj
    exact ⟨(Below.cell hb (p := ⟨g, o + j * 2, none⟩) hlt).trans h1, B, c, (Below.cell hb (p := ⟨g, o + j * 2 + 1, none⟩) hlt).trans h2, h3.on hb⟩
theorem TV.nil (w : World) (A : Option Addr) : TV w A [] := Or.inl rfl
theorem TV.take {w : World} {A : Option Addr} {L : List Tx} (h : TV w A L) (k : Nat) : TV w A (L.take k) := by
  rcases h with rfl | ⟨g, o, rfl, hlt, hc⟩
  · exact Or.inl (by simp)
  · refine Or.inr ⟨g, o, rfl, hlt, fun j hj => ?_⟩
    rw [List.length_take] at hj
    have e : (L.take k).getD j txz = L.getD j txz := by simp only [List.getD_eq_getElem?_getD, List.getElem?_take, if_pos (show j < k by omega)]
    rw [e]; exact hc j (by omega)
theorem TV.drop {w : World} {g o : Nat} {L : List Tx} (h : TV w (some ⟨g, o, none⟩) L) (k : Nat) : TV w (some ⟨g, o + k * 2, none⟩) (L.drop k) := by
  rcases h with rfl | ⟨g', o', he, hlt, hc⟩
  · exact Or.inl (by simp)
  · injection he with he
    injection he with h1 h2
    subst h1 h2
    refine Or.inr ⟨_, _, rfl, hlt, fun j hj => ?_⟩
    rw [List.length_drop] at hj
    have e : (L.drop k).getD j txz = L.getD (k + j) txz := by simp only [List.getD_eq_getElem?_getD, List.getElem?_drop]
    have := hc (k + j) (by omega)
    rw [e, show o + k * 2 + j * 2 = o + (k + j) * 2 by omega]; exact this

/-- The time of the last one of the first k, or 0. -/
def la (L : List Tx) : Nat → Int
  | 0 => 0
  | k + 1 => (L.getD k txz).1
/-- One stands in order, behind the time t. -/
structure O1 (t : Int) (x : Tx) : Prop where
  lo : t < x.1
  hi : x.1 ≤ 1099511627776
  ne : x.2 ≠ []
  rs : Rs x.2
/-- All stand in order. -/
def Od (L : List Tx) : Prop := ∀ j, j < L.length → O1 (la L j) (L.getD j txz)
noncomputable def odB (L : List Tx) : Bool := @decide (Od L) (Classical.propDecidable _)
theorem odB_yes {L : List Tx} (h : Od L) : odB L = true := @decide_eq_true _ (Classical.propDecidable _) h
theorem odB_no {L : List Tx} (h : ¬ Od L) : odB L = false := @decide_eq_false _ (Classical.propDecidable _) h
theorem odB_at {L : List Tx} {j : Nat} (hj : j < L.length) (h : ¬ O1 (la L j) (L.getD j txz)) : odB L = false := odB_no fun h' => h (h' j hj)
theorem odB_iff (L : List Tx) : odB L = true ↔ Od L := @decide_eq_true_iff _ (Classical.propDecidable _)

end Go.Proofs.Ytgmekkenodiclaa
