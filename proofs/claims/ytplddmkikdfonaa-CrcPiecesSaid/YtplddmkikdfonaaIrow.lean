/- Proved: a slice of slices of bytes that reads as data is a list of rows of bytes, each with its place. -/
import Derived.Test.YtplddmkikdfonaaIn
namespace Go.Proofs.Ytplddmkikdfonaa
open Go.ChangeShapes Go.WideShapes Go.ChangeAt Go.RowKit

/-- A row that was handed in: where it lies, its room, its bytes. -/
structure Rw where
  ad : Option Addr
  cap : Nat
  l : List Nat
def Rw.none : Rw := ⟨Option.none, 0, []⟩
/-- A row's cell. -/
def sl (r : Rw) : Value := .slice r.ad r.l.length r.cap
/-- Such a row lies in the world. -/
def Lies (w : World) (r : Rw) : Prop := BV w r.ad r.l ∧ AllB r.l ∧ r.l.length ≤ maxLen ∧ (r.ad = Option.none → r.l = [] ∧ r.cap = 0)
/-- The slice at A reads as the list R of rows. -/
def RV (w : World) (A : Option Addr) (R : List Rw) : Prop :=
  R = [] ∨ ∃ b o, A = some ⟨b, o, Option.none⟩ ∧ b < w.heap.size ∧ ∀ j, j < R.length → w.cell? ⟨b, o + j, Option.none⟩ = some (sl (R.getD j Rw.none)) ∧ Lies w (R.getD j Rw.none)
theorem Lies.below {w w' : World} {r : Rw} (h : Lies w r) (hb : Below w.heap.size w w') : Lies w' r := ⟨h.1.below hb, h.2⟩
theorem RV.pos {w : World} {A : Option Addr} {R : List Rw} (h : RV w A R) (h0 : 0 < R.length) :
    ∃ b o, A = some ⟨b, o, Option.none⟩ ∧ b < w.heap.size ∧ ∀ j, j < R.length → w.cell? ⟨b, o + j, Option.none⟩ = some (sl (R.getD j Rw.none)) ∧ Lies w (R.getD j Rw.none) := by
  rcases h with rfl | h
  · simp at h0
  · exact h

theorem cells_row : Try.prog.cellsOf 22 = 1 := by kernel_rfl
theorem read_rw {H : Type} {enc : TypeId × Value → H} {W : World} {fuel : Nat} {v : Value} {x : DataW H × List MemPlace}
    (hf : DataW.trod enc Try.prog W 0 (fun _ => true) true fuel 22 [v] = some x) : ∃ r : Rw, v = sl r ∧ Lies W r := by
  have hf0 := hf
  rcases Go.Deep.open_slice1 Try.underlying22 cells_u8 hf with ⟨hcs, _⟩ | ⟨a, len', cap', m, n, V, D, Pl, hcs, _, hl, hm, _⟩
  · simp at hcs
    subst hcs
    exact ⟨Rw.none, rfl, BV.nil _ _, (fun _ h => by cases h), Nat.zero_le _, fun _ => ⟨rfl, rfl⟩⟩
  · simp at hcs
    subst hcs
    obtain ⟨L, hL, hv, hB, _, _⟩ := read_bv hf0
    subst hL
    exact ⟨⟨some a, cap', L⟩, rfl, hv, hB, by show L.length ≤ maxLen; omega, fun h => by cases h⟩
/-- A slice of rows that was read. -/
theorem read_rv {H : Type} {enc : TypeId × Value → H} {W : World} {a0 : Option Addr} {len cap fuel : Nat} {x : DataW H × List MemPlace}
    (hf : DataW.trod enc Try.prog W 0 (fun _ => true) true fuel 27 [.slice a0 len cap] = some x) :
    ∃ R : List Rw, R.length = len ∧ RV W a0 R := by
  rcases Go.Deep.open_slice1 Try.underlying27 cells_row hf with ⟨hcs, _⟩ | ⟨a, len', cap', m, n, V, D, Pl, hcs, _, hl, _, hm, _, hx⟩
  · simp at hcs
    obtain ⟨rfl, rfl, rfl⟩ := hcs
    exact ⟨[], rfl, Or.inl rfl⟩
  · simp at hcs
    obtain ⟨rfl, rfl, rfl⟩ := hcs
    simp only [if_true] at hm
    by_cases h0 : len = 0
    · subst h0
      exact ⟨[], rfl, Or.inl rfl⟩
    · have each : ∀ i, i < len → ∃ r : Rw, W.cell? (a.add i) = some (sl r) ∧ Lies W r := fun i hi => by
        obtain ⟨r, e, hr⟩ := read_rw (hx i (by omega)).2
        exact ⟨r, by rw [← e]; exact (hx i (by omega)).1, hr⟩
      obtain ⟨F, hF⟩ : ∃ F : Nat → Rw, ∀ i, i < len → W.cell? (a.add i) = some (sl (F i)) ∧ Lies W (F i) :=
        ⟨fun i => if h : i < len then (each i h).choose else Rw.none, fun i hi => by simp only [dif_pos hi]; exact (each i hi).choose_spec⟩
      obtain ⟨b, off, spot⟩ := a
      have hspot : spot = Option.none := by simpa [Addr.add] using World.cell?_spot (hF 0 (by omega)).1
      subst hspot
      have hc : ∀ j, j < len → W.cell? ⟨b, off + j, Option.none⟩ = some (sl (F j)) := fun j hj => by
        rw [← Go.WideShapes.add_plain]; exact (hF j hj).1
      have hL : ((List.range len).map F).length = len := by simp
      refine ⟨(List.range len).map F, hL, Or.inr ⟨b, off, rfl, World.block_lt_of_cell? W ⟨b, off + 0, Option.none⟩ (hc 0 (by omega)), fun j hj => ?_⟩⟩
      rw [hL] at hj
      have e : ((List.range len).map F).getD j Rw.none = F j := by rw [List.getD_eq_getElem?_getD, List.getElem?_map, List.getElem?_range hj]; rfl
      rw [e]
      exact ⟨hc j hj, (hF j hj).2⟩

/-- All rows, one behind the other. -/
def cat (R : List Rw) : List Nat := R.flatMap Rw.l
theorem cat_take (R : List Rw) (k : Nat) (h : k < R.length) : cat (R.take (k + 1)) = cat (R.take k) ++ (R.getD k Rw.none).l := by
  rw [List.take_succ_eq_append_getElem h, cat, List.flatMap_append, List.getD_eq_getElem?_getD, List.getElem?_eq_getElem h]
  simp [cat]
theorem cat_len_mono (R : List Rw) (k : Nat) (h : k < R.length) : (cat (R.take k)).length + (R.getD k Rw.none).l.length ≤ (cat R).length := by
  have h1 := cat_take R k h
  have h2 : cat R = cat (R.take (k + 1)) ++ cat (R.drop (k + 1)) := by
    rw [cat, cat, cat, ← List.flatMap_append, List.take_append_drop]
  rw [h2, h1]
  simp only [List.length_append]; omega

end Go.Proofs.Ytplddmkikdfonaa
