/- Proved: a slice of int that reads as data is a list of ints. -/
import Derived.Test.YtgehnljkiocijaaAwk
import Derived.Deep.Slices
namespace Go.Proofs.Ytgehnljkiocijaa
open Go.ChangeShapes Go.WideShapes Go.ChangeAt Go.RowKit

/-- A slice of int that reads as a list of ints. -/
def IView (w : World) (v : Value) (Z : List Int) : Prop :=
  (∃ a cap, v = .slice a 0 cap ∧ Z = []) ∨
  (∃ b off cap, v = .slice (some ⟨b, off, none⟩) Z.length cap ∧ 0 < Z.length ∧ b < w.heap.size ∧ ∀ j, j < Z.length → w.cell? ⟨b, off + j, none⟩ = some (.int .i64 (Z.getD j 0)))

theorem int_of_trod {H : Type} {enc : TypeId × Value → H} {P : Program} {w : World} {base : Nat} {spare : Nat → Bool} {held : Bool} {n : Nat} {e : TypeId} {v : Value} {y : DataW H × List MemPlace}
    (ht : P.underlying e = some (.int .i64)) (h : DataW.trod enc P w base spare held n e [v] = some y) : ∃ z : Int, v = .int .i64 z := by
  cases n with
  | zero => simp [DataW.trod] at h
  | succ n =>
    unfold DataW.trod at h
    rw [ht] at h
    cases v <;> simp at h
    rename_i k z
    exact ⟨z, by simp_all⟩
theorem cells_i64 : Try.prog.cellsOf 3 = 1 := by kernel_rfl

/-- A slice of int that was read. -/
theorem read_iview {H : Type} {enc : TypeId × Value → H} {W : World} {a0 : Option Addr} {len cap fuel : Nat} {x : DataW H × List MemPlace}
    (hf : DataW.trod enc Try.prog W 0 (fun _ => true) true fuel 22 [.slice a0 len cap] = some x) : ∃ Z : List Int, Z.length = len ∧ IView W (.slice a0 len cap) Z := by
  rcases Go.Deep.open_slice1 Try.underlying22 cells_i64 hf with ⟨hcs, _⟩ | ⟨a, len', cap', m, n, V, D, Pl, hcs, _, hl, _, hm, _, hx⟩
  · simp at hcs
    obtain ⟨rfl, rfl, rfl⟩ := hcs
    exact ⟨[], rfl, Or.inl ⟨_, _, rfl, rfl⟩⟩
  · simp at hcs
    obtain ⟨rfl, rfl, rfl⟩ := hcs
    simp only [if_true] at hm
    by_cases h0 : len = 0
    · subst h0
      exact ⟨[], rfl, Or.inl ⟨_, _, rfl, rfl⟩⟩
    · have each : ∀ i, i < len → ∃ z : Int, W.cell? (a.add i) = some (.int .i64 z) := fun i hi => by
        obtain ⟨z, e⟩ := int_of_trod Try.underlying3 (hx i (by omega)).2
        exact ⟨z, by rw [← e]; exact (hx i (by omega)).1⟩
      obtain ⟨F, hF⟩ : ∃ F : Nat → Int, ∀ i, i < len → W.cell? (a.add i) = some (.int .i64 (F i)) :=
        ⟨fun i => if h : i < len then (each i h).choose else 0, fun i hi => by simp only [dif_pos hi]; exact (each i hi).choose_spec⟩
      obtain ⟨b, off, spot⟩ := a
      have hspot : spot = none := by simpa [Addr.add] using World.cell?_spot (hF 0 (by omega))
      subst hspot
      have hc : ∀ j, j < len → W.cell? ⟨b, off + j, none⟩ = some (.int .i64 (F j)) := fun j hj => by
        rw [← Go.WideShapes.add_plain]; exact hF j hj
      have hL : ((List.range len).map F).length = len := by simp
      refine ⟨(List.range len).map F, hL, Or.inr ⟨b, off, cap, by rw [hL], by rw [hL]; omega, ?_, fun j hj => ?_⟩⟩
      · exact World.block_lt_of_cell? W ⟨b, off + 0, none⟩ (hc 0 (by omega))
      · rw [hL] at hj
        rw [hc j hj, List.getD_eq_getElem?_getD, List.getElem?_map, List.getElem?_range hj]
        rfl

theorem iv_pos {w : World} {v : Value} {Z : List Int} (h : IView w v Z) (h0 : 0 < Z.length) :
    ∃ b off cap, v = .slice (some ⟨b, off, none⟩) Z.length cap ∧ b < w.heap.size ∧ ∀ j, j < Z.length → w.cell? ⟨b, off + j, none⟩ = some (.int .i64 (Z.getD j 0)) := by
  rcases h with ⟨_, _, _, rfl⟩ | ⟨b, off, cap, rfl, _, hb, hc⟩
  · simp at h0
  · exact ⟨b, off, cap, rfl, hb, hc⟩
theorem IView.on {w w' : World} {v : Value} {Z : List Int} (h : IView w v Z) (ha : At w w') : IView w' v Z := by
  rcases h with h | ⟨b, off, cap, h1, h2, h3, h4⟩
  · exact Or.inl h
  · exact Or.inr ⟨b, off, cap, h1, h2, Nat.lt_of_lt_of_le h3 ha.size, fun j hj => (Below.cell ha (p := ⟨b, off + j, none⟩) h3).trans (h4 j hj)⟩

end Go.Proofs.Ytgehnljkiocijaa
