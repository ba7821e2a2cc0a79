/- Proved: a slice of steps that reads as data is a list of pairs of ints. -/
import Derived.Test.YtheldhbdhadliaaMrk
namespace Go.Proofs.Ytheldhbdhadliaa
open Go.ChangeShapes Go.WideShapes Go.ChangeAt Go.RowKit

/-- A slice of steps that reads as a list of pairs. -/
def SView (w : World) (v : Value) (Z : List (Int × Int)) : Prop :=
  (∃ a cap, v = .slice a 0 cap ∧ Z = []) ∨
  (∃ b off cap, v = .slice (some ⟨b, off, none⟩) Z.length cap ∧ 0 < Z.length ∧ b < w.heap.size ∧ ∀ j, j < Z.length →
    w.cell? ⟨b, off + j * 2, none⟩ = some (.int .i64 (Z.getD j (0, 0)).1) ∧ w.cell? ⟨b, off + j * 2 + 1, none⟩ = some (.int .i64 (Z.getD j (0, 0)).2))
theorem step_cells : Try.prog.cellsOf 32 = 2 := by kernel_rfl
theorem step_at {H : Type} {enc : TypeId × Value → H} {W : World} {a : Addr} {base : Nat} {spare : Nat → Bool} {held : Bool} {n : Nat} {cs : List Value} {y : DataW H × List MemPlace}
    (h1 : W.cells? 0 a 2 = some cs) (h2 : DataW.trod enc Try.prog W base spare held n 32 cs = some y) :
    ∃ l s : Int, W.cell? (a.add 0) = some (.int .i64 l) ∧ W.cell? (a.add 1) = some (.int .i64 s) := by
  obtain ⟨_, hlen, hc⟩ := World.cells?_some h1
  obtain ⟨xs, m, _, _, _, hx, hf⟩ := DataW.trod_struct Try.underlying32 h2
  match cs, hlen, xs, hx with
  | [c0, c1], _, [x0, x1], _ =>
    have k0 := hf 0 _ rfl
    have k1 := hf 1 _ rfl
    simp only [List.getElem?_cons_zero, List.getElem?_cons_succ] at k0 k1
    obtain ⟨l, rfl⟩ := int_of_trod Try.underlying3 k0
    obtain ⟨s, rfl⟩ := int_of_trod Try.underlying3 k1
    exact ⟨l, s, hc 0 (by omega), hc 1 (by omega)⟩

/-- A slice of steps that was read. -/
theorem read_sview {H : Type} {enc : TypeId × Value → H} {W : World} {a0 : Option Addr} {len cap fuel : Nat} {x : DataW H × List MemPlace}
    (hf : DataW.trod enc Try.prog W 0 (fun _ => true) true fuel 22 [.slice a0 len cap] = some x) : ∃ Z : List (Int × Int), Z.length = len ∧ SView W (.slice a0 len cap) Z := by
  rcases Go.Deep.open_slice Try.underlying22 hf with ⟨hcs, _⟩ | ⟨a, len', cap', m, n, D, Pl, hcs, _, hl, _, hm, _, hx⟩
  · simp at hcs
    obtain ⟨rfl, rfl, rfl⟩ := hcs
    exact ⟨[], rfl, Or.inl ⟨_, _, rfl, rfl⟩⟩
  · simp at hcs
    obtain ⟨rfl, rfl, rfl⟩ := hcs
    simp only [if_true] at hm
    rw [step_cells] at hx
    by_cases h0 : len = 0
    · subst h0
      exact ⟨[], rfl, Or.inl ⟨_, _, rfl, rfl⟩⟩
    · have each : ∀ i, i < len → ∃ l s : Int, W.cell? ((a.add (i * 2)).add 0) = some (.int .i64 l) ∧ W.cell? ((a.add (i * 2)).add 1) = some (.int .i64 s) := fun i hi => by
        obtain ⟨cs, h1, h2⟩ := hx i (by omega)
        exact step_at h1 h2
      obtain ⟨G, hG⟩ : ∃ G : Nat → Int × Int, ∀ i, i < len → W.cell? ((a.add (i * 2)).add 0) = some (.int .i64 (G i).1) ∧ W.cell? ((a.add (i * 2)).add 1) = some (.int .i64 (G i).2) :=
        ⟨fun i => if h : i < len then ((each i h).choose, (each i h).choose_spec.choose) else (0, 0), fun i hi => by simp only [dif_pos hi]; exact (each i hi).choose_spec.choose_spec⟩
      obtain ⟨b, off, spot⟩ := a
      have hspot : spot = none := by simpa [Addr.add] using World.cell?_spot (hG 0 (by omega)).1
      subst hspot
      simp only [Go.WideShapes.add_plain, Nat.add_zero] at hG
      have hL : ((List.range len).map G).length = len := by simp
      refine ⟨(List.range len).map G, hL, Or.inr ⟨b, off, cap, by rw [hL], by rw [hL]; omega, ?_, fun j hj => ?_⟩⟩
      · exact World.block_lt_of_cell? W ⟨b, off + 0 * 2, none⟩ (hG 0 (by omega)).1
      · rw [hL] at hj
        have e : ((List.range len).map G).getD j (0, 0) = G j := by
          rw [List.getD_eq_getElem?_getD, List.getElem?_map, List.getElem?_range hj]; rfl
        rw [e]
        exact hG j hj
theorem sv_pos {w : World} {v : Value} {Z : List (Int × Int)} (h : SView w v Z) (h0 : 0 < Z.length) :
    ∃ b off cap, v = .slice (some ⟨b, off, none⟩) Z.length cap ∧ b < w.heap.size ∧ ∀ j, j < Z.length → w.cell? ⟨b, off + j * 2, none⟩ = some (.int .i64 (Z.getD j (0, 0)).1) ∧ w.cell? ⟨b, off + j * 2 + 1, none⟩ = some (.int .i64 (Z.getD j (0, 0)).2) := by
  rcases h with ⟨_, _, _, rfl⟩ | ⟨b, off, cap, rfl, _, hb, hc⟩
  · simp at h0
  · exact ⟨b, off, cap, rfl, hb, hc⟩
theorem SView.on {w w' : World} {v : Value} {Z : List (Int × Int)} (h : SView w v Z) (ha : At w w') : SView w' v Z := by
  rcases h with h | ⟨b, off, cap, h1, h2, h3, h4⟩
  · exact Or.inl h
  · exact Or.inr ⟨b, off, cap, h1, h2, Nat.lt_of_lt_of_le h3 ha.size, fun j hj => ⟨(Below.cell ha (p := ⟨b, off + j * 2, none⟩) h3).trans (h4 j hj).1, (Below.cell ha (p := ⟨b, off + j * 2 + 1, none⟩) h3).trans (h4 j hj).2⟩⟩

end Go.Proofs.Ytheldhbdhadliaa
