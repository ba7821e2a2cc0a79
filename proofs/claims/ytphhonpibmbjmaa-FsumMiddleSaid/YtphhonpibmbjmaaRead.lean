/- Proved: a slice of float64 that reads as data is a list of words below 2^64. -/
import Derived.Test.YtphhonpibmbjmaaSortNone
import Derived.Deep.Slices
import Derived.ProofKit
namespace Go.Proofs.Ytphhonpibmbjmaa
open Go.ChangeShapes Go.WideShapes Go.ChangeAt Go.RowKit Fl

theorem float_of_trod {H : Type} {enc : TypeId × Value → H} {P : Program} {w : World} {base : Nat} {spare : Nat → Bool} {held : Bool} {n : Nat} {e : TypeId} {v : Value} {y : DataW H × List MemPlace}
    (ht : P.underlying e = some (.float .f64)) (h : DataW.trod enc P w base spare held n e [v] = some y) : ∃ b, v = .float .f64 b ∧ b < 18446744073709551616 := by
  cases n with
  | zero => simp [DataW.trod] at h
  | succ n =>
    unfold DataW.trod at h
    rw [ht] at h
    cases v <;> simp at h
    rename_i k b
    exact ⟨b, by simp_all, by simp_all [Lit.wf]⟩

theorem cells_f64 : Try.prog.cellsOf 25 = 1 := by kernel_rfl

/-- A slice of float64 that was read. -/
theorem read_view {H : Type} {enc : TypeId × Value → H} {W : World} {a0 : Option Addr} {len cap fuel : Nat} {x : DataW H × List MemPlace}
    (hf : DataW.trod enc Try.prog W 0 (fun _ => true) true fuel 22 [.slice a0 len cap] = some x) :
    ∃ L : List Nat, L.length = len ∧ View W (.slice a0 len cap) L ∧ ∀ x ∈ L, x < 18446744073709551616 := by
  rcases Go.Deep.open_slice1 Try.underlying22 cells_f64 hf with ⟨hcs, _⟩ | ⟨a, len', cap', m, n, V, D, Pl, hcs, _, hl, _, hm, _, hx⟩
  · simp at hcs
    obtain ⟨rfl, rfl, rfl⟩ := hcs
    exact ⟨[], rfl, Or.inl ⟨rfl, rfl⟩, fun _ h => by cases h⟩
  · simp at hcs
    obtain ⟨rfl, rfl, rfl⟩ := hcs
    simp only [if_true] at hm
    by_cases h0 : len = 0
    · subst h0
      exact ⟨[], rfl, Or.inr (Or.inl ⟨a, cap, rfl, rfl⟩), fun _ h => by cases h⟩
    · have hv : ∀ i, i < len → ∃ b, V i = .float .f64 b ∧ b < 18446744073709551616 := fun i hi => float_of_trod Try.underlying25 (hx i (by omega)).2
      have each : ∀ i, i < len → ∃ b : Nat, b < 18446744073709551616 ∧ W.cell? (a.add i) = some (.float .f64 b) := fun i hi => by
        obtain ⟨b, e, h⟩ := hv i hi
        exact ⟨b, h, by rw [← e]; exact (hx i (by omega)).1⟩
      obtain ⟨F, hF⟩ : ∃ F : Nat → Nat, ∀ i, i < len → F i < 18446744073709551616 ∧ W.cell? (a.add i) = some (.float .f64 (F i)) :=
        ⟨fun i => if h : i < len then (each i h).choose else 0, fun i hi => by simp only [dif_pos hi]; exact (each i hi).choose_spec⟩
      obtain ⟨b, off, spot⟩ := a
      have hspot : spot = none := by simpa [Addr.add] using World.cell?_spot (hF 0 (by omega)).2
      subst hspot
      have hc : ∀ j, j < len → W.cell? ⟨b, off + j, none⟩ = some (.float .f64 (F j)) := fun j hj => by
        rw [← Go.WideShapes.add_plain]; exact (hF j hj).2
      have hL : ((List.range len).map F).length = len := by simp
      refine ⟨(List.range len).map F, hL, Or.inr (Or.inr ⟨b, off, cap, by rw [hL], by rw [hL]; omega, ?_, fun j hj => ?_⟩), fun x hx => ?_⟩
      · exact World.block_lt_of_cell? W ⟨b, off + 0, none⟩ (hc 0 (by omega))
      · rw [hL] at hj
        rw [hc j hj, List.getD_eq_getElem?_getD, List.getElem?_map, List.getElem?_range hj]
        rfl
      · simp only [List.mem_map, List.mem_range] at hx
        obtain ⟨i, hi, rfl⟩ := hx
        exact (hF i hi).1

theorem read_cap {H : Type} {enc : TypeId × Value → H} {W : World} {a0 : Option Addr} {len cap fuel : Nat} {x : DataW H × List MemPlace}
    (hf : DataW.trod enc Try.prog W 0 (fun _ => true) true fuel 22 [.slice a0 len cap] = some x) : len ≤ cap := by
  rcases Go.Deep.open_slice1 Try.underlying22 cells_f64 hf with ⟨hcs, _⟩ | ⟨a, len', cap', m, n, V, D, Pl, hcs, _, hl, _⟩
  · simp at hcs
    omega
  · simp at hcs
    obtain ⟨_, rfl, rfl⟩ := hcs
    exact hl

end Go.Proofs.Ytphhonpibmbjmaa
