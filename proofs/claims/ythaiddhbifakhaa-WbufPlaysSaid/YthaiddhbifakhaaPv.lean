/- Proved: words for a list of blocks to be written; a call that leaves the world alone, met in a region that draws. -/
import Derived.Test.YthaiddhbifakhaaGet
namespace Go.Proofs.Ythaiddhbifakhaa
open Go.RowKit

/-- The slice at A reads as the list P of blocks to be written. -/
def PV (w : World) (A : Option Addr) (P : List Pt) : Prop :=
  P = [] ∨ ∃ g o, A = some ⟨g, o, none⟩ ∧ g < w.heap.size ∧ ∀ j, j < P.length → w.cell? ⟨g, o + j * 2, none⟩ = some (.int .i64 (P.getD j pz).1) ∧ ∃ B c, w.cell? ⟨g, o + j * 2 + 1, none⟩ = some (.slice B (P.getD j pz).2.length c) ∧ BV w B (P.getD j pz).2
theorem PV.pos {w : World} {A : Option Addr} {P : List Pt} (h : PV w A P) (h0 : 0 < P.length) : ∃ g o, A = some ⟨g, o, none⟩ ∧ g < w.heap.size ∧ ∀ j, j < P.length → w.cell? ⟨g, o + j * 2, none⟩ = some (.int .i64 (P.getD j pz).1) ∧ ∃ B c, w.cell? ⟨g, o + j * 2 + 1, none⟩ = some (.slice B (P.getD j pz).2.length c) ∧ BV w B (P.getD j pz).2 := by
  rcases h with rfl | h
  · simp at h0
  · exact h
theorem PV.on {w w' : World} {A : Option Addr} {P : List Pt} (h : PV w A P) (hb : At w w') : PV w' A P := by
  rcases h with h | ⟨g, o, rfl, hlt, hc⟩
  · exact Or.inl h
  · refine Or.inr ⟨g, o, rfl, Nat.lt_of_lt_of_le hlt hb.size, fun j hj => ?_⟩
    obtain ⟨h1, B, c, h2, h3⟩ := hc j hj
    exact ⟨(Below.cell hb (p := ⟨g, o + j * 2, none⟩) hlt).trans h1, B, c, (Below.cell hb (p := ⟨g, o + j * 2 + 1, none⟩) hlt).trans h2, h3.below hb⟩
theorem PV.nil (w : World) (A : Option Addr) : PV w A [] := Or.inl rfl
theorem PV.take {w : World} {A : Option Addr} {P : List Pt} (h : PV w A P) (k : Nat) : PV w A (P.take k) := by
  rcases h with rfl | ⟨g, o, rfl, hlt, hc⟩
  · exact Or.inl (by simp)
  · refine Or.inr ⟨g, o, rfl, hlt, fun j hj => ?_⟩
    rw [List.length_take] at hj
    have e : (P.take k).getD j pz = P.getD j pz := by simp only [List.getD_eq_getElem?_getD, List.getElem?_take, if_pos (show j < k by omega)]
    rw [e]; exact hc j (by omega)
theorem PV.drop {w : World} {g o : Nat} {P : List Pt} (h : PV w (some ⟨g, o, none⟩) P) (k : Nat) : PV w (some ⟨g, o + k * 2, none⟩) (P.drop k) := by
  rcases h with rfl | ⟨g', o', he, hlt, hc⟩
  · exact Or.inl (by simp)
  · injection he with he
    injection he with h1 h2
    subst h1 h2
    refine Or.inr ⟨_, _, rfl, hlt, fun j hj => ?_⟩
    rw [List.length_drop] at hj
    have e : (P.drop k).getD j pz = P.getD (k + j) pz := by simp only [List.getD_eq_getElem?_getD, List.getElem?_drop]
    have := hc (k + j) (by omega)
    rw [e, show o + k * 2 + j * 2 = o + (k + j) * 2 by omega]; exact this

theorem same_first {P : Program} {f : FuncId} {args : Array Value} {w : World} {n : Nat} {v : Value} (h : Calls P f args (w.drewN n) fun e w' => e = .returned v ∧ w.drewN n = w') :
    Calls P f args (w.drewN n) fun e w'' => e = .returned v ∧ ∃ m, w'' = w.drewN m :=
  h.mono fun _ _ hr => ⟨hr.1, n, hr.2.symm⟩

end Go.Proofs.Ythaiddhbifakhaa
