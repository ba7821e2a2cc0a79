/- Proved: words for an append to an empty row of a call's own, and one more behind it. -/
import Derived.Test.YtkohkpmpbcgodaaRow
import Derived.Laws.AppendOwnNone
namespace Go.Proofs.Ytkohkpmpbcgodaa
open Go.RowKit

theorem made_own (w : World) : (w.alloc (.cells #[] 5)).ownsRow w.heap.size 5 1 (.slice (some ⟨w.heap.size, 0, none⟩) 0 0) 0 [] := World.ownsRow_made w #[] 0 (Nat.le_refl _) (by unfold maxLen; omega) rfl
theorem BV.src {w : World} {ad : Addr} {L : List Nat} (h : BV w (some ad) L) : ∀ j u, (L.map bt)[j]? = some u → w.cell? (ad.add j) = some u := by
  intro j u hu
  by_cases h0 : 0 < L.length
  · obtain ⟨a, e, _, hc⟩ := h.cells h0
    injection e with e
    subst e
    exact hc j u hu
  · have : L = [] := List.eq_nil_of_length_eq_zero (by omega)
    subst this
    simp at hu
theorem grow_one {w wa : World} {o : Obj} {v v' : Value} {n : Nat} {P : List Nat} (hm : (w.alloc o).ownsRow w.heap.size 5 1 v 0 []) (ho : wa.ownsRow w.heap.size 5 1 v' (0 + n) ([] ++ P.map bt)) (hg : (w.alloc o).grownBy wa v.ownBlock) :
    Hid (wa.ownsRow w.heap.size 5 1 v' n (P.map bt)) ∧ Hid (At w wa) := by
  refine ⟨Lib.hid (by simpa using ho), Lib.hid ?_⟩
  exact ((Below.refl _ _).alloc (Nat.le_refl _) _).grown hg (by simp) (fun j hj => (hm.lt j hj).1)
theorem grow_two {w wa wb : World} {v v' : Value} {n m : Nat} {P L : List Nat} (hm : wa.ownsRow w.heap.size 5 1 v n (P.map bt)) (hb : At w wa) (ho : wb.ownsRow w.heap.size 5 1 v' (n + m) (P.map bt ++ L.map bt)) (hg : wa.grownBy wb v.ownBlock) :
    Hid (wb.ownsRow w.heap.size 5 1 v' (n + m) ((P ++ L).map bt)) ∧ Hid (At w wb) := by
  refine ⟨Lib.hid (by simpa using ho), Lib.hid ?_⟩
  exact Below.grown hb hg hb.size (fun j hj => (hm.lt j hj).1)

end Go.Proofs.Ytkohkpmpbcgodaa
