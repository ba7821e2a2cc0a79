/- Proved: one block more among those that ExtmapPrunes keeps; what stands in the rows that it keeps. -/
import Derived.Test.YtjpoiijifnfjhaaRt
namespace Go.Proofs.Ytjpoiijifnfjhaa
open Go.RowKit

theorem ints_info : (Try.prog.info? 3).map (fun i => (i.zero, i.size, i.bytes)) = some (some (.int .i64 0), 1, 8) := by kernel_rfl

theorem Rt.times_on {w0 wa wb : World} {S : St} {t : Int} {v11 v12 : Value} {xs : List (Nat × Nat)} (h : Rt w0 wa S t v11 v12 xs) (g1 : wa.grownBy wb v11.ownBlock) (o : Obj) :
    (wb.alloc o).ownsRow w0.heap.size 3 1 v12 xs.length ((List.range xs.length).map fun i => Value.int .i64 (rdv (S.V i) t).1) :=
  row_move h.times fun g hg => (Below.heap_alloc wb o g (Nat.lt_of_lt_of_le (row_lt h.times hg).1 g1.size)).trans (g1.block g (row_lt h.times hg).1 fun e => rows_ne h.rows h.times (by decide) e.symm hg)
theorem At.grown {w0 wa wb : World} {v : Value} (hA : At w0 wa) (hg : wa.grownBy wb v.ownBlock) (hv : ∀ g, v.ownBlock = some g → w0.heap.size ≤ g) : At w0 wb :=
  Mv.at_ ((Mv.refl (fun g => v.ownBlock = some g) wa).grown hg (fun _ e => Or.inl e)) hA hv

/-- One block more, as the walk meets it. -/
theorem Rt.more {w0 wr wa wb wd : World} {S : St} {t z : Int} {v11 v12 : Value} {xs : List (Nat × Nat)} {gb cb g6 cap6 g7 cap7 : Nat} {o : Obj} (h : Rt w0 wr S t v11 v12 xs) (hA : At w0 wr) (hW : At wr wa)
    (hbv : BV wa (some ⟨gb, 0, none⟩) (rdv (S.V xs.length) t).2) (hg1 : wr.heap.size ≤ gb) (hg2 : gb < wa.heap.size) (hz : z = (rdv (S.V xs.length) t).1)
    (h1 : wb.ownsRow w0.heap.size 36 1 (.slice (some ⟨g6, 0, none⟩) (xs.length + 1) cap6) (xs.length + 1) ((xs.map fun x => Value.slice (some ⟨x.1, 0, none⟩) 40 x.2) ++ [.slice (some ⟨gb, 0, none⟩) 40 cb])) (g1 : wa.grownBy wb v11.ownBlock) (a1 : v11.ownBlock = some g6 ∨ g6 = wa.heap.size)
    (h2 : wd.ownsRow w0.heap.size 3 1 (.slice (some ⟨g7, 0, none⟩) (xs.length + 1) cap7) (xs.length + 1) (((List.range xs.length).map fun i => Value.int .i64 (rdv (S.V i) t).1) ++ [.int .i64 z])) (g2 : (wb.alloc o).grownBy wd v12.ownBlock) (a2 : v12.ownBlock = some g7 ∨ g7 = (wb.alloc o).heap.size) :
    Rt w0 wd S t (.slice (some ⟨g6, 0, none⟩) (xs.length + 1) cap6) (.slice (some ⟨g7, 0, none⟩) (xs.length + 1) cap7) (xs ++ [(gb, cb)]) ∧ At w0 wd := by
  have hs := hA.size
  have hs2 := hW.size
  have ha := h.on hW
  subst hz
  refine ⟨ha.step (y := (gb, cb)) hbv (Nat.le_trans hs hg1) hg2 (fun e => ?_) (fun e => ?_) h1 g1 (fun g e => ?_) h2 g2 (fun g e => ?_), ?_⟩
  · have := (row_lt h.rows e).1; omega
  · have := (row_lt h.times e).1; omega
  · injection e with e; subst e; exact a1.imp id fun e => Nat.le_of_eq e.symm
  · injection e with e; subst e; exact a2.imp id fun e => Nat.le_of_eq e.symm
  · exact ((((hA.next hW).grown g1 fun g e => (row_lt ha.rows e).2).alloc o).grown g2 fun g e => (row_lt ha.times e).2)

/-- What stands at a place of the rows. -/
theorem Rt.at_ {w0 wr : World} {S : St} {t : Int} {g11 n11 c11 g12 n12 c12 : Nat} {xs : List (Nat × Nat)} (h : Rt w0 wr S t (.slice (some ⟨g11, 0, none⟩) n11 c11) (.slice (some ⟨g12, 0, none⟩) n12 c12) xs) {k : Nat} (hk : k < xs.length) :
    ∃ x : Nat × Nat, wr.cell? ⟨g11, k, none⟩ = some (.slice (some ⟨x.1, 0, none⟩) 40 x.2) ∧ wr.cell? ⟨g12, k, none⟩ = some (.int .i64 (rdv (S.V k) t).1) ∧ BV wr (some ⟨x.1, 0, none⟩) (rdv (S.V k) t).2 := by
  have hx : xs[k]? = some xs[k] := List.getElem?_eq_getElem hk
  have c1 := h.rows.cells (g := g11) rfl k (Value.slice (some ⟨(xs[k]).1, 0, none⟩) 40 (xs[k]).2) (by rw [List.getElem?_map, hx]; rfl)
  have c2 := h.times.cells (g := g12) rfl k (Value.int .i64 (rdv (S.V k) t).1) (by rw [List.getElem?_map, List.getElem?_range hk]; rfl)
  rw [Go.WideShapes.add_plain, Nat.zero_add] at c1 c2
  exact ⟨xs[k], c1, c2, (h.bv k _ hx).1⟩

end Go.Proofs.Ytjpoiijifnfjhaa
