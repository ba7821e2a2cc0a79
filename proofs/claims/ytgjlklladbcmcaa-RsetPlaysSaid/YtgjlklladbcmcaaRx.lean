/- Proved: an append of forty bytes to an empty row, as one step of a region that draws; a block of one Put that is filled. -/
import Derived.Test.YtgjlklladbcmcaaRi
import Derived.Deep.RegionHeld3
import Derived.Deep.RegionWith
import Derived.RegionTactic
import Derived.Deep.Cut
import Derived.Deep.CutRange
namespace Go.Proofs.Ytgjlklladbcmcaa
open Go.RowKit

theorem at_world {P : Program} {c : Prop} {_d : Decidable c} {o : Oper} {a : Act} {K : Act → World → Prop} {Q : Exit → Act → World → Prop} {E : Prop} (W : World) (h : @ite _ c _d (Oper.wp P o a W K Q) E) : @ite _ c _d (Oper.wp P o a W K Q) E := h
/-- What such an append has done: the bytes lie at gd; only the empty row's block q0 was written. -/
structure Ap (W w' : World) (q0 gd : Nat) (d : List Nat) : Prop where
  bv : BV w' (some ⟨gd, 0, none⟩) d
  lt : gd < w'.heap.size
  mv : Mv (fun j => j = q0) W w'
  at_ : gd = q0 ∨ gd = W.heap.size
/-- The block q is an empty row of bytes. -/
def Ey (W : World) (q : Nat) : Prop := W.ownsRow 0 5 1 (.slice (some ⟨q, 0, none⟩) 0 0) 0 []
theorem em_new (w : World) : Ey (w.alloc (.cells #[] 5)) w.heap.size := made_row w 5 1
theorem Ey.on {w w' : World} {q : Nat} (h : Ey w q) (hA : At w w') : Ey w' q := own_at h hA
set_option maxRecDepth 100000 in
theorem step_forty {w : World} {ops : Array Oper} {o : Oper} {a : Act} {K : Act → World → Prop} {Q : Exit → Act → World → Prop} {E : Prop} (hgd : o.guard = none) (s x : Operand)
    (ho : o.op = .call { callee := .builtin .append, args := #[s, x], argTypes := #[33, 33] }) (q : Nat) (hq : Ey w q) (hs : a.eval s = .slice (some ⟨q, 0, none⟩) 0 0)
    (pb po c : Nat) (d : List Nat) (hx : a.eval x = .slice (some ⟨pb, po, none⟩) 40 c) (hv : BV w (some ⟨pb, po, none⟩) d) (hl : d.length = 40)
    (h : ∀ gd cd w', Hid (Ap w w' q gd d) → K (a.put o.dst (.slice (some ⟨gd, 0, none⟩) 40 cd)) w') : if Region.wanted o (yielded ops a.tmps) = true then Oper.wp Try.prog o a w K Q else E := by
  obtain ⟨i0, hi, hz0, hz1, hz2⟩ := info_parts info_u8
  obtain ⟨ad, he, _, hc⟩ := hv.cells (by omega)
  injection he with he
  subst he
  refine step_append_lies w hgd s x 33 ho 0 5 i0 (.int .u8 0) 1 1 Try.underlying33 hi hz0 hz1 hz2 rfl (by omega) _ 0 [] hs hq ⟨pb, po, none⟩ 40 c (d.map bt) hx (by rw [List.length_map, hl]) hc (bt_one _) (by omega) (by unfold maxLen; omega) (by omega) (Nat.zero_le _) w.heap.size rfl ?_
  intro g cap w' hown hgrow hat hlt
  rw [Nat.zero_add, List.nil_append] at hown
  refine h g cap w' (Lib.hid ⟨(own_bv hown).2, hlt, (Mv.refl _ w).grown hgrow fun k hk => Or.inl (by
    have hk' : some q = some k := hk
    injection hk' with e; exact e.symm), ?_⟩)
  rcases hat with e | e
  · have e' : some q = some g := e
    injection e' with e'; exact Or.inl e'.symm
  · exact Or.inr e
/-- A Put that is made. -/
structure Xb (wr wx : World) (x : Int) (d : List Nat) (q gd cd : Nat) : Prop where
  box : wx.heap[q]? = some (.cells #[.int .i64 x, .slice (some ⟨gd, 0, none⟩) 40 cd] 76 (0, 0))
  bv : BV wx (some ⟨gd, 0, none⟩) d
  lt : gd < wx.heap.size
  at_ : At wr wx
  ge : wr.heap.size ≤ gd
theorem xb_last {wr W w7 : World} {x : Int} {d : List Nat} {q0 gd cd : Nat} (hA : At wr W) (h : Ap W w7 q0 gd d) (hq : wr.heap.size ≤ q0) : Xb wr (w7.alloc (.cells #[.int .i64 x, .slice (some ⟨gd, 0, none⟩) 40 cd] 76)) x d w7.heap.size gd cd :=
  ⟨heap_alloc_new _ _, h.bv.below ((At.start w7).alloc _), by have := h.lt; simp; omega, (h.mv.at_ hA fun j hj => by rw [hj]; exact hq).alloc _, by have := hA.size; rcases h.at_ with e | e <;> omega⟩
/-- The zeroed block behind the append. -/
theorem xb_kept {W w7 : World} {d : List Nat} {q0 gd q : Nat} (h : Ap W w7 q0 gd d) (hz : W.heap[q]? = some (.cells #[.int .i64 0, .slice none 0 0] 76 (0, 0))) (hn : q ≠ q0) : w7.heap[q]? = some (.cells #[.int .i64 0, .slice none 0 0] 76 (0, 0)) := h.mv.keep hz hn
theorem xb_first {wr W w7 : World} {x : Int} {d : List Nat} {q0 gd cd q : Nat} (hA : At wr W) (h : Ap W w7 q0 gd d) (hz : W.heap[q]? = some (.cells #[.int .i64 0, .slice none 0 0] 76 (0, 0))) (hn : q ≠ q0) (hq0 : wr.heap.size ≤ q0) (hq : wr.heap.size ≤ q) :
    Xb wr ((w7.setCell ⟨q, 0, none⟩ (.int .i64 x)).setCell ⟨q, 1, none⟩ (.slice (some ⟨gd, 0, none⟩) 40 cd)) x d q gd cd := by
  have hk := xb_kept h hz hn
  have hgq : gd ≠ q := by
    have := lt_heap hz
    rcases h.at_ with e | e <;> omega
  have h1 := heap_set hk 0 (.int .i64 x)
  have h2 := heap_set h1 1 (.slice (some ⟨gd, 0, none⟩) 40 cd)
  have hm : Mv (fun j => j = q) w7 ((w7.setCell ⟨q, 0, none⟩ (.int .i64 x)).setCell ⟨q, 1, none⟩ (.slice (some ⟨gd, 0, none⟩) 40 cd)) :=
    Mv.set (F := fun j => j = q) (Mv.set (F := fun j => j = q) (Mv.refl _ w7) (p := ⟨q, 0, none⟩) (Or.inl rfl) _) (p := ⟨q, 1, none⟩) (Or.inl rfl) _
  exact ⟨h2, bv_mv h.bv hm hgq, Nat.lt_of_lt_of_le h.lt hm.size, hm.at_ (h.mv.at_ hA fun j hj => by rw [hj]; exact hq0) fun j hj => (by rw [hj]; exact hq), by have := hA.size; rcases h.at_ with e | e <;> omega⟩

end Go.Proofs.Ytgjlklladbcmcaa
