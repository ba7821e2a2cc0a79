/- Proved: words for a list of blocks to be written; rows that stay; what an append of bytes to an empty row lays. -/
import Derived.Test.YtgmekkenodiclaaMv
import Derived.IntWalk
import Derived.Laws.ResultCell
import Derived.Laws.Rows
import Derived.Laws.Tables
import Derived.Deep.MidRow
import Derived.Deep.WholeRow
import Derived.Deep.RegionHeld3
import Derived.Deep.RegionWith
import Derived.RegionTactic
import Derived.Deep.Cut
import Derived.Deep.CutRange
namespace Go.Proofs.Ytgmekkenodiclaa
open Go.RowKit

/-- The slice at A reads as the list P of blocks to be written. -/
def PV (w : World) (A : Option Addr) (P : List Pt) : Prop :=
  P = [] ∨ ∃ g o, A = some ⟨g, o, none⟩ ∧ g < w.heap.size ∧ ∀ j, j < P.length → w.cell? ⟨g, o + j * 2, none⟩ = some (.int .i64 (P.getD j pz).1) ∧ ∃ B c, w.cell? ⟨g, o + j * 2 + 1, none⟩ = some (.slice B (P.getD j pz).2.length c) ∧ BV w B (P.getD j pz).2
theorem PV.pos {w : World} {A : Option Addr} {P : List Pt} (h : PV w A P) (h0 : 0 < P.length) : ∃ g o, A = some ⟨g, o, none⟩ ∧ g < w.heap.size ∧ ∀ j, j < P.length → w.cell? ⟨g, o + j * 2, none⟩ = some (.int .i64 (P.getD j pz).1) ∧ ∃ B c, w.cell? ⟨g, o + j * 2 + 1, none⟩ = some (.slice B (P.getD j pz).2.length c) ∧ BV w B (P.getD j pz).2 := by
  rcases h with rfl | h
  · simp at h0
  · exact h
theorem PV.on {w w' : World} {A : Option Addr} {P : List Pt} (h : PV w A P) (hb : At w w') : PV w' A P := by
  rcases h with h | ⟨g, o, rfl, hlt, hc⟩
  · exact Or.inl h
  · refine Or.inr ⟨g, o, rfl, Nat.lt_of_lt_of_le hlt hb.size, fun j hj => ?_⟩
    obtain ⟨h1, B, c, h2, h3⟩ := hc j hj
    exact ⟨(Below.cell hb (p := ⟨g, o + j * 2, none⟩) hlt).trans h1, B, c, (Below.cell hb (p := ⟨g, o + j * 2 + 1, none⟩) hlt).trans h2, h3.below hb⟩
theorem PV.nil (w : World) (A : Option Addr) : PV w A [] := Or.inl rfl
theorem PV.take {w : World} {A : Option Addr} {P : List Pt} (h : PV w A P) (k : Nat) : PV w A (P.take k) := by
  rcases h with rfl | ⟨g, o, rfl, hlt, hc⟩
  · exact Or.inl (by simp)
  · refine Or.inr ⟨g, o, rfl, hlt, fun j hj => ?_⟩
    rw [List.length_take] at hj
    have e : (P.take k).getD j pz = P.getD j pz := by simp only [List.getD_eq_getElem?_getD, List.getElem?_take, if_pos (show j < k by omega)]
    rw [e]; exact hc j (by omega)
theorem PV.drop {w : World} {g o : Nat} {P : List Pt} (h : PV w (some ⟨g, o, none⟩) P) (k : Nat) : PV w (some ⟨g, o + k * 2, none⟩) (P.drop k) := by
  rcases h with rfl | ⟨g', o', he, hlt, hc⟩
  · exact Or.inl (by simp)
  · injection he with he
    injection he with h1 h2
    subst h1 h2
    refine Or.inr ⟨_, _, rfl, hlt, fun j hj => ?_⟩
    rw [List.length_drop] at hj
    have e : (P.drop k).getD j pz = P.getD (k + j) pz := by simp only [List.getD_eq_getElem?_getD, List.getElem?_drop]
    have := hc (k + j) (by omega)
    rw [e, show o + k * 2 + j * 2 = o + (k + j) * 2 by omega]; exact this

theorem row_on {w w' : World} {B n s : Nat} {e : TypeId} {v : Value} {xs : List Value} (h : w.ownsRow B e s v n xs) (hb : At w w') : w'.ownsRow B e s v n xs := by
  refine ⟨h.1, ?_⟩
  rcases h.2 with h | ⟨g, cap, cur, hv, hB, hh, hr⟩
  · exact Or.inl h
  · exact Or.inr ⟨g, cap, cur, hv, hB, (hb.block g (lt_heap hh)).trans hh, hr⟩
theorem row_lt {w : World} {B n s : Nat} {e : TypeId} {v : Value} {xs : List Value} (h : w.ownsRow B e s v n xs) {g : Nat} (hg : v.ownBlock = some g) : g < w.heap.size ∧ B ≤ g := by
  rcases h.2 with ⟨h, _⟩ | ⟨g', cap, cur, hv, hB, hh, hr⟩
  · subst h; cases hg
  · subst hv; injection hg with hg; subst hg; exact ⟨lt_heap hh, hB⟩
theorem bv_mv {w w' : World} {F : Nat → Prop} {g o : Nat} {L : List Nat} (h : BV w (some ⟨g, o, none⟩) L) (hm : Mv F w w') (hF : ¬ F g) : BV w' (some ⟨g, o, none⟩) L := by
  rcases h with rfl | ⟨b, o, he, hlt, hc⟩
  · exact Or.inl rfl
  · injection he with he
    injection he with h1 h2
    subst h1 h2
    exact Or.inr ⟨_, _, rfl, Nat.lt_of_lt_of_le hlt hm.size, fun j hj => (World.cell?_of_block (a := ⟨g, _ + j, none⟩) (hm.block g hlt hF)).trans (hc j hj)⟩
/-- What such an append has done: the bytes lie at gd; only the empty row's block q0 was written. -/
structure Ap (W w' : World) (q0 gd : Nat) (d : List Nat) : Prop where
  bv : BV w' (some ⟨gd, 0, none⟩) d
  lt : gd < w'.heap.size
  mv : Mv (fun j => j = q0) W w'
  at_ : gd = q0 ∨ gd = W.heap.size
/-- The block q is an empty row of bytes. -/
def Ey (W : World) (q : Nat) : Prop := W.ownsRow 0 5 1 (.slice (some ⟨q, 0, none⟩) 0 0) 0 []
theorem em_new (w : World) : Ey (w.alloc (.cells #[] 5)) w.heap.size := made_row w 5 1
theorem Ey.on {w w' : World} {q : Nat} (h : Ey w q) (hA : At w w') : Ey w' q := own_at h hA
set_option maxRecDepth 100000 in
theorem step_forty {w : World} {ops : Array Oper} {o : Oper} {a : Act} {K : Act → World → Prop} {Q : Exit → Act → World → Prop} {E : Prop} (hgd : o.guard = none) (s x : Operand)
    (ho : o.op = .call { callee := .builtin .append, args := #[s, x], argTypes := #[39, 39] }) (q : Nat) (hq : Ey w q) (hs : a.eval s = .slice (some ⟨q, 0, none⟩) 0 0)
    (pb po c : Nat) (d : List Nat) (hx : a.eval x = .slice (some ⟨pb, po, none⟩) 40 c) (hv : BV w (some ⟨pb, po, none⟩) d) (hl : d.length = 40)
    (h : ∀ gd cd w', Hid (Ap w w' q gd d) → K (a.put o.dst (.slice (some ⟨gd, 0, none⟩) 40 cd)) w') : if Region.wanted o (yielded ops a.tmps) = true then Oper.wp Try.prog o a w K Q else E := by
  obtain ⟨i0, hi, hz0, hz1, hz2⟩ := info_parts info_u8
  obtain ⟨ad, he, _, hc⟩ := hv.cells (by omega)
  injection he with he
  subst he
  refine step_append_lies w hgd s x 39 ho 0 5 i0 (.int .u8 0) 1 1 Try.underlying39 hi hz0 hz1 hz2 rfl (by omega) _ 0 [] hs hq ⟨pb, po, none⟩ 40 c (d.map bt) hx (by rw [List.length_map, hl]) hc (bt_one _) (by omega) (by unfold maxLen; omega) (by omega) (Nat.zero_le _) w.heap.size rfl ?_
  intro g cap w' hown hgrow hat hlt
  rw [Nat.zero_add, List.nil_append] at hown
  refine h g cap w' (Lib.hid ⟨(own_bv hown).2, hlt, (Mv.refl _ w).grown hgrow fun k hk => Or.inl (by
    have hk' : some q = some k := hk
    injection hk' with e; exact e.symm), ?_⟩)
  rcases hat with e | e
  · have e' : some q = some g := e
    injection e' with e'; exact Or.inl e'.symm
  · exact Or.inr e
/-- The cells of a vector. -/
theorem pv_cells {w : World} {g o : Nat} {P : List Pt} (h : PV w (some ⟨g, o, none⟩) P) {k : Nat} (hk : k < P.length) : w.cell? ⟨g, o + k * 2, none⟩ = some (.int .i64 (P.getD k pz).1) ∧ ∃ B c, w.cell? ⟨g, o + k * 2 + 1, none⟩ = some (.slice B (P.getD k pz).2.length c) ∧ BV w B (P.getD k pz).2 := by
  obtain ⟨g', o', e, _, hc⟩ := h.pos (by omega)
  injection e with e
  injection e with e1 e2
  subst e1 e2
  exact hc k hk


end Go.Proofs.Ytgmekkenodiclaa
