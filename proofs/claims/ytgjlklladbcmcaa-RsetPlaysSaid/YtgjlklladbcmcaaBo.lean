/- Proved: words for a row of blocks to be written, of a call's own, each one's bytes beside it.
the law's own small buffer answers as the document fixes it. -/
import Derived.Test.YtgjlklladbcmcaaWri
import Derived.Lib.SmallJoins
namespace Go.Proofs.Ytgjlklladbcmcaa
open Go.RowKit

theorem put_parts : ∃ i z, Try.prog.info? 76 = some i ∧ i.zero = some z ∧ i.size = 2 ∧ i.bytes = 32 ∧ z.cells.size = 2 := by
  cases h : Try.prog.info? 76 with
  | none => exact absurd h (by have : (Try.prog.info? 76).isSome = true := by kernel_rfl
                               intro e; rw [e] at this; cases this)
  | some i =>
    have h1 : (Try.prog.info? 76).map (fun i => (i.zero, i.size, i.bytes)) = some (some (.agg #[.int .i64 0, .slice none 0 0]), 2, 32) := by kernel_rfl
    rw [h] at h1
    simp only [Option.map_some, Option.some.injEq, Prod.mk.injEq] at h1
    exact ⟨i, _, rfl, h1.1, h1.2.1, h1.2.2, rfl⟩

/-- The cells of blocks whose bytes lie at G, with room C. -/
def pcs : List (Pt × Nat × Nat) → List Value
  | [] => []
  | x :: l => .int .i64 x.1.1 :: .slice (some ⟨x.2.1, 0, none⟩) x.1.2.length x.2.2 :: pcs l
theorem pcs_len : ∀ l, (pcs l).length = l.length * 2
  | [] => rfl
  | _ :: l => by simp [pcs, pcs_len l]; omega
theorem pcs_app : ∀ l m, pcs (l ++ m) = pcs l ++ pcs m
  | [], _ => rfl
  | x :: l, m => by simp [pcs, pcs_app l m]
theorem pcs_at : ∀ (l : List (Pt × Nat × Nat)) (j : Nat) (x : Pt × Nat × Nat), l[j]? = some x → (pcs l)[j * 2]? = some (.int .i64 x.1.1) ∧ (pcs l)[j * 2 + 1]? = some (.slice (some ⟨x.2.1, 0, none⟩) x.1.2.length x.2.2)
  | [], _, _, h => by simp at h
  | y :: l, 0, x, h => by simp at h; subst h; exact ⟨rfl, rfl⟩
  | y :: l, j + 1, x, h => by
    simp at h
    have := pcs_at l j x h
    rw [show (j + 1) * 2 = j * 2 + 1 + 1 by omega]
    exact this
/-- v is a row of its own of those blocks, each one's bytes beside it. -/
structure Dm (w0 wr : World) (v : Value) (l : List (Pt × Nat × Nat)) : Prop where
  row : wr.ownsRow w0.heap.size 76 2 v l.length (pcs l)
  bv : ∀ x ∈ l, BV wr (some ⟨x.2.1, 0, none⟩) x.1.2 ∧ v.ownBlock ≠ some x.2.1 ∧ x.2.1 < wr.heap.size
  at_ : At w0 wr
theorem Dm.pv {w0 wr : World} {v : Value} {l : List (Pt × Nat × Nat)} (h : Dm w0 wr v l) : ∃ A c, v = .slice A l.length c ∧ PV wr A (l.map (·.1)) := by
  rcases Joins.ownsRow_forms h.row with ⟨rfl, h0⟩ | ⟨g, cap, rfl⟩
  · obtain rfl : l = [] := List.eq_nil_of_length_eq_zero h0
    exact ⟨none, 0, rfl, Or.inl rfl⟩
  · refine ⟨_, cap, rfl, ?_⟩
    by_cases h0 : l = []
    · subst h0; exact Or.inl rfl
    · have hc := h.row.cells (g := g) rfl
      have hp : 0 < l.length := List.length_pos_iff.2 h0
      refine Or.inr ⟨g, 0, rfl, ?_, fun j hj => ?_⟩
      · obtain ⟨h1, _⟩ := pcs_at l 0 l[0] (List.getElem?_eq_getElem hp)
        exact World.block_lt_of_cell? wr _ (hc 0 _ h1)
      · rw [List.length_map] at hj
        have hx : (l.map (·.1)).getD j pz = l[j].1 := by rw [List.getD_eq_getElem?_getD, List.getElem?_map, List.getElem?_eq_getElem hj]; rfl
        obtain ⟨h1, h2⟩ := pcs_at l j l[j] (List.getElem?_eq_getElem hj)
        have k1 := hc _ _ h1
        have k2 := hc _ _ h2
        rw [Go.WideShapes.add_plain] at k1 k2
        rw [hx]
        exact ⟨k1, _, _, k2, (h.bv _ (List.getElem_mem hj)).1⟩
theorem row_on {w w' : World} {B n s : Nat} {e : TypeId} {v : Value} {xs : List Value} (h : w.ownsRow B e s v n xs) (hb : At w w') : w'.ownsRow B e s v n xs := by
  refine ⟨h.1, ?_⟩
  rcases h.2 with h | ⟨g, cap, cur, hv, hB, hh, hr⟩
  · exact Or.inl h
  · exact Or.inr ⟨g, cap, cur, hv, hB, (hb.block g (lt_heap hh)).trans hh, hr⟩
theorem row_lt {w : World} {B n s : Nat} {e : TypeId} {v : Value} {xs : List Value} (h : w.ownsRow B e s v n xs) {g : Nat} (hg : v.ownBlock = some g) : g < w.heap.size ∧ B ≤ g := by
  rcases h.2 with ⟨h, _⟩ | ⟨g', cap, cur, hv, hB, hh, hr⟩
  · subst h; cases hg
  · subst hv; injection hg with hg; subst hg; exact ⟨lt_heap hh, hB⟩
theorem Dm.on {w0 wr wr' : World} {v : Value} {l : List (Pt × Nat × Nat)} (h : Dm w0 wr v l) (hA : At wr wr') : Dm w0 wr' v l :=
  ⟨row_on h.row hA, fun x hx => ⟨(h.bv x hx).1.below hA, (h.bv x hx).2.1, Nat.lt_of_lt_of_le (h.bv x hx).2.2 hA.size⟩, h.at_.next hA⟩
theorem bv_mv {w w' : World} {F : Nat → Prop} {g o : Nat} {L : List Nat} (h : BV w (some ⟨g, o, none⟩) L) (hm : Mv F w w') (hF : ¬ F g) : BV w' (some ⟨g, o, none⟩) L := by
  rcases h with rfl | ⟨b, o, he, hlt, hc⟩
  · exact Or.inl rfl
  · injection he with he
    injection he with h1 h2
    subst h1 h2
    exact Or.inr ⟨_, _, rfl, Nat.lt_of_lt_of_le hlt hm.size, fun j hj => (World.cell?_of_block (a := ⟨g, _ + j, none⟩) (hm.block g hlt hF)).trans (hc j hj)⟩
/-- The call hands back a list of blocks in memory of its own. -/
def Dumps (P : List Pt) (w : World) (e : Ending) (w' : World) : Prop := ∃ A c, e = .returned (.slice A P.length c) ∧ PV w' A P ∧ At w w'

/-- One block more behind such a row; its bytes lie beside it. -/
theorem Dm.put {w0 wr w3 w4 : World} {v : Value} {l : List (Pt × Nat × Nat)} {a : Int} {d : List Nat} {gc cc gg cap : Nat} (h : Dm w0 wr v l) (hA : At wr w3) (hb : BV w3 (some ⟨gc, 0, none⟩) d) (hgl : gc < w3.heap.size) (hnb : ¬ v.ownBlock = some gc)
    (hown : w4.ownsRow w0.heap.size 76 2 (.slice (some ⟨gg, 0, none⟩) (l.length + 1) cap) (l.length + 1) (pcs l ++ [.int .i64 a, .slice (some ⟨gc, 0, none⟩) d.length cc])) (hgrow : w3.grownBy w4 v.ownBlock) (hat : v.ownBlock = some gg ∨ gg = w3.heap.size) :
    Dm w0 w4 (.slice (some ⟨gg, 0, none⟩) (l.length + 1) cap) (l ++ [(((a, d) : Pt), gc, cc)]) := by
  have hmv : Mv (fun j => v.ownBlock = some j) w3 w4 := (Mv.refl _ _).grown hgrow fun j hj => Or.inl hj
  have hsz := hA.size
  have h3 := h.on hA
  refine ⟨?_, fun y hy => ?_, hmv.at_ h3.at_ fun j hj => (row_lt h.row hj).2⟩
  · rw [pcs_app, List.length_append]
    exact hown
  · rcases List.mem_append.1 hy with hy | hy
    · obtain ⟨h1, h2, h5⟩ := h3.bv y hy
      have h4 := (h.bv y hy).2.2
      refine ⟨bv_mv h1 hmv h2, fun e => ?_, Nat.lt_of_lt_of_le h5 hmv.size⟩
      injection e with e
      rcases hat with h6 | h6
      · exact h2 (h6.trans (congrArg some e))
      · have h7 : gg = y.2.1 := e
        omega
    · rw [List.mem_singleton] at hy
      subst hy
      refine ⟨bv_mv hb hmv hnb, fun e => ?_, Nat.lt_of_lt_of_le hgl hmv.size⟩
      injection e with e
      rcases hat with h6 | h6
      · exact hnb (h6.trans (congrArg some e))
      · have h7 : gg = gc := e
        omega
theorem Dm.more {w0 wr w3 w4 : World} {v : Value} {l : List (Pt × Nat × Nat)} {a : Int} {d : List Nat} {gc cc gg cap : Nat} (h : Dm w0 wr v l) (hA : At wr w3) (hb : BV w3 (some ⟨gc, 0, none⟩) d) (hgl : gc < w3.heap.size) (hgc : wr.heap.size ≤ gc)
    (hown : w4.ownsRow w0.heap.size 76 2 (.slice (some ⟨gg, 0, none⟩) (l.length + 1) cap) (l.length + 1) (pcs l ++ [.int .i64 a, .slice (some ⟨gc, 0, none⟩) d.length cc])) (hgrow : w3.grownBy w4 v.ownBlock) (hat : v.ownBlock = some gg ∨ gg = w3.heap.size) :
    Dm w0 w4 (.slice (some ⟨gg, 0, none⟩) (l.length + 1) cap) (l ++ [(((a, d) : Pt), gc, cc)]) :=
  h.put hA hb hgl (fun e => by have := (row_lt h.row e).1; omega) hown hgrow hat

end Go.Proofs.Ytgjlklladbcmcaa

namespace Go.Proofs.Ytgjlklladbcmcaa
open Go.RowKit

set_option maxHeartbeats 400000 in
theorem data_any (k : Int) (w : World) : Calls Try.prog 26 #[.int .i64 k] w fun x w' => ∃ g, x = .returned (.slice (some ⟨g, 0, none⟩) 40 40) ∧ w.heap.size ≤ g ∧ BV w' (some ⟨g, 0, none⟩) (bk k) ∧ At w w' := by
  have HB := Lib.hid (block_any k w)
  go_enter Try.func26, Try.ntmps26
  go_wp2_with fail
  refine HB.out.mono ?_
  rintro e w' ⟨g, rfl, h1, h2, h3⟩
  have H1 := Lib.hid h1
  have H2 := Lib.hid h2
  have H3 := Lib.hid h3
  clear h1 h2 h3
  go_wp2
  go_ret
  exact ⟨g, rfl, H1.out, H2.out, H3.out⟩

/-- A buffer of the call's own. -/
structure Bo (w0 w : World) (b mb : Nat) (S : St) : Prop where
  bf : Bf w b mb S
  at_ : At w0 w
  hb : w0.heap.size ≤ b
  hm : w0.heap.size ≤ mb
section
variable {w0 w w' : World} {b mb : Nat} {S S' : St}
theorem Bo.on (h : Bo w0 w b mb S) (hA : At w w') : Bo w0 w' b mb S := ⟨h.bf.on hA, h.at_.next hA, h.hb, h.hm⟩
theorem Bo.wrote (h : Bo w0 w b mb S) (hb : Bf w' b mb S') (hm : Mv (fun g => g = mb) w w') : Bo w0 w' b mb S' := ⟨hb, hm.at_ h.at_ fun g hg => by rw [hg]; exact h.hm, h.hb, h.hm⟩
theorem Bo.back {wa : World} (h : Bo w0 w b mb S) (ha : At wa w0) : Bo wa w b mb S := ⟨h.bf, ha.next h.at_, Nat.le_trans ha.size h.hb, Nat.le_trans ha.size h.hm⟩
end
theorem bo_new {n : Nat} {m : Int} {w : World} {e : Ending} {w' : World} (h : News n m w e w') : ∃ b mb, e = .returned (.tuple #[.pointer (some ⟨b, 0, none⟩), .int .i64 0]) ∧ Bo w w' b mb (st0 n m) := by
  obtain ⟨b, mb, rfl, h1, h2, h3, h4⟩ := h
  exact ⟨b, mb, rfl, h1, h4, h2, h3⟩
/-- A literal row of blocks. -/
theorem pv_row {w : World} {q : Nat} {l : List (Pt × Nat × Nat)} {cs : Array Value} (h : w.heap[q]? = some (.cells cs 76 (0, 0))) (hc : cs = (pcs l).toArray) (hb : ∀ x ∈ l, BV w (some ⟨x.2.1, 0, none⟩) x.1.2) : PV w (some ⟨q, 0, none⟩) (l.map (·.1)) := by
  subst hc
  refine Or.inr ⟨q, 0, rfl, lt_heap h, fun j hj => ?_⟩
  rw [List.length_map] at hj
  have hx : (l.map (·.1)).getD j pz = l[j].1 := by rw [List.getD_eq_getElem?_getD, List.getElem?_map, List.getElem?_eq_getElem hj]; rfl
  obtain ⟨h1, h2⟩ := pcs_at l j l[j] (List.getElem?_eq_getElem hj)
  rw [hx]
  refine ⟨?_, some ⟨l[j].2.1, 0, none⟩, l[j].2.2, ?_, hb _ (List.getElem_mem hj)⟩
  · rw [cell_at h, Nat.zero_add, List.getElem?_toArray]; exact h1
  · rw [cell_at h, Nat.zero_add, List.getElem?_toArray]; exact h2
theorem fine_one {n : Nat} {m : Int} {x : Int} {d : List Nat} (h1 : 0 ≤ x) (h2 : x < (n : Int)) (h3 : d.length = 40) (hm : 1 ≤ m) : Fine (st0 n m) [(x, d)] := by
  have hd : d ≠ [] := fun e => by rw [e] at h3; cases h3
  refine ⟨⟨by simp, fun p hp => by rw [List.mem_singleton] at hp; subst hp; exact ⟨h1, h2⟩, fun p hp => by rw [List.mem_singleton] at hp; subst hp; exact h3⟩, by unfold Un; simp, ?_⟩
  rw [us_one (S := st0 n m) (p := (x, d)) h1 h2 hd, us_st0]
  show ((0 + if ([] : List Nat).isEmpty then 1 else 0 : Nat) : Int) ≤ m
  simpa using hm
theorem one_len {n : Nat} {m : Int} {x : Int} {d : List Nat} (h1 : 0 ≤ x) (h2 : x < (n : Int)) (h3 : d.length = 40) : (us (upS (st0 n m) [(x, d)])).length = 1 := by
  have hd : d ≠ [] := fun e => by rw [e] at h3; cases h3
  rw [us_one (S := st0 n m) (p := (x, d)) h1 h2 hd, us_st0]; rfl
end Go.Proofs.Ytgjlklladbcmcaa
