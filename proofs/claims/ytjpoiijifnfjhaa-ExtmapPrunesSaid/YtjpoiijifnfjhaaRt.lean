/- Proved: words for what ExtmapPrunes keeps of the blocks that it read: rows of bytes and their times, in rows of its own. -/
import Derived.Test.YtjpoiijifnfjhaaDmp
namespace Go.Proofs.Ytjpoiijifnfjhaa
open Go.RowKit

/-- The rows v11 and the times v12 of the blocks that were read at t, their bytes at the places xs; all in memory that is newer than w0. -/
structure Rt (w0 wr : World) (S : St) (t : Int) (v11 v12 : Value) (xs : List (Nat × Nat)) : Prop where
  rows : wr.ownsRow w0.heap.size 36 1 v11 xs.length (xs.map fun x => Value.slice (some ⟨x.1, 0, none⟩) 40 x.2)
  times : wr.ownsRow w0.heap.size 3 1 v12 xs.length ((List.range xs.length).map fun i => Value.int .i64 (rdv (S.V i) t).1)
  bv : ∀ i x, xs[i]? = some x → BV wr (some ⟨x.1, 0, none⟩) (rdv (S.V i) t).2 ∧ w0.heap.size ≤ x.1 ∧ x.1 < wr.heap.size ∧ v11.ownBlock ≠ some x.1 ∧ v12.ownBlock ≠ some x.1
theorem row_move {w w' : World} {B n s : Nat} {e : TypeId} {v : Value} {xs : List Value} (h : w.ownsRow B e s v n xs) (hk : ∀ g, v.ownBlock = some g → w'.heap[g]? = w.heap[g]?) : w'.ownsRow B e s v n xs := by
  refine ⟨h.1, ?_⟩
  rcases h.2 with h | ⟨g, cap, cur, hv, hB, hh, hr⟩
  · exact Or.inl h
  · exact Or.inr ⟨g, cap, cur, hv, hB, (hk g (by rw [hv]; rfl)).trans hh, hr⟩
theorem row_ty {w : World} {B n s : Nat} {e : TypeId} {v : Value} {xs : List Value} (h : w.ownsRow B e s v n xs) {g : Nat} (hg : v.ownBlock = some g) : ∃ cur, w.heap[g]? = some (.cells cur e (0, 0)) := by
  rcases h.2 with ⟨h, _⟩ | ⟨g', cap, cur, hv, hB, hh, hr⟩
  · subst h; cases hg
  · subst hv; injection hg with hg; subst hg; exact ⟨cur, hh⟩
theorem rows_ne {w : World} {B n s B' n' s' : Nat} {e e' : TypeId} {v v' : Value} {xs xs' : List Value} (h : w.ownsRow B e s v n xs) (h' : w.ownsRow B' e' s' v' n' xs') (hne : e ≠ e') {g : Nat} (hg : v.ownBlock = some g) : v'.ownBlock ≠ some g := fun hg' => by
  obtain ⟨c1, h1⟩ := row_ty h hg
  obtain ⟨c2, h2⟩ := row_ty h' hg'
  exact cells_ne h1 h2 hne rfl
theorem bv_move {w w' : World} {g : Nat} {L : List Nat} (h : BV w (some ⟨g, 0, none⟩) L) (hs : w.heap.size ≤ w'.heap.size) (hk : g < w.heap.size → w'.heap[g]? = w.heap[g]?) : BV w' (some ⟨g, 0, none⟩) L := by
  rcases h with rfl | ⟨b, o, he, hlt, hc⟩
  · exact Or.inl rfl
  · injection he with he
    injection he with h1 h2
    subst h1 h2
    exact Or.inr ⟨_, _, rfl, Nat.lt_of_lt_of_le hlt hs, fun j hj => (World.cell?_of_block (a := ⟨g, 0 + j, none⟩) (hk hlt)).trans (hc j hj)⟩
theorem Rt.move {w0 wr w' : World} {S : St} {t : Int} {v11 v12 : Value} {xs : List (Nat × Nat)} (h : Rt w0 wr S t v11 v12 xs) (hs : wr.heap.size ≤ w'.heap.size) (hk : ∀ g, w0.heap.size ≤ g → g < wr.heap.size → w'.heap[g]? = wr.heap[g]?) : Rt w0 w' S t v11 v12 xs :=
  ⟨row_move h.rows fun g hg => hk g (row_lt h.rows hg).2 (row_lt h.rows hg).1, row_move h.times fun g hg => hk g (row_lt h.times hg).2 (row_lt h.times hg).1, fun i x hx => by
    obtain ⟨h1, h2, h3, h4, h5⟩ := h.bv i x hx
    exact ⟨bv_move h1 hs fun hl => hk _ h2 hl, h2, Nat.lt_of_lt_of_le h3 hs, h4, h5⟩⟩
theorem Rt.on {w0 wr w' : World} {S : St} {t : Int} {v11 v12 : Value} {xs : List (Nat × Nat)} (h : Rt w0 wr S t v11 v12 xs) (hA : At wr w') : Rt w0 w' S t v11 v12 xs := h.move hA.size fun g _ hl => hA.block g hl
theorem Rt.start (w0 wr : World) (S : St) (t : Int) : Rt w0 wr S t (.slice none 0 0) (.slice none 0 0) [] :=
  ⟨World.ownsRow_nil _ _ _ _, World.ownsRow_nil _ _ _ _, fun i x hx => by simp at hx⟩

/-- One block more: its row is put behind (wa, wb: ahead of the append and behind it), then its time (wc, wd). -/
theorem Rt.step {w0 wa wb wd : World} {S : St} {t : Int} {v11 v12 u11 u12 : Value} {xs : List (Nat × Nat)} {y : Nat × Nat} {o : Obj} (h : Rt w0 wa S t v11 v12 xs) (hy : BV wa (some ⟨y.1, 0, none⟩) (rdv (S.V xs.length) t).2) (hy1 : w0.heap.size ≤ y.1) (hy2 : y.1 < wa.heap.size) (hy3 : v11.ownBlock ≠ some y.1) (hy4 : v12.ownBlock ≠ some y.1)
    (h1 : wb.ownsRow w0.heap.size 36 1 u11 (xs.length + 1) ((xs.map fun x => Value.slice (some ⟨x.1, 0, none⟩) 40 x.2) ++ [.slice (some ⟨y.1, 0, none⟩) 40 y.2])) (g1 : wa.grownBy wb v11.ownBlock) (a1 : ∀ g, u11.ownBlock = some g → v11.ownBlock = some g ∨ wa.heap.size ≤ g)
    (h2 : wd.ownsRow w0.heap.size 3 1 u12 (xs.length + 1) (((List.range xs.length).map fun i => Value.int .i64 (rdv (S.V i) t).1) ++ [.int .i64 (rdv (S.V xs.length) t).1])) (g2 : (wb.alloc o).grownBy wd v12.ownBlock) (a2 : ∀ g, u12.ownBlock = some g → v12.ownBlock = some g ∨ (wb.alloc o).heap.size ≤ g) :
    Rt w0 wd S t u11 u12 (xs ++ [y]) := by
  have hs1 := g1.size
  have hs2 := g2.size
  have hsa : (wb.alloc o).heap.size = wb.heap.size + 1 := by simp
  have hmv : ∀ g, g < wa.heap.size → v11.ownBlock ≠ some g → v12.ownBlock ≠ some g → wd.heap[g]? = wa.heap[g]? := fun g hg n1 n2 =>
    (g2.block g (by omega) (fun e => n2 e.symm)).trans (((Below.heap_alloc wb o g (by omega))).trans (g1.block g hg fun e => n1 e.symm))
  refine ⟨?_, ?_, fun i x hx => ?_⟩
  · rw [List.length_append, List.map_append]
    refine row_move h1 fun g hg => ?_
    have hlt := (row_lt h1 hg).1
    have hne : v12.ownBlock ≠ some g := by
      intro e
      rcases a1 g hg with h3 | h3
      · exact rows_ne h.rows h.times (by decide) h3 e
      · have := (row_lt h.times e).1; omega
    exact (g2.block g (by omega) (fun e => hne e.symm)).trans (Below.heap_alloc wb o g hlt)
  · rw [List.length_append, List.length_singleton, List.range_succ, List.map_append]
    exact h2
  · have key : BV wa (some ⟨x.1, 0, none⟩) (rdv (S.V i) t).2 ∧ w0.heap.size ≤ x.1 ∧ x.1 < wa.heap.size ∧ v11.ownBlock ≠ some x.1 ∧ v12.ownBlock ≠ some x.1 := by
      rcases Nat.lt_or_ge i xs.length with hi | hi
      · rw [List.getElem?_append_left hi] at hx
        exact h.bv i x hx
      · rw [List.getElem?_append_right hi] at hx
        have hi0 : i = xs.length := by
          rcases Nat.lt_or_ge (i - xs.length) 1 with h | h
          · omega
          · rw [List.getElem?_eq_none (by simpa using h)] at hx; cases hx
        subst hi0
        simp at hx
        subst hx
        exact ⟨hy, hy1, hy2, hy3, hy4⟩
    obtain ⟨k1, k2, k3, k4, k5⟩ := key
    refine ⟨bv_move k1 (by omega) fun hl => hmv _ hl k4 k5, k2, by omega, fun e => ?_, fun e => ?_⟩
    · rcases a1 _ e with h3 | h3
      · exact k4 h3
      · omega
    · rcases a2 _ e with h3 | h3
      · exact k5 h3
      · omega

end Go.Proofs.Ytjpoiijifnfjhaa
