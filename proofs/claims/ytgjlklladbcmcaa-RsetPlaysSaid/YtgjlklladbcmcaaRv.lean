/- Proved: the document's buffer gets another row. -/
import Derived.Test.YtgjlklladbcmcaaRx
namespace Go.Proofs.Ytgjlklladbcmcaa
open Go.RowKit

theorem bv_far {w : World} {b d : Nat} {L : List Nat} {a m : Int} {v : Value} {t : TypeId} (h : BV w (some ⟨b, 0, none⟩) L) (h0 : 0 < L.length) (hd : w.heap[d]? = some (.cells #[.int .i64 a, .int .i64 m, v] t (0, 0))) : b ≠ d := by
  obtain ⟨b', o', e, _, hc⟩ := h.pos h0
  injection e with e
  injection e with e1 e2
  subst e1 e2
  intro e
  have := hc 0 h0
  rw [e, cell_at hd] at this
  simp at this
theorem rq_turn {wx wz : World} {d : Nat} {S S1 : St} {v v' : Value} {l l' : List Lt} {Z : Nat → Prop} (h : Rq wx d S Z v l) (hd : Dm wx wz v' l') (hok : Ok S1) (hl : l'.map (·.1) = ls S1) (hn : S1.n = S.n) (hm : S1.most = S.most) (hZ : ∀ g, wx.heap.size ≤ g → Z g) (hx : ∀ x ∈ l', Z x.2.1) : Rq (wz.setCell ⟨d, 2, none⟩ v') d S1 Z v' l' := by
  have hb := hd.at_.keep h.box
  have hmv : Mv (fun g => g = d) wz (wz.setCell ⟨d, 2, none⟩ v') := Mv.set (F := fun g => g = d) (Mv.refl _ wz) (p := ⟨d, 2, none⟩) (Or.inl rfl) _
  refine ⟨hok, ?_, ⟨own_turn hd.row (Nat.zero_le _) hmv fun g cs hg e => cells_ne hg hb (by decide) e, fun x hx => ⟨bv_mv (hd.bv x hx).1 hmv ?_, Nat.lt_of_lt_of_le (hd.bv x hx).2.2 hmv.size⟩⟩, hl, h.pd, fun g hg => hZ g (row_lt hd.row hg).2, hx⟩
  · rw [hn, hm]; exact heap_set hb 2 v'
  · refine bv_far (hd.bv x hx).1 ?_ hb
    have hx1 : x.1 ∈ ls S1 := by rw [← hl]; exact List.mem_map.2 ⟨x, hx, rfl⟩
    have := ls_40 hok _ hx1
    omega
/-- A block from elsewhere is no part of the row under way. -/
theorem Dm.old {w0 wr : World} {v : Value} {l : List Lt} (h : Dm w0 wr v l) {g : Nat} (hg : g < w0.heap.size) : ¬ v.ownBlock = some g := fun e => by have := (row_lt h.row e).2; omega

end Go.Proofs.Ytgjlklladbcmcaa
