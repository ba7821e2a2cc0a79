/- Proved: words for the document's map under way: what has been laid out; the map gets another row. -/
import Derived.Test.YtcffoebpgjonmaaRm
namespace Go.Proofs.Ytcffoebpgjonmaa
open Go.RowKit

/-- What has been laid out of the first i versions and the first k new ones lies in the row v. -/
structure Mw (w3 wr : World) (X : List Lv) (Q : List Vx) (i k : Nat) (v : Value) (O : List Lv) : Prop where
  vr : Vr wr v O
  mg : Mg (X.map (·.1)) Q i k (O.map (·.1))
  len : O.length ≤ i + k
  nw : ∀ g, v.ownBlock = some g → w3.heap.size ≤ g
  dt : ∀ x ∈ O, x ∈ X ∨ w3.heap.size ≤ x.2.1
  at_ : At w3 wr
theorem Mw.start (w3 : World) (X : List Lv) (Q : List Vx) : Mw w3 w3 X Q 0 0 (.slice none 0 0) [] := ⟨Vr.nil _, mg_start _ _, Nat.le_refl _, fun g hg => (by cases hg), fun x hx => (by cases hx), At.start _⟩
section
variable {w3 wr W3 W4 : World} {X : List Lv} {Q : List Vx} {i k i' k' : Nat} {v : Value} {O : List Lv}
theorem Mw.on (h : Mw w3 wr X Q i k v O) (hA : At wr W3) : Mw w3 W3 X Q i k v O := ⟨h.vr.on hA, h.mg, h.len, h.nw, h.dt, h.at_.next hA⟩
theorem Mw.add {y : Vx} {gc cc gg cap : Nat} (h : Mw w3 wr X Q i k v O) (hA : At wr W3) (hmg : Mg (X.map (·.1)) Q i' k' (O.map (·.1) ++ [y])) (hl : i + k + 1 ≤ i' + k') (hb : BV W3 (some ⟨gc, 0, none⟩) y.2.2) (hgl : gc < W3.heap.size) (hd : y.2.2.length = 40 ∧ AllB y.2.2) (hnb : v.ownBlock ≠ some gc) (hdt : (y, gc, cc) ∈ X ∨ w3.heap.size ≤ gc)
    (hown : W4.ownsRow 0 73 3 (.slice (some ⟨gg, 0, none⟩) (O.length + 1) cap) (O.length + 1) (vcs O ++ [.int .i64 y.1, .int .i64 y.2.1, .slice (some ⟨gc, 0, none⟩) 40 cc])) (hgrow : W3.grownBy W4 v.ownBlock) (hat : v.ownBlock = some gg ∨ W3.heap.size ≤ gg) :
    Mw w3 W4 X Q i' k' (.slice (some ⟨gg, 0, none⟩) (O.length + 1) cap) (O ++ [(y, gc, cc)]) := by
  have hmv : Mv (fun j => v.ownBlock = some j) W3 W4 := (Mv.refl _ _).grown hgrow fun j hj => Or.inl hj
  refine ⟨(h.vr.on hA).more hb hgl hd hnb hown hgrow, by rw [List.map_append]; exact hmg, by rw [List.length_append]; have := h.len; simp; omega, fun g hg => ?_, fun x hx => ?_, hmv.at_ (h.at_.next hA) h.nw⟩
  · have hg : gg = g := by injection hg
    subst hg
    rcases hat with h1 | h1
    · exact h.nw _ h1
    · exact Nat.le_trans (h.at_.next hA).size h1
  · rcases List.mem_append.1 hx with hx | hx
    · exact h.dt x hx
    · rw [List.mem_singleton] at hx; subst hx; exact hdt
end
theorem mw_grown {w3 wr W8 W9 : World} {X : List Lv} {Q : List Vx} {i k : Nat} {v : Value} {O : List Lv} (h : Mw w3 wr X Q i k v O) (hA : At wr W8) (hg : W8.grownBy W9 v.ownBlock) : At w3 W9 :=
  ((Mv.refl (fun j => v.ownBlock = some j) _).grown hg fun _ => Or.inl).at_ (h.at_.next hA) h.nw
theorem bv_apart {w : World} {b d : Nat} {L : List Nat} {a : Int} (h : BV w (some ⟨b, 0, none⟩) L) (h0 : 0 < L.length) (hd : w.cell? ⟨d, 0, none⟩ = some (.int .i64 a)) : b ≠ d := by
  obtain ⟨b', o', e, _, hc⟩ := h.pos h0
  injection e with e
  injection e with e1 e2
  subst e1 e2
  intro e
  have := hc 0 h0
  rw [e, hd] at this
  simp at this
/-- The document's map gets another row, and another last time. -/
theorem rm_turn {w w3 wr : World} {d N u : Nat} {M : Em.St} {T : Int} {Q : List Pt} {P : Nat → Prop} {v v' : Value} {X O : List Lv} (h : Rmq w d M P v X) (hA : At w w3) (hm : Mw w3 wr X (qv T Q) X.length Q.length v' O) (hP : ∀ g, w.heap.size ≤ g → P g) (hf : Em.Fine M T Q) (hc : M.c < 20000) (hB : AllBy Q) (hX : X.length ≤ N) (hu : Q.length = u) :
    Rm ((wr.setCell ⟨d, 1, none⟩ v').setCell ⟨d, 2, none⟩ (.int .i64 T)) d (Em.ap M T Q) (N + u) P ∧ Mv (fun g => g = d) w ((wr.setCell ⟨d, 1, none⟩ v').setCell ⟨d, 2, none⟩ (.int .i64 T)) := by
  have hb := (hA.next hm.at_).keep h.box
  have h1 := heap_set hb 1 v'
  have h2 := heap_set h1 2 (.int .i64 T)
  have hmv : Mv (fun g => g = d) wr ((wr.setCell ⟨d, 1, none⟩ v').setCell ⟨d, 2, none⟩ (.int .i64 T)) := Mv.set (F := fun g => g = d) (Mv.set (F := fun g => g = d) (Mv.refl _ wr) (p := ⟨d, 1, none⟩) (Or.inl rfl) _) (p := ⟨d, 2, none⟩) (Or.inl rfl) _
  refine ⟨⟨v', O, ⟨?_, h2, hm.vr.mv hmv (fun g hg e => ?_) (fun x hx e => ?_), ?_, h.pd, fun g hg => ?_, fun x hx => ?_⟩, ?_⟩, (Mv.of_below _ (hA.next hm.at_)).trans hmv fun _ => Or.inl⟩
  · have := hf.okm h.ok hc hB Q.length
    rwa [Em.apm_all] at this
  · obtain ⟨cs, hcs⟩ := vr_block hm.vr hg
    exact cells_ne hcs hb (by decide) e
  · exact bv_apart (hm.vr.bv x hx).1 (by rw [(hm.vr.by_ x hx).1]; omega) ((cell_at hb 0).trans rfl) e
  · have := hm.mg
    rw [show X.length = (X.map (·.1)).length from (List.length_map _).symm] at this
    exact mg_end this h.kx fun p hp => by
      obtain ⟨j, hj, rfl⟩ := Em.mem_at hp
      rcases Nat.eq_zero_or_pos Q.length with e | e
      · omega
      · have a1 := hf.lo j hj
        have a2 := hf.hi j hj
        exact ⟨a1, a2⟩
  · exact hP g (Nat.le_trans hA.size (hm.nw g hg))
  · rcases hm.dt x hx with h3 | h3
    · exact h.px x h3
    · exact hP _ (Nat.le_trans hA.size h3)
  · have := hm.len; omega

end Go.Proofs.Ytcffoebpgjonmaa
