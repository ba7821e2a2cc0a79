/- Proved: words for a view in memory: its struct, its read set, its reads; what a step does with it. -/
import Derived.Test.YtgjlklladbcmcaaLk
import Derived.Test.YtgjlklladbcmcaaIAd
namespace Go.Proofs.Ytgjlklladbcmcaa
open Go.RowKit

/-- The view at bv, of the map at bm and the buffer at bb, at the time t: its read set's extents L, its reads R; all its blocks are among P. -/
structure Vq (w : World) (bv bm bb : Nat) (t : Int) (L : List (Int × Int)) (R : List Rd) (P : Nat → Prop) (bs : Nat) (vs vr : Value) (l : List Lr) : Prop where
  box : Vb w bv bm bb t bs vr
  sv : Iv.Sv w bs vs 64 L
  rw : Rw w vr l
  is : l.map (·.1) = R
  pv : P bv
  ps : ∀ g, Iv.Ft bs vs g → P g
  pr : ∀ g, vr.ownBlock = some g → P g
  px : ∀ x ∈ l, P x.2.1
  ax : ∀ x ∈ l, ¬ Iv.Ft bs vs x.2.1 ∧ x.2.1 ≠ bv
def VP (w : World) (bv bm bb : Nat) (t : Int) (L : List (Int × Int)) (R : List Rd) (P : Nat → Prop) : Prop := ∃ bs vs vr l, Vq w bv bm bb t L R P bs vs vr l
section
variable {w w' : World} {bv bm bb bs : Nat} {t : Int} {L L' : List (Int × Int)} {R : List Rd} {P Q : Nat → Prop} {vs vs' vr : Value} {l : List Lr}
theorem Vq.on (h : Vq w bv bm bb t L R P bs vs vr l) (hA : At w w') : Vq w' bv bm bb t L R P bs vs vr l :=
  ⟨hA.keep h.box, h.sv.on hA, h.rw.on hA, h.is, h.pv, h.ps, h.pr, h.px, h.ax⟩
theorem Vq.mv {G : Nat → Prop} (h : Vq w bv bm bb t L R P bs vs vr l) (hm : Mv G w w') (hG : ∀ g, P g → ¬ G g) : Vq w' bv bm bb t L R P bs vs vr l :=
  ⟨hm.keep h.box (hG _ h.pv), h.sv.keep hm (fun g hg => hG g (h.ps g hg)), h.rw.mv hm (fun g hg => hG g (h.pr g hg)) (fun x hx => hG _ (h.px x hx)), h.is, h.pv, h.ps, h.pr, h.px, h.ax⟩
theorem Vq.more (h : Vq w bv bm bb t L R P bs vs vr l) (hP : ∀ g, g < w.heap.size → P g → Q g) : Vq w bv bm bb t L R Q bs vs vr l :=
  ⟨h.box, h.sv, h.rw, h.is, hP _ (lt_heap h.box) h.pv, fun g hg => hP g (h.sv.lt g hg) (h.ps g hg), fun g hg => hP g (h.rw.lt hg) (h.pr g hg), fun x hx => hP _ (h.rw.bv x hx).2 (h.px x hx), h.ax⟩
/-- A block that is none of the view's may be left out. -/
theorem Vq.but {g0 : Nat} (h : Vq w bv bm bb t L R P bs vs vr l) (h1 : bv ≠ g0) (h2 : ¬ Iv.Ft bs vs g0) (h3 : vr.ownBlock ≠ some g0) (h4 : ∀ x ∈ l, x.2.1 ≠ g0) : Vq w bv bm bb t L R (fun q => P q ∧ q ≠ g0) bs vs vr l :=
  ⟨h.box, h.sv, h.rw, h.is, ⟨h.pv, h1⟩, fun g hg => ⟨h.ps g hg, fun e => h2 (by rw [← e]; exact hg)⟩, fun g hg => ⟨h.pr g hg, fun e => h3 (by rw [← e]; exact hg)⟩, fun x hx => ⟨h.px x hx, h4 x hx⟩, h.ax⟩
theorem VP.on (h : VP w bv bm bb t L R P) (hA : At w w') : VP w' bv bm bb t L R P := by obtain ⟨bs, vs, vr, l, h⟩ := h; exact ⟨bs, vs, vr, l, h.on hA⟩
theorem VP.mv {G : Nat → Prop} (h : VP w bv bm bb t L R P) (hm : Mv G w w') (hG : ∀ g, P g → ¬ G g) : VP w' bv bm bb t L R P := by obtain ⟨bs, vs, vr, l, h⟩ := h; exact ⟨bs, vs, vr, l, h.mv hm hG⟩
theorem VP.more (h : VP w bv bm bb t L R P) (hP : ∀ g, g < w.heap.size → P g → Q g) : VP w bv bm bb t L R Q := by obtain ⟨bs, vs, vr, l, h⟩ := h; exact ⟨bs, vs, vr, l, h.more hP⟩
theorem Vq.far (h : Vq w bv bm bb t L R P bs vs vr l) : ¬ Iv.Ft bs vs bv := by
  rintro (e | e)
  · exact cells_ne h.box h.sv.box (by decide) e
  · rcases h.sv.row.form with ⟨rfl, _⟩ | ⟨g, c, T, rfl, _, _, _, hg⟩
    · cases e
    · injection e with e
      exact cells_ne hg h.box (by decide) e
theorem rw_block (h : Rw w vr l) {g : Nat} (hg : vr.ownBlock = some g) : ∃ cs, w.heap[g]? = some (.cells cs 67 (0, 0)) := by
  rcases h.row.2 with ⟨e, _⟩ | ⟨g', cap, cur, e, _, hh, _⟩
  · rw [e] at hg; cases hg
  · rw [e] at hg; injection hg with hg; subst hg; exact ⟨cur, hh⟩
theorem Vq.farr (h : Vq w bv bm bb t L R P bs vs vr l) {g : Nat} (hg : vr.ownBlock = some g) : ¬ Iv.Ft bs vs g ∧ g ≠ bv := by
  obtain ⟨cs, hh⟩ := rw_block h.rw hg
  refine ⟨?_, fun e => cells_ne hh h.box (by decide) e⟩
  rintro (e | e)
  · exact cells_ne hh h.sv.box (by decide) e
  · rcases h.sv.row.form with ⟨rfl, _⟩ | ⟨g', c, T, rfl, _, _, _, hg'⟩
    · cases e
    · injection e with e
      exact cells_ne hg' hh (by decide) e
theorem Vq.mv' {G : Nat → Prop} (h : Vq w bv bm bb t L R P bs vs vr l) (hm : Mv G w w') (h1 : ¬ G bv) (h2 : ∀ g, Iv.Ft bs vs g → ¬ G g) (h3 : ∀ g, vr.ownBlock = some g → ¬ G g) (h4 : ∀ x ∈ l, ¬ G x.2.1) : Vq w' bv bm bb t L R P bs vs vr l :=
  ⟨hm.keep h.box h1, h.sv.keep hm h2, h.rw.mv hm h3 h4, h.is, h.pv, h.ps, h.pr, h.px, h.ax⟩
/-- A row of bytes beside the view was written. -/
theorem Vq.bytes {v : Value} {n B : Nat} {xs : List Value} (h : Vq w bv bm bb t L R P bs vs vr l) (hr : w.ownsRow B 5 1 v n xs) (hm : Mv (fun g => v.ownBlock = some g) w w') (hx : ∀ x ∈ l, v.ownBlock ≠ some x.2.1) : Vq w' bv bm bb t L R P bs vs vr l := by
  have hb : ∀ g, v.ownBlock = some g → ∃ cs, w.heap[g]? = some (.cells cs 5 (0, 0)) := fun g hg => by
    rcases hr.2 with ⟨e, _⟩ | ⟨g', cap, cur, e, _, hh, _⟩
    · rw [e] at hg; cases hg
    · rw [e] at hg; injection hg with hg; subst hg; exact ⟨cur, hh⟩
  refine h.mv' hm (fun e => ?_) (fun g hg e => ?_) (fun g hg e => ?_) hx
  · obtain ⟨cs, hc⟩ := hb _ e
    exact cells_ne hc h.box (by decide) rfl
  · obtain ⟨cs, hc⟩ := hb _ e
    rcases hg with rfl | hg
    · exact cells_ne hc h.sv.box (by decide) rfl
    · rcases h.sv.row.form with ⟨rfl, _⟩ | ⟨g', c, T, rfl, _, _, _, hg'⟩
      · cases hg
      · injection hg with hg
        exact cells_ne hc hg' (by decide) hg.symm
  · obtain ⟨cs, hc⟩ := hb _ e
    obtain ⟨cs', hc'⟩ := rw_block h.rw hg
    exact cells_ne hc hc' (by decide) rfl
theorem own_turn {w w' : World} {B B' n s : Nat} {e : TypeId} {v : Value} {xs : List Value} {F : Nat → Prop} (h : w.ownsRow B e s v n xs) (hB : B' ≤ B) (hm : Mv F w w') (hF : ∀ g cs, w.heap[g]? = some (.cells cs e (0, 0)) → ¬ F g) : w'.ownsRow B' e s v n xs := by
  refine ⟨h.1, ?_⟩
  rcases h.2 with h1 | ⟨g, cap, cur, hv, hb, hh, hr⟩
  · exact Or.inl h1
  · exact Or.inr ⟨g, cap, cur, hv, Nat.le_trans hB hb, hm.keep hh (hF g _ hh), hr⟩
/-- The read set was turned. -/
theorem Vq.added (h : Vq w bv bm bb t L R P bs vs vr l) (hd : Iv.Did w bs vs vs' w') (hs : Iv.Sv w' bs vs' 64 L') (hP : ∀ g, w.heap.size ≤ g → P g) : Vq w' bv bm bb t L' R P bs vs' vr l := by
  refine ⟨hd.mv.keep h.box h.far, hs, h.rw.mv hd.mv (fun g hg => (h.farr hg).1) (fun x hx => (h.ax x hx).1), h.is, h.pv, fun g hg => (hd.ft g hg).elim (h.ps g) (hP g), h.pr, h.px, fun x hx => ⟨fun hg => ?_, (h.ax x hx).2⟩⟩
  rcases hd.ft _ hg with h1 | h1
  · exact (h.ax x hx).1 h1
  · have := (h.rw.bv x hx).2; omega
/-- One read more was put behind the others. -/
theorem Vq.put {w3 w4 : World} {a : Int} {d : List Nat} {o : Bool} {gc cc gg cap : Nat} (h : Vq w3 bv bm bb t L R P bs vs vr l) (hb : BV w3 (some ⟨gc, 0, none⟩) d) (hd : d.length = 40 ∧ AllB d) (hgl : gc < w3.heap.size) (hgP : P gc) (hgn : ¬ Iv.Ft bs vs gc ∧ gc ≠ bv ∧ vr.ownBlock ≠ some gc) (hP : ∀ g, w3.heap.size ≤ g → P g)
    (hown : w4.ownsRow 0 67 3 (.slice (some ⟨gg, 0, none⟩) (l.length + 1) cap) (l.length + 1) (rcs l ++ [.int .i64 a, .slice (some ⟨gc, 0, none⟩) 40 cc, .bool o])) (hgrow : w3.grownBy w4 vr.ownBlock) (hat : vr.ownBlock = some gg ∨ w3.heap.size ≤ gg) :
    Vq (w4.setCell ⟨bv, 4, none⟩ (.slice (some ⟨gg, 0, none⟩) (l.length + 1) cap)) bv bm bb t L (R ++ [⟨a, d, o⟩]) P bs vs (.slice (some ⟨gg, 0, none⟩) (l.length + 1) cap) (l ++ [((⟨a, d, o⟩ : Rd), gc, cc)]) ∧ Mv P w3 (w4.setCell ⟨bv, 4, none⟩ (.slice (some ⟨gg, 0, none⟩) (l.length + 1) cap)) := by
  have hmv : Mv (fun j => vr.ownBlock = some j) w3 w4 := (Mv.refl _ _).grown hgrow fun j hj => Or.inl hj
  have h4 := h.rw.more hb hgl hd hgn.2.2 hown hgrow
  have hset : Mv (fun g => g = bv) w4 (w4.setCell ⟨bv, 4, none⟩ (.slice (some ⟨gg, 0, none⟩) (l.length + 1) cap)) := Mv.set (F := fun g => g = bv) (Mv.refl _ w4) (p := ⟨bv, 4, none⟩) (Or.inl rfl) _
  have hbx : Vb w4 bv bm bb t bs vr := hmv.keep h.box fun e => (h.farr e).2 rfl
  have hgg : gg ≠ bv := fun e => by
    rcases hat with h1 | h1
    · exact (h.farr h1).2 e
    · have := lt_heap h.box; omega
  refine ⟨⟨heap_set hbx 4 _, (h.sv.keep hmv fun g hg e => (h.farr e).1 hg).keep hset fun g hg e => h.far (by rw [← e]; exact hg), h4.mv hset (fun g hg e => ?_) (fun x hx e => ?_), by rw [List.map_append, h.is]; rfl, h.pv, h.ps, fun g hg => ?_, fun x hx => ?_, fun x hx => ?_⟩, ?_⟩
  · have hg : gg = g := by injection hg
    exact hgg (hg.trans e)
  · rcases List.mem_append.1 hx with hx | hx
    · exact (h.ax x hx).2 e
    · rw [List.mem_singleton] at hx; subst hx; exact hgn.2.1 e
  · have hg : gg = g := by injection hg
    subst hg
    exact hat.elim (h.pr _) (hP _)
  · rcases List.mem_append.1 hx with hx | hx
    · exact h.px x hx
    · rw [List.mem_singleton] at hx; subst hx; exact hgP
  · rcases List.mem_append.1 hx with hx | hx
    · exact h.ax x hx
    · rw [List.mem_singleton] at hx; subst hx; exact ⟨hgn.1, hgn.2.1⟩
  · exact (hmv.more fun g hg => Or.inl (h.pr g hg)).trans (hset.more fun g hg => Or.inl (show P g by rw [hg]; exact h.pv)) fun g hg => Or.inl hg
end

set_option maxHeartbeats 400000 in
theorem blocks_nil (w : World) : Calls Try.prog 34 #[.pointer none] w fun e w' => e = .returned (.int .i64 0) ∧ w = w' := by
  go_enter Try.func34, Try.ntmps34
  go_wp2
  go_ret
  exact ⟨rfl, rfl⟩
set_option maxHeartbeats 400000 in
theorem blocks_any {w : World} {bv bm bb bs mm : Nat} {t : Int} {vr : Value} {M : Em.St} {FM : Nat → Prop} {D : DataW Value} {hd : Nat → Value} (hV : Vb w bv bm bb t bs vr) (hM : Em.Mq w bm M FM mm D hd) :
    Calls Try.prog 34 #[.pointer (some ⟨bv, 0, none⟩)] w fun e w' => e = .returned (.int .i64 (M.n : Int)) ∧ w = w' := by
  obtain ⟨c0, -, -, -, -⟩ := hV.cells
  have HB := Lib.hid (Em.blocks_mp hM)
  clear hV hM
  go_enter Try.func34, Try.ntmps34
  go_wp2_with fail
  refine HB.out.mono ?_
  rintro e w' ⟨rfl, rfl⟩
  go_wp2
  go_ret
  exact ⟨rfl, rfl⟩
set_option maxHeartbeats 400000 in
theorem at_nil (w : World) : Calls Try.prog 22 #[.pointer none] w fun e w' => e = .returned (.int .i64 0) ∧ w = w' := by
  go_enter Try.func22, Try.ntmps22
  go_wp2
  go_ret
  exact ⟨rfl, rfl⟩
set_option maxHeartbeats 400000 in
theorem at_any {w : World} {bv bm bb bs : Nat} {t : Int} {vr : Value} (hV : Vb w bv bm bb t bs vr) :
    Calls Try.prog 22 #[.pointer (some ⟨bv, 0, none⟩)] w fun e w' => e = .returned (.int .i64 t) ∧ w = w' := by
  obtain ⟨-, -, c2, -, -⟩ := hV.cells
  clear hV
  go_enter Try.func22, Try.ntmps22
  go_wp2
  go_ret
  exact ⟨rfl, rfl⟩

end Go.Proofs.Ytgjlklladbcmcaa
