/- Proved: words for the document's view in memory; what a step does with it. -/
import Derived.Test.YtgjlklladbcmcaaRa
import Derived.Test.YtgjlklladbcmcaaRx
import Derived.Test.YtgjlklladbcmcaaRg
import Derived.Test.YtgjlklladbcmcaaReb
namespace Go.Proofs.Ytgjlklladbcmcaa
open Go.RowKit
open Iv (In Nm Is Vm Ow)

/-- The document's view at z, of the map at x and the buffer at y, at the time t: its read set's extents L, its reads R; all its blocks are among P. -/
structure Zq (w : World) (z x y : Nat) (t : Int) (L : List (Int × Int)) (R : List Rd) (P : Nat → Prop) (v r : Value) (l : List Lr) : Prop where
  box : Zb w z x y t v r
  ow : Ow w v L
  nm : Nm L
  le : L.length ≤ 64
  rw : Rw w r l
  is : l.map (·.1) = R
  pz : P z
  pv : ∀ g, v.ownBlock = some g → P g
  pr : ∀ g, r.ownBlock = some g → P g
  px : ∀ u ∈ l, P u.2.1
  nx : ∀ u ∈ l, u.2.1 ≠ z
def Rz (w : World) (z x y : Nat) (t : Int) (L : List (Int × Int)) (R : List Rd) (P : Nat → Prop) : Prop := ∃ v r l, Zq w z x y t L R P v r l
section
variable {w w' : World} {z x y : Nat} {t : Int} {L : List (Int × Int)} {R : List Rd} {P Q : Nat → Prop} {v r : Value} {l : List Lr}
theorem Zq.on (h : Zq w z x y t L R P v r l) (hA : At w w') : Zq w' z x y t L R P v r l := ⟨hA.keep h.box, h.ow.on hA, h.nm, h.le, h.rw.on hA, h.is, h.pz, h.pv, h.pr, h.px, h.nx⟩
theorem Zq.mv' {G : Nat → Prop} (h : Zq w z x y t L R P v r l) (hm : Mv G w w') (h1 : ¬ G z) (h2 : ∀ g, v.ownBlock = some g → ¬ G g) (h3 : ∀ g, r.ownBlock = some g → ¬ G g) (h4 : ∀ u ∈ l, ¬ G u.2.1) : Zq w' z x y t L R P v r l :=
  ⟨hm.keep h.box h1, h.ow.mv hm h2, h.nm, h.le, h.rw.mv hm h3 h4, h.is, h.pz, h.pv, h.pr, h.px, h.nx⟩
theorem Zq.mv {G : Nat → Prop} (h : Zq w z x y t L R P v r l) (hm : Mv G w w') (hG : ∀ g, P g → ¬ G g) : Zq w' z x y t L R P v r l :=
  h.mv' hm (hG _ h.pz) (fun g hg => hG g (h.pv g hg)) (fun g hg => hG g (h.pr g hg)) (fun u hu => hG _ (h.px u hu))
theorem Zq.more (h : Zq w z x y t L R P v r l) (hP : ∀ g, g < w.heap.size → P g → Q g) : Zq w z x y t L R Q v r l :=
  ⟨h.box, h.ow, h.nm, h.le, h.rw, h.is, hP _ (lt_heap h.box) h.pz, fun g hg => hP g (h.ow.lt hg) (h.pv g hg), fun g hg => hP g (h.rw.lt hg) (h.pr g hg), fun u hu => hP _ (h.rw.bv u hu).2 (h.px u hu), h.nx⟩
theorem Rz.on (h : Rz w z x y t L R P) (hA : At w w') : Rz w' z x y t L R P := by obtain ⟨v, r, l, h⟩ := h; exact ⟨v, r, l, h.on hA⟩
theorem Rz.mv {G : Nat → Prop} (h : Rz w z x y t L R P) (hm : Mv G w w') (hG : ∀ g, P g → ¬ G g) : Rz w' z x y t L R P := by obtain ⟨v, r, l, h⟩ := h; exact ⟨v, r, l, h.mv hm hG⟩
theorem Rz.more (h : Rz w z x y t L R P) (hP : ∀ g, g < w.heap.size → P g → Q g) : Rz w z x y t L R Q := by obtain ⟨v, r, l, h⟩ := h; exact ⟨v, r, l, h.more hP⟩
theorem Zq.cells (h : Zq w z x y t L R P v r l) : w.cell? ⟨z, 0, none⟩ = some (.pointer (some ⟨x, 0, none⟩)) ∧ w.cell? ⟨z, 1, none⟩ = some (.pointer (some ⟨y, 0, none⟩)) ∧ w.cell? ⟨z, 2, none⟩ = some (.int .i64 t) ∧ w.cell? ⟨z, 4, none⟩ = some v ∧ w.cell? ⟨z, 5, none⟩ = some r :=
  ⟨(cell_at h.box 0).trans rfl, (cell_at h.box 1).trans rfl, (cell_at h.box 2).trans rfl, (cell_at h.box 4).trans rfl, (cell_at h.box 5).trans rfl⟩
theorem ow_block {w : World} {v : Value} {L : List (Int × Int)} (h : Ow w v L) {g : Nat} (hg : v.ownBlock = some g) : ∃ cs, w.heap[g]? = some (.cells cs 29 (0, 0)) := by
  rcases h.form with ⟨rfl, _⟩ | ⟨g', c, T, rfl, _, _, _, hg'⟩
  · cases hg
  · injection hg with hg
    subst hg
    exact ⟨_, hg'⟩
/-- A row of bytes beside the view was written. -/
theorem Zq.bytes {vo : Value} {n B : Nat} {xs : List Value} (h : Zq w z x y t L R P v r l) (hr : w.ownsRow B 5 1 vo n xs) (hm : Mv (fun g => vo.ownBlock = some g) w w') (hx : ∀ u ∈ l, vo.ownBlock ≠ some u.2.1) : Zq w' z x y t L R P v r l := by
  have hb : ∀ g, vo.ownBlock = some g → ∃ cs, w.heap[g]? = some (.cells cs 5 (0, 0)) := fun g hg => by
    rcases hr.2 with ⟨e, _⟩ | ⟨g', cap, cur, e, _, hh, _⟩
    · rw [e] at hg; cases hg
    · rw [e] at hg; injection hg with hg; subst hg; exact ⟨cur, hh⟩
  refine h.mv' hm (fun e => ?_) (fun g hg e => ?_) (fun g hg e => ?_) hx
  · obtain ⟨cs, hc⟩ := hb _ e
    exact cells_ne hc h.box (by decide) rfl
  · obtain ⟨cs, hc⟩ := hb _ e
    obtain ⟨cs', hc'⟩ := ow_block h.ow hg
    exact cells_ne hc hc' (by decide) rfl
  · obtain ⟨cs, hc⟩ := hb _ e
    obtain ⟨cs', hc'⟩ := rw_block h.rw hg
    exact cells_ne hc hc' (by decide) rfl
/-- One read more was put behind the others. -/
theorem Zq.put {w3 w4 : World} {a : Int} {d : List Nat} {o : Bool} {gc cc gg cap : Nat} (h : Zq w3 z x y t L R P v r l) (hb : BV w3 (some ⟨gc, 0, none⟩) d) (hd : d.length = 40 ∧ AllB d) (hgl : gc < w3.heap.size) (hgP : P gc) (hgn : gc ≠ z ∧ r.ownBlock ≠ some gc) (hP : ∀ g, w3.heap.size ≤ g → P g)
    (hown : w4.ownsRow 0 67 3 (.slice (some ⟨gg, 0, none⟩) (l.length + 1) cap) (l.length + 1) (rcs l ++ [.int .i64 a, .slice (some ⟨gc, 0, none⟩) 40 cc, .bool o])) (hgrow : w3.grownBy w4 r.ownBlock) (hat : r.ownBlock = some gg ∨ w3.heap.size ≤ gg) :
    Zq (w4.setCell ⟨z, 5, none⟩ (.slice (some ⟨gg, 0, none⟩) (l.length + 1) cap)) z x y t L (R ++ [⟨a, d, o⟩]) P v (.slice (some ⟨gg, 0, none⟩) (l.length + 1) cap) (l ++ [((⟨a, d, o⟩ : Rd), gc, cc)]) ∧ Mv (fun g => r.ownBlock = some g ∨ g = z) w3 (w4.setCell ⟨z, 5, none⟩ (.slice (some ⟨gg, 0, none⟩) (l.length + 1) cap)) := by
  have hmv : Mv (fun j => r.ownBlock = some j) w3 w4 := (Mv.refl _ _).grown hgrow fun j hj => Or.inl hj
  have h4 := h.rw.more hb hgl hd hgn.2 hown hgrow
  have hset : Mv (fun g => g = z) w4 (w4.setCell ⟨z, 5, none⟩ (.slice (some ⟨gg, 0, none⟩) (l.length + 1) cap)) := Mv.set (F := fun g => g = z) (Mv.refl _ w4) (p := ⟨z, 5, none⟩) (Or.inl rfl) _
  have hrz : r.ownBlock ≠ some z := fun e => by
    obtain ⟨cs', hc'⟩ := rw_block h.rw e
    exact cells_ne hc' h.box (by decide) rfl
  have hvz : v.ownBlock ≠ some z := fun e => by
    obtain ⟨cs', hc'⟩ := ow_block h.ow e
    exact cells_ne hc' h.box (by decide) rfl
  have hrv : ∀ g, v.ownBlock = some g → r.ownBlock ≠ some g := fun g hg e => by
    obtain ⟨cs, hc⟩ := ow_block h.ow hg
    obtain ⟨cs', hc'⟩ := rw_block h.rw e
    exact cells_ne hc hc' (by decide) rfl
  have hbx : Zb w4 z x y t v r := hmv.keep h.box hrz
  have hgg : gg ≠ z := fun e => by
    rcases hat with h1 | h1
    · exact hrz (by rw [h1, e])
    · have := lt_heap h.box; omega
  refine ⟨⟨heap_set hbx 5 _, (h.ow.mv hmv hrv).mv hset (fun g hg e => hvz (by rw [hg, e])), h.nm, h.le, h4.mv hset (fun g hg e => ?_) (fun u hu e => ?_), by rw [List.map_append, h.is]; rfl, h.pz, h.pv, fun g hg => ?_, fun u hu => ?_, fun u hu => ?_⟩, ?_⟩
  · have hg : gg = g := by injection hg
    exact hgg (hg.trans e)
  · rcases List.mem_append.1 hu with hu | hu
    · exact h.nx u hu e
    · rw [List.mem_singleton] at hu; subst hu; exact hgn.1 e
  · have hg : gg = g := by injection hg
    subst hg
    exact hat.elim (h.pr _) (hP _)
  · rcases List.mem_append.1 hu with hu | hu
    · exact h.px u hu
    · rw [List.mem_singleton] at hu; subst hu; exact hgP
  · rcases List.mem_append.1 hu with hu | hu
    · exact h.nx u hu
    · rw [List.mem_singleton] at hu; subst hu; exact hgn.1
  · exact (hmv.more fun g hg => Or.inl (Or.inl hg)).trans (hset.more fun g hg => Or.inl (Or.inr hg)) fun g hg => Or.inl hg
/-- The read set was turned. -/
theorem Zq.added {v' : Value} {L' : List (Int × Int)} (h : Zq w z x y t L R P v r l) (hb : Zb w' z x y t v' r) (ho : Ow w' v' L') (hn : Nm L') (hl : L'.length ≤ 64) (hm : Mv (fun g => g = z) w w') (hg : ∀ g, v'.ownBlock = some g → P g) : Zq w' z x y t L' R P v' r l :=
  ⟨hb, ho, hn, hl, h.rw.mv hm (fun g hg e => by
    obtain ⟨cs', hc'⟩ := rw_block h.rw hg
    exact cells_ne hc' h.box (by decide) e) h.nx, h.is, h.pz, hg, h.pr, h.px, h.nx⟩
/-- What Add of one extent did with the view: its code z0, its read set L2. -/
def Zadd (z x y : Nat) (t : Int) (L : List (Int × Int)) (R : List Rd) (P : Nat → Prop) (r : Value) (l : List Lr) (e : Int × Int) (z0 : Int) (w w' : World) : Prop :=
  ∃ v' L2, Zq w' z x y t L2 R P v' r l ∧ Mv (fun g => g = z) w w' ∧ ((z0 = 0 ∧ (Iv.nf (L ++ [e])).length ≤ 64 ∧ L2 = Iv.nf (L ++ [e])) ∨ (z0 = 7 ∧ 64 < (Iv.nf (L ++ [e])).length ∧ L2 = L))
theorem zadd {w0 : World} {f0 n0 : Int} {e : Ending} (h : Zq w z x y t L R P v r l) (hv : Vm (f0, n0)) (hA : At w0 w) (hP : ∀ g, w0.heap.size ≤ g → P g) (hr : Radd z x y t r (L ++ [(f0, n0)]) w e w') : ∃ z0, e = .returned (.int .i64 z0) ∧ Zadd z x y t L R P r l (f0, n0) z0 w w' := by
  have hvl : ∀ u ∈ L ++ [(f0, n0)], Vm u := fun u hu => by
    rcases List.mem_append.1 hu with hu | hu
    · exact h.nm.1 u hu
    · rw [List.mem_singleton] at hu; subst hu; exact hv
  obtain ⟨M', hi, hor⟩ := hr
  have e1 : M' = Iv.nf (L ++ [(f0, n0)]) := Iv.is_one hi (Iv.nf_is hvl)
  subst e1
  rcases hor with ⟨hl, rfl, v', hb, ho, hm, hg⟩ | ⟨hl, rfl, hA'⟩
  · exact ⟨0, rfl, v', _, h.added hb ho hi.1 hl hm (fun g hg' => hP g (Nat.le_trans hA.size (hg g hg'))), hm, Or.inl ⟨rfl, hl, rfl⟩⟩
  · exact ⟨7, rfl, v, L, h.on hA', Mv.of_below _ hA', Or.inr ⟨rfl, hl, rfl⟩⟩
end

end Go.Proofs.Ytgjlklladbcmcaa
