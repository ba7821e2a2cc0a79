/- Proved: words for a row of twenty slices of bytes; what the law WbufLast keeps between two vectors. -/
import Derived.Test.YthaiddhbifakhaaTot
import Derived.BigRegion
namespace Go.Proofs.Ythaiddhbifakhaa
open Go.RowKit

theorem rows_info : (Try.prog.info? 38).map (fun i => (i.zero, i.size, i.bytes)) = some (some (.slice none 0 0), 1, 24) := by kernel_rfl
theorem make_rows (w : World) : (Instr.makeSlice 54 (.int .i64 20) (.int .i64 20)).run Try.prog w =
    .ok (.slice (some ⟨w.heap.size, 0, none⟩) 20 20) (w.alloc (.cells (madeCells (Value.slice none 0 0).cells 20) 38)) := by
  obtain ⟨i0, hi, hz0, hz1, hz2⟩ := info_parts rows_info
  have h := run_make (P := Try.prog) w 54 38 i0 (.slice none 0 0) Try.underlying54 hi hz0 .i64 .i64 20 20 (by omega) (by omega) (by rw [hz2]; decide) (by omega)
  rw [h, hz1]
  rfl
/-- The block g holds 20 slices of bytes that read as Q's in the memory there was. -/
def WT (w0 w : World) (g : Nat) (Q : Nat → List Nat) : Prop := ∃ cs, w.heap[g]? = some (.cells cs 38 (0, 0)) ∧ cs.size = 20 ∧ ∀ k, k < 20 → ∃ A c, cs[k]? = some (.slice A (Q k).length c) ∧ BV w0 A (Q k)
theorem rows_made : madeCells (Value.slice none 0 0).cells 20 = (List.replicate 20 (Value.slice none 0 0)).toArray := by
  apply Array.toList_inj.1
  show (madeCells #[Value.slice none 0 0] 20).toList = _
  rw [toList_madeCells_one]
theorem WT.made (w0 w : World) : WT w0 (w.alloc (.cells (madeCells (Value.slice none 0 0).cells 20) 38)) w.heap.size fun _ => [] := by
  refine ⟨_, heap_alloc_new w _, by rw [rows_made]; rfl, fun k hk => ⟨none, 0, ?_, BV.nil _ _⟩⟩
  rw [rows_made, List.getElem?_toArray, List.getElem?_replicate, if_pos hk]; rfl
theorem WT.keep {w0 w w' : World} {g : Nat} {Q : Nat → List Nat} (h : WT w0 w g Q) {F : Nat → Prop} (hm : Mv F w w') (hF : ¬ F g) : WT w0 w' g Q := by
  obtain ⟨cs, h1, h2⟩ := h
  exact ⟨cs, hm.keep h1 hF, h2⟩
theorem WT.on {w0 w w' : World} {g : Nat} {Q : Nat → List Nat} (h : WT w0 w g Q) (hA : At w w') : WT w0 w' g Q := by
  obtain ⟨cs, h1, h2⟩ := h
  exact ⟨cs, hA.keep h1, h2⟩
theorem WT.at_ {w0 w : World} {g : Nat} {Q : Nat → List Nat} (h : WT w0 w g Q) (k : Nat) (hk : k < 20) : ∃ A c, w.cell? ⟨g, k, none⟩ = some (.slice A (Q k).length c) ∧ w.frozen? ⟨g, k, none⟩ = false ∧ BV w0 A (Q k) := by
  obtain ⟨cs, h1, h2, h3⟩ := h
  obtain ⟨A, c, h4, h5⟩ := h3 k hk
  exact ⟨A, c, (cell_at h1 k).trans h4, free_at h1 k, h5⟩
theorem WT.lt {w0 w : World} {g : Nat} {Q : Nat → List Nat} (h : WT w0 w g Q) : g < w.heap.size := by
  obtain ⟨cs, h1, _⟩ := h
  exact lt_heap h1
theorem WT.set {w0 w : World} {g : Nat} {Q : Nat → List Nat} (h : WT w0 w g Q) (k : Nat) (hk : k < 20) (A : Option Addr) (D : List Nat) (c : Nat) (hb : BV w0 A D) : WT w0 (w.setCell ⟨g, k, none⟩ (.slice A D.length c)) g fun i => if i = k then D else Q i := by
  obtain ⟨cs, h1, h2, h3⟩ := h
  refine ⟨_, heap_set h1 k _, by simpa using h2, fun i hi => ?_⟩
  by_cases e : i = k
  · subst e
    refine ⟨A, c, ?_, ?_⟩
    · show _ = some (Value.slice A (if i = i then D else Q i).length c)
      rw [if_pos rfl, Array.getElem?_setIfInBounds_self_of_lt (by omega)]
    · show BV w0 A (if i = i then D else Q i)
      rw [if_pos rfl]; exact hb
  · obtain ⟨A', c', h4, h5⟩ := h3 i hi
    refine ⟨A', c', ?_, ?_⟩
    · show _ = some (Value.slice A' (if i = k then D else Q i).length c')
      rw [if_neg e, Array.getElem?_setIfInBounds_ne (fun x => e x.symm)]; exact h4
    · show BV w0 A' (if i = k then D else Q i)
      rw [if_neg e]; exact h5

/-- The buffer at b in the state S, the rows at g as in the state T. -/
structure La (w : World) (b mb g : Nat) (S T : St) (Q : Nat → List Nat) (wr : World) : Prop where
  bo : Bo w wr b mb S
  n : S.n = 20
  m : S.most = 16
  wt : WT w wr g Q
  gw : w.heap.size ≤ g
  rd : ∀ k, k < 20 → Q k = T.g k
section
variable {w wr wr' : World} {b mb g : Nat} {S T S' : St} {Q : Nat → List Nat}
theorem La.on (h : La w b mb g S T Q wr) (hA : At wr wr') : La w b mb g S T Q wr' := ⟨h.bo.on hA, h.n, h.m, h.wt.on hA, h.gw, h.rd⟩
theorem La.next (h : La w b mb g S T Q wr) (hb : Bf wr' b mb S') (hm : Mv (fun g => g = mb) wr wr') (h1 : S'.n = S.n) (h2 : S'.most = S.most) : La w b mb g S' T Q wr' := by
  obtain ⟨cs, hcs, hr⟩ := h.wt
  exact ⟨h.bo.wrote hb hm, h1.trans h.n, h2.trans h.m, WT.keep ⟨cs, hcs, hr⟩ hm (fun e => h.bo.bf.far hcs e), h.gw, h.rd⟩
theorem La.as (h : La w b mb g S T Q wr) {T' : St} (e : T'.g = T.g) : La w b mb g S T' Q wr := ⟨h.bo, h.n, h.m, h.wt, h.gw, fun k hk => by rw [e]; exact h.rd k hk⟩
theorem La.put (h : La w b mb g S T Q wr) {k : Nat} (hk : k < 20) {d : List Nat} {A : Option Addr} {c : Nat} (hb : BV w A d) :
    La w b mb g S (upS T [((k : Int), d)]) (fun x => if x = k then d else Q x) (wr.setCell ⟨g, k, none⟩ (.slice A d.length c)) := by
  have hmv : Mv (fun x => x = g) wr (wr.setCell ⟨g, k, none⟩ (.slice A d.length c)) := Mv.set (F := fun x => x = g) (Mv.refl _ wr) (p := ⟨g, k, none⟩) (Or.inl rfl) _
  obtain ⟨cs, hcs, _⟩ := h.wt
  have hbg : b ≠ g := cells_ne h.bo.bf.box hcs (by decide)
  have hmg : mb ≠ g := fun e => h.bo.bf.far hcs e.symm
  refine ⟨⟨h.bo.bf.mv hmv hbg hmg, hmv.at_ h.bo.at_ (fun x hx => by rw [hx]; exact h.gw), h.bo.hb, h.bo.hm⟩, h.n, h.m, h.wt.set k hk A d c hb, h.gw, fun x hx => ?_⟩
  show (if x = k then d else Q x) = (if (x : Int) = (k : Int) then d else T.g x)
  by_cases e : x = k
  · rw [if_pos e, if_pos (by omega)]
  · rw [if_neg e, if_neg (by omega)]; exact h.rd x hx
end
/-- How many of the first k blocks were written. -/
def nk (S : St) (k : Nat) : Nat := ((List.range k).filter fun j => !(S.g j).isEmpty).length
theorem nk_zero (S : St) : nk S 0 = 0 := rfl
theorem nk_yes {S : St} {k : Nat} (h : S.g k ≠ []) : nk S (k + 1) = nk S k + 1 := by
  unfold nk
  rw [List.range_succ, List.filter_append, List.length_append, List.filter_cons, if_pos (by simp [h])]; rfl
theorem nk_no {S : St} {k : Nat} (h : S.g k = []) : nk S (k + 1) = nk S k := by
  unfold nk
  rw [List.range_succ, List.filter_append, List.length_append, List.filter_cons, if_neg (by simp [h])]; rfl
theorem nk_le (S : St) (k : Nat) : nk S k ≤ k := by
  unfold nk
  have := List.length_filter_le (fun j => !(S.g j).isEmpty) (List.range k)
  rwa [List.length_range] at this
theorem put_in {w : World} {pb po : Nat} {P : List Pt} {j : Nat} (hl : pb < w.heap.size) (hx : ∀ j, j < P.length → w.cell? ⟨pb, po + j * 2, none⟩ = some (.int .i64 (P.getD j pz).1) ∧ ∃ B c, w.cell? ⟨pb, po + j * 2 + 1, none⟩ = some (.slice B (P.getD j pz).2.length c) ∧ BV w B (P.getD j pz).2) (hj : j < P.length) :
    ∃ B c, BV w B (P.getD j pz).2 ∧ ∀ W, At w W → W.cell? ⟨pb, po + j * 2, none⟩ = some (.int .i64 (P.getD j pz).1) ∧ W.cell? ⟨pb, po + j * 2 + 1, none⟩ = some (.slice B (P.getD j pz).2.length c) := by
  obtain ⟨h1, B, c, h2, h3⟩ := hx j hj
  exact ⟨B, c, h3, fun W hW => ⟨(Below.cell hW (p := ⟨pb, po + j * 2, none⟩) hl).trans h1, (Below.cell hW (p := ⟨pb, po + j * 2 + 1, none⟩) hl).trans h2⟩⟩
theorem vec_in {w : World} {ab ao : Nat} {L : List (List Pt)} {i : Nat} (hl : ab < w.heap.size) (hx : ∀ j, j < L.length → ∃ B c, w.cell? ⟨ab, ao + j, none⟩ = some (.slice B (L.getD j []).length c) ∧ PV w B (L.getD j [])) (hi : i < L.length) :
    ∃ B c, PV w B (L.getD i []) ∧ ∀ W, At w W → W.cell? ⟨ab, ao + i, none⟩ = some (.slice B (L.getD i []).length c) := by
  obtain ⟨B, c, h1, h2⟩ := hx i hi
  exact ⟨B, c, h2, fun W hW => (Below.cell hW (p := ⟨ab, ao + i, none⟩) hl).trans h1⟩

end Go.Proofs.Ythaiddhbifakhaa
