/- Proved: laws for slices.Delete at versions: an append in place onto the row's own front, a clear of what is left behind. -/
import Derived.Test.YtjpoiijifnfjhaaPly
import Derived.ArgAppend
import Derived.Laws.CopyRow
namespace Go.Proofs.Ytjpoiijifnfjhaa
open Go.RowKit

theorem setCells_mv (g : Nat) : ∀ (vs : List Value) (o : Nat) (w : World), Mv (fun x => x = g) w (w.setCells g o vs)
  | [], _, w => Mv.refl _ w
  | v :: vs, o, w => (Mv.set (F := fun x => x = g) (Mv.refl _ w) (p := ⟨g, o, none⟩) (Or.inl rfl) v).trans (setCells_mv g vs (o + 1) _) fun _ h => Or.inl h
theorem setCells_heap {g t : Nat} : ∀ (vs : List Value) (w : World) (x y z : List Value), w.heap[g]? = some (.cells (x ++ (y ++ z)).toArray t (0, 0)) → vs.length = y.length → (w.setCells g x.length vs).heap[g]? = some (.cells (x ++ (vs ++ z)).toArray t (0, 0))
  | [], w, x, [], z, h, _ => h
  | [], _, _, _ :: _, _, _, hl => by simp at hl
  | _ :: _, _, _, [], _, _, hl => by simp at hl
  | v :: vs, w, x, y0 :: y, z, h, hl => by
    have h1 := heap_set h x.length v
    have e : (x ++ (y0 :: y ++ z)).toArray.setIfInBounds x.length v = ((x ++ [v]) ++ (y ++ z)).toArray := by
      apply Array.toList_inj.1
      simp
    rw [e] at h1
    have h2 := setCells_heap vs _ (x ++ [v]) y z h1 (by simpa using hl)
    rw [List.length_append, List.length_singleton] at h2
    rw [show x ++ (v :: vs ++ z) = (x ++ [v]) ++ (vs ++ z) by simp]
    exact h2

/-- The row's rest is written over its front. -/
theorem front_run {w : World} {g c j : Nat} {L : List Ver} {T : List Value} (hV : AllV L) (hg : w.heap[g]? = some (.cells (vl L ++ T).toArray 65 (0, 0))) (hc : L.length ≤ c) (hT : (vl L ++ T).length = c * 41) (hj : j < L.length) (ty : TypeId) :
    ∃ w' T', (Builtin.append_ #[66, 66] ty #[.slice (some ⟨g, 0, none⟩) 0 c, .slice (some ⟨g, j * 41, none⟩) (L.length - j) (c - j)]).run Try.prog w = .ok (.slice (some ⟨g, 0, none⟩) (L.length - j) c) w' ∧
      Mv (fun x => x = g) w w' ∧ w'.heap[g]? = some (.cells (vl (L.drop j) ++ T').toArray 65 (0, 0)) ∧ (vl (L.drop j) ++ T').length = c * 41 := by
  obtain ⟨i, z, hi, hz, h1, _, _⟩ := ver_parts
  have hVd : AllV (L.drop j) := fun v hv => hV v (List.mem_of_mem_drop hv)
  have hll := vl_len L hV
  have hld := vl_len (L.drop j) hVd
  rw [List.length_drop] at hld
  have hsplit : vl L = vl (L.take j) ++ vl (L.drop j) := by rw [← vl_app, List.take_append_drop]
  have hlt : (vl (L.take j)).length = j * 41 := by
    have := vl_len (L.take j) (fun v hv => hV v (List.mem_of_mem_take hv))
    rw [List.length_take, Nat.min_eq_left (by omega)] at this
    exact this
  have hcell : ∀ p, p < (vl L ++ T).length → w.cell? ⟨g, p, none⟩ = (vl L ++ T)[p]? := fun p _ => by rw [cell_at hg p, List.getElem?_toArray]
  have hrun := run_append_room_cells (P := Try.prog) (w := w) 66 ty 65 i Try.underlying66 hi g 0 0 c ⟨g, j * 41, none⟩ (L.length - j) (c - j) (vl (L.drop j)) (by rw [hld, h1]) (fun q u hu => by
      rw [Go.WideShapes.add_plain, cell_at hg, List.getElem?_toArray, hsplit, List.append_assoc, List.getElem?_append_right (by omega), hlt, Nat.add_sub_cancel_left, List.getElem?_append_left (by
        rcases Nat.lt_or_ge q (vl (L.drop j)).length with h | h
        · exact h
        · rw [List.getElem?_eq_none h] at hu; cases hu)]
      exact hu) (fun u hu => vl_cells _ u hu) (by omega) (fun q hq => by
      rw [hcell _ (by rw [List.length_append]; omega)]
      rw [List.getElem?_eq_getElem (by rw [List.length_append]; omega)]; rfl) (fun q _ => free_at hg _)
  obtain ⟨Y, Z, hYZ, hY⟩ : ∃ Y Z, vl L ++ T = Y ++ Z ∧ Y.length = (vl (L.drop j)).length := ⟨(vl L ++ T).take (vl (L.drop j)).length, (vl L ++ T).drop (vl (L.drop j)).length, (List.take_append_drop _ _).symm, by rw [List.length_take, List.length_append]; omega⟩
  refine ⟨_, Z, (hrun.trans (by rw [Nat.zero_add])), setCells_mv g _ _ w, ?_, ?_⟩
  · have := setCells_heap (g := g) (vl (L.drop j)) w [] Y Z (by rw [List.nil_append, ← hYZ]; exact hg) hY.symm
    simpa using this
  · rw [← hT, hYZ, List.length_append, List.length_append, hY]

theorem zeros_len (n : Nat) : (Builtin.zeroCells (vc zv).toArray n).toList.length = n * 41 := by
  simp [Builtin.zeroCells, vc_len zv_len]
theorem zeros_one (n : Nat) : ∀ u ∈ (Builtin.zeroCells (vc zv).toArray n).toList, u.oneCell' = true := by
  intro u hu
  simp only [Builtin.zeroCells, Array.toList_map, List.mem_map] at hu
  obtain ⟨i, _, rfl⟩ := hu
  have hs : (vc zv).toArray.size = 41 := by rw [List.size_toArray, vc_len zv_len]
  have hi : i % (vc zv).toArray.size < (vc zv).toArray.size := Nat.mod_lt _ (by omega)
  rw [getElem!_pos (vc zv).toArray _ hi]
  exact vc_cells zv _ (by rw [List.getElem_toArray]; exact List.getElem_mem _)
/-- What is left behind is cleared. -/
theorem clear_run {w : World} {g off n cc : Nat} {x y z : List Value} (hg : w.heap[g]? = some (.cells (x ++ (y ++ z)).toArray 65 (0, 0))) (ho : off = x.length) (hy : n * 41 = y.length) (h0 : 0 < n) (ty : TypeId) :
    ∃ w' y', (Builtin.clear_ #[66] ty #[.slice (some ⟨g, off, none⟩) n cc]).run Try.prog w = .ok (.tuple #[]) w' ∧ Mv (fun x => x = g) w w' ∧ w'.heap[g]? = some (.cells (x ++ (y' ++ z)).toArray 65 (0, 0)) ∧ y'.length = y.length := by
  subst ho
  have hlz := zeros_len n
  have hst := run_storeCells_cells (P := Try.prog) g x.length (Builtin.zeroCells (vc zv).toArray n).toList 0 w (fun q hq => by
    rw [cell_at hg, List.getElem?_toArray, List.getElem?_eq_getElem (by simp only [List.length_append]; omega)]; rfl) (fun q _ => free_at hg _) (zeros_one n)
  simp only [Nat.add_zero] at hst
  refine ⟨_, _, ?_, setCells_mv g _ _ w, setCells_heap (g := g) (Builtin.zeroCells (vc zv).toArray n).toList w x y z hg (by rw [hlz, hy]), by rw [hlz, hy]⟩
  obtain ⟨m, rfl⟩ : ∃ m, n = m + 1 := ⟨n - 1, by omega⟩
  rw [vc_zero] at hst ⊢
  simp [Builtin.clear_, run_underlying Try.underlying66, Value.cells, hst]

end Go.Proofs.Ytjpoiijifnfjhaa
