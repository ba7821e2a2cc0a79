/- Proved: what a store into a device's struct or zones leaves of it. -/
import Derived.Test.YtgehnljkiocijaaDv
namespace Go.Proofs.Ytgehnljkiocijaa
open Go.RowKit

/-- A block of cells of which one is written. -/
theorem heap_set {w : World} {b t : Nat} {cs : Array Value} (h : w.heap[b]? = some (.cells cs t (0, 0))) (i : Nat) (u : Value) : (w.setCell ⟨b, i, none⟩ u).heap[b]? = some (.cells (cs.setIfInBounds i u) t (0, 0)) := by
  rw [setCell_eq_setRow w b i _ _ _ _ h]
  exact setRow_heap w b _ _ _ _ h
theorem cell_at {w : World} {b t : Nat} {cs : Array Value} (h : w.heap[b]? = some (.cells cs t (0, 0))) (i : Nat) : w.cell? ⟨b, i, none⟩ = cs[i]? := by
  unfold World.cell?; simp [h]
theorem free_at {w : World} {b t : Nat} {cs : Array Value} (h : w.heap[b]? = some (.cells cs t (0, 0))) (i : Nat) : w.frozen? ⟨b, i, none⟩ = false := by
  unfold World.frozen?; simp [h]

section
variable {w : World} {b z sz ops rds : Nat} {S : Nat → Zr}
/-- The cells of the struct. -/
theorem Dv.cells (h : Dv w b z sz ops rds S) : (∃ c, 8 ≤ c ∧ c ≤ maxLen ∧ w.cell? ⟨b, 0, none⟩ = some (.slice (some ⟨z, 0, none⟩) 8 c)) ∧ w.cell? ⟨b, 1, none⟩ = some (.int .i64 (sz : Int)) ∧ w.cell? ⟨b, 2, none⟩ = some (.int .i64 (ops : Int)) ∧ w.cell? ⟨b, 3, none⟩ = some (.int .i64 (rds : Int)) ∧ w.cell? ⟨b, 4, none⟩ = some (.int .i64 (-1)) ∧ w.cell? ⟨b, 5, none⟩ = some (.bool false) := by
  obtain ⟨c, h1, h2, hb⟩ := h.box
  simp only [cell_at hb]
  exact ⟨⟨c, h1, h2, rfl⟩, rfl, rfl, rfl, rfl, rfl⟩
theorem Dv.free (h : Dv w b z sz ops rds S) (i : Nat) : w.frozen? ⟨b, i, none⟩ = false := by
  obtain ⟨c, _, _, hb⟩ := h.box; exact free_at hb i
theorem Dv.zfree (h : Dv w b z sz ops rds S) (i : Nat) : w.frozen? ⟨z, i, none⟩ = false := by
  obtain ⟨T, hz⟩ := h.zon; exact free_at hz i
theorem zc_app (S : Nat → Zr) (T : List Value) (i : Nat) (hi : i < 16) : (zc S ++ T).toArray[i]? = (zc S)[i]? := by
  rw [List.getElem?_toArray, List.getElem?_append_left (by rw [zc_len]; exact hi)]
/-- The cells of a zone. -/
theorem Dv.zrow (h : Dv w b z sz ops rds S) {k : Nat} (hk : k < 8) : w.cell? ⟨z, k * 2, none⟩ = some (.slice (S k).g (S k).n (S k).c) := by
  obtain ⟨T, hz⟩ := h.zon
  rw [cell_at hz, Nat.mul_comm, zc_app _ _ _ (by omega), zc_row S hk]; rfl
theorem Dv.zdur (h : Dv w b z sz ops rds S) {k : Nat} (hk : k < 8) : w.cell? ⟨z, k * 2 + 1, none⟩ = some (.int .i64 ((S k).d : Int)) := by
  obtain ⟨T, hz⟩ := h.zon
  rw [cell_at hz, Nat.mul_comm, zc_app _ _ _ (by omega), zc_dur S hk]

theorem Dv.setOps (h : Dv w b z sz ops rds S) (m : Nat) : Dv (w.setCell ⟨b, 2, none⟩ (.int .i64 (m : Int))) b z sz m rds S where
  box := by
    obtain ⟨c, h1, h2, hb⟩ := h.box
    exact ⟨c, h1, h2, heap_set hb 2 _⟩
  zon := by
    obtain ⟨T, hz⟩ := h.zon
    exact ⟨T, (Below.heap_setCell _ _ _ _ h.bz.symm).trans hz⟩
  row k hk := (h.row k hk).keep fun a ha => Below.heap_setCell _ _ _ _ (h.br k hk a ha).1
  sep := h.sep
  le := h.le
  dur := h.dur
  top := h.top
theorem Dv.setRds (h : Dv w b z sz ops rds S) (m : Nat) : Dv (w.setCell ⟨b, 3, none⟩ (.int .i64 (m : Int))) b z sz ops m S where
  box := by
    obtain ⟨c, h1, h2, hb⟩ := h.box
    exact ⟨c, h1, h2, heap_set hb 3 _⟩
  zon := by
    obtain ⟨T, hz⟩ := h.zon
    exact ⟨T, (Below.heap_setCell _ _ _ _ h.bz.symm).trans hz⟩
  row k hk := (h.row k hk).keep fun a ha => Below.heap_setCell _ _ _ _ (h.br k hk a ha).1
  sep := h.sep
  le := h.le
  dur := h.dur
  top := h.top
theorem set_app (S : Nat → Zr) (T : List Value) (i : Nat) (hi : i < 16) (u : Value) : (zc S ++ T).toArray.setIfInBounds i u = ((zc S).set i u ++ T).toArray := by
  rw [List.setIfInBounds_toArray, List.set_append_left _ _ (by rw [zc_len]; exact hi)]
theorem up_dur (S : Nat → Zr) (k m j : Nat) : (up S k { S k with d := m } j).g = (S j).g ∧ (up S k { S k with d := m } j).n = (S j).n ∧ (up S k { S k with d := m } j).c = (S j).c ∧ (up S k { S k with d := m } j).L = (S j).L := by
  by_cases h : j = k
  · subst h; rw [up_same]; exact ⟨rfl, rfl, rfl, rfl⟩
  · rw [up_other _ _ h]; exact ⟨rfl, rfl, rfl, rfl⟩
theorem Zn.like {r r' : Zr} (h : Zn w r) (h1 : r'.g = r.g) (h2 : r'.n = r.n) (h3 : r'.c = r.c) (h4 : r'.L = r.L) : Zn w r' := by
  unfold Zn sl at h ⊢
  rw [h1, h2, h3, h4]; exact h
theorem Dv.setDur (h : Dv w b z sz ops rds S) {k : Nat} (hk : k < 8) (m : Nat) (hm : m ≤ (S k).n) : Dv (w.setCell ⟨z, k * 2 + 1, none⟩ (.int .i64 (m : Int))) b z sz ops rds (up S k { S k with d := m }) where
  box := by
    obtain ⟨c, h1, h2, hb⟩ := h.box
    exact ⟨c, h1, h2, (Below.heap_setCell _ _ _ _ h.bz).trans hb⟩
  zon := by
    obtain ⟨T, hz⟩ := h.zon
    refine ⟨T, ?_⟩
    rw [heap_set hz, Nat.mul_comm k 2, set_app _ _ _ (by omega), zc_set_dur S hk]
  row j hj := by
    obtain ⟨e1, e2, e3, e4⟩ := up_dur S k m j
    refine Zn.like ((h.row j hj).keep fun a ha => Below.heap_setCell _ _ _ _ (h.br j hj a ha).2) e1 e2 e3 e4
  sep i j hi hj hij a ha := by
    rw [(up_dur S k m i).1] at ha
    rw [(up_dur S k m j).1]
    exact h.sep i j hi hj hij a ha
  le j hj := by rw [(up_dur S k m j).2.1]; exact h.le j hj
  dur j hj := by
    rw [(up_dur S k m j).2.1]
    by_cases e : j = k
    · subst e; rw [up_same]; exact hm
    · rw [up_other _ _ e]; exact h.dur j hj
  top := h.top
theorem ft_dur {k m : Nat} {g : Nat} : Ft b z (up S k { S k with d := m }) g ↔ Ft b z S g := by
  unfold Ft
  constructor
  · rintro (h | h | ⟨j, hj, a, ha, h⟩)
    · exact Or.inl h
    · exact Or.inr (Or.inl h)
    · rw [(up_dur S k m j).1] at ha; exact Or.inr (Or.inr ⟨j, hj, a, ha, h⟩)
  · rintro (h | h | ⟨j, hj, a, ha, h⟩)
    · exact Or.inl h
    · exact Or.inr (Or.inl h)
    · refine Or.inr (Or.inr ⟨j, hj, a, ?_, h⟩)
      rw [(up_dur S k m j).1]; exact ha

/-- A zone gets another row: one that is its old one or that is new. -/
theorem Dv.setRow (h : Dv w b z sz ops rds S) {k : Nat} (hk : k < 8) {w1 : World} (hm : Mv (fun i => ∃ a, (S k).g = some a ∧ a.block = i) w w1) {r : Zr} (hr : Zn w1 r) (hd : r.d = (S k).d) (hn : r.n ≤ sz) (hdn : r.d ≤ r.n)
    (hg : ∀ a, r.g = some a → (S k).g = some a ∨ w.heap.size ≤ a.block) :
    Dv (w1.setCell ⟨z, k * 2, none⟩ (sl r)) b z sz ops rds (up S k r) ∧ Did w b z S (up S k r) (w1.setCell ⟨z, k * 2, none⟩ (sl r)) := by
  have hne : ∀ j, j < 8 → j ≠ k → ∀ a, (S j).g = some a → ¬ ∃ a', (S k).g = some a' ∧ a'.block = a.block := by
    rintro j hj hjk a ha ⟨a', ha', e⟩
    obtain ⟨g1, _, _, rfl, _⟩ := (h.row j hj).form a ha
    obtain ⟨g2, _, _, rfl, _⟩ := (h.row k hk).form a' ha'
    simp only at e
    subst e
    exact h.sep k j hk hj (Ne.symm hjk) _ ha' ha
  have hz1 : ∃ T : List Value, w1.heap[z]? = some (.cells (zc S ++ T).toArray 54 (0, 0)) := by
    obtain ⟨T, hz⟩ := h.zon
    refine ⟨T, (hm.block z (lt_heap hz) ?_).trans hz⟩
    rintro ⟨a, ha, e⟩
    exact (h.br k hk a ha).2 e
  have hzr : ∀ a, r.g = some a → a.block ≠ z := by
    intro a ha
    obtain ⟨T, hz⟩ := hz1
    obtain ⟨g, _, _, rfl, hh, _⟩ := hr.form a ha
    exact cells_ne hh hz (by decide)
  refine ⟨⟨?_, ?_, ?_, ?_, ?_, ?_, h.top⟩, ?_, ?_⟩
  · obtain ⟨c, h1, h2, hb⟩ := h.box
    refine ⟨c, h1, h2, (Below.heap_setCell _ _ _ _ h.bz).trans ((hm.block b (lt_heap hb) ?_).trans hb)⟩
    rintro ⟨a, ha, e⟩
    exact (h.br k hk a ha).1 e
  · obtain ⟨T, hz⟩ := hz1
    refine ⟨T, ?_⟩
    rw [heap_set hz, Nat.mul_comm k 2, set_app _ _ _ (by omega), zc_set_row S hk r hd]
  · intro j hj
    by_cases e : j = k
    · subst e
      rw [up_same]
      exact hr.keep fun a ha => Below.heap_setCell _ _ _ _ (hzr a ha)
    · rw [up_other _ _ e]
      refine ((h.row j hj).keep fun a ha => (Below.heap_setCell _ _ _ _ (h.br j hj a ha).2).trans (hm.block _ (h.lt _ (Or.inr (Or.inr ⟨j, hj, a, ha, rfl⟩))) (hne j hj e a ha)))
  · have hnew : ∀ j, j < 8 → j ≠ k → ∀ a, (S j).g = some a → r.g ≠ some a := by
      intro j hj hjk a ha hra
      rcases hg a hra with h1 | h1
      · exact h.sep k j hk hj (Ne.symm hjk) a h1 ha
      · have := h.lt a.block (Or.inr (Or.inr ⟨j, hj, a, ha, rfl⟩)); omega
    intro i j hi hj hij a ha
    by_cases e1 : i = k
    · subst e1
      rw [up_same] at ha
      rw [up_other _ _ (Ne.symm hij)]
      intro ha'
      exact hnew j hj (Ne.symm hij) a ha' ha
    · rw [up_other _ _ e1] at ha
      by_cases e2 : j = k
      · subst e2
        rw [up_same]
        exact hnew i hi hij a ha
      · rw [up_other _ _ e2]
        exact h.sep i j hi hj hij a ha
  · intro j hj
    by_cases e : j = k
    · subst e; rw [up_same]; exact hn
    · rw [up_other _ _ e]; exact h.le j hj
  · intro j hj
    by_cases e : j = k
    · subst e; rw [up_same]; exact hdn
    · rw [up_other _ _ e]; exact h.dur j hj
  · refine (hm.more ?_).set (Or.inl (Or.inr (Or.inl rfl))) _
    rintro i ⟨a, ha, e⟩
    exact Or.inl (Or.inr (Or.inr ⟨k, hk, a, ha, e⟩))
  · rintro i (e | e | ⟨j, hj, a, ha, e⟩)
    · exact Or.inl (Or.inl e)
    · exact Or.inl (Or.inr (Or.inl e))
    · by_cases ej : j = k
      · subst ej
        rw [up_same] at ha
        rcases hg a ha with h1 | h1
        · exact Or.inl (Or.inr (Or.inr ⟨j, hk, a, h1, e⟩))
        · right; omega
      · rw [up_other _ _ ej] at ha
        exact Or.inl (Or.inr (Or.inr ⟨j, hj, a, ha, e⟩))
/-- A zone is emptied. -/
theorem Dv.clear_ (h : Dv w b z sz ops rds S) {k : Nat} (hk : k < 8) :
    Dv ((w.setCell ⟨z, k * 2, none⟩ (.slice none 0 0)).setCell ⟨z, k * 2 + 1, none⟩ (.int .i64 0)) b z sz ops rds (up S k Zr.none) ∧ Did w b z S (up S k Zr.none) ((w.setCell ⟨z, k * 2, none⟩ (.slice none 0 0)).setCell ⟨z, k * 2 + 1, none⟩ (.int .i64 0)) := by
  have hft : ∀ g, Ft b z (up S k Zr.none) g → Ft b z S g := by
    rintro g (e | e | ⟨j, hj, a, ha, e⟩)
    · exact Or.inl e
    · exact Or.inr (Or.inl e)
    · by_cases ej : j = k
      · subst ej; rw [up_same] at ha; cases ha
      · rw [up_other _ _ ej] at ha; exact Or.inr (Or.inr ⟨j, hj, a, ha, e⟩)
  refine ⟨⟨?_, ?_, ?_, ?_, ?_, ?_, h.top⟩, ?_, fun g hg => Or.inl (hft g hg)⟩
  · obtain ⟨c, h1, h2, hb⟩ := h.box
    exact ⟨c, h1, h2, (Below.heap_setCell _ _ _ _ h.bz).trans ((Below.heap_setCell _ _ _ _ h.bz).trans hb)⟩
  · obtain ⟨T, hz⟩ := h.zon
    refine ⟨T, ?_⟩
    rw [heap_set (heap_set hz _ _), Nat.mul_comm k 2, set_app _ _ _ (by omega)]
    have hs : ∀ u, ((zc S).set (2 * k) u ++ T).toArray.setIfInBounds (2 * k + 1) (.int .i64 0) = (((zc S).set (2 * k) u).set (2 * k + 1) (.int .i64 0) ++ T).toArray := fun u => by
      rw [List.setIfInBounds_toArray, List.set_append_left _ _ (by rw [List.length_set, zc_len]; omega)]
    rw [hs]
    have := zc_set S hk Zr.none
    rw [← this]; rfl
  · intro j hj
    by_cases e : j = k
    · subst e; rw [up_same]; exact Zn.none_ _ 0
    · rw [up_other _ _ e]
      exact (h.row j hj).keep fun a ha => (Below.heap_setCell _ _ _ _ (h.br j hj a ha).2).trans (Below.heap_setCell _ _ _ _ (h.br j hj a ha).2)
  · intro i j hi hj hij a ha
    by_cases e1 : i = k
    · subst e1; rw [up_same] at ha; cases ha
    · rw [up_other _ _ e1] at ha
      by_cases e2 : j = k
      · subst e2; rw [up_same]; intro h; cases h
      · rw [up_other _ _ e2]; exact h.sep i j hi hj hij a ha
  · intro j hj
    by_cases e : j = k
    · subst e; rw [up_same]; exact Nat.zero_le _
    · rw [up_other _ _ e]; exact h.le j hj
  · intro j hj
    by_cases e : j = k
    · subst e; rw [up_same]; exact Nat.zero_le _
    · rw [up_other _ _ e]; exact h.dur j hj
  · exact ((Mv.refl _ w).set (Or.inl (Or.inr (Or.inl rfl))) _).set (Or.inl (Or.inr (Or.inl rfl))) _
end

theorem Did.refl (w : World) (b z : Nat) (S : Nat → Zr) : Did w b z S S w := ⟨Mv.refl _ _, fun _ => Or.inl⟩
theorem Did.trans {w w1 w2 : World} {b z : Nat} {S S1 S2 : Nat → Zr} (h : Did w b z S S1 w1) (k : Did w1 b z S1 S2 w2) : Did w b z S S2 w2 :=
  ⟨h.mv.trans k.mv h.ft, fun g hg => by
    rcases k.ft g hg with h1 | h1
    · exact h.ft g h1
    · exact Or.inr (Nat.le_trans h.mv.size h1)⟩
theorem Did.next {w w1 w2 : World} {b z : Nat} {S S1 : Nat → Zr} (h : Did w b z S S1 w1) (k : At w1 w2) : Did w b z S S1 w2 := ⟨h.mv.next k, h.ft⟩
theorem Did.of_mv {w w1 : World} {b z : Nat} {S : Nat → Zr} (h : Mv (Ft b z S) w w1) : Did w b z S S w1 := ⟨h, fun _ => Or.inl⟩
/-- What stood at w0 stands, if the device is newer. -/
theorem Did.at_ {w0 w w1 : World} {b z : Nat} {S S1 : Nat → Zr} (h : Did w b z S S1 w1) (ha : At w0 w) (hF : ∀ g, Ft b z S g → w0.heap.size ≤ g) : At w0 w1 ∧ ∀ g, Ft b z S1 g → w0.heap.size ≤ g :=
  ⟨h.mv.at_ ha hF, fun g hg => by
    rcases h.ft g hg with h1 | h1
    · exact hF g h1
    · exact Nat.le_trans ha.size h1⟩
/-- Another device is as it was, and lies apart as before. -/
theorem Did.other {w w1 : World} {b z b' z' sz ops rds : Nat} {S S1 S' : Nat → Zr} (h : Did w b z S S1 w1) (hd : Dv w b' z' sz ops rds S') (ha : ∀ g, Ft b' z' S' g → ¬ Ft b z S g) :
    Dv w1 b' z' sz ops rds S' ∧ ∀ g, Ft b' z' S' g → ¬ Ft b z S1 g :=
  ⟨hd.keep h.mv ha, fun g hg hg1 => by
    rcases h.ft g hg1 with h1 | h1
    · exact ha g hg h1
    · have := hd.lt g hg; omega⟩

end Go.Proofs.Ytgehnljkiocijaa
