/- Proved: words for the two allocators in memory, the landed one and the document's own, and for a row of marks; what a store leaves of them. -/
import Derived.Test.YtheldhbdhadliaaMem
namespace Go.Proofs.Ytheldhbdhadliaa
open Go.RowKit

/-- The cells of the zones, one zone behind the other. -/
def zc : List St → List Value
  | [] => []
  | s :: L => .bool s.t :: .int .i64 (s.w : Int) :: zc L
theorem zc_len (L : List St) : (zc L).length = 2 * L.length := by
  induction L with
  | nil => rfl
  | cons s L ih => simp only [zc, List.length_cons, ih]; omega
theorem sa_cons (s : St) (L : List St) (k : Nat) : sa (s :: L) (k + 1) = sa L k := rfl
theorem zc_t {L : List St} {k : Nat} (h : k < L.length) : (zc L)[k * 2]? = some (.bool (sa L k).t) := by
  induction L generalizing k with
  | nil => simp at h
  | cons s L ih =>
    cases k with
    | zero => rfl
    | succ k =>
      rw [sa_cons, ← ih (by simpa using h), show (k + 1) * 2 = k * 2 + 1 + 1 by omega]
      rfl
theorem zc_w {L : List St} {k : Nat} (h : k < L.length) : (zc L)[k * 2 + 1]? = some (.int .i64 ((sa L k).w : Int)) := by
  induction L generalizing k with
  | nil => simp at h
  | cons s L ih =>
    cases k with
    | zero => rfl
    | succ k =>
      rw [sa_cons, ← ih (by simpa using h), show (k + 1) * 2 + 1 = k * 2 + 1 + 1 + 1 by omega]
      rfl
theorem zc_set_t (L : List St) (k : Nat) (t : Bool) : (zc L).set (k * 2) (.bool t) = zc (L.set k ⟨t, (sa L k).w⟩) := by
  induction L generalizing k with
  | nil => rfl
  | cons s L ih =>
    cases k with
    | zero => rfl
    | succ k =>
      have e := ih k
      rw [sa_cons, List.set_cons_succ, show (k + 1) * 2 = k * 2 + 1 + 1 by omega]
      simp only [zc, List.set_cons_succ, e]
theorem zc_set_w (L : List St) (k m : Nat) : (zc L).set (k * 2 + 1) (.int .i64 (m : Int)) = zc (L.set k ⟨(sa L k).t, m⟩) := by
  induction L generalizing k with
  | nil => rfl
  | cons s L ih =>
    cases k with
    | zero => rfl
    | succ k =>
      have e := ih k
      rw [sa_cons, List.set_cons_succ, show (k + 1) * 2 + 1 = k * 2 + 1 + 1 + 1 by omega]
      simp only [zc, List.set_cons_succ, e]

/-- The landed allocator at b, its zones at z. -/
structure Al (w : World) (b z n sp : Nat) (L : List St) : Prop where
  box : w.heap[b]? = some (.cells #[.slice (some ⟨z, 0, none⟩) n n, .int .i64 (sp : Int)] 53 (0, 0))
  zon : w.heap[z]? = some (.cells (zc L).toArray 55 (0, 0))
  len : L.length = n
  top : n ≤ 64
  spt : sp ≤ n
section
variable {w : World} {b z n sp : Nat} {L : List St}
theorem Al.cells (h : Al w b z n sp L) : w.cell? ⟨b, 0, none⟩ = some (.slice (some ⟨z, 0, none⟩) n n) ∧ w.cell? ⟨b, 1, none⟩ = some (.int .i64 (sp : Int)) := by
  simp only [cell_at h.box]; exact ⟨rfl, rfl⟩
theorem Al.ct (h : Al w b z n sp L) {k : Nat} (hk : k < n) : w.cell? ⟨z, k * 2, none⟩ = some (.bool (sa L k).t) := by
  rw [cell_at h.zon, List.getElem?_toArray, zc_t (by rw [h.len]; exact hk)]
theorem Al.cw (h : Al w b z n sp L) {k : Nat} (hk : k < n) : w.cell? ⟨z, k * 2 + 1, none⟩ = some (.int .i64 ((sa L k).w : Int)) := by
  rw [cell_at h.zon, List.getElem?_toArray, zc_w (by rw [h.len]; exact hk)]
theorem Al.zfree (h : Al w b z n sp L) (i : Nat) : w.frozen? ⟨z, i, none⟩ = false := free_at h.zon i
theorem Al.bz (h : Al w b z n sp L) : b ≠ z := cells_ne h.box h.zon (by decide)
theorem Al.keep {w' : World} {F : Nat → Prop} (h : Al w b z n sp L) (hm : Mv F w w') (hb : ¬ F b) (hz : ¬ F z) : Al w' b z n sp L :=
  ⟨hm.keep h.box hb, hm.keep h.zon hz, h.len, h.top, h.spt⟩
theorem Al.on {w' : World} (h : Al w b z n sp L) (hm : At w w') : Al w' b z n sp L := ⟨hm.keep h.box, hm.keep h.zon, h.len, h.top, h.spt⟩
theorem Al.setT (h : Al w b z n sp L) (k : Nat) (t : Bool) : Al (w.setCell ⟨z, k * 2, none⟩ (.bool t)) b z n sp (L.set k ⟨t, (sa L k).w⟩) where
  box := (Below.heap_setCell _ _ _ _ h.bz).trans h.box
  zon := by rw [heap_set h.zon, List.setIfInBounds_toArray, zc_set_t]
  len := by rw [List.length_set]; exact h.len
  top := h.top
  spt := h.spt
theorem Al.setW (h : Al w b z n sp L) (k m : Nat) : Al (w.setCell ⟨z, k * 2 + 1, none⟩ (.int .i64 (m : Int))) b z n sp (L.set k ⟨(sa L k).t, m⟩) where
  box := (Below.heap_setCell _ _ _ _ h.bz).trans h.box
  zon := by rw [heap_set h.zon, List.setIfInBounds_toArray, zc_set_w]
  len := by rw [List.length_set]; exact h.len
  top := h.top
  spt := h.spt
/-- A zone is taken. -/
theorem Al.take (h : Al w b z n sp L) (k : Nat) : Al (w.setCell ⟨z, k * 2, none⟩ (.bool true)) b z n sp (tk L k) := h.setT k true
/-- A zone is freed. -/
theorem Al.free (h : Al w b z n sp L) (k : Nat) (hk : k < n) : Al ((w.setCell ⟨z, k * 2, none⟩ (.bool false)).setCell ⟨z, k * 2 + 1, none⟩ (.int .i64 (((sa L k).w + 1 : Nat) : Int))) b z n sp (fre L k) := by
  have := (h.setT k false).setW k ((sa L k).w + 1)
  rw [sa_set _ _ _ _ (by rw [h.len]; exact hk), if_pos rfl, List.set_set] at this
  exact this
end

/-- The document's allocator at b: which are free at f, the wear at g. -/
structure Ra (w : World) (b f g n sp : Nat) (L : List St) : Prop where
  box : w.heap[b]? = some (.cells #[.slice (some ⟨f, 0, none⟩) n n, .slice (some ⟨g, 0, none⟩) n n, .int .i64 (sp : Int)] 42 (0, 0))
  isf : w.heap[f]? = some (.cells (L.map fun s => Value.bool (!s.t)).toArray 4 (0, 0))
  wea : w.heap[g]? = some (.cells (L.map fun s => nv s.w).toArray 3 (0, 0))
  len : L.length = n
  top : n ≤ 64
  spt : sp ≤ n
section
variable {w : World} {b f g n sp : Nat} {L : List St}
theorem Ra.cells (h : Ra w b f g n sp L) : w.cell? ⟨b, 0, none⟩ = some (.slice (some ⟨f, 0, none⟩) n n) ∧ w.cell? ⟨b, 1, none⟩ = some (.slice (some ⟨g, 0, none⟩) n n) ∧ w.cell? ⟨b, 2, none⟩ = some (.int .i64 (sp : Int)) := by
  simp only [cell_at h.box]; exact ⟨rfl, rfl, rfl⟩
theorem map_at (L : List St) (F : St → Value) {k : Nat} (hk : k < L.length) : (L.map F).toArray[k]? = some (F (sa L k)) := by
  rw [List.getElem?_toArray, List.getElem?_map, sa_some hk]; rfl
theorem Ra.cf (h : Ra w b f g n sp L) {k : Nat} (hk : k < n) : w.cell? ⟨f, k, none⟩ = some (.bool (!(sa L k).t)) := by
  rw [cell_at h.isf, map_at _ _ (by rw [h.len]; exact hk)]
theorem Ra.cw (h : Ra w b f g n sp L) {k : Nat} (hk : k < n) : w.cell? ⟨g, k, none⟩ = some (.int .i64 ((sa L k).w : Int)) := by
  rw [cell_at h.wea, map_at _ _ (by rw [h.len]; exact hk)]; rfl
theorem Ra.ffree (h : Ra w b f g n sp L) (i : Nat) : w.frozen? ⟨f, i, none⟩ = false := free_at h.isf i
theorem Ra.gfree (h : Ra w b f g n sp L) (i : Nat) : w.frozen? ⟨g, i, none⟩ = false := free_at h.wea i
theorem Ra.ne (h : Ra w b f g n sp L) : b ≠ f ∧ b ≠ g ∧ f ≠ g := ⟨cells_ne h.box h.isf (by decide), cells_ne h.box h.wea (by decide), cells_ne h.isf h.wea (by decide)⟩
theorem Ra.keep {w' : World} {F : Nat → Prop} (h : Ra w b f g n sp L) (hm : Mv F w w') (hb : ¬ F b) (hf : ¬ F f) (hg : ¬ F g) : Ra w' b f g n sp L :=
  ⟨hm.keep h.box hb, hm.keep h.isf hf, hm.keep h.wea hg, h.len, h.top, h.spt⟩
theorem Ra.on {w' : World} (h : Ra w b f g n sp L) (hm : At w w') : Ra w' b f g n sp L := ⟨hm.keep h.box, hm.keep h.isf, hm.keep h.wea, h.len, h.top, h.spt⟩
theorem map_set_at (L : List St) (F : St → Value) (k : Nat) (s : St) : (L.map F).toArray.setIfInBounds k (F s) = ((L.set k s).map F).toArray := by
  rw [List.setIfInBounds_toArray, List.map_set]
theorem map_same (L : List St) (F : St → Value) (k : Nat) (s : St) (h : F s = F (sa L k)) : (L.set k s).map F = L.map F := by
  apply List.ext_getElem?
  intro i
  rw [List.getElem?_map, List.getElem?_map, List.getElem?_set]
  by_cases e : k = i
  · subst e
    rw [if_pos rfl]
    by_cases hk : k < L.length
    · rw [if_pos hk, sa_some hk]; simp [h]
    · rw [if_neg hk, List.getElem?_eq_none (by omega)]
  · rw [if_neg e]
theorem Ra.take (h : Ra w b f g n sp L) (k : Nat) : Ra (w.setCell ⟨f, k, none⟩ (.bool false)) b f g n sp (tk L k) where
  box := (Below.heap_setCell _ _ _ _ h.ne.1).trans h.box
  isf := by
    rw [heap_set h.isf]
    exact congrArg (fun c => some (Obj.cells c 4 (0, 0))) (map_set_at L (fun s => Value.bool (!s.t)) k ⟨true, (sa L k).w⟩)
  wea := by
    rw [tk, map_same L (fun s => nv s.w) k ⟨true, (sa L k).w⟩ rfl]
    exact (Below.heap_setCell _ _ _ _ h.ne.2.2.symm).trans h.wea
  len := by rw [tk_len]; exact h.len
  top := h.top
  spt := h.spt
theorem Ra.free (h : Ra w b f g n sp L) (k : Nat) : Ra ((w.setCell ⟨f, k, none⟩ (.bool true)).setCell ⟨g, k, none⟩ (.int .i64 (((sa L k).w + 1 : Nat) : Int))) b f g n sp (fre L k) where
  box := (Below.heap_setCell _ _ _ _ h.ne.2.1).trans ((Below.heap_setCell _ _ _ _ h.ne.1).trans h.box)
  isf := by
    rw [Below.heap_setCell _ _ _ _ h.ne.2.2, heap_set h.isf]
    exact congrArg (fun c => some (Obj.cells c 4 (0, 0))) (map_set_at L (fun s => Value.bool (!s.t)) k ⟨false, (sa L k).w + 1⟩)
  wea := by
    rw [heap_set ((Below.heap_setCell _ _ _ _ h.ne.2.2.symm).trans h.wea)]
    exact congrArg (fun c => some (Obj.cells c 3 (0, 0))) (map_set_at L (fun s => nv s.w) k ⟨false, (sa L k).w + 1⟩)
  len := by rw [fre_len]; exact h.len
  top := h.top
  spt := h.spt
end

/-- A row of marks at h: which are taken. -/
def Hl (w : World) (h : Nat) (L : List St) : Prop := w.heap[h]? = some (.cells (L.map fun s => Value.bool s.t).toArray 4 (0, 0))
section
variable {w : World} {h : Nat} {L : List St}
theorem Hl.cell (hh : Hl w h L) {k : Nat} (hk : k < L.length) : w.cell? ⟨h, k, none⟩ = some (.bool (sa L k).t) := by
  rw [cell_at hh, map_at _ _ hk]
theorem Hl.free (hh : Hl w h L) (i : Nat) : w.frozen? ⟨h, i, none⟩ = false := free_at hh i
theorem Hl.on {w' : World} (hh : Hl w h L) (hm : At w w') : Hl w' h L := hm.keep hh
theorem Hl.keep {w' : World} {F : Nat → Prop} (hh : Hl w h L) (hm : Mv F w w') (hF : ¬ F h) : Hl w' h L := hm.keep hh hF
theorem Hl.set (hh : Hl w h L) (k : Nat) (s : St) : Hl (w.setCell ⟨h, k, none⟩ (.bool s.t)) h (L.set k s) := by
  unfold Hl
  rw [heap_set hh]
  exact congrArg (fun c => some (Obj.cells c 4 (0, 0))) (map_set_at L (fun s => Value.bool s.t) k s)
end

theorem info_state : (Try.prog.info? 55).map (fun i => (i.zero, i.size, i.bytes)) = some (some (.agg #[.bool false, .int .i64 0]), 2, 16) := by kernel_rfl
theorem zc_nw (n : Nat) : madeCells (Value.agg #[.bool false, .int .i64 0]).cells (n * 2) = (zc (nw n)).toArray := by
  apply Array.toList_inj.1
  apply List.ext_getElem?
  intro j
  show (madeCells #[.bool false, .int .i64 0] (n * 2)).toList[j]? = (zc (nw n))[j]?
  by_cases hj : j < n * 2
  · have h2 : j / 2 < n := by omega
    rcases Nat.mod_two_eq_zero_or_one j with e | e
    · have e1 : j = j / 2 * 2 := by omega
      conv => rhs; rw [e1]
      rw [zc_t (by rw [nw_len]; exact h2), nw_at _ _ h2]
      simp [madeCells, hj, e]
    · have e1 : j = j / 2 * 2 + 1 := by omega
      conv => rhs; rw [e1]
      rw [zc_w (by rw [nw_len]; exact h2), nw_at _ _ h2]
      simp [madeCells, hj, e]
  · rw [List.getElem?_eq_none (by simp [madeCells]; omega), List.getElem?_eq_none (by rw [zc_len, nw_len]; omega)]
theorem make_states (n : Nat) (hn : n ≤ 64) (w : World) : (Instr.makeSlice 51 (.int .i64 (n : Int)) (.int .i64 (n : Int))).run Try.prog w = .ok (.slice (some ⟨w.heap.size, 0, none⟩) n n) (w.alloc (.cells (zc (nw n)).toArray 55)) := by
  obtain ⟨i0, hi, hz0, hz1, hz2⟩ := info_parts info_state
  have h := run_make (P := Try.prog) w 51 55 i0 _ Try.underlying51 hi hz0 .i64 .i64 n n (by omega) (by omega) (by rw [hz2]; omega) (by omega)
  rw [h, hz1, ← zc_nw]
  simp only [Int.toNat_natCast]
theorem nw_map (n : Nat) (F : St → Value) : (nw n).map F = List.replicate n (F ⟨false, 0⟩) := by simp [nw]
theorem make_bools (n : Nat) (hn : n ≤ 64) (w : World) : (Instr.makeSlice 39 (.int .i64 (n : Int)) (.int .i64 (n : Int))).run Try.prog w = .ok (.slice (some ⟨w.heap.size, 0, none⟩) n n) (w.alloc (.cells ((nw n).map fun s => Value.bool s.t).toArray 4)) := by
  obtain ⟨i0, hi, hz0, hz1, hz2⟩ := info_parts info_bool
  have h := run_make (P := Try.prog) w 39 4 i0 _ Try.underlying39 hi hz0 .i64 .i64 n n (by omega) (by omega) (by rw [hz2]; omega) (by omega)
  rw [h, hz1, nw_map, ← toList_madeCells_one]
  simp only [Int.toNat_natCast, Nat.mul_one]; rfl
theorem make_ints (n : Nat) (hn : n ≤ 64) (w : World) : (Instr.makeSlice 40 (.int .i64 (n : Int)) (.int .i64 (n : Int))).run Try.prog w = .ok (.slice (some ⟨w.heap.size, 0, none⟩) n n) (w.alloc (.cells ((nw n).map fun s => nv s.w).toArray 3)) := by
  obtain ⟨i0, hi, hz0, hz1, hz2⟩ := info_parts info_int
  have h := run_make (P := Try.prog) w 40 3 i0 _ Try.underlying40 hi hz0 .i64 .i64 n n (by omega) (by omega) (by rw [hz2]; omega) (by omega)
  rw [h, hz1, nw_map, show nv 0 = Value.int .i64 0 from rfl, ← toList_madeCells_one]
  simp only [Int.toNat_natCast, Nat.mul_one]; rfl

end Go.Proofs.Ytheldhbdhadliaa
