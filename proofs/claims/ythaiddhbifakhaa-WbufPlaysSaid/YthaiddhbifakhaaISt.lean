/- Proved: words for a set in memory; a new one; what one tells of its blocks. -/
import Derived.Test.YthaiddhbifakhaaICl
import Derived.Test.YthaiddhbifakhaaIEn
namespace Go.Proofs.Ythaiddhbifakhaa.Iv
open Go.RowKit

/-- The blocks of memory in which a set lies: its struct's and its row's. -/
def Ft (b : Nat) (v : Value) (g : Nat) : Prop := g = b ∨ v.ownBlock = some g
/-- A set at b: its row v, so many extents at most, L its extents. -/
structure Sv (w : World) (b : Nat) (v : Value) (most : Int) (L : List (Int × Int)) : Prop where
  box : w.heap[b]? = some (.cells #[v, .int .i64 most] 85 (0, 0))
  row : Ow w v L
  nm : Nm L
theorem Sv.lt {w : World} {b : Nat} {v : Value} {most : Int} {L : List (Int × Int)} (h : Sv w b v most L) : ∀ g, Ft b v g → g < w.heap.size := by
  rintro g (rfl | hg)
  · exact lt_heap h.box
  · exact h.row.lt hg
theorem Sv.apart {w : World} {b : Nat} {v : Value} {most : Int} {L : List (Int × Int)} (h : Sv w b v most L) : v.ownBlock ≠ some b := by
  intro e
  rcases h.row.form with ⟨rfl, _⟩ | ⟨g, c, T, rfl, _, _, _, hg⟩
  · cases e
  · injection e with e
    exact cells_ne hg h.box (by decide) e
theorem Sv.keep {w w' : World} {b : Nat} {v : Value} {most : Int} {L : List (Int × Int)} {F : Nat → Prop} (h : Sv w b v most L) (hm : Mv F w w') (hF : ∀ g, Ft b v g → ¬ F g) : Sv w' b v most L :=
  ⟨hm.keep h.box (hF b (Or.inl rfl)), h.row.mv hm (fun g hg => hF g (Or.inr hg)), h.nm⟩
theorem Sv.on {w w' : World} {b : Nat} {v : Value} {most : Int} {L : List (Int × Int)} (h : Sv w b v most L) (hm : At w w') : Sv w' b v most L :=
  h.keep (Mv.of_below (fun _ => False) hm) (fun _ _ h => h)
theorem Sv.cells {w : World} {b : Nat} {v : Value} {most : Int} {L : List (Int × Int)} (h : Sv w b v most L) : w.cell? ⟨b, 0, none⟩ = some v ∧ w.cell? ⟨b, 1, none⟩ = some (.int .i64 most) ∧ w.frozen? ⟨b, 0, none⟩ = false :=
  ⟨by rw [cell_at h.box]; rfl, by rw [cell_at h.box]; rfl, free_at h.box 0⟩

/-- A set that is made. -/
def News (most : Int) (w : World) (e : Ending) (w' : World) : Prop := e = .returned (.pointer (some ⟨w.heap.size, 0, none⟩)) ∧ Sv w' w.heap.size (.slice none 0 0) most [] ∧ At w w'
set_option maxHeartbeats 400000 in
theorem new_any (most : Int) (w : World) : Calls Try.prog 34 #[.int .i64 most] w (News most w) := by
  have HN : Hid (Sv (w.alloc (.cells #[.slice none 0 0, .int .i64 most] 85)) w.heap.size (.slice none 0 0) most []) := Lib.hid ⟨heap_alloc_new w _, Ow.nil _, Nm.nil⟩
  have HB : Hid (At w (w.alloc (.cells #[.slice none 0 0, .int .i64 most] 85))) := Lib.hid ((At.start w).alloc _)
  go_enter Try.func34, Try.ntmps34
  go_wp2
  go_ret
  exact ⟨rfl, HN.out, HB.out⟩

theorem list_nil (w : World) : Calls Try.prog 37 #[.pointer none] w fun e w' => e = .returned (.slice none 0 0) ∧ w = w' := by
  go_enter Try.func37, Try.ntmps37
  go_wp2
  go_ret
  exact ⟨rfl, rfl⟩
theorem list_any {w : World} {b : Nat} {v : Value} {most : Int} {L : List (Int × Int)} (h : Sv w b v most L) : Calls Try.prog 37 #[.pointer (some ⟨b, 0, none⟩)] w fun e w' => e = .returned v ∧ w = w' := by
  obtain ⟨c0, -, -⟩ := h.cells
  clear h
  go_enter Try.func37, Try.ntmps37
  go_wp2
  go_ret
  exact ⟨rfl, rfl⟩

/-- Whether an extent has a block of L. -/
def shB (L : List (Int × Int)) (a n : Int) : Bool := L.any fun y => decide (y.1 < a + n ∧ a < y.1 + y.2)
theorem sh_iff {L : List (Int × Int)} {a n : Int} (hL : ∀ e ∈ L, Vm e) (hn : 1 ≤ n) : shB L a n = true ↔ ∃ x, In [(a, n)] x ∧ In L x := by
  unfold shB
  rw [List.any_eq_true]
  constructor
  · rintro ⟨y, hy, h⟩
    have h := of_decide_eq_true h
    have v := hL y hy
    unfold Vm at v
    exact ⟨max a y.1, (in_one _ _).2 ⟨by simp only; omega, by simp only; omega⟩, y, hy, by omega, by omega⟩
  · rintro ⟨x, hx, y, hy, h1, h2⟩
    have h := (in_one _ _).1 hx
    simp only at h
    exact ⟨y, hy, decide_eq_true ⟨by omega, by omega⟩⟩
theorem sh_find {L : List (Int × Int)} (hL : Nm L) {a n : Int} {k : Nat} (hn : 1 ≤ n) (hf : Fd (pe L (a + 1)) L.length k) : shB L a n = true ↔ (k < L.length ∧ (L.getD k (0, 0)).1 < a + n) :=
  (sh_iff hL.1 hn).trans (meets_iff hL (e := (a, n)) hn hf).symm
theorem shB_nil (a n : Int) : shB [] a n = false := rfl

end Go.Proofs.Ythaiddhbifakhaa.Iv
