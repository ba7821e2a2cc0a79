/- Proved: a slice of int that reads as data is a list of ints; a row of the call's own to which such an int is laid as a double. -/
import Derived.Test.YtphhonpibmbjmaaIntp
import Derived.Test.YtphhonpibmbjmaaKeeps
import Derived.Test.YtphhonpibmbjmaaRead
import Derived.Deep.Slices
namespace Go.Proofs.Ytphhonpibmbjmaa
open Go.ChangeShapes Go.WideShapes Go.ChangeAt Go.RowKit Fl

/-- A slice of int that reads as a list of ints. -/
def IView (w : World) (v : Value) (Z : List Int) : Prop :=
  (∃ a cap, v = .slice a 0 cap ∧ Z = []) ∨
  (∃ b off cap, v = .slice (some ⟨b, off, none⟩) Z.length cap ∧ 0 < Z.length ∧ b < w.heap.size ∧ ∀ j, j < Z.length → w.cell? ⟨b, off + j, none⟩ = some (.int .i64 (Z.getD j 0)))

theorem int_of_trod {H : Type} {enc : TypeId × Value → H} {P : Program} {w : World} {base : Nat} {spare : Nat → Bool} {held : Bool} {n : Nat} {e : TypeId} {v : Value} {y : DataW H × List MemPlace}
    (ht : P.underlying e = some (.int .i64)) (h : DataW.trod enc P w base spare held n e [v] = some y) : ∃ z : Int, v = .int .i64 z := by
  cases n with
  | zero => simp [DataW.trod] at h
  | succ n =>
    unfold DataW.trod at h
    rw [ht] at h
    cases v <;> simp at h
    rename_i k z
    exact ⟨z, by simp_all⟩
theorem cells_i64 : Try.prog.cellsOf 3 = 1 := by kernel_rfl

/-- A slice of int that was read. -/
theorem read_iview {H : Type} {enc : TypeId × Value → H} {W : World} {a0 : Option Addr} {len cap fuel : Nat} {x : DataW H × List MemPlace}
    (hf : DataW.trod enc Try.prog W 0 (fun _ => true) true fuel 40 [.slice a0 len cap] = some x) : ∃ Z : List Int, Z.length = len ∧ IView W (.slice a0 len cap) Z := by
  rcases Go.Deep.open_slice1 Try.underlying40 cells_i64 hf with ⟨hcs, _⟩ | ⟨a, len', cap', m, n, V, D, Pl, hcs, _, hl, _, hm, _, hx⟩
  · simp at hcs
    obtain ⟨rfl, rfl, rfl⟩ := hcs
    exact ⟨[], rfl, Or.inl ⟨_, _, rfl, rfl⟩⟩
  · simp at hcs
    obtain ⟨rfl, rfl, rfl⟩ := hcs
    simp only [if_true] at hm
    by_cases h0 : len = 0
    · subst h0
      exact ⟨[], rfl, Or.inl ⟨_, _, rfl, rfl⟩⟩
    · have each : ∀ i, i < len → ∃ z : Int, W.cell? (a.add i) = some (.int .i64 z) := fun i hi => by
        obtain ⟨z, e⟩ := int_of_trod Try.underlying3 (hx i (by omega)).2
        exact ⟨z, by rw [← e]; exact (hx i (by omega)).1⟩
      obtain ⟨F, hF⟩ : ∃ F : Nat → Int, ∀ i, i < len → W.cell? (a.add i) = some (.int .i64 (F i)) :=
        ⟨fun i => if h : i < len then (each i h).choose else 0, fun i hi => by simp only [dif_pos hi]; exact (each i hi).choose_spec⟩
      obtain ⟨b, off, spot⟩ := a
      have hspot : spot = none := by simpa [Addr.add] using World.cell?_spot (hF 0 (by omega))
      subst hspot
      have hc : ∀ j, j < len → W.cell? ⟨b, off + j, none⟩ = some (.int .i64 (F j)) := fun j hj => by
        rw [← Go.WideShapes.add_plain]; exact hF j hj
      have hL : ((List.range len).map F).length = len := by simp
      refine ⟨(List.range len).map F, hL, Or.inr ⟨b, off, cap, by rw [hL], by rw [hL]; omega, ?_, fun j hj => ?_⟩⟩
      · exact World.block_lt_of_cell? W ⟨b, off + 0, none⟩ (hc 0 (by omega))
      · rw [hL] at hj
        rw [hc j hj, List.getD_eq_getElem?_getD, List.getElem?_map, List.getElem?_range hj]
        rfl

theorem iv_pos {w : World} {v : Value} {Z : List Int} (h : IView w v Z) (h0 : 0 < Z.length) :
    ∃ b off cap, v = .slice (some ⟨b, off, none⟩) Z.length cap ∧ b < w.heap.size ∧ ∀ j, j < Z.length → w.cell? ⟨b, off + j, none⟩ = some (.int .i64 (Z.getD j 0)) := by
  rcases h with ⟨_, _, _, rfl⟩ | ⟨b, off, cap, rfl, _, hb, hc⟩
  · simp at h0
  · exact ⟨b, off, cap, rfl, hb, hc⟩

theorem take_iw (Z : List Int) (k : Nat) (h : k < Z.length) : (Z.take (k + 1)).map iw = (Z.take k).map iw ++ [iw (Z.getD k 0)] := by
  rw [List.take_succ_eq_append_getElem h, List.map_append, List.getD_eq_getElem?_getD, List.getElem?_eq_getElem h]
  rfl
theorem take_zs (Z : List Int) (k : Nat) (h : k < Z.length) : zs (Z.take (k + 1)) = zs (Z.take k) + Z.getD k 0 := by
  rw [List.take_succ_eq_append_getElem h, zs_app, List.getD_eq_getElem?_getD, List.getElem?_eq_getElem h]
  simp [zs]
theorem mem_getD {Z : List Int} {z : Int} (h : z ∈ Z) : ∃ j, j < Z.length ∧ Z.getD j 0 = z := by
  obtain ⟨j, hj, rfl⟩ := List.mem_iff_getElem.1 h
  exact ⟨j, hj, by rw [List.getD_eq_getElem?_getD, List.getElem?_eq_getElem hj]; rfl⟩
theorem iw_all (Z : List Int) : ∀ x ∈ Z.map iw, x < 18446744073709551616 := by
  intro x hx
  obtain ⟨z, _, rfl⟩ := List.mem_map.1 hx
  exact iw_lt z
theorem reads_at {W : World} {B g o m : Nat} {Y : List Nat} (hb : g < B) (hl : Y.length = m) (hc : ∀ j, j < m → W.cell? ⟨g, o + j, none⟩ = some (.float .f64 (Y.getD j 0))) : Reads W B 1 (some ⟨g, o, none⟩) m (Y.map (Value.float .f64)) := by
  refine ⟨by simp [hl], fun _ => ⟨_, rfl, hb, fun j u hu => ?_⟩⟩
  rw [List.getElem?_map] at hu
  by_cases h : j < Y.length
  · rw [List.getElem?_eq_getElem h] at hu
    have := hc j (by omega)
    rw [List.getD_eq_getElem?_getD, List.getElem?_eq_getElem h] at this
    rw [Go.WideShapes.add_plain]
    simp only [Option.map_some, Option.some.injEq] at hu
    rw [← hu]; exact this
  · rw [List.getElem?_eq_none (by omega)] at hu; cases hu

end Go.Proofs.Ytphhonpibmbjmaa
