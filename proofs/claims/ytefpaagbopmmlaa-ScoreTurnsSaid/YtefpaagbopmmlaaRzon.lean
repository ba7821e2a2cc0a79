/- Proved: a zone, and a slice of zones, that read as data are whole numbers three by three. -/
import Derived.Test.YtefpaagbopmmlaaAwk
import Derived.Deep.Slices
import Derived.Lib.SmallJoins
import Derived.ProofKit
import Derived.OpenShut
namespace Go.Proofs.Ytefpaagbopmmlaa
open Go.ChangeShapes Go.WideShapes Go.ChangeAt Go.RowKit Fl

theorem int_of_trod {H : Type} {enc : TypeId × Value → H} {P : Program} {w : World} {base : Nat} {spare : Nat → Bool} {held : Bool} {n : Nat} {e : TypeId} {v : Value} {y : DataW H × List MemPlace}
    (ht : P.underlying e = some (.int .i64)) (h : DataW.trod enc P w base spare held n e [v] = some y) : ∃ z : Int, v = .int .i64 z := by
  cases n with
  | zero => simp [DataW.trod] at h
  | succ n =>
    unfold DataW.trod at h
    rw [ht] at h
    cases v <;> simp at h
    rename_i k z
    exact ⟨z, by simp_all⟩
theorem zone_cells : Try.prog.cellsOf 23 = 3 := by kernel_rfl

/-- A zone that came in. -/
theorem open_zone {H : Type} {enc : TypeId × Value → H} {W : World} {r : Reach} {b0 : Nat} {v : Value} {d : DataW H} {p : List MemPlace} {base : Nat} {spare : Nat → Bool} {held : Bool}
    (hv : Value.okWide Try.prog W r b0 23 v) (h : DataW.Trod enc Try.prog W base spare held 23 v d p) : ∃ l s t : Int, v = zv l s t := by
  obtain ⟨v0, v1, v2, y0, y1, y2, n, rfl, _, _, h0, h1, h2⟩ := Go.Joins.open_agg3 Try.underlying23 (by kernel_rfl) zone_cells hv h
  obtain ⟨l, rfl⟩ := int_of_trod Try.underlying3 h0
  obtain ⟨s, rfl⟩ := int_of_trod Try.underlying3 h1
  obtain ⟨t, rfl⟩ := int_of_trod Try.underlying3 h2
  exact ⟨l, s, t, rfl⟩


/-- A slice of zones that reads as a list. -/
def ZView (w : World) (v : Value) (Z : List (Int × Int × Int)) : Prop :=
  (∃ a cap, v = .slice a 0 cap ∧ Z = []) ∨
  (∃ b off cap, v = .slice (some ⟨b, off, none⟩) Z.length cap ∧ 0 < Z.length ∧ b < w.heap.size ∧ ∀ j, j < Z.length →
    w.cell? ⟨b, off + j * 3, none⟩ = some (.int .i64 (Z.getD j (0, 0, 0)).1) ∧ w.cell? ⟨b, off + j * 3 + 1, none⟩ = some (.int .i64 (Z.getD j (0, 0, 0)).2.1) ∧ w.cell? ⟨b, off + j * 3 + 2, none⟩ = some (.int .i64 (Z.getD j (0, 0, 0)).2.2))

theorem zone_at {H : Type} {enc : TypeId × Value → H} {W : World} {a : Addr} {base : Nat} {spare : Nat → Bool} {held : Bool} {n : Nat} {cs : List Value} {y : DataW H × List MemPlace}
    (h1 : W.cells? 0 a 3 = some cs) (h2 : DataW.trod enc Try.prog W base spare held n 23 cs = some y) :
    ∃ l s t : Int, W.cell? (a.add 0) = some (.int .i64 l) ∧ W.cell? (a.add 1) = some (.int .i64 s) ∧ W.cell? (a.add 2) = some (.int .i64 t) := by
  obtain ⟨_, hlen, hc⟩ := World.cells?_some h1
  obtain ⟨y0, y1, y2, m, _, _, k0, k1, k2⟩ := Go.Deep.trod_struct3 Try.underlying23 h2
  match cs, hlen with
  | [c0, c1, c2], _ =>
    have ci : Try.prog.cellsOf 3 = 1 := by kernel_rfl
    simp only [ci, List.drop_zero, List.drop_succ_cons, List.take_succ_cons, List.take_zero] at k0 k1 k2
    obtain ⟨l, rfl⟩ := int_of_trod Try.underlying3 k0
    obtain ⟨s, rfl⟩ := int_of_trod Try.underlying3 k1
    obtain ⟨t, rfl⟩ := int_of_trod Try.underlying3 k2
    exact ⟨l, s, t, hc 0 (by omega), hc 1 (by omega), hc 2 (by omega)⟩

/-- A slice of zones that was read. -/
theorem read_zview {H : Type} {enc : TypeId × Value → H} {W : World} {a0 : Option Addr} {len cap fuel : Nat} {x : DataW H × List MemPlace}
    (hf : DataW.trod enc Try.prog W 0 (fun _ => true) true fuel 35 [.slice a0 len cap] = some x) : ∃ Z : List (Int × Int × Int), Z.length = len ∧ ZView W (.slice a0 len cap) Z := by
  rcases Go.Deep.open_slice Try.underlying35 hf with ⟨hcs, _⟩ | ⟨a, len', cap', m, n, D, Pl, hcs, _, hl, _, hm, _, hx⟩
  · simp at hcs
    obtain ⟨rfl, rfl, rfl⟩ := hcs
    exact ⟨[], rfl, Or.inl ⟨_, _, rfl, rfl⟩⟩
  · simp at hcs
    obtain ⟨rfl, rfl, rfl⟩ := hcs
    simp only [if_true] at hm
    rw [zone_cells] at hx
    by_cases h0 : len = 0
    · subst h0
      exact ⟨[], rfl, Or.inl ⟨_, _, rfl, rfl⟩⟩
    · have each : ∀ i, i < len → ∃ l s t : Int, W.cell? ((a.add (i * 3)).add 0) = some (.int .i64 l) ∧ W.cell? ((a.add (i * 3)).add 1) = some (.int .i64 s) ∧ W.cell? ((a.add (i * 3)).add 2) = some (.int .i64 t) := fun i hi => by
        obtain ⟨cs, h1, h2⟩ := hx i (by omega)
        exact zone_at h1 h2
      obtain ⟨G, hG⟩ : ∃ G : Nat → Int × Int × Int, ∀ i, i < len → W.cell? ((a.add (i * 3)).add 0) = some (.int .i64 (G i).1) ∧ W.cell? ((a.add (i * 3)).add 1) = some (.int .i64 (G i).2.1) ∧ W.cell? ((a.add (i * 3)).add 2) = some (.int .i64 (G i).2.2) :=
        ⟨fun i => if h : i < len then ((each i h).choose, (each i h).choose_spec.choose, (each i h).choose_spec.choose_spec.choose) else (0, 0, 0), fun i hi => by simp only [dif_pos hi]; exact (each i hi).choose_spec.choose_spec.choose_spec⟩
      obtain ⟨b, off, spot⟩ := a
      have hspot : spot = none := by simpa [Addr.add] using World.cell?_spot (hG 0 (by omega)).1
      subst hspot
      simp only [Go.WideShapes.add_plain, Nat.add_zero] at hG
      have hL : ((List.range len).map G).length = len := by simp
      refine ⟨(List.range len).map G, hL, Or.inr ⟨b, off, cap, by rw [hL], by rw [hL]; omega, ?_, fun j hj => ?_⟩⟩
      · exact World.block_lt_of_cell? W ⟨b, off + 0 * 3, none⟩ (hG 0 (by omega)).1
      · rw [hL] at hj
        have e : ((List.range len).map G).getD j (0, 0, 0) = G j := by
          rw [List.getD_eq_getElem?_getD, List.getElem?_map, List.getElem?_range hj]; rfl
        rw [e]
        exact hG j hj

end Go.Proofs.Ytefpaagbopmmlaa
