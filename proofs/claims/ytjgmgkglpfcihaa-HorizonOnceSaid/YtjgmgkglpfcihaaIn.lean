/- Proved: what came in as data: a slice of ints, a slice of steps. -/
import Derived.Test.YtjgmgkglpfcihaaHs
import Derived.Deep.Slices
import Derived.Deep.Fields
import Derived.Lib.SmallJoins
import Derived.ProofKit
import Derived.OpenShut
namespace Go.Proofs.Ytjgmgkglpfcihaa
open Go.ChangeShapes Go.WideShapes Go.ChangeAt Go.RowKit Go.Deep

theorem int_of_trod {H : Type} {enc : TypeId × Value → H} {P : Program} {w : World} {base : Nat} {spare : Nat → Bool} {held : Bool} {n : Nat} {e : TypeId} {v : Value} {y : DataW H × List MemPlace}
    (ht : P.underlying e = some (.int .i64)) (h : DataW.trod enc P w base spare held n e [v] = some y) : ∃ z : Int, v = .int .i64 z ∧ (ky z).wf = true := by
  cases n with
  | zero => simp [DataW.trod] at h
  | succ n =>
    unfold DataW.trod at h
    rw [ht] at h
    cases v <;> simp at h
    rename_i k z
    exact ⟨z, by simp_all, by unfold ky; simp_all⟩
theorem cells_i64 : Try.prog.cellsOf 3 = 1 := by kernel_rfl
/-- A number that is an int's. -/
def Kw (x : Int) : Prop := (ky x).wf = true
theorem kw_get {L : List Int} (h : ∀ x ∈ L, Kw x) (j : Nat) : Kw (L.getD j 0) := by
  rw [List.getD_eq_getElem?_getD]
  by_cases hj : j < L.length
  · rw [List.getElem?_eq_getElem hj]; exact h _ (List.getElem_mem hj)
  · rw [List.getElem?_eq_none (by omega)]; exact ky_wf (by decide) (by decide)

/-- A slice of int that was read. -/
theorem read_iv {H : Type} {enc : TypeId × Value → H} {W : World} {a0 : Option Addr} {len cap fuel : Nat} {x : DataW H × List MemPlace}
    (hf : DataW.trod enc Try.prog W 0 (fun _ => true) true fuel 27 [.slice a0 len cap] = some x) : ∃ L : List Int, L.length = len ∧ IV W a0 L ∧ ∀ x ∈ L, Kw x := by
  rcases Go.Deep.open_slice1 Try.underlying27 cells_i64 hf with ⟨hcs, _⟩ | ⟨a, len', cap', m, n, V, D, Pl, hcs, _, hl, _, hm, _, hx⟩
  · simp at hcs
    obtain ⟨rfl, rfl, rfl⟩ := hcs
    exact ⟨[], rfl, Or.inl rfl, fun _ h => by cases h⟩
  · simp at hcs
    obtain ⟨rfl, rfl, rfl⟩ := hcs
    simp only [if_true] at hm
    by_cases h0 : len = 0
    · subst h0
      exact ⟨[], rfl, Or.inl rfl, fun _ h => by cases h⟩
    · have each : ∀ i, i < len → ∃ z : Int, Kw z ∧ W.cell? (a.add i) = some (.int .i64 z) := fun i hi => by
        obtain ⟨z, e, hz⟩ := int_of_trod Try.underlying3 (hx i (by omega)).2
        exact ⟨z, hz, by rw [← e]; exact (hx i (by omega)).1⟩
      obtain ⟨F, hF⟩ : ∃ F : Nat → Int, ∀ i, i < len → Kw (F i) ∧ W.cell? (a.add i) = some (.int .i64 (F i)) :=
        ⟨fun i => if h : i < len then (each i h).choose else 0, fun i hi => by simp only [dif_pos hi]; exact (each i hi).choose_spec⟩
      obtain ⟨b, off, spot⟩ := a
      have hspot : spot = none := by simpa [Addr.add] using World.cell?_spot (hF 0 (by omega)).2
      subst hspot
      have hc : ∀ j, j < len → W.cell? ⟨b, off + j, none⟩ = some (.int .i64 (F j)) := fun j hj => by
        rw [← Go.WideShapes.add_plain]; exact (hF j hj).2
      have hL : ((List.range len).map F).length = len := by simp
      refine ⟨(List.range len).map F, hL, Or.inr ⟨b, off, rfl, ?_, fun j hj => ?_⟩, fun x hx => ?_⟩
      · exact World.block_lt_of_cell? W ⟨b, off + 0, none⟩ (hc 0 (by omega))
      · rw [hL] at hj
        rw [hc j hj, List.getD_eq_getElem?_getD, List.getElem?_map, List.getElem?_range hj]
        rfl
      · obtain ⟨i, hi, rfl⟩ := List.mem_map.1 hx
        exact (hF i (List.mem_range.1 hi)).1

/-- A slice of steps that reads as a list of pairs. -/
def SV (w : World) (A : Option Addr) (Z : List (Int × Int)) : Prop :=
  Z = [] ∨ ∃ b o, A = some ⟨b, o, none⟩ ∧ b < w.heap.size ∧ ∀ j, j < Z.length →
    w.cell? ⟨b, o + j * 2, none⟩ = some (.int .i64 (Z.getD j (0, 0)).1) ∧ w.cell? ⟨b, o + j * 2 + 1, none⟩ = some (.int .i64 (Z.getD j (0, 0)).2)
theorem SV.pos {w : World} {A : Option Addr} {Z : List (Int × Int)} (h : SV w A Z) (h0 : 0 < Z.length) : ∃ b o, A = some ⟨b, o, none⟩ ∧ b < w.heap.size ∧ ∀ j, j < Z.length →
    w.cell? ⟨b, o + j * 2, none⟩ = some (.int .i64 (Z.getD j (0, 0)).1) ∧ w.cell? ⟨b, o + j * 2 + 1, none⟩ = some (.int .i64 (Z.getD j (0, 0)).2) := by
  rcases h with rfl | h
  · simp at h0
  · exact h
theorem SV.on {w w' : World} {A : Option Addr} {Z : List (Int × Int)} (h : SV w A Z) (ha : At w w') : SV w' A Z := by
  rcases h with h | ⟨b, o, h1, h3, h4⟩
  · exact Or.inl h
  · exact Or.inr ⟨b, o, h1, Nat.lt_of_lt_of_le h3 ha.size, fun j hj => ⟨(Below.cell ha (p := ⟨b, o + j * 2, none⟩) h3).trans (h4 j hj).1, (Below.cell ha (p := ⟨b, o + j * 2 + 1, none⟩) h3).trans (h4 j hj).2⟩⟩
theorem step_cells : Try.prog.cellsOf 31 = 2 := by kernel_rfl
theorem step_at {H : Type} {enc : TypeId × Value → H} {W : World} {a : Addr} {base : Nat} {spare : Nat → Bool} {held : Bool} {n : Nat} {cs : List Value} {y : DataW H × List MemPlace}
    (h1 : W.cells? 0 a 2 = some cs) (h2 : DataW.trod enc Try.prog W base spare held n 31 cs = some y) :
    ∃ l s : Int, Kw s ∧ W.cell? (a.add 0) = some (.int .i64 l) ∧ W.cell? (a.add 1) = some (.int .i64 s) := by
  obtain ⟨_, hlen, hc⟩ := World.cells?_some h1
  obtain ⟨xs, m, _, _, _, hx, hf⟩ := DataW.trod_struct Try.underlying31 h2
  match cs, hlen, xs, hx with
  | [c0, c1], _, [x0, x1], _ =>
    have k0 := hf 0 _ rfl
    have k1 := hf 1 _ rfl
    simp only [List.getElem?_cons_zero, List.getElem?_cons_succ] at k0 k1
    obtain ⟨l, rfl, _⟩ := int_of_trod Try.underlying3 k0
    obtain ⟨s, rfl, hs⟩ := int_of_trod Try.underlying3 k1
    exact ⟨l, s, hs, hc 0 (by omega), hc 1 (by omega)⟩
/-- A slice of steps that was read. -/
theorem read_sv {H : Type} {enc : TypeId × Value → H} {W : World} {a0 : Option Addr} {len cap fuel : Nat} {x : DataW H × List MemPlace}
    (hf : DataW.trod enc Try.prog W 0 (fun _ => true) true fuel 22 [.slice a0 len cap] = some x) : ∃ Z : List (Int × Int), Z.length = len ∧ SV W a0 Z ∧ ∀ s ∈ Z, Kw s.2 := by
  rcases Go.Deep.open_slice Try.underlying22 hf with ⟨hcs, _⟩ | ⟨a, len', cap', m, n, D, Pl, hcs, _, hl, _, hm, _, hx⟩
  · simp at hcs
    obtain ⟨rfl, rfl, rfl⟩ := hcs
    exact ⟨[], rfl, Or.inl rfl, fun _ h => by cases h⟩
  · simp at hcs
    obtain ⟨rfl, rfl, rfl⟩ := hcs
    simp only [if_true] at hm
    rw [step_cells] at hx
    by_cases h0 : len = 0
    · subst h0
      exact ⟨[], rfl, Or.inl rfl, fun _ h => by cases h⟩
    · have each : ∀ i, i < len → ∃ p : Int × Int, Kw p.2 ∧ W.cell? ((a.add (i * 2)).add 0) = some (.int .i64 p.1) ∧ W.cell? ((a.add (i * 2)).add 1) = some (.int .i64 p.2) := fun i hi => by
        obtain ⟨cs, h1, h2⟩ := hx i (by omega)
        obtain ⟨l, s, k⟩ := step_at h1 h2
        exact ⟨(l, s), k⟩
      obtain ⟨G, hG⟩ : ∃ G : Nat → Int × Int, ∀ i, i < len → Kw (G i).2 ∧ W.cell? ((a.add (i * 2)).add 0) = some (.int .i64 (G i).1) ∧ W.cell? ((a.add (i * 2)).add 1) = some (.int .i64 (G i).2) :=
        ⟨fun i => if h : i < len then (each i h).choose else (0, 0), fun i hi => by simp only [dif_pos hi]; exact (each i hi).choose_spec⟩
      obtain ⟨b, off, spot⟩ := a
      have hspot : spot = none := by simpa [Addr.add] using World.cell?_spot (hG 0 (by omega)).2.1
      subst hspot
      simp only [Go.WideShapes.add_plain, Nat.add_zero] at hG
      have hL : ((List.range len).map G).length = len := by simp
      refine ⟨(List.range len).map G, hL, Or.inr ⟨b, off, rfl, ?_, fun j hj => ?_⟩, fun s hs => ?_⟩
      · exact World.block_lt_of_cell? W ⟨b, off + 0 * 2, none⟩ (hG 0 (by omega)).2.1
      · rw [hL] at hj
        have e : ((List.range len).map G).getD j (0, 0) = G j := by
          rw [List.getD_eq_getElem?_getD, List.getElem?_map, List.getElem?_range hj]; rfl
        rw [e]
        exact (hG j hj).2
      · obtain ⟨i, hi, rfl⟩ := List.mem_map.1 hs
        exact (hG i (List.mem_range.1 hi)).1
theorem kw_step {Z : List (Int × Int)} (h : ∀ s ∈ Z, Kw s.2) (j : Nat) : Kw (Z.getD j (0, 0)).2 := by
  rw [List.getD_eq_getElem?_getD]
  by_cases hj : j < Z.length
  · rw [List.getElem?_eq_getElem hj]; exact h _ (List.getElem_mem hj)
  · rw [List.getElem?_eq_none (by omega)]; exact ky_wf (by decide) (by decide)

end Go.Proofs.Ytjgmgkglpfcihaa
