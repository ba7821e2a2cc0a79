/- Proved: a slice of bytes, or of words, that reads as data is a list of them; an integer that is well formed is a natural number below its limit. -/
import Derived.Test.YtplddmkikdfonaaAwk
import Derived.Deep.Slices
import Derived.ProofKit
namespace Go.Proofs.Ytplddmkikdfonaa
open Go.ChangeShapes Go.WideShapes Go.ChangeAt Go.RowKit

theorem nat_u64 (n : Int) (h : (Lit.int .u64 n).wf = true) : ∃ v : Nat, n = (v : Int) ∧ v < 18446744073709551616 := by
  have : 0 ≤ n ∧ n < 18446744073709551616 := by
    simp only [Lit.wf, IntKind.min, IntKind.max, IntKind.signed, IntKind.bits, Bool.and_eq_true] at h
    constructor <;> simp at h <;> omega
  exact ⟨n.toNat, by omega, by omega⟩
theorem nat_u32 (n : Int) (h : (Lit.int .u32 n).wf = true) : ∃ v : Nat, n = (v : Int) ∧ v < 4294967296 := by
  have : 0 ≤ n ∧ n < 4294967296 := by
    simp only [Lit.wf, IntKind.min, IntKind.max, IntKind.signed, IntKind.bits, Bool.and_eq_true] at h
    constructor <;> simp at h <;> omega
  exact ⟨n.toNat, by omega, by omega⟩
theorem nat_u8 (n : Int) (h : (Lit.int .u8 n).wf = true) : ∃ v : Nat, n = (v : Int) ∧ v < 256 := by
  have : 0 ≤ n ∧ n < 256 := by
    simp only [Lit.wf, IntKind.min, IntKind.max, IntKind.signed, IntKind.bits, Bool.and_eq_true] at h
    constructor <;> simp at h <;> omega
  exact ⟨n.toNat, by omega, by omega⟩

theorem int_of_trod {H : Type} {enc : TypeId × Value → H} {P : Program} {w : World} {base : Nat} {spare : Nat → Bool} {held : Bool} {n : Nat} {e : TypeId} {k : IntKind} {v : Value} {y : DataW H × List MemPlace}
    (ht : P.underlying e = some (.int k)) (h : DataW.trod enc P w base spare held n e [v] = some y) : ∃ z : Int, v = .int k z ∧ (Lit.int k z).wf = true := by
  cases n with
  | zero => simp [DataW.trod] at h
  | succ n =>
    unfold DataW.trod at h
    rw [ht] at h
    cases v <;> simp at h
    rename_i k' z
    exact ⟨z, by simp_all, by simp_all⟩
theorem cells_u8 : Try.prog.cellsOf 5 = 1 := by kernel_rfl

/-- A slice of bytes that was read. -/
theorem read_bv {H : Type} {enc : TypeId × Value → H} {W : World} {a0 : Option Addr} {len cap fuel : Nat} {x : DataW H × List MemPlace}
    (hf : DataW.trod enc Try.prog W 0 (fun _ => true) true fuel 22 [.slice a0 len cap] = some x) :
    ∃ L : List Nat, L.length = len ∧ BV W a0 L ∧ AllB L ∧ len ≤ cap ∧ (a0 = none → len = 0 ∧ cap = 0) := by
  rcases Go.Deep.open_slice1 Try.underlying22 cells_u8 hf with ⟨hcs, _⟩ | ⟨a, len', cap', m, n, V, D, Pl, hcs, _, hl, _, hm, _, hx⟩
  · simp at hcs
    obtain ⟨rfl, rfl, rfl⟩ := hcs
    exact ⟨[], rfl, Or.inl rfl, (fun _ h => by cases h), Nat.le_refl _, (fun _ => ⟨rfl, rfl⟩)⟩
  · simp at hcs
    obtain ⟨rfl, rfl, rfl⟩ := hcs
    simp only [if_true] at hm
    by_cases h0 : len = 0
    · subst h0
      exact ⟨[], rfl, Or.inl rfl, (fun _ h => by cases h), Nat.zero_le _, (fun h => by cases h)⟩
    · have each : ∀ i, i < len → ∃ z : Nat, z < 256 ∧ W.cell? (a.add i) = some (.int .u8 (z : Int)) := fun i hi => by
        obtain ⟨z, e, hz⟩ := int_of_trod Try.underlying5 (hx i (by omega)).2
        obtain ⟨v, rfl, hv⟩ := nat_u8 z hz
        exact ⟨v, hv, by rw [← e]; exact (hx i (by omega)).1⟩
      obtain ⟨F, hF⟩ : ∃ F : Nat → Nat, ∀ i, i < len → F i < 256 ∧ W.cell? (a.add i) = some (.int .u8 (F i : Int)) :=
        ⟨fun i => if h : i < len then (each i h).choose else 0, fun i hi => by simp only [dif_pos hi]; exact (each i hi).choose_spec⟩
      obtain ⟨b, off, spot⟩ := a
      have hspot : spot = none := by simpa [Addr.add] using World.cell?_spot (hF 0 (by omega)).2
      subst hspot
      have hc : ∀ j, j < len → W.cell? ⟨b, off + j, none⟩ = some (.int .u8 (F j : Int)) := fun j hj => by
        rw [← Go.WideShapes.add_plain]; exact (hF j hj).2
      have hL : ((List.range len).map F).length = len := by simp
      refine ⟨(List.range len).map F, hL, Or.inr ⟨b, off, rfl, ?_, fun j hj => ?_⟩, fun x hx => ?_, hl, fun h => by cases h⟩
      · exact World.block_lt_of_cell? W ⟨b, off + 0, none⟩ (hc 0 (by omega))
      · rw [hL] at hj
        rw [hc j hj, List.getD_eq_getElem?_getD, List.getElem?_map, List.getElem?_range hj]
        rfl
      · simp only [List.mem_map, List.mem_range] at hx
        obtain ⟨i, hi, rfl⟩ := hx
        exact (hF i hi).1
end Go.Proofs.Ytplddmkikdfonaa
