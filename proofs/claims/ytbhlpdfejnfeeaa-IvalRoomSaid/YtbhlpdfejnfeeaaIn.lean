/- Proved: an extent, and a slice of extents, that read as data are pairs of ints; a word that is well formed is a natural number below its limit. -/
import Derived.Test.YtbhlpdfejnfeeaaAwk
import Derived.Deep.Slices
import Derived.Lib.SmallJoins
import Derived.ProofKit
import Derived.OpenShut
namespace Go.Proofs.Ytbhlpdfejnfeeaa
open Go.ChangeShapes Go.WideShapes Go.ChangeAt Go.RowKit

theorem nat_u64 (n : Int) (h : (Lit.int .u64 n).wf = true) : ∃ v : Nat, n = (v : Int) ∧ v < 18446744073709551616 := by
  have : 0 ≤ n ∧ n < 18446744073709551616 := by
    simp only [Lit.wf, IntKind.min, IntKind.max, IntKind.signed, IntKind.bits, Bool.and_eq_true] at h
    constructor <;> simp at h <;> omega
  exact ⟨n.toNat, by omega, by omega⟩
theorem int_of_trod {H : Type} {enc : TypeId × Value → H} {P : Program} {w : World} {base : Nat} {spare : Nat → Bool} {held : Bool} {n : Nat} {e : TypeId} {k : IntKind} {v : Value} {y : DataW H × List MemPlace}
    (ht : P.underlying e = some (.int k)) (h : DataW.trod enc P w base spare held n e [v] = some y) : ∃ z : Int, v = .int k z ∧ (Lit.int k z).wf = true := by
  cases n with
  | zero => simp [DataW.trod] at h
  | succ n =>
    unfold DataW.trod at h
    rw [ht] at h
    cases v <;> simp at h
    rename_i k' z
    exact ⟨z, by simp_all, by simp_all⟩
theorem ext_size : Try.prog.cellsOf 28 = 2 := by kernel_rfl

/-- An extent that came in. -/
theorem open_ext {H : Type} {enc : TypeId × Value → H} {W : World} {r : Reach} {b0 : Nat} {v : Value} {d : DataW H} {p : List MemPlace} {base : Nat} {spare : Nat → Bool} {held : Bool}
    (hv : Value.okWide Try.prog W r b0 28 v) (h : DataW.Trod enc Try.prog W base spare held 28 v d p) : ∃ x y : Int, v = .agg #[.int .i64 x, .int .i64 y] := by
  obtain ⟨v0, v1, y0, y1, n, rfl, _, _, h0, h1⟩ := Go.Joins.open_agg2 Try.underlying28 (by kernel_rfl) ext_size hv h
  obtain ⟨x, rfl, _⟩ := int_of_trod Try.underlying3 h0
  obtain ⟨y, rfl, _⟩ := int_of_trod Try.underlying3 h1
  exact ⟨x, y, rfl⟩

theorem ext_at {H : Type} {enc : TypeId × Value → H} {W : World} {a : Addr} {base : Nat} {spare : Nat → Bool} {held : Bool} {n : Nat} {cs : List Value} {y : DataW H × List MemPlace}
    (h1 : W.cells? 0 a 2 = some cs) (h2 : DataW.trod enc Try.prog W base spare held n 28 cs = some y) :
    ∃ l s : Int, W.cell? (a.add 0) = some (.int .i64 l) ∧ W.cell? (a.add 1) = some (.int .i64 s) := by
  obtain ⟨_, hlen, hc⟩ := World.cells?_some h1
  obtain ⟨xs, m, _, _, _, hx, hf⟩ := DataW.trod_struct Try.underlying28 h2
  match cs, hlen, xs, hx with
  | [c0, c1], _, [x0, x1], _ =>
    have k0 := hf 0 _ rfl
    have k1 := hf 1 _ rfl
    simp only [List.getElem?_cons_zero, List.getElem?_cons_succ] at k0 k1
    obtain ⟨l, rfl, _⟩ := int_of_trod Try.underlying3 k0
    obtain ⟨s, rfl, _⟩ := int_of_trod Try.underlying3 k1
    exact ⟨l, s, hc 0 (by omega), hc 1 (by omega)⟩

/-- A slice of extents that was read. -/
theorem read_ex {H : Type} {enc : TypeId × Value → H} {W : World} {a0 : Option Addr} {len cap fuel : Nat} {x : DataW H × List MemPlace}
    (hf : DataW.trod enc Try.prog W 0 (fun _ => true) true fuel 30 [.slice a0 len cap] = some x) :
    ∃ Z : List (Int × Int), Z.length = len ∧ EV W a0 Z ∧ len ≤ cap ∧ (a0 = none → len = 0 ∧ cap = 0) := by
  rcases Go.Deep.open_slice Try.underlying30 hf with ⟨hcs, _⟩ | ⟨a, len', cap', m, n, D, Pl, hcs, _, hl, _, hm, _, hx⟩
  · simp at hcs
    obtain ⟨rfl, rfl, rfl⟩ := hcs
    exact ⟨[], rfl, Or.inl rfl, Nat.le_refl _, fun _ => ⟨rfl, rfl⟩⟩
  · simp at hcs
    obtain ⟨rfl, rfl, rfl⟩ := hcs
    simp only [if_true] at hm
    rw [ext_size] at hx
    by_cases h0 : len = 0
    · subst h0
      exact ⟨[], rfl, Or.inl rfl, Nat.zero_le _, fun h => by cases h⟩
    · have each : ∀ i, i < len → ∃ l s : Int, W.cell? ((a.add (i * 2)).add 0) = some (.int .i64 l) ∧ W.cell? ((a.add (i * 2)).add 1) = some (.int .i64 s) := fun i hi => by
        obtain ⟨cs, h1, h2⟩ := hx i (by omega)
        exact ext_at h1 h2
      obtain ⟨G, hG⟩ : ∃ G : Nat → Int × Int, ∀ i, i < len → W.cell? ((a.add (i * 2)).add 0) = some (.int .i64 (G i).1) ∧ W.cell? ((a.add (i * 2)).add 1) = some (.int .i64 (G i).2) :=
        ⟨fun i => if h : i < len then ((each i h).choose, (each i h).choose_spec.choose) else (0, 0), fun i hi => by simp only [dif_pos hi]; exact (each i hi).choose_spec.choose_spec⟩
      obtain ⟨b, off, spot⟩ := a
      have hspot : spot = none := by simpa [Addr.add] using World.cell?_spot (hG 0 (by omega)).1
      subst hspot
      simp only [Go.WideShapes.add_plain, Nat.add_zero] at hG
      have hL : ((List.range len).map G).length = len := by simp
      refine ⟨(List.range len).map G, hL, Or.inr ⟨b, off, rfl, ?_, fun j hj => ?_⟩, hl, fun h => by cases h⟩
      · exact World.block_lt_of_cell? W ⟨b, off + 0 * 2, none⟩ (hG 0 (by omega)).1
      · rw [hL] at hj
        have e : ((List.range len).map G).getD j (0, 0) = G j := by
          rw [List.getD_eq_getElem?_getD, List.getElem?_map, List.getElem?_range hj]; rfl
        rw [e]
        exact hG j hj

end Go.Proofs.Ytbhlpdfejnfeeaa
