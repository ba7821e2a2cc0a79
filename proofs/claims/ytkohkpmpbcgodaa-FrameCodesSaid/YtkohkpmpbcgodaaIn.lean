/- Proved: a slice of bytes, or of words, that reads as data is a list of them; an integer that is well formed is a natural number below its limit. -/
import Derived.Test.YtkohkpmpbcgodaaSam
import Derived.Deep.Fields
import Derived.OpenShut
import Derived.Deep.Slices
import Derived.ProofKit
import Derived.Lib.SmallJoins
namespace Go.Proofs.Ytkohkpmpbcgodaa
open Go.ChangeShapes Go.WideShapes Go.ChangeAt Go.RowKit Go.Deep

theorem nat_u64 (n : Int) (h : (Lit.int .u64 n).wf = true) : ∃ v : Nat, n = (v : Int) ∧ v < 18446744073709551616 := by
  have : 0 ≤ n ∧ n < 18446744073709551616 := by
    simp only [Lit.wf, IntKind.min, IntKind.max, IntKind.signed, IntKind.bits, Bool.and_eq_true] at h
    constructor <;> simp at h <;> omega
  exact ⟨n.toNat, by omega, by omega⟩
theorem nat_u32 (n : Int) (h : (Lit.int .u32 n).wf = true) : ∃ v : Nat, n = (v : Int) ∧ v < 4294967296 := by
  have : 0 ≤ n ∧ n < 4294967296 := by
    simp only [Lit.wf, IntKind.min, IntKind.max, IntKind.signed, IntKind.bits, Bool.and_eq_true] at h
    constructor <;> simp at h <;> omega
  exact ⟨n.toNat, by omega, by omega⟩
theorem nat_u8 (n : Int) (h : (Lit.int .u8 n).wf = true) : ∃ v : Nat, n = (v : Int) ∧ v < 256 := by
  have : 0 ≤ n ∧ n < 256 := by
    simp only [Lit.wf, IntKind.min, IntKind.max, IntKind.signed, IntKind.bits, Bool.and_eq_true] at h
    constructor <;> simp at h <;> omega
  exact ⟨n.toNat, by omega, by omega⟩

theorem int_of_trod {H : Type} {enc : TypeId × Value → H} {P : Program} {w : World} {base : Nat} {spare : Nat → Bool} {held : Bool} {n : Nat} {e : TypeId} {k : IntKind} {v : Value} {y : DataW H × List MemPlace}
    (ht : P.underlying e = some (.int k)) (h : DataW.trod enc P w base spare held n e [v] = some y) : ∃ z : Int, v = .int k z ∧ (Lit.int k z).wf = true := by
  cases n with
  | zero => simp [DataW.trod] at h
  | succ n =>
    unfold DataW.trod at h
    rw [ht] at h
    cases v <;> simp at h
    rename_i k' z
    exact ⟨z, by simp_all, by simp_all⟩
theorem cells_u8 : Try.prog.cellsOf 5 = 1 := by kernel_rfl

/-- A slice of bytes that was read. -/
theorem read_bv {H : Type} {enc : TypeId × Value → H} {W : World} {a0 : Option Addr} {len cap fuel : Nat} {x : DataW H × List MemPlace}
    (hf : DataW.trod enc Try.prog W 0 (fun _ => true) true fuel 22 [.slice a0 len cap] = some x) :
    ∃ L : List Nat, L.length = len ∧ BV W a0 L ∧ AllB L ∧ len ≤ cap ∧ (a0 = none → len = 0 ∧ cap = 0) := by
  rcases Go.Deep.open_slice1 Try.underlying22 cells_u8 hf with ⟨hcs, _⟩ | ⟨a, len', cap', m, n, V, D, Pl, hcs, _, hl, _, hm, _, hx⟩
  · simp at hcs
    obtain ⟨rfl, rfl, rfl⟩ := hcs
    exact ⟨[], rfl, Or.inl rfl, (fun _ h => by cases h), Nat.le_refl _, (fun _ => ⟨rfl, rfl⟩)⟩
  · simp at hcs
    obtain ⟨rfl, rfl, rfl⟩ := hcs
    simp only [if_true] at hm
    by_cases h0 : len = 0
    · subst h0
      exact ⟨[], rfl, Or.inl rfl, (fun _ h => by cases h), Nat.zero_le _, (fun h => by cases h)⟩
    · have each : ∀ i, i < len → ∃ z : Nat, z < 256 ∧ W.cell? (a.add i) = some (.int .u8 (z : Int)) := fun i hi => by
        obtain ⟨z, e, hz⟩ := int_of_trod Try.underlying5 (hx i (by omega)).2
        obtain ⟨v, rfl, hv⟩ := nat_u8 z hz
        exact ⟨v, hv, by rw [← e]; exact (hx i (by omega)).1⟩
      obtain ⟨F, hF⟩ : ∃ F : Nat → Nat, ∀ i, i < len → F i < 256 ∧ W.cell? (a.add i) = some (.int .u8 (F i : Int)) :=
        ⟨fun i => if h : i < len then (each i h).choose else 0, fun i hi => by simp only [dif_pos hi]; exact (each i hi).choose_spec⟩
      obtain ⟨b, off, spot⟩ := a
      have hspot : spot = none := by simpa [Addr.add] using World.cell?_spot (hF 0 (by omega)).2
      subst hspot
      have hc : ∀ j, j < len → W.cell? ⟨b, off + j, none⟩ = some (.int .u8 (F j : Int)) := fun j hj => by
        rw [← Go.WideShapes.add_plain]; exact (hF j hj).2
      have hL : ((List.range len).map F).length = len := by simp
      refine ⟨(List.range len).map F, hL, Or.inr ⟨b, off, rfl, ?_, fun j hj => ?_⟩, fun x hx => ?_, hl, fun h => by cases h⟩
      · exact World.block_lt_of_cell? W ⟨b, off + 0, none⟩ (hc 0 (by omega))
      · rw [hL] at hj
        rw [hc j hj, List.getD_eq_getElem?_getD, List.getElem?_map, List.getElem?_range hj]
        rfl
      · simp only [List.mem_map, List.mem_range] at hx
        obtain ⟨i, hi, rfl⟩ := hx
        exact (hF i hi).1

/-- The cells of a struct by value, each with what it reads as. -/
theorem open_fields {H : Type} {enc : TypeId × Value → H} {P : Program} {W : World} {r : Reach} {b0 base : Nat} {spare : Nat → Bool} {held : Bool} {ts : TypeId} {fs : Array Field} {v : Value} {d : DataW H} {p : List MemPlace}
    (hs : P.underlying ts = some (.struct fs)) (hone : oneCellFields P fs = true) (hC : P.cellsOf ts = fs.size) (hv : Value.okWide P W r b0 ts v) (h : DataW.Trod enc P W base spare held ts v d p) :
    ∃ (cs : Array Value) (n : Nat) (Y : Nat → DataW H × List MemPlace), v = .agg cs ∧ cs.size = fs.size ∧ ∀ (i : Nat) (f : Field), fs[i]? = some f → DataW.trod enc P W base spare held n f.type [cs.toList.getD i undef] = some (Y i) := by
  obtain ⟨cs, rfl, hsz⟩ := okWide_struct hs hv
  obtain ⟨fuel, hf⟩ := h
  obtain ⟨xs, n, _, _, _, hxl, hF⟩ := DataW.trod_struct hs hf
  refine ⟨cs, n, fun i => xs.getD i (.nil, []), rfl, hsz.trans hC, fun i f hi => ?_⟩
  have hlt : i < fs.size := (Array.getElem?_eq_some_iff.1 hi).1
  obtain ⟨ho, hc1⟩ := hone_of hone i f hi
  have g := hF i f hi
  have hcl : (Value.cells (.agg cs)).toList = cs.toList := by simp [Value.cells]
  rw [ho, hc1, hcl, take1_drop cs.toList i undef (by rw [Array.length_toList]; omega), List.getElem?_eq_getElem (by omega)] at g
  rw [g]
  simp [List.getD, List.getElem?_eq_getElem (show i < xs.length by omega)]
theorem five_of {cs : Array Value} (h : cs.size = 5) : cs = #[cs.toList.getD 0 undef, cs.toList.getD 1 undef, cs.toList.getD 2 undef, cs.toList.getD 3 undef, cs.toList.getD 4 undef] := by
  obtain ⟨l⟩ := cs
  match l, h with
  | [_, _, _, _, _], _ => rfl
theorem blk_cells : Try.prog.cellsOf 24 = 5 := by kernel_rfl
/-- A block that came in. -/
theorem open_block {H : Type} {enc : TypeId × Value → H} {W : World} {r : Reach} {b0 : Nat} {v : Value} {d : DataW H} {p : List MemPlace}
    (hv : Value.okWide Try.prog W r b0 24 v) (h : DataW.Trod enc Try.prog W 0 (fun _ => true) true 24 v d p) :
    ∃ (k e s l : Int) (A : Option Addr) (n c : Nat) (L : List Nat), v = .agg #[.int .i64 k, .int .i64 e, .int .i64 s, .int .i64 l, .slice A n c] ∧ L.length = n ∧ BV W A L ∧ AllB L ∧ n ≤ c ∧ (A = none → n = 0 ∧ c = 0) := by
  obtain ⟨cs, m, Y, rfl, hsz, hF⟩ := open_fields Try.underlying24 (by kernel_rfl) blk_cells hv h
  have h5 := five_of hsz
  obtain ⟨k, hk, _⟩ := int_of_trod Try.underlying3 (hF 0 _ rfl)
  obtain ⟨e, he, _⟩ := int_of_trod Try.underlying3 (hF 1 _ rfl)
  obtain ⟨s, hs, _⟩ := int_of_trod Try.underlying3 (hF 2 _ rfl)
  obtain ⟨l, hl, _⟩ := int_of_trod Try.underlying3 (hF 3 _ rfl)
  have h4 := hF 4 _ rfl
  obtain ⟨A, n, c, hc⟩ := Go.Joins.slice_form Try.underlying22 h4
  have hc4 : cs.toList.getD 4 undef = .slice A n c := by simpa using hc
  rw [hc] at h4
  obtain ⟨L, h1, h2, h3, h6, h7⟩ := read_bv h4
  rw [hk, he, hs, hl, hc4] at h5
  exact ⟨k, e, s, l, A, n, c, L, by rw [h5], h1, h2, h3, h6, h7⟩

end Go.Proofs.Ytkohkpmpbcgodaa
