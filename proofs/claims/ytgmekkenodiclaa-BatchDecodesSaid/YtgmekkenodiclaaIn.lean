/- Proved: what came in as data: transactions with their blocks' bytes, extents. -/
import Derived.Test.YtgmekkenodiclaaTx
import Derived.Deep.Slices
import Derived.Deep.Fields
import Derived.Lib.SmallJoins
import Derived.ProofKit
import Derived.OpenShut
namespace Go.Proofs.Ytgmekkenodiclaa
open Go.ChangeShapes Go.WideShapes Go.ChangeAt Go.RowKit Go.Deep

theorem nat_u8 (n : Int) (h : (Lit.int .u8 n).wf = true) : ∃ v : Nat, n = (v : Int) ∧ v < 256 := by
  have : 0 ≤ n ∧ n < 256 := by
    simp only [Lit.wf, IntKind.min, IntKind.max, IntKind.signed, IntKind.bits, Bool.and_eq_true] at h
    constructor <;> simp at h <;> omega
  exact ⟨n.toNat, by omega, by omega⟩

theorem int_of_trod {H : Type} {enc : TypeId × Value → H} {P : Program} {w : World} {base : Nat} {spare : Nat → Bool} {held : Bool} {n : Nat} {e : TypeId} {k : IntKind} {v : Value} {y : DataW H × List MemPlace}
    (ht : P.underlying e = some (.int k)) (h : DataW.trod enc P w base spare held n e [v] = some y) : ∃ z : Int, v = .int k z ∧ (Lit.int k z).wf = true := by
  cases n with
  | zero => simp [DataW.trod] at h
  | succ n =>
    unfold DataW.trod at h
    rw [ht] at h
    cases v <;> simp at h
    rename_i k' z
    exact ⟨z, by simp_all, by simp_all⟩
theorem cells_u8 : Try.prog.cellsOf 5 = 1 := by kernel_rfl

/-- A slice of bytes that was read. -/
theorem read_bv {H : Type} {enc : TypeId × Value → H} {W : World} {a0 : Option Addr} {len cap fuel : Nat} {x : DataW H × List MemPlace}
    (hf : DataW.trod enc Try.prog W 0 (fun _ => true) true fuel 39 [.slice a0 len cap] = some x) :
    ∃ L : List Nat, L.length = len ∧ BV W a0 L ∧ AllB L ∧ len ≤ cap ∧ (a0 = none → len = 0 ∧ cap = 0) := by
  rcases Go.Deep.open_slice1 Try.underlying39 cells_u8 hf with ⟨hcs, _⟩ | ⟨a, len', cap', m, n, V, D, Pl, hcs, _, hl, _, hm, _, hx⟩
  · simp at hcs
    obtain ⟨rfl, rfl, rfl⟩ := hcs
    exact ⟨[], rfl, Or.inl rfl, (fun _ h => by cases h), Nat.le_refl _, (fun _ => ⟨rfl, rfl⟩)⟩
  · simp at hcs
    obtain ⟨rfl, rfl, rfl⟩ := hcs
    simp only [if_true] at hm
    by_cases h0 : len = 0
    · subst h0
      exact ⟨[], rfl, Or.inl rfl, (fun _ h => by cases h), Nat.zero_le _, (fun h => by cases h)⟩
    · have each : ∀ i, i < len → ∃ z : Nat, z < 256 ∧ W.cell? (a.add i) = some (.int .u8 (z : Int)) := fun i hi => by
        obtain ⟨z, e, hz⟩ := int_of_trod Try.underlying5 (hx i (by omega)).2
        obtain ⟨v, rfl, hv⟩ := nat_u8 z hz
        exact ⟨v, hv, by rw [← e]; exact (hx i (by omega)).1⟩
      obtain ⟨F, hF⟩ : ∃ F : Nat → Nat, ∀ i, i < len → F i < 256 ∧ W.cell? (a.add i) = some (.int .u8 (F i : Int)) :=
        ⟨fun i => if h : i < len then (each i h).choose else 0, fun i hi => by simp only [dif_pos hi]; exact (each i hi).choose_spec⟩
      obtain ⟨b, off, spot⟩ := a
      have hspot : spot = none := by simpa [Addr.add] using World.cell?_spot (hF 0 (by omega)).2
      subst hspot
      have hc : ∀ j, j < len → W.cell? ⟨b, off + j, none⟩ = some (.int .u8 (F j : Int)) := fun j hj => by
        rw [← Go.WideShapes.add_plain]; exact (hF j hj).2
      have hL : ((List.range len).map F).length = len := by simp
      refine ⟨(List.range len).map F, hL, Or.inr ⟨b, off, rfl, ?_, fun j hj => ?_⟩, fun x hx => ?_, hl, fun h => by cases h⟩
      · exact World.block_lt_of_cell? W ⟨b, off + 0, none⟩ (hc 0 (by omega))
      · rw [hL] at hj
        rw [hc j hj, List.getD_eq_getElem?_getD, List.getElem?_map, List.getElem?_range hj]
        rfl
      · simp only [List.mem_map, List.mem_range] at hx
        obtain ⟨i, hi, rfl⟩ := hx
        exact (hF i hi).1

/-- All bytes are bytes. -/
def PB (P : List Pt) : Prop := ∀ p ∈ P, AllB p.2 ∧ p.2.length ≤ maxLen
theorem put_size : Try.prog.cellsOf 47 = 2 := by kernel_rfl
theorem tx_size : Try.prog.cellsOf 44 = 2 := by kernel_rfl
theorem row_size : Try.prog.cellsOf 39 = 1 := by kernel_rfl

set_option maxRecDepth 100000 in
set_option maxRecDepth 100000 in
/-- A slice of bytes, its cell. -/
theorem read_row {H : Type} {enc : TypeId × Value → H} {W : World} {fuel : Nat} {v : Value} {x : DataW H × List MemPlace}
    (hf : DataW.trod enc Try.prog W 0 (fun _ => true) true fuel 39 [v] = some x) : ∃ (A : Option Addr) (L : List Nat) (c : Nat), v = .slice A L.length c ∧ BV W A L ∧ AllB L ∧ L.length ≤ maxLen := by
  have hf0 := hf
  rcases Go.Deep.open_slice1 Try.underlying39 cells_u8 hf with ⟨hcs, _⟩ | ⟨a, len', cap', m, n, V, D, Pl, hcs, _, hl, hm, _⟩
  · simp at hcs
    subst hcs
    exact ⟨none, [], 0, rfl, BV.nil _ _, (fun _ h => by cases h), Nat.zero_le _⟩
  · simp at hcs
    subst hcs
    obtain ⟨L, hL, hv, hB, _, _⟩ := read_bv hf0
    subst hL
    exact ⟨some a, L, cap', rfl, hv, hB, by omega⟩

set_option maxRecDepth 100000 in
theorem put_at {H : Type} {enc : TypeId × Value → H} {W : World} {a : Addr} {n : Nat} {cs : List Value} {y : DataW H × List MemPlace}
    (h1 : W.cells? 0 a 2 = some cs) (h2 : DataW.trod enc Try.prog W 0 (fun _ => true) true n 47 cs = some y) :
    ∃ (p : Pt) (A : Option Addr) (c : Nat), W.cell? (a.add 0) = some (.int .i64 p.1) ∧ W.cell? (a.add 1) = some (.slice A p.2.length c) ∧ BV W A p.2 ∧ AllB p.2 ∧ p.2.length ≤ maxLen := by
  obtain ⟨_, hlen, hc⟩ := World.cells?_some h1
  obtain ⟨xs, m, _, _, _, hx, hf⟩ := DataW.trod_struct Try.underlying47 h2
  match cs, hlen, xs, hx with
  | [c0, c1], _, [x0, x1], _ =>
    have k0 := hf 0 _ rfl
    have k1 := hf 1 _ rfl
    simp only [List.getElem?_cons_zero, List.getElem?_cons_succ] at k0 k1
    obtain ⟨l, rfl, _⟩ := int_of_trod Try.underlying3 k0
    obtain ⟨A, L, c, rfl, hb, hB, hl⟩ := read_row k1
    exact ⟨(l, L), A, c, hc 0 (by omega), hc 1 (by omega), hb, hB, hl⟩

set_option maxRecDepth 100000 in
/-- A slice of blocks to be written that was read. -/
theorem read_pv {H : Type} {enc : TypeId × Value → H} {W : World} {fuel : Nat} {v : Value} {x : DataW H × List MemPlace}
    (hf : DataW.trod enc Try.prog W 0 (fun _ => true) true fuel 42 [v] = some x) :
    ∃ (A : Option Addr) (P : List Pt) (c : Nat), v = .slice A P.length c ∧ PV W A P ∧ PB P ∧ P.length ≤ maxLen := by
  rcases Go.Deep.open_slice Try.underlying42 hf with ⟨hcs, _⟩ | ⟨a, len, cap', m, n, D, Pl, hcs, _, hl, hcm, hm, _, hx⟩
  · simp at hcs
    subst hcs
    exact ⟨none, [], 0, rfl, Or.inl rfl, (fun p h => by cases h), Nat.zero_le _⟩
  · simp at hcs
    subst hcs
    simp only [if_true] at hm
    rw [put_size] at hx
    by_cases h0 : len = 0
    · subst h0
      exact ⟨some a, [], cap', rfl, Or.inl rfl, (fun p h => by cases h), Nat.zero_le _⟩
    · have each : ∀ i, i < len → ∃ (p : Pt) (A : Option Addr) (c : Nat), W.cell? ((a.add (i * 2)).add 0) = some (.int .i64 p.1) ∧ W.cell? ((a.add (i * 2)).add 1) = some (.slice A p.2.length c) ∧ BV W A p.2 ∧ AllB p.2 ∧ p.2.length ≤ maxLen := fun i hi => by
        obtain ⟨cs, h1, h2⟩ := hx i (by omega)
        exact put_at h1 h2
      obtain ⟨G, hG⟩ : ∃ G : Nat → Pt, ∀ i, i < len → ∃ (A : Option Addr) (c : Nat), W.cell? ((a.add (i * 2)).add 0) = some (.int .i64 (G i).1) ∧ W.cell? ((a.add (i * 2)).add 1) = some (.slice A (G i).2.length c) ∧ BV W A (G i).2 ∧ AllB (G i).2 ∧ (G i).2.length ≤ maxLen :=
        ⟨fun i => if h : i < len then (each i h).choose else pz, fun i hi => by simp only [dif_pos hi]; exact (each i hi).choose_spec⟩
      obtain ⟨b, off, spot⟩ := a
      have hspot : spot = none := by
        obtain ⟨A, c, hA, _⟩ := hG 0 (by omega)
        simpa [Addr.add] using World.cell?_spot hA
      subst hspot
      simp only [Go.WideShapes.add_plain, Nat.add_zero] at hG
      have hL : ((List.range len).map G).length = len := by simp
      have hget : ∀ j, j < len → ((List.range len).map G).getD j pz = G j := fun j hj => by
        rw [List.getD_eq_getElem?_getD, List.getElem?_map, List.getElem?_range hj]; rfl
      refine ⟨some ⟨b, off, none⟩, (List.range len).map G, cap', by rw [hL], Or.inr ⟨b, off, rfl, ?_, fun j hj => ?_⟩, fun p hp => ?_, by rw [hL]; omega⟩
      · obtain ⟨A, c, hA, _⟩ := hG 0 (by omega)
        exact World.block_lt_of_cell? W ⟨b, off + 0 * 2, none⟩ hA
      · rw [hL] at hj
        rw [hget j hj]
        obtain ⟨A, c, h1, h2, h3, _⟩ := hG j hj
        exact ⟨h1, A, c, h2, h3⟩
      · obtain ⟨j, hj, rfl⟩ := List.mem_map.1 hp
        obtain ⟨A, c, _, _, _, h4, h5⟩ := hG j (List.mem_range.1 hj)
        exact ⟨h4, h5⟩

set_option maxRecDepth 100000 in
theorem tx_of {H : Type} {enc : TypeId × Value → H} {W : World} {n : Nat} {c0 c1 : Value} {y : DataW H × List MemPlace}
    (h2 : DataW.trod enc Try.prog W 0 (fun _ => true) true n 44 [c0, c1] = some y) :
    ∃ (T : Int) (A : Option Addr) (P : List Pt) (c : Nat), c0 = .int .i64 T ∧ c1 = .slice A P.length c ∧ PV W A P ∧ PB P ∧ P.length ≤ maxLen := by
  obtain ⟨xs, m, _, _, _, hx, hf⟩ := DataW.trod_struct Try.underlying44 h2
  match xs, hx with
  | [x0, x1], _ =>
    have k0 := hf 0 _ rfl
    have k1 := hf 1 _ rfl
    simp only [List.getElem?_cons_zero, List.getElem?_cons_succ] at k0 k1
    obtain ⟨T, rfl, _⟩ := int_of_trod Try.underlying3 k0
    obtain ⟨A, P, c, rfl, hv, hB, hl⟩ := read_pv k1
    exact ⟨T, A, P, c, rfl, rfl, hv, hB, hl⟩
set_option maxRecDepth 100000 in
/-- A transaction that came in. -/
theorem open_tx {H : Type} {enc : TypeId × Value → H} {W : World} {r : Reach} {b0 : Nat} {v : Value} {d : DataW H} {p : List MemPlace}
    (hv : Value.okWide Try.prog W r b0 44 v) (h : DataW.Trod enc Try.prog W 0 (fun _ => true) true 44 v d p) : ∃ (T : Int) (A : Option Addr) (P : List Pt) (c : Nat), v = .agg #[.int .i64 T, .slice A P.length c] ∧ PV W A P ∧ PB P ∧ P.length ≤ maxLen := by
  obtain ⟨cs, rfl, hsz⟩ := okWide_struct Try.underlying44 hv
  obtain ⟨fuel, hf⟩ := h
  rw [tx_size] at hsz
  obtain ⟨l⟩ := cs
  match l, hsz with
  | [c0, c1], _ =>
    obtain ⟨T, A, P, c, rfl, rfl, hv, hB, hl⟩ := tx_of (c0 := c0) (c1 := c1) (by simpa [Value.cells] using hf)
    exact ⟨T, A, P, c, rfl, hv, hB, hl⟩

/-- A transaction that may come in. -/
def TOk (x : Tx) : Prop := PB x.2 ∧ x.2.length ≤ maxLen
set_option maxRecDepth 100000 in
theorem tx_cells {H : Type} {enc : TypeId × Value → H} {W : World} {a : Addr} {n : Nat} {cs : List Value} {y : DataW H × List MemPlace}
    (h1 : W.cells? 0 a 2 = some cs) (h2 : DataW.trod enc Try.prog W 0 (fun _ => true) true n 44 cs = some y) :
    ∃ (x : Tx) (A : Option Addr) (c : Nat), W.cell? (a.add 0) = some (.int .i64 x.1) ∧ W.cell? (a.add 1) = some (.slice A x.2.length c) ∧ PV W A x.2 ∧ TOk x := by
  obtain ⟨_, hlen, hc⟩ := World.cells?_some h1
  match cs, hlen with
  | [c0, c1], _ =>
    obtain ⟨T, A, P, c, rfl, rfl, hv, hB, hl⟩ := tx_of h2
    exact ⟨(T, P), A, c, hc 0 (by omega), hc 1 (by omega), hv, hB, hl⟩
set_option maxRecDepth 100000 in
/-- A slice of transactions that was read. -/
theorem read_tv {H : Type} {enc : TypeId × Value → H} {W : World} {a0 : Option Addr} {len cap fuel : Nat} {x : DataW H × List MemPlace}
    (hf : DataW.trod enc Try.prog W 0 (fun _ => true) true fuel 25 [.slice a0 len cap] = some x) :
    ∃ L : List Tx, L.length = len ∧ TV W a0 L ∧ (∀ s ∈ L, TOk s) ∧ len ≤ maxLen ∧ len ≤ cap ∧ (a0 = none → len = 0 ∧ cap = 0) := by
  rcases Go.Deep.open_slice Try.underlying25 hf with ⟨hcs, _⟩ | ⟨a, len', cap', m, n, D, Pl, hcs, _, hl, hcm, hm, _, hx⟩
  · simp at hcs
    obtain ⟨rfl, rfl, rfl⟩ := hcs
    exact ⟨[], rfl, Or.inl rfl, (fun p h => by cases h), Nat.zero_le _, Nat.zero_le _, fun _ => ⟨rfl, rfl⟩⟩
  · simp at hcs
    obtain ⟨rfl, rfl, rfl⟩ := hcs
    simp only [if_true] at hm
    rw [tx_size] at hx
    by_cases h0 : len = 0
    · subst h0
      exact ⟨[], rfl, Or.inl rfl, (fun p h => by cases h), Nat.zero_le _, Nat.zero_le _, fun h => by cases h⟩
    · have each : ∀ i, i < len → ∃ (s : Tx) (A : Option Addr) (c : Nat), W.cell? ((a.add (i * 2)).add 0) = some (.int .i64 s.1) ∧ W.cell? ((a.add (i * 2)).add 1) = some (.slice A s.2.length c) ∧ PV W A s.2 ∧ TOk s := fun i hi => by
        obtain ⟨cs, h1, h2⟩ := hx i (by omega)
        exact tx_cells h1 h2
      obtain ⟨G, hG⟩ : ∃ G : Nat → Tx, ∀ i, i < len → ∃ (A : Option Addr) (c : Nat), W.cell? ((a.add (i * 2)).add 0) = some (.int .i64 (G i).1) ∧ W.cell? ((a.add (i * 2)).add 1) = some (.slice A (G i).2.length c) ∧ PV W A (G i).2 ∧ TOk (G i) :=
        ⟨fun i => if h : i < len then (each i h).choose else txz, fun i hi => by simp only [dif_pos hi]; exact (each i hi).choose_spec⟩
      obtain ⟨b, off, spot⟩ := a
      have hspot : spot = none := by
        obtain ⟨A, c, hA, _⟩ := hG 0 (by omega)
        simpa [Addr.add] using World.cell?_spot hA
      subst hspot
      simp only [Go.WideShapes.add_plain, Nat.add_zero] at hG
      have hL : ((List.range len).map G).length = len := by simp
      have hget : ∀ j, j < len → ((List.range len).map G).getD j txz = G j := fun j hj => by
        rw [List.getD_eq_getElem?_getD, List.getElem?_map, List.getElem?_range hj]; rfl
      refine ⟨(List.range len).map G, hL, Or.inr ⟨b, off, rfl, ?_, fun j hj => ?_⟩, fun p hp => ?_, by omega, hl, fun h => by cases h⟩
      · obtain ⟨A, c, hA, _⟩ := hG 0 (by omega)
        exact World.block_lt_of_cell? W ⟨b, off + 0 * 2, none⟩ hA
      · rw [hL] at hj
        rw [hget j hj]
        obtain ⟨A, c, h1, h2, h3, _⟩ := hG j hj
        exact ⟨h1, A, c, h2, h3⟩
      · obtain ⟨j, hj, rfl⟩ := List.mem_map.1 hp
        obtain ⟨A, c, _, _, _, h6⟩ := hG j (List.mem_range.1 hj)
        exact h6

end Go.Proofs.Ytgmekkenodiclaa
