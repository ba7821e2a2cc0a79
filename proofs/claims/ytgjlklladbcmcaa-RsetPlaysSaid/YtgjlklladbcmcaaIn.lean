/- Proved: what came in as data: an extent; steps with their extents and blocks, each with its bytes. -/
import Derived.Test.YtgjlklladbcmcaaAwa
import Derived.Deep.Slices
import Derived.Deep.Fields
import Derived.Lib.SmallJoins
import Derived.ProofKit
import Derived.OpenShut
namespace Go.Proofs.Ytgjlklladbcmcaa
open Go.ChangeShapes Go.WideShapes Go.ChangeAt Go.RowKit Go.Deep

theorem nat_u8 (n : Int) (h : (Lit.int .u8 n).wf = true) : ∃ v : Nat, n = (v : Int) ∧ v < 256 := by
  have : 0 ≤ n ∧ n < 256 := by
    simp only [Lit.wf, IntKind.min, IntKind.max, IntKind.signed, IntKind.bits, Bool.and_eq_true] at h
    constructor <;> simp at h <;> omega
  exact ⟨n.toNat, by omega, by omega⟩

theorem int_of_trod {H : Type} {enc : TypeId × Value → H} {P : Program} {w : World} {base : Nat} {spare : Nat → Bool} {held : Bool} {n : Nat} {e : TypeId} {k : IntKind} {v : Value} {y : DataW H × List MemPlace}
    (ht : P.underlying e = some (.int k)) (h : DataW.trod enc P w base spare held n e [v] = some y) : ∃ z : Int, v = .int k z ∧ (Lit.int k z).wf = true := by
  cases n with
  | zero => simp [DataW.trod] at h
  | succ n =>
    unfold DataW.trod at h
    rw [ht] at h
    cases v <;> simp at h
    rename_i k' z
    exact ⟨z, by simp_all, by simp_all⟩
theorem cells_u8 : Try.prog.cellsOf 5 = 1 := by kernel_rfl

/-- A slice of bytes that was read. -/
theorem read_bv {H : Type} {enc : TypeId × Value → H} {W : World} {a0 : Option Addr} {len cap fuel : Nat} {x : DataW H × List MemPlace}
    (hf : DataW.trod enc Try.prog W 0 (fun _ => true) true fuel 33 [.slice a0 len cap] = some x) :
    ∃ L : List Nat, L.length = len ∧ BV W a0 L ∧ AllB L ∧ len ≤ cap ∧ (a0 = none → len = 0 ∧ cap = 0) := by
  rcases Go.Deep.open_slice1 Try.underlying33 cells_u8 hf with ⟨hcs, _⟩ | ⟨a, len', cap', m, n, V, D, Pl, hcs, _, hl, _, hm, _, hx⟩
  · simp at hcs
    obtain ⟨rfl, rfl, rfl⟩ := hcs
    exact ⟨[], rfl, Or.inl rfl, (fun _ h => by cases h), Nat.le_refl _, (fun _ => ⟨rfl, rfl⟩)⟩
  · simp at hcs
    obtain ⟨rfl, rfl, rfl⟩ := hcs
    simp only [if_true] at hm
    by_cases h0 : len = 0
    · subst h0
      exact ⟨[], rfl, Or.inl rfl, (fun _ h => by cases h), Nat.zero_le _, (fun h => by cases h)⟩
    · have each : ∀ i, i < len → ∃ z : Nat, z < 256 ∧ W.cell? (a.add i) = some (.int .u8 (z : Int)) := fun i hi => by
        obtain ⟨z, e, hz⟩ := int_of_trod Try.underlying5 (hx i (by omega)).2
        obtain ⟨v, rfl, hv⟩ := nat_u8 z hz
        exact ⟨v, hv, by rw [← e]; exact (hx i (by omega)).1⟩
      obtain ⟨F, hF⟩ : ∃ F : Nat → Nat, ∀ i, i < len → F i < 256 ∧ W.cell? (a.add i) = some (.int .u8 (F i : Int)) :=
        ⟨fun i => if h : i < len then (each i h).choose else 0, fun i hi => by simp only [dif_pos hi]; exact (each i hi).choose_spec⟩
      obtain ⟨b, off, spot⟩ := a
      have hspot : spot = none := by simpa [Addr.add] using World.cell?_spot (hF 0 (by omega)).2
      subst hspot
      have hc : ∀ j, j < len → W.cell? ⟨b, off + j, none⟩ = some (.int .u8 (F j : Int)) := fun j hj => by
        rw [← Go.WideShapes.add_plain]; exact (hF j hj).2
      have hL : ((List.range len).map F).length = len := by simp
      refine ⟨(List.range len).map F, hL, Or.inr ⟨b, off, rfl, ?_, fun j hj => ?_⟩, fun x hx => ?_, hl, fun h => by cases h⟩
      · exact World.block_lt_of_cell? W ⟨b, off + 0, none⟩ (hc 0 (by omega))
      · rw [hL] at hj
        rw [hc j hj, List.getD_eq_getElem?_getD, List.getElem?_map, List.getElem?_range hj]
        rfl
      · simp only [List.mem_map, List.mem_range] at hx
        obtain ⟨i, hi, rfl⟩ := hx
        exact (hF i hi).1

theorem ext_size : Try.prog.cellsOf 29 = 2 := by kernel_rfl

set_option maxRecDepth 100000 in
/-- An extent that came in. -/
theorem open_ext {H : Type} {enc : TypeId × Value → H} {W : World} {r : Reach} {b0 : Nat} {v : Value} {d : DataW H} {p : List MemPlace} {base : Nat} {spare : Nat → Bool} {held : Bool}
    (hv : Value.okWide Try.prog W r b0 29 v) (h : DataW.Trod enc Try.prog W base spare held 29 v d p) : ∃ x y : Int, v = .agg #[.int .i64 x, .int .i64 y] := by
  obtain ⟨v0, v1, y0, y1, n, rfl, _, _, h0, h1⟩ := Go.Joins.open_agg2 Try.underlying29 (by kernel_rfl) ext_size hv h
  obtain ⟨x, rfl, _⟩ := int_of_trod Try.underlying3 h0
  obtain ⟨y, rfl, _⟩ := int_of_trod Try.underlying3 h1
  exact ⟨x, y, rfl⟩


/-- All bytes are bytes. -/
def PB (P : List Pt) : Prop := ∀ p ∈ P, AllB p.2 ∧ p.2.length ≤ maxLen
theorem put_size : Try.prog.cellsOf 76 = 2 := by kernel_rfl
theorem step_size : Try.prog.cellsOf 32 = 5 := by kernel_rfl
theorem row_size : Try.prog.cellsOf 33 = 1 := by kernel_rfl

set_option maxRecDepth 100000 in
set_option maxRecDepth 100000 in
/-- A slice of bytes, its cell. -/
theorem read_row {H : Type} {enc : TypeId × Value → H} {W : World} {fuel : Nat} {v : Value} {x : DataW H × List MemPlace}
    (hf : DataW.trod enc Try.prog W 0 (fun _ => true) true fuel 33 [v] = some x) : ∃ (A : Option Addr) (L : List Nat) (c : Nat), v = .slice A L.length c ∧ BV W A L ∧ AllB L ∧ L.length ≤ maxLen := by
  have hf0 := hf
  rcases Go.Deep.open_slice1 Try.underlying33 cells_u8 hf with ⟨hcs, _⟩ | ⟨a, len', cap', m, n, V, D, Pl, hcs, _, hl, hm, _⟩
  · simp at hcs
    subst hcs
    exact ⟨none, [], 0, rfl, BV.nil _ _, (fun _ h => by cases h), Nat.zero_le _⟩
  · simp at hcs
    subst hcs
    obtain ⟨L, hL, hv, hB, _, _⟩ := read_bv hf0
    subst hL
    exact ⟨some a, L, cap', rfl, hv, hB, by omega⟩

set_option maxRecDepth 100000 in
theorem put_at {H : Type} {enc : TypeId × Value → H} {W : World} {a : Addr} {n : Nat} {cs : List Value} {y : DataW H × List MemPlace}
    (h1 : W.cells? 0 a 2 = some cs) (h2 : DataW.trod enc Try.prog W 0 (fun _ => true) true n 76 cs = some y) :
    ∃ (p : Pt) (A : Option Addr) (c : Nat), W.cell? (a.add 0) = some (.int .i64 p.1) ∧ W.cell? (a.add 1) = some (.slice A p.2.length c) ∧ BV W A p.2 ∧ AllB p.2 ∧ p.2.length ≤ maxLen := by
  obtain ⟨_, hlen, hc⟩ := World.cells?_some h1
  obtain ⟨xs, m, _, _, _, hx, hf⟩ := DataW.trod_struct Try.underlying76 h2
  match cs, hlen, xs, hx with
  | [c0, c1], _, [x0, x1], _ =>
    have k0 := hf 0 _ rfl
    have k1 := hf 1 _ rfl
    simp only [List.getElem?_cons_zero, List.getElem?_cons_succ] at k0 k1
    obtain ⟨l, rfl, _⟩ := int_of_trod Try.underlying3 k0
    obtain ⟨A, L, c, rfl, hb, hB, hl⟩ := read_row k1
    exact ⟨(l, L), A, c, hc 0 (by omega), hc 1 (by omega), hb, hB, hl⟩

set_option maxRecDepth 100000 in
/-- A slice of blocks to be written that was read. -/
theorem read_pv {H : Type} {enc : TypeId × Value → H} {W : World} {fuel : Nat} {v : Value} {x : DataW H × List MemPlace}
    (hf : DataW.trod enc Try.prog W 0 (fun _ => true) true fuel 30 [v] = some x) :
    ∃ (A : Option Addr) (P : List Pt) (c : Nat), v = .slice A P.length c ∧ PV W A P ∧ PB P ∧ P.length ≤ maxLen := by
  rcases Go.Deep.open_slice Try.underlying30 hf with ⟨hcs, _⟩ | ⟨a, len, cap', m, n, D, Pl, hcs, _, hl, hcm, hm, _, hx⟩
  · simp at hcs
    subst hcs
    exact ⟨none, [], 0, rfl, Or.inl rfl, (fun p h => by cases h), Nat.zero_le _⟩
  · simp at hcs
    subst hcs
    simp only [if_true] at hm
    rw [put_size] at hx
    by_cases h0 : len = 0
    · subst h0
      exact ⟨some a, [], cap', rfl, Or.inl rfl, (fun p h => by cases h), Nat.zero_le _⟩
    · have each : ∀ i, i < len → ∃ (p : Pt) (A : Option Addr) (c : Nat), W.cell? ((a.add (i * 2)).add 0) = some (.int .i64 p.1) ∧ W.cell? ((a.add (i * 2)).add 1) = some (.slice A p.2.length c) ∧ BV W A p.2 ∧ AllB p.2 ∧ p.2.length ≤ maxLen := fun i hi => by
        obtain ⟨cs, h1, h2⟩ := hx i (by omega)
        exact put_at h1 h2
      obtain ⟨G, hG⟩ : ∃ G : Nat → Pt, ∀ i, i < len → ∃ (A : Option Addr) (c : Nat), W.cell? ((a.add (i * 2)).add 0) = some (.int .i64 (G i).1) ∧ W.cell? ((a.add (i * 2)).add 1) = some (.slice A (G i).2.length c) ∧ BV W A (G i).2 ∧ AllB (G i).2 ∧ (G i).2.length ≤ maxLen :=
        ⟨fun i => if h : i < len then (each i h).choose else pz, fun i hi => by simp only [dif_pos hi]; exact (each i hi).choose_spec⟩
      obtain ⟨b, off, spot⟩ := a
      have hspot : spot = none := by
        obtain ⟨A, c, hA, _⟩ := hG 0 (by omega)
        simpa [Addr.add] using World.cell?_spot hA
      subst hspot
      simp only [Go.WideShapes.add_plain, Nat.add_zero] at hG
      have hL : ((List.range len).map G).length = len := by simp
      have hget : ∀ j, j < len → ((List.range len).map G).getD j pz = G j := fun j hj => by
        rw [List.getD_eq_getElem?_getD, List.getElem?_map, List.getElem?_range hj]; rfl
      refine ⟨some ⟨b, off, none⟩, (List.range len).map G, cap', by rw [hL], Or.inr ⟨b, off, rfl, ?_, fun j hj => ?_⟩, fun p hp => ?_, by rw [hL]; omega⟩
      · obtain ⟨A, c, hA, _⟩ := hG 0 (by omega)
        exact World.block_lt_of_cell? W ⟨b, off + 0 * 2, none⟩ hA
      · rw [hL] at hj
        rw [hget j hj]
        obtain ⟨A, c, h1, h2, h3, _⟩ := hG j hj
        exact ⟨h1, A, c, h2, h3⟩
      · obtain ⟨j, hj, rfl⟩ := List.mem_map.1 hp
        obtain ⟨A, c, _, _, _, h4, h5⟩ := hG j (List.mem_range.1 hj)
        exact ⟨h4, h5⟩

set_option maxRecDepth 100000 in
theorem ext_of {H : Type} {enc : TypeId × Value → H} {W : World} {n : Nat} {c0 c1 : Value} {y : DataW H × List MemPlace}
    (h2 : DataW.trod enc Try.prog W 0 (fun _ => true) true n 29 [c0, c1] = some y) : ∃ a m : Int, c0 = .int .i64 a ∧ c1 = .int .i64 m := by
  obtain ⟨xs, m, _, _, _, hx, hf⟩ := DataW.trod_struct Try.underlying29 h2
  match xs, hx with
  | [x0, x1], _ =>
    have k0 := hf 0 _ rfl
    have k1 := hf 1 _ rfl
    simp only [List.getElem?_cons_zero, List.getElem?_cons_succ] at k0 k1
    obtain ⟨a, rfl, _⟩ := int_of_trod Try.underlying3 k0
    obtain ⟨m, rfl, _⟩ := int_of_trod Try.underlying3 k1
    exact ⟨a, m, rfl, rfl⟩

/-- A step: its kind, its extent, its blocks, its number. -/
structure Stp where
  kind : Int
  a : Int
  m : Int
  puts : List Pt
  num : Int
def sz : Stp := ⟨0, 0, 0, [], 0⟩
def SOk (s : Stp) : Prop := PB s.puts ∧ s.puts.length ≤ maxLen
/-- The slice at A reads as the list L of steps. -/
def SV (w : World) (A : Option Addr) (L : List Stp) : Prop :=
  L = [] ∨ ∃ g o, A = some ⟨g, o, none⟩ ∧ g < w.heap.size ∧ ∀ j, j < L.length → w.cell? ⟨g, o + j * 5, none⟩ = some (.int .i64 (L.getD j sz).kind) ∧ w.cell? ⟨g, o + j * 5 + 1, none⟩ = some (.int .i64 (L.getD j sz).a) ∧ w.cell? ⟨g, o + j * 5 + 2, none⟩ = some (.int .i64 (L.getD j sz).m) ∧
    (∃ B c, w.cell? ⟨g, o + j * 5 + 3, none⟩ = some (.slice B (L.getD j sz).puts.length c) ∧ PV w B (L.getD j sz).puts) ∧ w.cell? ⟨g, o + j * 5 + 4, none⟩ = some (.int .i64 (L.getD j sz).num)
theorem SV.pos {w : World} {A : Option Addr} {L : List Stp} (h : SV w A L) (h0 : 0 < L.length) : ∃ g o, A = some ⟨g, o, none⟩ ∧ g < w.heap.size ∧ ∀ j, j < L.length → w.cell? ⟨g, o + j * 5, none⟩ = some (.int .i64 (L.getD j sz).kind) ∧ w.cell? ⟨g, o + j * 5 + 1, none⟩ = some (.int .i64 (L.getD j sz).a) ∧ w.cell? ⟨g, o + j * 5 + 2, none⟩ = some (.int .i64 (L.getD j sz).m) ∧
    (∃ B c, w.cell? ⟨g, o + j * 5 + 3, none⟩ = some (.slice B (L.getD j sz).puts.length c) ∧ PV w B (L.getD j sz).puts) ∧ w.cell? ⟨g, o + j * 5 + 4, none⟩ = some (.int .i64 (L.getD j sz).num) := by
  rcases h with rfl | h
  · simp at h0
  · exact h
theorem SV.on {w w' : World} {A : Option Addr} {L : List Stp} (h : SV w A L) (hb : At w w') : SV w' A L := by
  rcases h with h | ⟨g, o, rfl, hlt, hc⟩
  · exact Or.inl h
  · refine Or.inr ⟨g, o, rfl, Nat.lt_of_lt_of_le hlt hb.size, fun j hj => ?_⟩
    obtain ⟨h1, h2, h6, ⟨B, c, h3, h4⟩, h5⟩ := hc j hj
    exact ⟨(Below.cell hb (p := ⟨g, o + j * 5, none⟩) hlt).trans h1, (Below.cell hb (p := ⟨g, o + j * 5 + 1, none⟩) hlt).trans h2, (Below.cell hb (p := ⟨g, o + j * 5 + 2, none⟩) hlt).trans h6, ⟨B, c, (Below.cell hb (p := ⟨g, o + j * 5 + 3, none⟩) hlt).trans h3, h4.on hb⟩, (Below.cell hb (p := ⟨g, o + j * 5 + 4, none⟩) hlt).trans h5⟩

set_option maxRecDepth 100000 in
theorem step_at {H : Type} {enc : TypeId × Value → H} {W : World} {a : Addr} {n : Nat} {cs : List Value} {y : DataW H × List MemPlace}
    (h1 : W.cells? 0 a 5 = some cs) (h2 : DataW.trod enc Try.prog W 0 (fun _ => true) true n 32 cs = some y) :
    ∃ (s : Stp) (A : Option Addr) (c : Nat), W.cell? (a.add 0) = some (.int .i64 s.kind) ∧ W.cell? (a.add 1) = some (.int .i64 s.a) ∧ W.cell? (a.add 2) = some (.int .i64 s.m) ∧ W.cell? (a.add 3) = some (.slice A s.puts.length c) ∧ PV W A s.puts ∧ W.cell? (a.add 4) = some (.int .i64 s.num) ∧ SOk s := by
  obtain ⟨_, hlen, hc⟩ := World.cells?_some h1
  obtain ⟨xs, m, _, _, _, hx, hf⟩ := DataW.trod_struct Try.underlying32 h2
  match cs, hlen, xs, hx with
  | [c0, c1, c2, c3, c4], _, [x0, x1, x2, x3], _ =>
    have k0 := hf 0 _ rfl
    have k1 := hf 1 _ rfl
    have k2 := hf 2 _ rfl
    have k3 := hf 3 _ rfl
    simp only [List.getElem?_cons_zero, List.getElem?_cons_succ] at k0 k1 k2 k3
    obtain ⟨l, rfl, _⟩ := int_of_trod Try.underlying3 k0
    obtain ⟨a, m, rfl, rfl⟩ := ext_of k1
    obtain ⟨A, P, c, rfl, hv, hB, hl⟩ := read_pv k2
    obtain ⟨q, rfl, _⟩ := int_of_trod Try.underlying3 k3
    exact ⟨⟨l, a, m, P, q⟩, A, c, hc 0 (by omega), hc 1 (by omega), hc 2 (by omega), hc 3 (by omega), hv, hc 4 (by omega), hB, hl⟩

set_option maxRecDepth 100000 in
/-- A slice of steps that was read. -/
theorem read_sv {H : Type} {enc : TypeId × Value → H} {W : World} {a0 : Option Addr} {len cap fuel : Nat} {x : DataW H × List MemPlace}
    (hf : DataW.trod enc Try.prog W 0 (fun _ => true) true fuel 22 [.slice a0 len cap] = some x) :
    ∃ L : List Stp, L.length = len ∧ SV W a0 L ∧ (∀ s ∈ L, SOk s) ∧ len ≤ maxLen := by
  rcases Go.Deep.open_slice Try.underlying22 hf with ⟨hcs, _⟩ | ⟨a, len', cap', m, n, D, Pl, hcs, _, hl, hcm, hm, _, hx⟩
  · simp at hcs
    obtain ⟨rfl, rfl, rfl⟩ := hcs
    exact ⟨[], rfl, Or.inl rfl, (fun p h => by cases h), Nat.zero_le _⟩
  · simp at hcs
    obtain ⟨rfl, rfl, rfl⟩ := hcs
    simp only [if_true] at hm
    rw [step_size] at hx
    by_cases h0 : len = 0
    · subst h0
      exact ⟨[], rfl, Or.inl rfl, (fun p h => by cases h), Nat.zero_le _⟩
    · have each : ∀ i, i < len → ∃ (s : Stp) (A : Option Addr) (c : Nat), W.cell? ((a.add (i * 5)).add 0) = some (.int .i64 s.kind) ∧ W.cell? ((a.add (i * 5)).add 1) = some (.int .i64 s.a) ∧ W.cell? ((a.add (i * 5)).add 2) = some (.int .i64 s.m) ∧ W.cell? ((a.add (i * 5)).add 3) = some (.slice A s.puts.length c) ∧ PV W A s.puts ∧ W.cell? ((a.add (i * 5)).add 4) = some (.int .i64 s.num) ∧ SOk s := fun i hi => by
        obtain ⟨cs, h1, h2⟩ := hx i (by omega)
        exact step_at h1 h2
      obtain ⟨G, hG⟩ : ∃ G : Nat → Stp, ∀ i, i < len → ∃ (A : Option Addr) (c : Nat), W.cell? ((a.add (i * 5)).add 0) = some (.int .i64 (G i).kind) ∧ W.cell? ((a.add (i * 5)).add 1) = some (.int .i64 (G i).a) ∧ W.cell? ((a.add (i * 5)).add 2) = some (.int .i64 (G i).m) ∧ W.cell? ((a.add (i * 5)).add 3) = some (.slice A (G i).puts.length c) ∧ PV W A (G i).puts ∧ W.cell? ((a.add (i * 5)).add 4) = some (.int .i64 (G i).num) ∧ SOk (G i) :=
        ⟨fun i => if h : i < len then (each i h).choose else sz, fun i hi => by simp only [dif_pos hi]; exact (each i hi).choose_spec⟩
      obtain ⟨b, off, spot⟩ := a
      have hspot : spot = none := by
        obtain ⟨A, c, hA, _⟩ := hG 0 (by omega)
        simpa [Addr.add] using World.cell?_spot hA
      subst hspot
      simp only [Go.WideShapes.add_plain, Nat.add_zero] at hG
      have hL : ((List.range len).map G).length = len := by simp
      have hget : ∀ j, j < len → ((List.range len).map G).getD j sz = G j := fun j hj => by
        rw [List.getD_eq_getElem?_getD, List.getElem?_map, List.getElem?_range hj]; rfl
      refine ⟨(List.range len).map G, hL, Or.inr ⟨b, off, rfl, ?_, fun j hj => ?_⟩, fun p hp => ?_, by omega⟩
      · obtain ⟨A, c, hA, _⟩ := hG 0 (by omega)
        exact World.block_lt_of_cell? W ⟨b, off + 0 * 5, none⟩ hA
      · rw [hL] at hj
        rw [hget j hj]
        obtain ⟨A, c, h1, h2, h6, h3, h4, h5, _⟩ := hG j hj
        exact ⟨h1, h2, h6, ⟨A, c, h3, h4⟩, h5⟩
      · obtain ⟨j, hj, rfl⟩ := List.mem_map.1 hp
        obtain ⟨A, c, _, _, _, _, _, _, h6⟩ := hG j (List.mem_range.1 hj)
        exact h6

end Go.Proofs.Ytgjlklladbcmcaa
