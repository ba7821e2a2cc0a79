/- Proved: what came in as data: rows of bytes, ints, a batch, batches. -/
import Derived.Test.YtgmekkenodiclaaIn
import Derived.Test.YtgmekkenodiclaaOw
namespace Go.Proofs.Ytgmekkenodiclaa
open Go.ChangeShapes Go.WideShapes Go.ChangeAt Go.RowKit Go.Deep

/-- A row of bytes that may come in. -/
def ROk (r : List Nat) : Prop := AllB r ∧ r.length ≤ maxLen
/-- A slice of rows of bytes that was read. -/
theorem read_rows {H : Type} {enc : TypeId × Value → H} {W : World} {a0 : Option Addr} {len cap fuel : Nat} {x : DataW H × List MemPlace}
    (hf : DataW.trod enc Try.prog W 0 (fun _ => true) true fuel 22 [.slice a0 len cap] = some x) :
    ∃ R : List (List Nat), R.length = len ∧ RV W a0 R ∧ (∀ r ∈ R, ROk r) ∧ len ≤ maxLen ∧ len ≤ cap ∧ (a0 = none → len = 0 ∧ cap = 0) := by
  rcases Go.Deep.open_slice1 Try.underlying22 row_size hf with ⟨hcs, _⟩ | ⟨a, len', cap', m, n, V, D, Pl, hcs, _, hl, hcm, hm, _, hx⟩
  · simp at hcs
    obtain ⟨rfl, rfl, rfl⟩ := hcs
    exact ⟨[], rfl, Or.inl rfl, (fun p h => by cases h), Nat.zero_le _, Nat.zero_le _, fun _ => ⟨rfl, rfl⟩⟩
  · simp at hcs
    obtain ⟨rfl, rfl, rfl⟩ := hcs
    simp only [if_true] at hm
    by_cases h0 : len = 0
    · subst h0
      exact ⟨[], rfl, Or.inl rfl, (fun p h => by cases h), Nat.zero_le _, Nat.zero_le _, fun h => by cases h⟩
    · have each : ∀ i, i < len → ∃ (L : List Nat) (A : Option Addr) (c : Nat), W.cell? (a.add i) = some (.slice A L.length c) ∧ L.length ≤ c ∧ BV W A L ∧ ROk L := fun i hi => by
        have h1 := (hx i (by omega)).2
        have h2 := h1
        obtain ⟨A, L, c, e, hb, hB, hl2⟩ := read_row h1
        rw [e] at h2
        obtain ⟨L', _, _, _, hlc, _⟩ := read_bv h2
        exact ⟨L, A, c, by rw [← e]; exact (hx i (by omega)).1, hlc, hb, hB, hl2⟩
      obtain ⟨F, hF⟩ : ∃ F : Nat → List Nat, ∀ i, i < len → ∃ (A : Option Addr) (c : Nat), W.cell? (a.add i) = some (.slice A (F i).length c) ∧ (F i).length ≤ c ∧ BV W A (F i) ∧ ROk (F i) :=
        ⟨fun i => if h : i < len then (each i h).choose else [], fun i hi => by simp only [dif_pos hi]; exact (each i hi).choose_spec⟩
      obtain ⟨b, off, spot⟩ := a
      have hspot : spot = none := by
        obtain ⟨A, c, h1, _⟩ := hF 0 (by omega)
        simpa [Addr.add] using World.cell?_spot h1
      subst hspot
      simp only [Go.WideShapes.add_plain] at hF
      have hL : ((List.range len).map F).length = len := by simp
      have hget : ∀ j, j < len → ((List.range len).map F).getD j [] = F j := fun j hj => by
        rw [List.getD_eq_getElem?_getD, List.getElem?_map, List.getElem?_range hj]; rfl
      refine ⟨(List.range len).map F, hL, Or.inr ⟨b, off, rfl, ?_, fun j hj => ?_⟩, fun r hr => ?_, by omega, hl, fun h => by cases h⟩
      · obtain ⟨A, c, h1, _⟩ := hF 0 (by omega)
        exact World.block_lt_of_cell? W ⟨b, off + 0, none⟩ h1
      · rw [hL] at hj
        rw [hget j hj]
        obtain ⟨A, c, h1, h2, h3, _⟩ := hF j hj
        exact ⟨A, c, h1, h2, h3⟩
      · obtain ⟨j, hj, rfl⟩ := List.mem_map.1 hr
        obtain ⟨A, c, _, _, _, h4⟩ := hF j (List.mem_range.1 hj)
        exact h4

/-- The slice at A reads as the list Z of ints. -/
def ILV (w : World) (A : Option Addr) (Z : List Int) : Prop :=
  Z = [] ∨ ∃ b o, A = some ⟨b, o, none⟩ ∧ b < w.heap.size ∧ ∀ j, j < Z.length → w.cell? ⟨b, o + j, none⟩ = some (.int .i64 (Z.getD j 0))
theorem ILV.pos {w : World} {A : Option Addr} {Z : List Int} (h : ILV w A Z) (h0 : 0 < Z.length) : ∃ b o, A = some ⟨b, o, none⟩ ∧ b < w.heap.size ∧ ∀ j, j < Z.length → w.cell? ⟨b, o + j, none⟩ = some (.int .i64 (Z.getD j 0)) := by
  rcases h with rfl | h
  · simp at h0
  · exact h
theorem ILV.on {w w' : World} {A : Option Addr} {Z : List Int} (h : ILV w A Z) (hA : At w w') : ILV w' A Z := by
  rcases h with h | ⟨b, o, h1, h2, h3⟩
  · exact Or.inl h
  · exact Or.inr ⟨b, o, h1, Nat.lt_of_lt_of_le h2 hA.size, fun j hj => (Below.cell hA (p := ⟨b, o + j, none⟩) h2).trans (h3 j hj)⟩
theorem cells_i64 : Try.prog.cellsOf 3 = 1 := by kernel_rfl
theorem read_il {H : Type} {enc : TypeId × Value → H} {W : World} {a0 : Option Addr} {len cap fuel : Nat} {x : DataW H × List MemPlace}
    (hf : DataW.trod enc Try.prog W 0 (fun _ => true) true fuel 41 [.slice a0 len cap] = some x) : ∃ Z : List Int, Z.length = len ∧ ILV W a0 Z := by
  rcases Go.Deep.open_slice1 Try.underlying41 cells_i64 hf with ⟨hcs, _⟩ | ⟨a, len', cap', m, n, V, D, Pl, hcs, _, hl, _, hm, _, hx⟩
  · simp at hcs
    obtain ⟨rfl, rfl, rfl⟩ := hcs
    exact ⟨[], rfl, Or.inl rfl⟩
  · simp at hcs
    obtain ⟨rfl, rfl, rfl⟩ := hcs
    simp only [if_true] at hm
    by_cases h0 : len = 0
    · subst h0
      exact ⟨[], rfl, Or.inl rfl⟩
    · have each : ∀ i, i < len → ∃ z : Int, W.cell? (a.add i) = some (.int .i64 z) := fun i hi => by
        obtain ⟨z, e, _⟩ := int_of_trod Try.underlying3 (hx i (by omega)).2
        exact ⟨z, by rw [← e]; exact (hx i (by omega)).1⟩
      obtain ⟨F, hF⟩ : ∃ F : Nat → Int, ∀ i, i < len → W.cell? (a.add i) = some (.int .i64 (F i)) :=
        ⟨fun i => if h : i < len then (each i h).choose else 0, fun i hi => by simp only [dif_pos hi]; exact (each i hi).choose_spec⟩
      obtain ⟨b, off, spot⟩ := a
      have hspot : spot = none := by simpa [Addr.add] using World.cell?_spot (hF 0 (by omega))
      subst hspot
      simp only [Go.WideShapes.add_plain] at hF
      have hL : ((List.range len).map F).length = len := by simp
      refine ⟨(List.range len).map F, hL, Or.inr ⟨b, off, rfl, World.block_lt_of_cell? W ⟨b, off + 0, none⟩ (hF 0 (by omega)), fun j hj => ?_⟩⟩
      rw [hL] at hj
      rw [hF j hj, List.getD_eq_getElem?_getD, List.getElem?_map, List.getElem?_range hj]
      rfl

/-- A batch: its number, its transactions. -/
abbrev Bt := Int × List Tx
def btz : Bt := (0, [])
/-- One that may come in. -/
def BOk (b : Bt) : Prop := (∀ x ∈ b.2, TOk x) ∧ b.2.length ≤ maxLen
theorem txs_size : Try.prog.cellsOf 25 = 1 := by kernel_rfl
theorem bat_size : Try.prog.cellsOf 27 = 2 := by kernel_rfl
set_option maxRecDepth 100000 in
theorem bat_of {H : Type} {enc : TypeId × Value → H} {W : World} {n : Nat} {c0 c1 : Value} {y : DataW H × List MemPlace}
    (h2 : DataW.trod enc Try.prog W 0 (fun _ => true) true n 27 [c0, c1] = some y) :
    ∃ (s : Int) (A : Option Addr) (L : List Tx) (c : Nat), c0 = .int .i64 s ∧ c1 = .slice A L.length c ∧ TV W A L ∧ BOk (s, L) ∧ L.length ≤ c ∧ (A = none → L.length = 0 ∧ c = 0) := by
  obtain ⟨xs, m, _, _, _, hx, hf⟩ := DataW.trod_struct Try.underlying27 h2
  match xs, hx with
  | [x0, x1], _ =>
    have k0 := hf 0 _ rfl
    have k1 := hf 1 _ rfl
    simp only [List.getElem?_cons_zero, List.getElem?_cons_succ] at k0 k1
    obtain ⟨s, rfl, _⟩ := int_of_trod Try.underlying3 k0
    obtain ⟨A, n', c, hc⟩ := Go.Joins.slice_form Try.underlying25 k1
    rw [hc] at k1
    obtain ⟨L, hL, hv, hk, hm, hlc, hz⟩ := read_tv k1
    subst hL
    have hc : c1 = .slice A L.length c := by simpa [txs_size] using hc
    exact ⟨s, A, L, c, rfl, hc, hv, ⟨hk, hm⟩, hlc, hz⟩
set_option maxRecDepth 100000 in
/-- A batch that came in. -/
theorem open_bat {H : Type} {enc : TypeId × Value → H} {W : World} {r : Reach} {b0 : Nat} {v : Value} {d : DataW H} {p : List MemPlace}
    (hv : Value.okWide Try.prog W r b0 27 v) (h : DataW.Trod enc Try.prog W 0 (fun _ => true) true 27 v d p) : ∃ (s : Int) (A : Option Addr) (L : List Tx) (n c : Nat), v = .agg #[.int .i64 s, .slice A n c] ∧ L.length = n ∧ TV W A L ∧ BOk (s, L) ∧ n ≤ c ∧ (A = none → n = 0 ∧ c = 0) := by
  obtain ⟨cs, rfl, hsz⟩ := okWide_struct Try.underlying27 hv
  obtain ⟨fuel, hf⟩ := h
  rw [bat_size] at hsz
  obtain ⟨l⟩ := cs
  match l, hsz with
  | [c0, c1], _ =>
    obtain ⟨s, A, L, c, rfl, rfl, hv, hB, hl, hz⟩ := bat_of (c0 := c0) (c1 := c1) (by simpa [Value.cells] using hf)
    exact ⟨s, A, L, _, c, rfl, rfl, hv, hB, hl, hz⟩
/-- The slice at A reads as the list M of batches. -/
def MV (w : World) (A : Option Addr) (M : List Bt) : Prop :=
  M = [] ∨ ∃ g o, A = some ⟨g, o, none⟩ ∧ g < w.heap.size ∧ ∀ j, j < M.length → w.cell? ⟨g, o + j * 2, none⟩ = some (.int .i64 (M.getD j btz).1) ∧ ∃ B c, w.cell? ⟨g, o + j * 2 + 1, none⟩ = some (.slice B (M.getD j btz).2.length c) ∧ TV w B (M.getD j btz).2 ∧ (M.getD j btz).2.length ≤ c ∧ (B = none → (M.getD j btz).2.length = 0 ∧ c = 0)
theorem MV.pos {w : World} {A : Option Addr} {M : List Bt} (h : MV w A M) (h0 : 0 < M.length) : ∃ g o, A = some ⟨g, o, none⟩ ∧ g < w.heap.size ∧ ∀ j, j < M.length → w.cell? ⟨g, o + j * 2, none⟩ = some (.int .i64 (M.getD j btz).1) ∧ ∃ B c, w.cell? ⟨g, o + j * 2 + 1, none⟩ = some (.slice B (M.getD j btz).2.length c) ∧ TV w B (M.getD j btz).2 ∧ (M.getD j btz).2.length ≤ c ∧ (B = none → (M.getD j btz).2.length = 0 ∧ c = 0) := by
  rcases h with rfl | h
  · simp at h0
  · exact h
theorem MV.on {w w' : World} {A : Option Addr} {M : List Bt} (h : MV w A M) (hb : At w w') : MV w' A M := by
  rcases h with h | ⟨g, o, rfl, hlt, hc⟩
  · exact Or.inl h
  · refine Or.inr ⟨g, o, rfl, Nat.lt_of_lt_of_le hlt hb.size, fun j hj => ?_⟩
    obtain ⟨h1, B, c, h2, h3, h4⟩ := hc j hj
    exact ⟨(Below.cell hb (p := ⟨g, o + j * 2, none⟩) hlt).trans h1, B, c, (Below.cell hb (p := ⟨g, o + j * 2 + 1, none⟩) hlt).trans h2, h3.on hb, h4⟩
set_option maxRecDepth 100000 in
theorem bat_cells {H : Type} {enc : TypeId × Value → H} {W : World} {a : Addr} {n : Nat} {cs : List Value} {y : DataW H × List MemPlace}
    (h1 : W.cells? 0 a 2 = some cs) (h2 : DataW.trod enc Try.prog W 0 (fun _ => true) true n 27 cs = some y) :
    ∃ (b : Bt) (A : Option Addr) (c : Nat), W.cell? (a.add 0) = some (.int .i64 b.1) ∧ W.cell? (a.add 1) = some (.slice A b.2.length c) ∧ TV W A b.2 ∧ BOk b ∧ b.2.length ≤ c ∧ (A = none → b.2.length = 0 ∧ c = 0) := by
  obtain ⟨_, hlen, hc⟩ := World.cells?_some h1
  match cs, hlen with
  | [c0, c1], _ =>
    obtain ⟨s, A, L, c, rfl, rfl, hv, hB, hl, hz⟩ := bat_of h2
    exact ⟨(s, L), A, c, hc 0 (by omega), hc 1 (by omega), hv, hB, hl, hz⟩
set_option maxRecDepth 100000 in
/-- A slice of batches that was read. -/
theorem read_mv {H : Type} {enc : TypeId × Value → H} {W : World} {a0 : Option Addr} {len cap fuel : Nat} {x : DataW H × List MemPlace}
    (hf : DataW.trod enc Try.prog W 0 (fun _ => true) true fuel 52 [.slice a0 len cap] = some x) :
    ∃ M : List Bt, M.length = len ∧ MV W a0 M ∧ (∀ b ∈ M, BOk b) := by
  rcases Go.Deep.open_slice Try.underlying52 hf with ⟨hcs, _⟩ | ⟨a, len', cap', m, n, D, Pl, hcs, _, hl, hcm, hm, _, hx⟩
  · simp at hcs
    obtain ⟨rfl, rfl, rfl⟩ := hcs
    exact ⟨[], rfl, Or.inl rfl, (fun p h => by cases h)⟩
  · simp at hcs
    obtain ⟨rfl, rfl, rfl⟩ := hcs
    simp only [if_true] at hm
    rw [bat_size] at hx
    by_cases h0 : len = 0
    · subst h0
      exact ⟨[], rfl, Or.inl rfl, (fun p h => by cases h)⟩
    · have each : ∀ i, i < len → ∃ (b : Bt) (A : Option Addr) (c : Nat), W.cell? ((a.add (i * 2)).add 0) = some (.int .i64 b.1) ∧ W.cell? ((a.add (i * 2)).add 1) = some (.slice A b.2.length c) ∧ TV W A b.2 ∧ BOk b ∧ b.2.length ≤ c ∧ (A = none → b.2.length = 0 ∧ c = 0) := fun i hi => by
        obtain ⟨cs, h1, h2⟩ := hx i (by omega)
        exact bat_cells h1 h2
      obtain ⟨G, hG⟩ : ∃ G : Nat → Bt, ∀ i, i < len → ∃ (A : Option Addr) (c : Nat), W.cell? ((a.add (i * 2)).add 0) = some (.int .i64 (G i).1) ∧ W.cell? ((a.add (i * 2)).add 1) = some (.slice A (G i).2.length c) ∧ TV W A (G i).2 ∧ BOk (G i) ∧ (G i).2.length ≤ c ∧ (A = none → (G i).2.length = 0 ∧ c = 0) :=
        ⟨fun i => if h : i < len then (each i h).choose else btz, fun i hi => by simp only [dif_pos hi]; exact (each i hi).choose_spec⟩
      obtain ⟨b, off, spot⟩ := a
      have hspot : spot = none := by
        obtain ⟨A, c, hA, _⟩ := hG 0 (by omega)
        simpa [Addr.add] using World.cell?_spot hA
      subst hspot
      simp only [Go.WideShapes.add_plain, Nat.add_zero] at hG
      have hL : ((List.range len).map G).length = len := by simp
      have hget : ∀ j, j < len → ((List.range len).map G).getD j btz = G j := fun j hj => by
        rw [List.getD_eq_getElem?_getD, List.getElem?_map, List.getElem?_range hj]; rfl
      refine ⟨(List.range len).map G, hL, Or.inr ⟨b, off, rfl, ?_, fun j hj => ?_⟩, fun p hp => ?_⟩
      · obtain ⟨A, c, hA, _⟩ := hG 0 (by omega)
        exact World.block_lt_of_cell? W ⟨b, off + 0 * 2, none⟩ hA
      · rw [hL] at hj
        rw [hget j hj]
        obtain ⟨A, c, h1, h2, h3, _, h5, h6⟩ := hG j hj
        exact ⟨h1, A, c, h2, h3, h5, h6⟩
      · obtain ⟨j, hj, rfl⟩ := List.mem_map.1 hp
        obtain ⟨A, c, _, _, _, h4, _⟩ := hG j (List.mem_range.1 hj)
        exact h4

end Go.Proofs.Ytgmekkenodiclaa
