/- Proved: words for the document's own buffer; its Get; a block put at its place, in plain. -/
import Derived.Test.YtgjlklladbcmcaaOps
namespace Go.Proofs.Ytgjlklladbcmcaa
open Go.RowKit

/-- A block as it lies: its number and bytes, where these lie, their room. -/
abbrev Lt := Pt × Nat × Nat
def lq : Lt := (pz, 0, 0)
/-- The row v of blocks is l, each one's bytes beside it. -/
structure Od (w : World) (v : Value) (l : List Lt) : Prop where
  row : w.ownsRow 0 76 2 v l.length (pcs l)
  bv : ∀ x ∈ l, BV w (some ⟨x.2.1, 0, none⟩) x.1.2 ∧ x.2.1 < w.heap.size
theorem Od.on {w w' : World} {v : Value} {l : List Lt} (h : Od w v l) (hA : At w w') : Od w' v l := ⟨row_on h.row hA, fun x hx => ⟨(h.bv x hx).1.below hA, Nat.lt_of_lt_of_le (h.bv x hx).2 hA.size⟩⟩
theorem Od.mv {w w' : World} {v : Value} {l : List Lt} {F : Nat → Prop} (h : Od w v l) (hm : Mv F w w') (hv : ∀ g, v.ownBlock = some g → ¬ F g) (hx : ∀ x ∈ l, ¬ F x.2.1) : Od w' v l := by
  refine ⟨⟨h.row.1, ?_⟩, fun x hxm => ⟨bv_mv (h.bv x hxm).1 hm (hx x hxm), Nat.lt_of_lt_of_le (h.bv x hxm).2 hm.size⟩⟩
  rcases h.row.2 with h1 | ⟨g, cap, cur, hv', hB, hh, hr⟩
  · exact Or.inl h1
  · exact Or.inr ⟨g, cap, cur, hv', hB, hm.keep hh (hv g (by rw [hv']; rfl)), hr⟩
theorem Od.block {w : World} {v : Value} {l : List Lt} (h : Od w v l) {g : Nat} (hg : v.ownBlock = some g) : ∃ cs, w.heap[g]? = some (.cells cs 76 (0, 0)) := by
  rcases h.row.2 with ⟨e, _⟩ | ⟨g', cap, cur, e, _, hh, _⟩
  · rw [e] at hg; cases hg
  · rw [e] at hg; injection hg with hg; subst hg; exact ⟨cur, hh⟩
theorem Od.form {w : World} {v : Value} {l : List Lt} (h : Od w v l) : ∃ A c, v = .slice A l.length c ∧ (0 < l.length → ∃ g, A = some ⟨g, 0, none⟩ ∧ ∀ j, j < l.length → w.cell? ⟨g, j * 2, none⟩ = some (.int .i64 (l.getD j lq).1.1) ∧ w.cell? ⟨g, j * 2 + 1, none⟩ = some (.slice (some ⟨(l.getD j lq).2.1, 0, none⟩) (l.getD j lq).1.2.length (l.getD j lq).2.2)) := by
  rcases Joins.ownsRow_forms h.row with ⟨rfl, h0⟩ | ⟨g, cap, rfl⟩
  · exact ⟨none, 0, by rw [h0], fun h1 => by omega⟩
  · refine ⟨_, cap, rfl, fun _ => ⟨g, rfl, fun j hj => ?_⟩⟩
    have hc := h.row.cells (g := g) rfl
    obtain ⟨h1, h2⟩ := pcs_at l j l[j] (List.getElem?_eq_getElem hj)
    have k1 := hc _ _ h1
    have k2 := hc _ _ h2
    rw [Go.WideShapes.add_plain, Nat.zero_add] at k1 k2
    have e : l.getD j lq = l[j] := by rw [List.getD_eq_getElem?_getD, List.getElem?_eq_getElem hj]; rfl
    rw [e]
    exact ⟨k1, k2⟩
theorem Od.pv {w : World} {v : Value} {l : List Lt} (h : Od w v l) : ∃ A c, v = .slice A l.length c ∧ PV w A (l.map (·.1)) := by
  obtain ⟨A, c, rfl, hx⟩ := h.form
  refine ⟨A, c, rfl, ?_⟩
  by_cases h0 : l = []
  · subst h0; exact Or.inl rfl
  · obtain ⟨g, rfl, hc⟩ := hx (List.length_pos_iff.2 h0)
    have hp : 0 < l.length := List.length_pos_iff.2 h0
    refine Or.inr ⟨g, 0, rfl, World.block_lt_of_cell? w _ (hc 0 hp).1, fun j hj => ?_⟩
    rw [List.length_map] at hj
    have e : l.getD j lq = l[j] := by rw [List.getD_eq_getElem?_getD, List.getElem?_eq_getElem hj]; rfl
    have hx : (l.map (·.1)).getD j pz = l[j].1 := by rw [List.getD_eq_getElem?_getD, List.getElem?_map, List.getElem?_eq_getElem hj]; rfl
    have := hc j hj
    rw [e] at this
    rw [hx, Nat.zero_add]
    exact ⟨this.1, _, _, this.2, (h.bv _ (List.getElem_mem hj)).1⟩

/-- The document's buffer at d is in the state S; all its blocks are among Z. -/
structure Rq (w : World) (d : Nat) (S : St) (Z : Nat → Prop) (v : Value) (l : List Lt) : Prop where
  ok : Ok S
  box : w.heap[d]? = some (.cells #[.int .i64 (S.n : Int), .int .i64 S.most, v] 102 (0, 0))
  od : Od w v l
  is : l.map (·.1) = ls S
  pd : Z d
  pr : ∀ g, v.ownBlock = some g → Z g
  px : ∀ x ∈ l, Z x.2.1
def Rb (w : World) (d : Nat) (S : St) (Z : Nat → Prop) : Prop := ∃ v l, Rq w d S Z v l
section
variable {w w' : World} {d : Nat} {S : St} {v : Value} {l : List Lt} {Z Y : Nat → Prop}
theorem Rq.on (h : Rq w d S Z v l) (hA : At w w') : Rq w' d S Z v l := ⟨h.ok, hA.keep h.box, h.od.on hA, h.is, h.pd, h.pr, h.px⟩
theorem Rq.mv {G : Nat → Prop} (h : Rq w d S Z v l) (hm : Mv G w w') (hG : ∀ g, Z g → ¬ G g) : Rq w' d S Z v l :=
  ⟨h.ok, hm.keep h.box (hG _ h.pd), h.od.mv hm (fun g hg => hG g (h.pr g hg)) (fun x hx => hG _ (h.px x hx)), h.is, h.pd, h.pr, h.px⟩
theorem Rq.more (h : Rq w d S Z v l) (hP : ∀ g, g < w.heap.size → Z g → Y g) : Rq w d S Y v l :=
  ⟨h.ok, h.box, h.od, h.is, hP _ (lt_heap h.box) h.pd, fun g hg => hP g (row_lt h.od.row hg).1 (h.pr g hg), fun x hx => hP _ (h.od.bv x hx).2 (h.px x hx)⟩
theorem Rb.mv {G : Nat → Prop} (h : Rb w d S Z) (hm : Mv G w w') (hG : ∀ g, Z g → ¬ G g) : Rb w' d S Z := by obtain ⟨v, l, h⟩ := h; exact ⟨v, l, h.mv hm hG⟩
theorem Rb.more (h : Rb w d S Z) (hP : ∀ g, g < w.heap.size → Z g → Y g) : Rb w d S Y := by obtain ⟨v, l, h⟩ := h; exact ⟨v, l, h.more hP⟩
theorem Rb.on (h : Rb w d S Z) (hA : At w w') : Rb w' d S Z := by obtain ⟨v, l, h⟩ := h; exact ⟨v, l, h.on hA⟩
theorem Rb.ok (h : Rb w d S Z) : Ok S := by obtain ⟨v, l, h⟩ := h; exact h.ok
theorem Rb.lt (h : Rb w d S Z) : d < w.heap.size := by obtain ⟨v, l, h⟩ := h; exact lt_heap h.box
theorem Rb.box (h : Rb w d S Z) : ∃ cs, w.heap[d]? = some (.cells cs 102 (0, 0)) := by obtain ⟨v, l, h⟩ := h; exact ⟨_, h.box⟩
theorem Rq.cells (h : Rq w d S Z v l) : w.cell? ⟨d, 0, none⟩ = some (.int .i64 (S.n : Int)) ∧ w.cell? ⟨d, 1, none⟩ = some (.int .i64 S.most) ∧ w.cell? ⟨d, 2, none⟩ = some v :=
  ⟨(cell_at h.box 0).trans rfl, (cell_at h.box 1).trans rfl, (cell_at h.box 2).trans rfl⟩
theorem Rq.len (h : Rq w d S Z v l) : l.length = (us S).length := by
  have := congrArg List.length h.is
  rwa [List.length_map, ls_len] at this
theorem Rq.up (h : Rq w d S Z v l) : l.Pairwise (fun x y => x.1.1 < y.1.1) := by
  have := ls_up S
  rw [← h.is, List.pairwise_map] at this
  exact this
theorem Rq.at_ (h : Rq w d S Z v l) {j : Nat} (hj : j < l.length) : ∃ k : Nat, (l.getD j lq).1 = ((k : Int), S.g k) ∧ k < S.n ∧ S.g k ≠ [] := by
  have hm : (l.getD j lq).1 ∈ ls S := by
    rw [← h.is, List.getD_eq_getElem?_getD, List.getElem?_eq_getElem hj]
    exact List.mem_map.2 ⟨_, List.getElem_mem hj, rfl⟩
  obtain ⟨k, h1, h2, h3⟩ := mem_ls.1 hm
  exact ⟨k, h3, h1, h2⟩
/-- A block that is there. -/
theorem Rq.find (h : Rq w d S Z v l) {x : Nat} (hx : S.g x ≠ []) : ∃ j, j < l.length ∧ (l.getD j lq).1 = ((x : Int), S.g x) := by
  have hn : x < S.n := by
    rcases Nat.lt_or_ge x S.n with h1 | h1
    · exact h1
    · exact absurd (h.ok.e x h1) hx
  have hm : ((x : Int), S.g x) ∈ l.map (·.1) := by rw [h.is]; exact mem_ls.2 ⟨x, hn, hx, rfl⟩
  obtain ⟨j, hj, e⟩ := List.mem_iff_getElem.1 hm
  rw [List.length_map] at hj
  rw [List.getElem_map] at e
  exact ⟨j, hj, by rw [List.getD_eq_getElem?_getD, List.getElem?_eq_getElem hj]; exact e⟩

/-- What Get tells. -/
def Tells (S : St) (Z : Nat → Prop) (x : Int) (w : World) (e : Ending) (w' : World) : Prop :=
  w = w' ∧ ((gi S x = [] ∧ e = .returned (.tuple #[.slice none 0 0, .bool false])) ∨ (gi S x ≠ [] ∧ ∃ g c, e = .returned (.tuple #[.slice (some ⟨g, 0, none⟩) 40 c, .bool true]) ∧ BV w (some ⟨g, 0, none⟩) (gi S x) ∧ Z g))
set_option maxHeartbeats 1000000 in
set_option maxRecDepth 100000 in
theorem rget_rb (h : Rb w d S Z) (x : Int) : Calls Try.prog 39 #[.pointer (some ⟨d, 0, none⟩), .int .i64 x] w (Tells S Z x w) := by
  obtain ⟨v, l, h⟩ := h
  obtain ⟨-, -, c2⟩ := h.cells
  obtain ⟨A, c, rfl, hx⟩ := h.od.form
  have hul := us_len S
  have hn2 := h.ok.n2
  rw [← h.len] at hul
  have H := Lib.hid h
  obtain ⟨n, hn⟩ : ∃ n, n = l.length := ⟨_, rfl⟩
  rw [← hn] at c2 hul hx
  have HX := Lib.hid hx
  have HN := Lib.hid hn
  clear h hx hn
  go_enter Try.func39, Try.ntmps39
  go_wp2
  go_loopw [6] (fun c6 wr => ∃ i : Nat, i ≤ n ∧ c6 = .int .i64 (i : Int) ∧ Hid (∀ j, j < i → (l.getD j lq).1.1 ≠ x) ∧ wr = w) (fun c6 _ => n - (RowKit.intOf c6).toNat)
  case atStart => exact ⟨0, Nat.zero_le _, rfl, Lib.hid fun j h => absurd h (Nat.not_lt_zero j), rfl⟩
  case round =>
    obtain ⟨i, hi, rfl, HF, rfl⟩ := hrel
    by_cases hlt : i < n
    · obtain ⟨g, rfl, hc⟩ := HX.out (by omega)
      obtain ⟨k1, k2⟩ := hc i hlt
      obtain ⟨k, hk1, hk2, hk3⟩ := H.out.at_ (j := i) (by rw [← HN.out]; exact hlt)
      have hbv := (H.out.od.bv (l.getD i lq) (by rw [List.getD_eq_getElem?_getD, List.getElem?_eq_getElem (by rw [← HN.out]; exact hlt)]; exact List.getElem_mem _)).1
      have hpx := H.out.px (l.getD i lq) (by rw [List.getD_eq_getElem?_getD, List.getElem?_eq_getElem (by rw [← HN.out]; exact hlt)]; exact List.getElem_mem _)
      have hl40 := (H.out.ok.v k hk3).1
      obtain ⟨y0, hye⟩ : ∃ y : Lt, y = l.getD i lq := ⟨_, rfl⟩
      obtain ⟨⟨y, yd⟩, yg, yc⟩ := y0
      rw [← hye] at k1 k2 hk1 hbv hpx
      simp only at k1 k2 hk1 hbv hpx
      injection hk1 with e1 e2
      rw [e2, hl40] at k2
      rw [e2] at hbv
      have HYE := Lib.hid hye
      have g1 : (0 : Int) ≤ (i : Int) := by omega
      have g2 : (i : Int) < (n : Int) := by omega
      by_cases hyx : y = x
      · have q : (y == x) = true := by rw [hyx]; simp
        have HE : Hid (Tells S Z x wr (.returned (.tuple #[.slice (some ⟨yg, 0, none⟩) 40 yc, .bool true])) wr) := Lib.hid (by
          have eg : gi S x = S.g k := by rw [← hyx, e1, gi_nat]
          exact ⟨rfl, Or.inr ⟨by rw [eg]; exact hk3, yg, yc, rfl, by rw [eg]; exact hbv, hpx⟩⟩)
        clear hc hye e1 e2 hbv hk3 hl40 hyx hk2 hpx
        go_wp2
        go_ret2
        exact HE.out
      · have q : (y == x) = false := by simpa using hyx
        have HK := Lib.hid hyx
        clear hc hye e1 e2 hbv hk3 hl40 hyx hk2 hpx
        go_wp2
        go_roundw
        case rel => exact ⟨i + 1, by omega, by go_num, Lib.hid (fun j hj => by
          by_cases e : j = i
          · subst e; rw [← HYE.out]; exact HK.out
          · exact HF.out j (by omega)), by first | rfl | trivial⟩
        case measure => simp [RowKit.intOf]; omega
    · have HE : Hid (Tells S Z x wr (.returned (.tuple #[.slice none 0 0, .bool false])) wr) := Lib.hid ⟨rfl, Or.inl ⟨Classical.byContradiction fun hg => by
        obtain ⟨k, hk, hkg⟩ := gi_pos S hg
        obtain ⟨j, hj, e⟩ := H.out.find hkg
        exact HF.out j (by rw [← HN.out] at hj; omega) (by rw [e, hk]), rfl⟩⟩
      have hin : i = n := by omega
      subst hin
      go_wp2
      go_ret2
      exact HE.out
end

end Go.Proofs.Ytgjlklladbcmcaa
