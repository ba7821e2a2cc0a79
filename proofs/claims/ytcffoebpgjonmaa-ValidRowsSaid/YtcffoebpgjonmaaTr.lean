/- Proved: rows of transactions of a call's own; transactions in order without their last one, without their first one, turned round, and with the first one once more. -/
import Derived.Test.YtcffoebpgjonmaaRo
import Derived.Test.YtcffoebpgjonmaaPy
namespace Go.Proofs.Ytcffoebpgjonmaa
open Go.RowKit

/-- A transaction as it lies: where its blocks lie, their room. -/
abbrev Tl := Tx × Option Addr × Nat
def tcs : List Tl → List Value
  | [] => []
  | x :: l => .int .i64 x.1.1 :: .slice x.2.1 x.1.2.length x.2.2 :: tcs l
theorem tcs_len : ∀ l, (tcs l).length = l.length * 2
  | [] => rfl
  | _ :: l => by simp [tcs, tcs_len l]; omega
theorem tcs_app : ∀ l m, tcs (l ++ m) = tcs l ++ tcs m
  | [], _ => rfl
  | x :: l, m => by simp [tcs, tcs_app l m]
theorem tcs_cells : ∀ (l : List Tl), ∀ u ∈ tcs l, u.oneCell' = true
  | [], _, h => by cases h
  | x :: l, u, h => by
    simp only [tcs, List.mem_cons] at h
    rcases h with rfl | rfl | h
    · rfl
    · rfl
    · exact tcs_cells l u h
theorem tcs_at : ∀ (l : List Tl) (j : Nat) (x : Tl), l[j]? = some x → (tcs l)[j * 2]? = some (.int .i64 x.1.1) ∧ (tcs l)[j * 2 + 1]? = some (.slice x.2.1 x.1.2.length x.2.2)
  | [], _, _, h => by simp at h
  | y :: l, 0, x, h => by simp at h; subst h; exact ⟨rfl, rfl⟩
  | y :: l, j + 1, x, h => by
    simp at h
    have := tcs_at l j x h
    rw [show (j + 1) * 2 = j * 2 + 1 + 1 by omega]
    exact this
theorem tcs_rev : ∀ (l : List Tl) (j : Nat) (u : Value), (tcs l)[j]? = some u → ∃ (i : Nat) (x : Tl), l[i]? = some x ∧ ((j = i * 2 ∧ u = .int .i64 x.1.1) ∨ (j = i * 2 + 1 ∧ u = .slice x.2.1 x.1.2.length x.2.2))
  | [], _, _, h => by simp [tcs] at h
  | y :: l, 0, u, h => by simp [tcs] at h; exact ⟨0, y, rfl, Or.inl ⟨rfl, h.symm⟩⟩
  | y :: l, 1, u, h => by simp [tcs] at h; exact ⟨0, y, rfl, Or.inr ⟨rfl, h.symm⟩⟩
  | y :: l, j + 2, u, h => by
    simp [tcs] at h
    obtain ⟨i, x, h1, h2⟩ := tcs_rev l j u h
    refine ⟨i + 1, x, by simpa using h1, ?_⟩
    rcases h2 with ⟨rfl, h3⟩ | ⟨rfl, h3⟩
    · exact Or.inl ⟨by omega, h3⟩
    · exact Or.inr ⟨by omega, h3⟩
theorem info_tx : (Try.prog.info? 36).map (fun i => (i.zero, i.size, i.bytes)) = some (some (.agg #[.int .i64 0, .slice none 0 0]), 2, 32) := by kernel_rfl

/-- The slice v is a row of those transactions, made since w0; their blocks lie where they lay. -/
structure Tr (w0 w : World) (v : Value) (l : List Tl) : Prop where
  row : w.ownsRow 0 36 2 v l.length (tcs l)
  pv : ∀ x ∈ l, PV w0 x.2.1 x.1.2
  new : ∀ g, v.ownBlock = some g → w0.heap.size ≤ g
  at_ : At w0 w
theorem Tr.nil (w : World) : Tr w w (.slice none 0 0) [] := ⟨World.ownsRow_nil _ _ _ _, fun _ h => (by cases h), fun g hg => (by cases hg), At.start w⟩
section
variable {w0 w w' : World} {v v' : Value} {l : List Tl}
theorem tr_on (h : w.ownsRow 0 36 2 v l.length (tcs l)) (hA : At w w') : w'.ownsRow 0 36 2 v l.length (tcs l) := by
  refine ⟨h.1, ?_⟩
  rcases h.2 with h1 | ⟨g, cap, cur, hv', hB, hh, hr⟩
  · exact Or.inl h1
  · exact Or.inr ⟨g, cap, cur, hv', hB, hA.keep hh, hr⟩
theorem Tr.on (h : Tr w0 w v l) (hA : At w w') : Tr w0 w' v l := ⟨tr_on h.row hA, h.pv, h.new, h.at_.next hA⟩
theorem Tr.tv (h : Tr w0 w v l) : ∃ A c, v = .slice A l.length c ∧ TV w A (l.map (·.1)) := by
  rcases Joins.ownsRow_forms h.row with ⟨rfl, h0⟩ | ⟨g, cap, rfl⟩
  · refine ⟨none, 0, by rw [h0], Or.inl ?_⟩
    rw [List.eq_nil_of_length_eq_zero h0]; rfl
  · have hg := (row_lt h.row (g := g) rfl).1
    refine ⟨_, cap, rfl, Or.inr ⟨g, 0, rfl, hg, fun j hj => ?_⟩⟩
    rw [List.length_map] at hj
    have hc := h.row.cells (g := g) rfl
    obtain ⟨h1, h2⟩ := tcs_at l j l[j] (List.getElem?_eq_getElem hj)
    have k1 := hc _ _ h1
    have k2 := hc _ _ h2
    rw [Go.WideShapes.add_plain] at k1 k2
    have e : (l.map (·.1)).getD j txz = (l[j]).1 := by rw [List.getD_eq_getElem?_getD, List.getElem?_map, List.getElem?_eq_getElem hj]; rfl
    rw [e]
    exact ⟨k1, _, _, k2, (h.pv _ (List.getElem_mem hj)).on h.at_⟩
/-- More transactions behind such a row. -/
theorem Tr.more {m : List Tl} {n : Nat} (h : Tr w0 w v l) (hm : ∀ x ∈ m, PV w0 x.2.1 x.1.2) (hn : l.length + m.length = n) (hown : w'.ownsRow 0 36 2 v' n (tcs l ++ tcs m)) (hgrow : w.grownBy w' v.ownBlock) (hat : v'.ownBlock = v.ownBlock ∨ v'.ownBlock = some w.heap.size) : Tr w0 w' v' (l ++ m) := by
  have hmv : Mv (fun j => v.ownBlock = some j) w w' := (Mv.refl _ _).grown hgrow fun j hj => Or.inl hj
  refine ⟨by rw [tcs_app, List.length_append, hn]; exact hown, fun x hx => (List.mem_append.1 hx).elim (h.pv x) (hm x), fun g hg => ?_, hmv.at_ h.at_ h.new⟩
  rcases hat with e | e
  · exact h.new g (by rw [← e]; exact hg)
  · rw [e] at hg
    injection hg with hg
    rw [← hg]; exact h.at_.size
end
/-- What came in, as it lies. -/
theorem tv_tl {w : World} {g o : Nat} {L : List Tx} (h : TV w (some ⟨g, o, none⟩) L) : ∃ l : List Tl, l.map (·.1) = L ∧ (∀ x ∈ l, PV w x.2.1 x.1.2) ∧ (∀ j u, (tcs l)[j]? = some u → w.cell? ((⟨g, o, none⟩ : Addr).add j) = some u) ∧ ∀ j, j < L.length → ∃ B c, l[j]? = some (L.getD j txz, B, c) ∧ w.cell? ⟨g, o + j * 2 + 1, none⟩ = some (.slice B (L.getD j txz).2.length c) := by
  rcases Nat.eq_zero_or_pos L.length with h0 | h0
  · obtain rfl := List.eq_nil_of_length_eq_zero h0
    exact ⟨[], rfl, fun _ h => (by cases h), fun j u hj => (by simp [tcs] at hj), fun j hj => absurd hj (by simp)⟩
  · obtain ⟨g', o', e, hg, hc⟩ := h.pos h0
    injection e with e
    injection e with e1 e2
    subst e1 e2
    obtain ⟨G, hG⟩ : ∃ G : Nat → Option Addr × Nat, ∀ j, j < L.length → w.cell? ⟨g, o + j * 2 + 1, none⟩ = some (.slice (G j).1 (L.getD j txz).2.length (G j).2) ∧ PV w (G j).1 (L.getD j txz).2 :=
      ⟨fun j => if h : j < L.length then ((hc j h).2.choose, (hc j h).2.choose_spec.choose) else (none, 0), fun j hj => by simp only [dif_pos hj]; exact (hc j hj).2.choose_spec.choose_spec⟩
    have hl : ∀ j, j < L.length → ((List.range L.length).map fun j => (L.getD j txz, G j))[j]? = some (L.getD j txz, G j) := fun j hj => by
      rw [List.getElem?_map, List.getElem?_range hj]; rfl
    refine ⟨(List.range L.length).map fun j => (L.getD j txz, G j), ?_, fun x hx => ?_, fun j u hj => ?_, fun j hj => ⟨(G j).1, (G j).2, hl j hj, (hG j hj).1⟩⟩
    · refine List.ext_getElem (by simp) fun j h1 h2 => ?_
      simp only [List.getElem_map, List.getElem_range]
      rw [List.getD_eq_getElem?_getD, List.getElem?_eq_getElem h2]; rfl
    · obtain ⟨j, hj, rfl⟩ := List.mem_map.1 hx
      exact (hG j (List.mem_range.1 hj)).2
    · obtain ⟨i, x, h1, h2⟩ := tcs_rev _ j u hj
      have hi : i < L.length := by
        have := (List.getElem?_eq_some_iff.1 h1).1
        simpa using this
      rw [hl i hi] at h1
      injection h1 with h1
      subst h1
      rw [Go.WideShapes.add_plain]
      rcases h2 with ⟨rfl, rfl⟩ | ⟨rfl, rfl⟩
      · exact (hc i hi).1
      · have := (hG i hi).1
        rw [← Nat.add_assoc]; exact this

theorem la_take {L : List Tx} {k j : Nat} (h : j < k) : la (L.take k) j = la L j := by
  cases j with
  | zero => rfl
  | succ j =>
    show ((L.take k).getD j txz).1 = (L.getD j txz).1
    rw [show (L.take k).getD j txz = L.getD j txz by simp only [List.getD_eq_getElem?_getD, List.getElem?_take, if_pos (show j < k by omega)]]
theorem od_take {L : List Tx} (h : Od L) (k : Nat) : Od (L.take k) := fun j hj => by
  rw [List.length_take] at hj
  have := h j (by omega)
  rw [la_take (by omega), show (L.take k).getD j txz = L.getD j txz by simp only [List.getD_eq_getElem?_getD, List.getElem?_take, if_pos (show j < k by omega)]]
  exact this
theorem od_ge {L : List Tx} (h : Od L) : ∀ j, j < L.length → ((j : Int) + 1) ≤ (L.getD j txz).1 := fun j => by
  induction j with
  | zero => intro hj; have := (h 0 hj).lo; simp only [la] at this; omega
  | succ j ih => intro hj; have h1 := ih (by omega); have h2 := (h (j + 1) hj).lo; simp only [la] at h2; push_cast; omega
theorem od_drop {L : List Tx} (h : Od L) : Od (L.drop 1) := fun j hj => by
  rw [List.length_drop] at hj
  have e : ∀ i, (L.drop 1).getD i txz = L.getD (1 + i) txz := fun i => by simp only [List.getD_eq_getElem?_getD, List.getElem?_drop]
  have h1 := h (1 + j) (by omega)
  rw [e]
  refine ⟨?_, h1.hi, h1.ne, h1.rs⟩
  cases j with
  | zero => have := od_ge h 1 (by omega); simp only [la]; rw [show 1 + 0 = 1 from rfl]; omega
  | succ j =>
    have h2 := h1.lo
    have e2 : la (L.drop 1) (j + 1) = la L (1 + (j + 1)) := by
      show ((L.drop 1).getD j txz).1 = _
      rw [e, show 1 + (j + 1) = (1 + j) + 1 by omega]; rfl
    rw [e2]; exact h2
theorem od_lt {L : List Tx} (h : Od L) : ∀ j i, i < j → j < L.length → (L.getD i txz).1 < (L.getD j txz).1 := fun j => by
  induction j with
  | zero => intro i hi; omega
  | succ j ih =>
    intro i hi hj
    have h2 := (h (j + 1) hj).lo
    simp only [la] at h2
    rcases Nat.lt_or_ge i j with h3 | h3
    · have := ih i h3 (by omega); omega
    · rw [show i = j by omega]; exact h2
theorem not_od_back {L : List Tx} {j : Nat} (hj : j + 1 < L.length) (h : (L.getD (j + 1) txz).1 ≤ (L.getD j txz).1) : odB L = false := odB_no fun ho => by
  have := (ho (j + 1) hj).lo
  simp only [la] at this
  omega
theorem od_turn {L : List Tx} (h : Od L) (h2 : 2 ≤ L.length) : odB L.reverse = false := by
  refine not_od_back (j := 0) (by rw [List.length_reverse]; omega) ?_
  have e : ∀ i, i < L.length → L.reverse.getD i txz = L.getD (L.length - 1 - i) txz := fun i hi => by
    rw [List.getD_eq_getElem?_getD, List.getElem?_reverse hi, List.getD_eq_getElem?_getD]
  rw [e 0 (by omega), e 1 (by omega)]
  have := od_lt h (L.length - 1 - 0) (L.length - 1 - 1) (by omega) (by omega)
  omega
theorem od_again {L : List Tx} (h : Od L) (h2 : 2 ≤ L.length) : odB (L ++ [L.getD 0 txz]) = false := by
  refine not_od_back (j := L.length - 1) (by simp; omega) ?_
  have e1 : (L ++ [L.getD 0 txz]).getD (L.length - 1 + 1) txz = L.getD 0 txz := by
    rw [show L.length - 1 + 1 = L.length by omega, List.getD_eq_getElem?_getD, List.getElem?_append_right (Nat.le_refl _), Nat.sub_self]; rfl
  have e2 : (L ++ [L.getD 0 txz]).getD (L.length - 1) txz = L.getD (L.length - 1) txz := by
    rw [List.getD_eq_getElem?_getD, List.getElem?_append_left (by omega), List.getD_eq_getElem?_getD]
  rw [e1, e2]
  have := od_lt h (L.length - 1) 0 (by omega) (by omega)
  omega

end Go.Proofs.Ytcffoebpgjonmaa
