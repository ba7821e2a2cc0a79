/- Proved: laws for rows of transactions at an operation: an append, an empty row, a row of one; the state of a region that lays such rows. -/
import Derived.Test.YtcffoebpgjonmaaTr
import Derived.Great.BuildSlice
namespace Go.Proofs.Ytcffoebpgjonmaa
open Go.RowKit

theorem tx_parts : ∃ i z, Try.prog.info? 36 = some i ∧ i.zero = some z ∧ i.size = 2 ∧ i.bytes = 32 ∧ z.cells.size = 2 := by
  cases h : Try.prog.info? 36 with
  | none => exact absurd h (by have : (Try.prog.info? 36).isSome = true := by kernel_rfl
                               intro e; rw [e] at this; cases this)
  | some i =>
    have h1 := info_tx
    rw [h] at h1
    simp only [Option.map_some, Option.some.injEq, Prod.mk.injEq] at h1
    exact ⟨i, _, rfl, h1.1, h1.2.1, h1.2.2, rfl⟩
section
variable {w0 w : World} {v : Value} {l : List Tl} {a : Act}
theorem wp_txs {o : Oper} {K : Act → World → Prop} {Q : Exit → Act → World → Prop} (hT : Tr w0 w v l) (s x : Operand)
    (ho : o.op = .call { callee := .builtin .append, args := #[s, x], argTypes := #[22, 22] }) (k n r : Nat) (hl : l.length = k) (hs : a.eval s = v) (ad : Addr) (c : Nat) (m : List Tl) (hx : a.eval x = .slice (some ad) n c) (hm : m.length = n) (h0 : 0 < n)
    (hc : ∀ j u, (tcs m)[j]? = some u → w.cell? (ad.add j) = some u) (hp : ∀ x ∈ m, PV w0 x.2.1 x.1.2) (hr : k + n = r) (hk : r ≤ 100000)
    (h : ∀ g c' w', Hid (Tr w0 w' (.slice (some ⟨g, 0, none⟩) r c') (l ++ m) ∧ Mv (fun j => v.ownBlock = some j) w w' ∧ (v.ownBlock = some g ∨ g = w.heap.size)) → K (a.put o.dst (.slice (some ⟨g, 0, none⟩) r c')) w') : o.wp Try.prog a w K Q := by
  obtain ⟨i0, z0, hi, hz0, hz1, hz2, hz3⟩ := tx_parts
  subst hr hl
  refine wp_append_lies w s x 22 ho 0 36 i0 z0 2 32 Try.underlying22 hi hz0 hz1 hz2 hz3 (by omega) v l.length (tcs l) hs hT.row ad n c (tcs m) hx (by rw [tcs_len, hm]) hc (tcs_cells m) h0 (by unfold maxLen; omega) (by omega) (Nat.zero_le _) w.heap.size rfl fun g cap w' h1 h2 h3 h4 => h g cap w' (Lib.hid ⟨?_, (Mv.refl _ _).grown h2 fun j hj => Or.inl hj, h3⟩)
  refine hT.more hp (by rw [hm]) h1 h2 ?_
  rcases h3 with e | e
  · exact Or.inl (by rw [e]; rfl)
  · exact Or.inr (by rw [← e]; rfl)
theorem txs_append {ops : Array Oper} {rest : List Oper} {o : Oper} {Q : Exit → Act → World → Prop} (hgd : o.guard = none) (hT : Tr w0 w v l) (s x : Operand)
    (ho : o.op = .call { callee := .builtin .append, args := #[s, x], argTypes := #[22, 22] }) (k n r : Nat) (hl : l.length = k) (hs : a.eval s = v) (ad : Addr) (c : Nat) (m : List Tl) (hx : a.eval x = .slice (some ad) n c) (hm : m.length = n) (h0 : 0 < n)
    (hc : ∀ j u, (tcs m)[j]? = some u → w.cell? (ad.add j) = some u) (hp : ∀ x ∈ m, PV w0 x.2.1 x.1.2) (hr : k + n = r) (hk : r ≤ 100000)
    (h : ∀ g c' w', Hid (Tr w0 w' (.slice (some ⟨g, 0, none⟩) r c') (l ++ m) ∧ Mv (fun j => v.ownBlock = some j) w w' ∧ (v.ownBlock = some g ∨ g = w.heap.size)) → wpList Try.prog ops Q rest (a.put o.dst (.slice (some ⟨g, 0, none⟩) r c')) w') : wpList Try.prog ops Q (o :: rest) a w :=
  wpList_plain hgd fun _ hK => wp_txs hT s x ho k n r hl hs ad c m hx hm h0 hc hp hr hk fun g c' w' hh => hK _ _ (h g c' w' hh)
end
/-- A row of one transaction, just laid. -/
theorem tx_cell (w : World) (T : Int) (B : Option Addr) (P : List Pt) (m c : Nat) (hm : P.length = m) : ∀ j u, (tcs [((T, P), B, c)])[j]? = some u → (w.alloc (.cells #[.int .i64 T, .slice B m c] 36)).cell? ((⟨w.heap.size, 0, none⟩ : Addr).add j) = some u := fun j u hj => by
  rw [Go.WideShapes.add_plain, cell_at (heap_alloc_new w _), Nat.zero_add]
  subst hm
  match j, hj with
  | 0, hj => simpa [tcs] using hj
  | 1, hj => simpa [tcs] using hj
  | j + 2, hj => simp [tcs] at hj

/-- A guard on the world of an arm. -/
theorem at_world {P : Program} {c : Prop} {_d : Decidable c} {o : Oper} {a : Act} {K : Act → World → Prop} {Q : Exit → Act → World → Prop} {E : Prop} (W : World) (h : @ite _ c _d (Oper.wp P o a W K Q) E) : @ite _ c _d (Oper.wp P o a W K Q) E := h
theorem own_is {a b n c : Nat} (e : (Value.slice (some ⟨a, 0, none⟩) n c).ownBlock = some b) : a = b := by injection e
/-- An empty row and a row of one, laid in either order, or the empty one alone. -/
structure Em3 (w0 w : World) (cs : Array Value) : Prop where
  a : Tr w0 (w.alloc (.cells #[] 36)) (.slice (some ⟨w.heap.size, 0, none⟩) 0 0) []
  b : Tr w0 ((w.alloc (.cells #[] 36)).alloc (.cells cs 36)) (.slice (some ⟨w.heap.size, 0, none⟩) 0 0) []
  c : Tr w0 ((w.alloc (.cells cs 36)).alloc (.cells #[] 36)) (.slice (some ⟨w.heap.size + 1, 0, none⟩) 0 0) []
  sb : ((w.alloc (.cells #[] 36)).alloc (.cells cs 36)).heap[w.heap.size + 1]? = some (.cells cs 36 (0, 0))
  sc : ((w.alloc (.cells cs 36)).alloc (.cells #[] 36)).heap[w.heap.size]? = some (.cells cs 36 (0, 0))
theorem em3 {w0 w : World} (hA : At w0 w) (cs : Array Value) : Em3 w0 w cs := by
  have he : Tr w0 (w.alloc (.cells #[] 36)) (.slice (some ⟨w.heap.size, 0, none⟩) 0 0) [] := by
    refine ⟨made_row w 36 2, fun _ h => (by cases h), fun g hg => ?_, hA.next ((At.start w).alloc _)⟩
    have hg' : w.heap.size = g := by injection hg
    rw [← hg']; exact hA.size
  have hs1 : (w.alloc (.cells #[] 36)).heap.size = w.heap.size + 1 := by simp
  have hs2 : (w.alloc (.cells cs 36)).heap.size = w.heap.size + 1 := by simp
  refine ⟨he, he.on ((At.start _).alloc _), ⟨?_, fun _ h => (by cases h), fun g hg => ?_, hA.next (((At.start w).alloc _).alloc _)⟩, ?_, ?_⟩
  · rw [← hs2]; exact made_row (w.alloc (.cells cs 36)) 36 2
  · have hg' : w.heap.size + 1 = g := by injection hg
    have := hA.size
    omega
  · rw [← hs1]; exact heap_alloc_new _ _
  · exact At.keep ((At.start _).alloc _) (heap_alloc_new w _)
/-- A row of one that lies as it was laid. -/
theorem tx_kept {w : World} {g : Nat} {T : Int} {B : Option Addr} {P : List Pt} {m c : Nat} (hm : P.length = m) (h : w.heap[g]? = some (.cells #[.int .i64 T, .slice B m c] 36 (0, 0))) : ∀ j u, (tcs [((T, P), B, c)])[j]? = some u → w.cell? ((⟨g, 0, none⟩ : Addr).add j) = some u := fun j u hj => by
  rw [Go.WideShapes.add_plain, cell_at h, Nat.zero_add]
  subst hm
  match j, hj with
  | 0, hj => simpa [tcs] using hj
  | 1, hj => simpa [tcs] using hj
  | j + 2, hj => simp [tcs] at hj

end Go.Proofs.Ytcffoebpgjonmaa
