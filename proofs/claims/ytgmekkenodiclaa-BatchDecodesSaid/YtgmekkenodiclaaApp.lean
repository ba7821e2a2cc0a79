/- Proved: words for an append to an empty row of a call's own, and one more behind it. -/
import Derived.Test.YtgmekkenodiclaaRow
import Derived.Laws.AppendOwnNone
namespace Go.Proofs.Ytgmekkenodiclaa
open Go.RowKit

theorem made_own (w : World) : (w.alloc (.cells #[] 5)).ownsRow w.heap.size 5 1 (.slice (some ⟨w.heap.size, 0, none⟩) 0 0) 0 [] := World.ownsRow_made w #[] 0 (Nat.le_refl _) (by unfold maxLen; omega) rfl
theorem BV.src {w : World} {ad : Addr} {L : List Nat} (h : BV w (some ad) L) : ∀ j u, (L.map bt)[j]? = some u → w.cell? (ad.add j) = some u := by
  intro j u hu
  by_cases h0 : 0 < L.length
  · obtain ⟨a, e, _, hc⟩ := h.cells h0
    injection e with e
    subst e
    exact hc j u hu
  · have : L = [] := List.eq_nil_of_length_eq_zero (by omega)
    subst this
    simp at hu
theorem grow_one {w wa : World} {o : Obj} {v v' : Value} {n : Nat} {P : List Nat} (hm : (w.alloc o).ownsRow w.heap.size 5 1 v 0 []) (ho : wa.ownsRow w.heap.size 5 1 v' (0 + n) ([] ++ P.map bt)) (hg : (w.alloc o).grownBy wa v.ownBlock) :
    Hid (wa.ownsRow w.heap.size 5 1 v' n (P.map bt)) ∧ Hid (At w wa) := by
  refine ⟨Lib.hid (by simpa using ho), Lib.hid ?_⟩
  exact ((Below.refl _ _).alloc (Nat.le_refl _) _).grown hg (by simp) (fun j hj => (hm.lt j hj).1)
theorem grow_two {w wa wb : World} {v v' : Value} {n m : Nat} {P L : List Nat} (hm : wa.ownsRow w.heap.size 5 1 v n (P.map bt)) (hb : At w wa) (ho : wb.ownsRow w.heap.size 5 1 v' (n + m) (P.map bt ++ L.map bt)) (hg : wa.grownBy wb v.ownBlock) :
    Hid (wb.ownsRow w.heap.size 5 1 v' (n + m) ((P ++ L).map bt)) ∧ Hid (At w wb) := by
  refine ⟨Lib.hid (by simpa using ho), Lib.hid ?_⟩
  exact Below.grown hb hg hb.size (fun j hj => (hm.lt j hj).1)

/-- An append to a row of the call's own, of whatever slice of bytes, nil too. -/
theorem list_append {w : World} {ops : Array Oper} {rest : List Oper} {o : Oper} {a : Act} {Q : Exit → Act → World → Prop} (hgd : o.guard = none) (s x : Operand)
    (ho : o.op = .call { callee := .builtin .append, args := #[s, x], argTypes := #[39, 39] }) (base : Nat) (v : Value) (n : Nat) (xs : List Nat) (hs : a.eval s = v) (hown : w.ownsRow base 5 1 v n (xs.map bt))
    (A : Option Addr) (m c : Nat) (L : List Nat) (hx : a.eval x = .slice A m c) (hz : A = none → m = 0 ∧ c = 0) (hv : BV w A L) (hl : L.length = m) (h63 : n + m ≤ 1000000) (hbase : base ≤ w.heap.size)
    (h : ∀ v' w', w'.ownsRow base 5 1 v' (n + m) ((xs ++ L).map bt) → (∀ w0, At w0 w → w0.heap.size ≤ base → At w0 w') → wpList Try.prog ops Q rest (a.put o.dst v') w') : wpList Try.prog ops Q (o :: rest) a w := by
  obtain ⟨i0, hi, hz0, hz1, hz2⟩ := info_parts info_u8
  cases A with
  | none =>
    obtain ⟨rfl, rfl⟩ := hz rfl
    obtain rfl : L = [] := List.eq_nil_of_length_eq_zero hl
    refine wpList_append_own_none hgd s x 39 ho base 5 i0 1 Try.underlying39 hi v n (xs.map bt) hs hown hx ?_
    exact h v w (by rw [List.append_nil]; exact hown) (fun _ h _ => h)
  | some ad =>
    refine wpList_append_own _ hgd s x 39 ho base 5 i0 (.int .u8 0) 1 1 Try.underlying39 hi hz0 hz1 hz2 rfl (by decide) v n (xs.map bt) hs hown ad m c (L.map bt) hx (by rw [List.length_map, hl, Nat.mul_one]) hv.src (bt_one _) (by unfold maxLen; omega) (by omega) hbase ?_
    intro v' w' ho' hg _
    exact h v' w' (by rw [List.map_append]; exact ho') (fun w0 h0 hle => Below.grown h0 hg h0.size (fun j hj => Nat.le_trans hle (hown.lt j hj).1))

end Go.Proofs.Ytgmekkenodiclaa
