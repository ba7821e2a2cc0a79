/- Proved: a zone, and a slice of zones, that read as data are whole numbers three by three. -/
import Derived.Test.YtefpaagbopmmlaaAwk
import Derived.Deep.Slices
import Derived.Lib.SmallJoins
import Derived.ProofKit
import Derived.OpenShut
namespace Go.Proofs.Ytefpaagbopmmlaa
open Go.ChangeShapes Go.WideShapes Go.ChangeAt Go.RowKit Fl

theorem int_of_trod {H : Type} {enc : TypeId × Value → H} {P : Program} {w : World} {base : Nat} {spare : Nat → Bool} {held : Bool} {n : Nat} {e : TypeId} {v : Value} {y : DataW H × List MemPlace}
    (ht : P.underlying e = some (.int .i64)) (h : DataW.trod enc P w base spare held n e [v] = some y) : ∃ z : Int, v = .int .i64 z := by
  cases n with
  | zero => simp [DataW.trod] at h
  | succ n =>
    unfold DataW.trod at h
    rw [ht] at h
    cases v <;> simp at h
    rename_i k z
    exact ⟨z, by simp_all⟩
theorem zone_cells : Try.prog.cellsOf 23 = 3 := by kernel_rfl

/-- A zone that came in. -/
theorem open_zone {H : Type} {enc : TypeId × Value → H} {W : World} {r : Reach} {b0 : Nat} {v : Value} {d : DataW H} {p : List MemPlace} {base : Nat} {spare : Nat → Bool} {held : Bool}
    (hv : Value.okWide Try.prog W r b0 23 v) (h : DataW.Trod enc Try.prog W base spare held 23 v d p) : ∃ l s t : Int, v = zv l s t := by
  obtain ⟨v0, v1, v2, y0, y1, y2, n, rfl, _, _, h0, h1, h2⟩ := Go.Joins.open_agg3 Try.underlying23 (by kernel_rfl) zone_cells hv h
  obtain ⟨l, rfl⟩ := int_of_trod Try.underlying3 h0
  obtain ⟨s, rfl⟩ := int_of_trod Try.underlying3 h1
  obtain ⟨t, rfl⟩ := int_of_trod Try.underlying3 h2
  exact ⟨l, s, t, rfl⟩

end Go.Proofs.Ytefpaagbopmmlaa
