/- Proved: what the library's package-level variables hold when a call begins they hold behind it, for whatever lies in new blocks. -/
import Derived.Test.YtlbnfnfenphfbaaGreatDoorRef
import Derived.Test.YtlbnfnfenphfbaaGreatDoorTx
import Derived.Lib.LaidTab
import Derived.Lib.Itoa
import Derived.Lib.AtoiErrMem
import Derived.Lib.SmallJoins
namespace Go.Proofs.YtlbnfnfenphfbaaGreatDoor
open Go.RowKit Fl Tx

/-- The library's variables that the calls read, as start-up code lays them. -/
structure Env (w : World) : Prop where
  maxLen : ∃ m : Int, w.cell? ⟨1, 0, none⟩ = some (.int .i64 m)
  pow10 : Lib.TabIs Tryz.prog w "internal/strconv.uint64pow10" .u64 Lib.pow10Tab
  bruijn : w.cell? ⟨6, 15, none⟩ = some (.int .u8 4)
  synt : ∃ tp p, w.cell? ⟨2, 0, none⟩ = some (.iface tp p)
  rang : ∃ tp p, w.cell? ⟨3, 0, none⟩ = some (.iface tp p)

theorem Env.below {w w' : World} (h : Env w) (hb : Below w.heap.size w w') : Env w' := by
  obtain ⟨⟨m, h1⟩, h2, h3, ⟨t4, p4, h4⟩, ⟨t5, p5, h5⟩⟩ := h
  have lt {a : Addr} {v : Value} (h : w.cell? a = some v) : w'.cell? a = some v := (hb.cell (Lib.lt_of_cell h)).trans h
  exact ⟨⟨m, lt h1⟩, Joins.tab_stays (g := 4) (by kernel_rfl) h2 hb (Nat.le_refl _), lt h3, ⟨t4, p4, lt h4⟩, ⟨t5, p5, lt h5⟩⟩

end Go.Proofs.YtlbnfnfenphfbaaGreatDoor
