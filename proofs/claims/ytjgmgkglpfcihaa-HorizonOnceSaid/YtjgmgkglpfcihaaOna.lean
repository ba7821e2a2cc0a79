/- Proved: the law HorizonOnce's walk, whatever comes in. -/
import Derived.Test.YtjgmgkglpfcihaaOnw
namespace Go.Proofs.Ytjgmgkglpfcihaa
open Go.RowKit

theorem once_any (M : Int) (A : Option Addr) (u c : Nat) (Z : List (Int × Int)) (hl : Z.length = u) (hk : ∀ s ∈ Z, Kw s.2) (w : World) (hv : SV w A Z) : Calls Try.prog 6 #[.int .i64 M, .slice A u c] w (Gives (.bool true) w) := by
  by_cases h : Onin M u
  · exact once_in M A u c Z h.1 h.2.1 h.2.2 hl hk w hv
  · exact once_out M A u c h w

end Go.Proofs.Ytjgmgkglpfcihaa
