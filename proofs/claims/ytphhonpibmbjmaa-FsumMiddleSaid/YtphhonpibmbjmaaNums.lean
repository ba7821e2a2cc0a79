/- Proved: a call that leaves the world alone, met inside a region. -/
import Derived.Test.YtphhonpibmbjmaaRef
namespace Go.Proofs.Ytphhonpibmbjmaa
open Go.RowKit Fl

/-- A call that leaves the world alone, met inside a region whose world has already been drawn from. -/
theorem same_drawn {P : Program} {f : FuncId} {args : Array Value} {w : World} {a n : Nat} {v : Value} (h : Calls P f args (w.drewN (a + n)) fun e w' => e = .returned v ∧ w.drewN (a + n) = w') :
    Calls P f args (w.drewN (a + n)) fun e w'' => e = .returned v ∧ ∃ m, w'' = w.drewN (a + m) :=
  h.mono fun _ _ hr => ⟨hr.1, n, hr.2.symm⟩

end Go.Proofs.Ytphhonpibmbjmaa
