/- Proved: the law's own small book answers as the document fixes it. -/
import Derived.Test.YtjgmgkglpfcihaaLis
namespace Go.Proofs.Ytjgmgkglpfcihaa
open Go.RowKit

set_option maxHeartbeats 1000000 in
set_option maxRecDepth 100000 in
theorem awake_any (w : World) : Calls Try.prog 8 #[] w (Gives (.bool true) w) := by
  have HN := Lib.hid (new_any 5 w)
  go_enter Try.func8, Try.ntmps8
  go_wp2_with fail
  refine HN.out.mono ?_
  rintro e w1 ⟨b, mb, rfl, hb, hb1, hb2, hA⟩
  have HA := Lib.hid hA
  have HF : Hid (∀ g, Bf b mb g → w.heap.size ≤ g) := Lib.hid (by rintro g (rfl | rfl); exact hb1; exact hb2)
  have hO := open_ok hb 5 (by decide) (by decide) (by decide) (by decide)
  rw [show (((st0 5).g : Nat) : Int) + 1 = 1 from rfl] at hO
  have HO := Lib.hid hO
  clear hb hb1 hb2 hA hO HN
  go_wp2_with fail
  refine HO.out.mono ?_
  rintro e w2 ⟨rfl, hb, hm⟩
  have HA2 := Lib.hid (hm.at_ HA.out HF.out)
  have hO := open_ok hb 3 (by decide) (by decide) (by decide) (by decide)
  rw [show (((op (st0 5) 5).g : Nat) : Int) + 1 = 2 from rfl] at hO
  have HO2 := Lib.hid hO
  clear hb hm hO HO
  go_wp2_with fail
  refine HO2.out.mono ?_
  rintro e w3 ⟨rfl, hb, hm⟩
  have HA3 := Lib.hid (hm.at_ HA2.out HF.out)
  have hL := low_bk hb 9
  rw [show lo (op (op (st0 5) 5) 3) 9 = 3 by decide] at hL
  have HL := Lib.hid hL
  clear hb hm hL HO2
  go_wp2_with fail
  refine HL.out.mono ?_
  rintro e w4 ⟨rfl, hA⟩
  have HA4 := Lib.hid (HA3.out.next hA)
  clear hA
  go_wp2
  go_ret
  exact ⟨rfl, HA4.out⟩

end Go.Proofs.Ytjgmgkglpfcihaa
