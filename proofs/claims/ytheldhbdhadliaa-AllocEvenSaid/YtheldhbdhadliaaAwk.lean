/- Proved: awake answers true and writes only what is new. -/
import Derived.Test.YtheldhbdhadliaaTak
namespace Go.Proofs.Ytheldhbdhadliaa
open Go.RowKit

theorem awk_one : Least (nw 2) 2 0 := by rw [ev_start]; exact ev_least (by omega)
theorem awk_two : Least (tk (nw 2) 0) 2 1 := by
  have hl : 0 < (nw 2).length := by rw [nw_len]; omega
  refine ⟨by omega, by rw [tk_at _ _ _ hl, nw_at 2 1 (by omega)]; rfl, fun j hj ht => ?_⟩
  rw [tk_at _ _ _ hl] at ht
  by_cases e : j = 0
  · rw [if_pos e] at ht; cases ht
  · obtain rfl : j = 1 := by omega
    exact ⟨Nat.le_refl _, fun h => absurd h (Nat.lt_irrefl _)⟩
theorem awk_nf : nf (tk (nw 2) 0) = 1 := by
  have := nf_tk (L := nw 2) (k := 0) (by rw [nw_len]; omega) (by rw [nw_at 2 0 (by omega)])
  rw [nf_nw] at this; omega

set_option maxHeartbeats 1000000 in
set_option maxRecDepth 100000 in
theorem awake_any (w : World) : Calls Try.prog 8 #[] w (Gives (.bool true) w) := by
  have HN0 : Hid (nf (nw 2) = 2) := Lib.hid (nf_nw 2)
  have HN1 := Lib.hid awk_nf
  go_enter Try.func8, Try.ntmps8
  go_wp2_with fail
  refine (new_ok 2 1 (by omega) (by omega) (by omega) _).mono ?_
  rintro e w1 ⟨b, z, rfl, hn⟩
  have N1 := Lib.hid hn
  clear hn
  go_wp2_with fail
  refine (take_some N1.out.al false 0 (by rw [HN0.out]; omega) (fun _ => by rw [HN0.out]; omega) awk_one).mono ?_
  rintro e w2 ⟨rfl, hv, hm⟩
  have V2 := Lib.hid hv
  have A2 : Hid (At w w2) := Lib.hid (hm.at_ N1.out.stands (by rintro g rfl; exact N1.out.nz))
  clear hv hm
  go_wp2_with fail
  refine (take_none V2.out false (Or.inr ⟨rfl, by rw [HN1.out]; omega⟩)).mono ?_
  rintro e w3 ⟨rfl, hv, hm⟩
  have V3 := Lib.hid hv
  have A3 : Hid (At w w3) := Lib.hid (hm.at_ A2.out (by rintro g rfl; exact N1.out.nz))
  clear hv hm
  go_wp2_with fail
  refine (take_some V3.out true 1 (by rw [HN1.out]; omega) (fun h => by cases h) awk_two).mono ?_
  rintro e w4 ⟨rfl, hv, hm⟩
  have A4 : Hid (At w w4) := Lib.hid (hm.at_ A3.out (by rintro g rfl; exact N1.out.nz))
  clear hv hm
  go_wp2
  go_ret
  exact ⟨rfl, A4.out⟩

end Go.Proofs.Ytheldhbdhadliaa
