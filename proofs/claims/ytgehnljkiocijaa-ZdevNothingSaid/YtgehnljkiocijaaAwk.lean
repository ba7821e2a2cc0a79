/- Proved: awake answers true and writes only what is new. -/
import Derived.Test.YtgehnljkiocijaaCra
namespace Go.Proofs.Ytgehnljkiocijaa
open Go.RowKit

set_option maxHeartbeats 1000000 in
set_option maxRecDepth 100000 in
theorem awake_any (w : World) : Calls Try.prog 7 #[] w (Gives (.bool true) w) := by
  go_enter Try.func7, Try.ntmps7
  go_wp2_with fail
  refine (least_any _).mono ?_
  rintro e w1 ⟨rfl, a1⟩
  have A1 : Hid (At w w1) := Lib.hid a1
  clear a1
  go_wp2_with fail
  refine (new_any 96 (by omega) (by omega) _).mono ?_
  rintro e w2 ⟨b, z, rfl, hn⟩
  have N2 := Lib.hid (hn.from_ A1.out)
  clear hn A1
  go_wp2_with fail
  refine (block_any 1 _).mono ?_
  rintro e w3 ⟨pb, rfl, hp, hbv, a3⟩
  have V3 := Lib.hid (N2.out.dv.on a3)
  have hfl : ¬ Ft b z (fun _ => Zr.none) pb := fun hg => by have := N2.out.dv.lt pb hg; omega
  have HB := Lib.hid (And.intro hbv hfl)
  have A3 : Hid (At w w3) := Lib.hid (N2.out.stands.next a3)
  clear hp hbv a3 hfl
  go_wp2_with fail
  refine (append_room V3.out (by omega) 0 (by omega) (by show 0 < 96; omega) pb 0 64 (bk 1) (bk_len 1) HB.out.1 HB.out.2).mono ?_
  rintro e w4 ⟨g, c, rfl, hv, hd⟩
  have V4 := Lib.hid hv
  have A4 := Lib.hid (hd.at_ A3.out N2.out.ft)
  clear hv hd
  go_wp2_with fail
  refine (crash_dv V4.out none none 0 0 0 0 0 0 (Or.inl ⟨rfl, rfl⟩) (Or.inl ⟨rfl, rfl⟩) (fun _ _ => Or.inl rfl) (fun _ _ => Or.inl rfl)).mono ?_
  rintro e w5 ⟨b', z', S', rfl, hv, hs, _, a5⟩
  have V5 := Lib.hid hv
  have A5 : Hid (At w w5) := Lib.hid (A4.out.1.next a5)
  have hs0 : (S' 0).n = 0 := by rw [(hs 0 (by omega)).1, up_same]; rfl
  have HS0 := Lib.hid hs0
  clear hv hs a5 hs0
  go_wp2_with fail
  refine (pointer_dv V5.out 0 (by omega)).mono ?_
  rintro e w6 ⟨rfl, rfl⟩
  rw [HS0.out]
  go_wp2
  go_ret
  exact ⟨rfl, A5.out⟩

end Go.Proofs.Ytgehnljkiocijaa
