/- Proved: the law CrcAsks answers true at any bytes and any number and leaves what there was as it was: the landed sum is the document's own. -/
import Derived.Test.YtplddmkikdfonaaAwk
namespace Go.Proofs.Ytplddmkikdfonaa
open Go.RowKit

set_option maxHeartbeats 1000000 in
set_option maxRecDepth 100000 in
theorem ask_big (A : Option Addr) (m c v : Nat) (h : 2000 < m) (w : World) :
    Calls Try.prog 3 #[.slice A m c, .int .u32 (v : Int)] w (Gives (.bool true) w) := by
  have q : decide ((2000 : Int) < (m : Int)) = true := decide_eq_true (by omega)
  go_enter Try.func3, Try.ntmps3
  go_wp2_with (go_at_call 8; refine (awake_any _).mono ?_; rintro e w' ⟨rfl, hb⟩)
  go_ret
  exact ⟨rfl, hb⟩

set_option maxHeartbeats 2000000 in
set_option maxRecDepth 100000 in
theorem ask_small (A : Option Addr) (m c v : Nat) (L : List Nat) (hm : m ≤ 2000) (hl : L.length = m) (hL : AllB L) (w : World) (hb : BV w A L) :
    Calls Try.prog 3 #[.slice A m c, .int .u32 (v : Int)] w (Gives (.bool true) w) := by
  have q : decide ((2000 : Int) < (m : Int)) = false := decide_eq_false (by omega)
  have HO := Lib.hid (fun w' (h : At w w') => of_any A m c L (by omega) hl hL w' (h.bv hb))
  have HR := Lib.hid (fun w' (h : At w w') => rcrc_any A m c L (by omega) hl hL w' (h.bv hb))
  have HC := Lib.hid (fun u w' (h : At w w') => check_any A m c u L (by omega) hl hL w' (h.bv hb))
  obtain ⟨x, hx⟩ : ∃ x, x = cr L := ⟨_, rfl⟩
  rw [← hx] at HO HR HC
  clear hl hL hb hx
  go_enter Try.func3, Try.ntmps3
  go_wp2_with fail
  refine (HO.out _ (At.start _)).mono ?_
  rintro e w1 ⟨rfl, h1⟩
  have H1 : Hid (At w w1) := Lib.hid h1
  clear h1
  go_wp2_with fail
  refine (HR.out _ H1.out).mono ?_
  rintro e w2 ⟨rfl, rfl⟩
  go_wp2_with fail
  refine (HC.out _ _ H1.out).mono ?_
  rintro e w2 ⟨rfl, h2⟩
  have H2 : Hid (At w w2) := Lib.hid (H1.out.next h2)
  clear h2
  go_wp2_with fail
  refine (HR.out _ H2.out).mono ?_
  rintro e w3 ⟨rfl, rfl⟩
  go_wp2_with fail
  refine (HR.out _ H2.out).mono ?_
  rintro e w3 ⟨rfl, rfl⟩
  go_wp2_with fail
  refine (HC.out x _ H2.out).mono ?_
  rintro e w3 ⟨rfl, h3⟩
  have H3 : Hid (At w w3) := Lib.hid (H2.out.next h3)
  clear h3
  go_wp2_with fail
  refine (awake_any _).mono ?_
  rintro e w4 ⟨rfl, h4⟩
  have H4 : Hid (At w w4) := Lib.hid (H3.out.next h4)
  clear h4
  go_wp2
  go_ret
  exact ⟨rfl, H4.out⟩

end Go.Proofs.Ytplddmkikdfonaa
