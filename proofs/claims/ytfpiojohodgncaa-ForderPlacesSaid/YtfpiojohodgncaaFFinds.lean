/- Proved: the law ForderFinds answers true at every list and every three numbers, and leaves what there was as it was, if forder keeps its chapter (said as hypotheses on its functions' calls). -/
import Derived.Test.YtfpiojohodgncaaFAsks
namespace Go.Proofs.Ytfpiojohodgncaa
open Go.RowKit Fl

theorem rfind_below (v : Value) (L : List Nat) (x : Nat) (w : World) (hv : View w v L) (hb : L.length ≤ 1000000) (hf : ∀ x ∈ L, x < 18446744073709551616) (hxl : x < 18446744073709551616) :
    Calls Try.prog 23 #[v, .float .f64 x] w fun e w' => ∃ k ok, IsFind L x k ok ∧ e = .returned (.tuple #[.int .i64 (k : Int), .bool ok]) ∧ Below w.heap.size w w' :=
  (rfind_view v L x w hv hb hf hxl).mono fun _ _ ⟨k, ok, a, b, m, c⟩ => ⟨k, ok, a, b, below_first m c⟩

set_option maxHeartbeats 2000000 in
theorem ffinds_big (hC : DCompare) (hS : DSort) (hM : DMost0 13) (x lo hi : Nat) (a0 : Option Addr) (len cap : Nat) (hl : 300 < len) (w : World) :
    Calls Try.prog 4 #[.slice a0 len cap, .float .f64 x, .float .f64 lo, .float .f64 hi] w fun e w' => e = .returned (.bool true) ∧ Below w.heap.size w w' := by
  have q : decide (len ≤ 300) = false := decide_eq_false (by omega)
  have hl := Lib.hid hl
  go_enter Try.func4, Try.ntmps4
  go_wp2_with (first | (go_at_call 11; refine (small_any _ _ _ _).mono ?_; rintro e w' ⟨rfl, rfl⟩) | (go_at_call 12; refine (awake2_any hS hM hC _).mono ?_; rintro e w' ⟨rfl, hbelow⟩))
  go_ret
  exact ⟨rfl, by assumption⟩

theorem clS_lt (x lo hi : Nat) (hx : x < 18446744073709551616) (hlo : lo < 18446744073709551616) (hhi : hi < 18446744073709551616) : clS x lo hi < 18446744073709551616 := by
  unfold clS; repeat' split
  all_goals omega

set_option maxHeartbeats 4000000 in
theorem ffinds_small (hC : DCompare) (hS : DSort) (hM : DMost0 13) (hFi : DFind) (hCl : DClamp)
    (x lo hi : Nat) (hx : x < 18446744073709551616) (hlo : lo < 18446744073709551616) (hhi : hi < 18446744073709551616) (a0 : Option Addr) (len cap : Nat) (L : List Nat) (hl : len ≤ 300) (hL : L.length = len) (w : World) (hv : View w (.slice a0 len cap) L) (hf : ∀ x ∈ L, x < 18446744073709551616) :
    Calls Try.prog 4 #[.slice a0 len cap, .float .f64 x, .float .f64 lo, .float .f64 hi] w fun e w' => e = .returned (.bool true) ∧ Below w.heap.size w w' := by
  have q : decide (len ≤ 300) = true := decide_eq_true hl
  have HL : Hid (L.length ≤ 1000000) := Lib.hid (by omega)
  have HF := Lib.hid hf
  have HV := Lib.hid hv
  have hcl := clS_lt x lo hi hx hlo hhi
  have hcs : smB (clS x lo hi) (clS x lo hi) = true := decide_eq_true rfl
  clear hl hL hf hv
  go_enter Try.func4, Try.ntmps4
  go_wp2_with (go_at_call 11; refine (small_any _ _ _ _).mono ?_; rintro e w' ⟨rfl, rfl⟩)
  refine (rsort_view _ L _ HV.out HL.out HF.out).mono ?_
  rintro e w1 ⟨v1, R, rfl, hR, hv1, hb1⟩
  have HV1 := Lib.hid (view_below HV.out hb1)
  have HB1 := Lib.hid hb1
  have HW1 := Lib.hid hv1
  have HS1 := Lib.hid hR
  clear hb1 hR hv1
  go_wp2_with fail
  refine (hFi _ L x _ HV1.out HL.out HF.out hx).mono ?_
  rintro e w2 ⟨k2, ok2, i2, rfl, hb2⟩
  have HV2 := Lib.hid (view_below HV1.out hb2)
  have HW2 := Lib.hid (view_below HW1.out hb2)
  have HB2 := Lib.hid (below_next HB1.out hb2)
  clear hb2
  go_wp2_with fail
  refine (rfind_below _ L x _ HV2.out HL.out HF.out hx).mono ?_
  rintro e w3 ⟨k3, ok3, i3, rfl, hb3⟩
  obtain ⟨e1, e2⟩ := find_unique L x k2 k3 ok2 ok3 i2 i3
  subst e1 e2
  have HW3 := Lib.hid (view_below HW2.out hb3)
  have HB3 := Lib.hid (below_next HB2.out hb3)
  clear hb3 i2 i3
  go_wp2_with fail
  refine (hFi _ R x _ HW3.out (by rw [sorts_len HS1.out]; exact HL.out) HS1.out.2.2 hx).mono ?_
  rintro e w4 ⟨k4, ok4, i4, rfl, hb4⟩
  have HW4 := Lib.hid (view_below HW3.out hb4)
  have HB4 := Lib.hid (below_next HB3.out hb4)
  clear hb4
  go_wp2_with fail
  refine (rfind_below _ R x _ HW4.out (by rw [sorts_len HS1.out]; exact HL.out) HS1.out.2.2 hx).mono ?_
  rintro e w5 ⟨k5, ok5, i5, rfl, hb5⟩
  obtain ⟨e1, e2⟩ := find_unique R x k4 k5 ok4 ok5 i4 i5
  subst e1 e2
  have HB5 := Lib.hid (below_next HB4.out hb5)
  clear hb5 i4 i5
  go_wp2_with (first | (go_at_call 24; refine (hCl _ _ _ (by assumption) (by assumption) (by assumption) _).mono ?_; rintro e w' ⟨rfl, rfl⟩) | (go_at_call 25; refine (rclamp_any _ _ _ (by assumption) (by assumption) (by assumption) _).mono ?_; rintro e w' ⟨rfl, rfl⟩) | (go_at_call 21; refine (rsame_any _ _ (by assumption) (by assumption) _).mono ?_; rintro e w' ⟨rfl, rfl⟩) | (go_at_call 12; refine (awake2_any hS hM hC _).mono ?_; rintro e w' ⟨rfl, hbelow⟩))
  go_ret
  exact ⟨rfl, below_next HB5.out (by assumption)⟩

end Go.Proofs.Ytfpiojohodgncaa
