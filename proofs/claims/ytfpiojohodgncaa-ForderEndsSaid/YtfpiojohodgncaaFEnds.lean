/- Proved: the law ForderEnds answers true at every list, and leaves what there was as it was, if forder keeps its chapter (said as hypotheses on its functions' calls). -/
import Derived.Test.YtfpiojohodgncaaEndsP
namespace Go.Proofs.Ytfpiojohodgncaa
open Go.RowKit Fl

set_option maxHeartbeats 2000000 in
theorem fends_out (hC : DCompare) (hS : DSort) (hM : DMost0 13) (a0 : Option Addr) (len cap : Nat) (hl : 300 < len ∨ len = 0) (w : World) :
    Calls Try.prog 7 #[.slice a0 len cap] w fun e w' => e = .returned (.bool true) ∧ Below w.heap.size w w' := by
  rcases hl with hl | rfl
  · have q : decide (len ≤ 300) = false := decide_eq_false (by omega)
    have hl := Lib.hid hl
    go_enter Try.func7, Try.ntmps7
    go_wp2_with (first | (go_at_call 11; refine (small_any _ _ _ _).mono ?_; rintro e w' ⟨rfl, rfl⟩) | (go_at_call 12; refine (awake2_any hS hM hC _).mono ?_; rintro e w' ⟨rfl, hbelow⟩))
    go_ret
    exact ⟨rfl, by assumption⟩
  · go_enter Try.func7, Try.ntmps7
    go_wp2_with (first | (go_at_call 11; refine (small_any _ _ _ _).mono ?_; rintro e w' ⟨rfl, rfl⟩) | (go_at_call 12; refine (awake2_any hS hM hC _).mono ?_; rintro e w' ⟨rfl, hbelow⟩))
    go_ret
    exact ⟨rfl, by assumption⟩

set_option maxHeartbeats 4000000 in
theorem fends_in (hC : DCompare) (hS : DSort) (hMin : DMost 13 (-1)) (hMax : DMost 15 1) (hM : DMost0 13)
    (a0 : Option Addr) (n cap : Nat) (L : List Nat) (hl : n + 1 ≤ 300) (hL : L.length = n + 1) (w : World) (hv : View w (.slice a0 (n + 1) cap) L) (hf : ∀ x ∈ L, x < 18446744073709551616) :
    Calls Try.prog 7 #[.slice a0 (n + 1) cap] w fun e w' => e = .returned (.bool true) ∧ Below w.heap.size w w' := by
  have q : n ≤ 299 := by omega
  have q0 : ((n : Int) + 1 == 0) = false := by rw [beq_eq_false_iff_ne]; omega
  have HL : Hid (L.length ≤ 1000000 ∧ L.length = n + 1) := Lib.hid ⟨by omega, hL⟩
  have HF := Lib.hid hf
  have HV := Lib.hid hv
  have b1 : (0 : Int) ≤ (n : Int) := by omega
  clear hl hL hf hv
  go_enter Try.func7, Try.ntmps7
  go_wp2_with (go_at_call 11; refine (small_any _ _ _ _).mono ?_; rintro e w' ⟨rfl, rfl⟩)
  refine (hS _ L _ HV.out HL.out.1 HF.out).mono ?_
  rintro e w1 ⟨v1, R, rfl, hR, hv1, hb1⟩
  have HV1 := Lib.hid (view_below HV.out hb1)
  have HB1 := Lib.hid hb1
  have HS1 := Lib.hid hR
  obtain ⟨b, off, cap1, rfl, hbw, hc⟩ := view_pos hv1 (by rw [sorts_len hR, HL.out.2]; omega)
  have hRl : R.length = n + 1 := by rw [sorts_len hR, HL.out.2]
  rw [hRl] at hc ⊢
  have c0 : w1.cell? ⟨b, off, none⟩ = some (.float .f64 (R.getD 0 0)) := hc 0 (by omega)
  have cn : w1.cell? ⟨b, off + n, none⟩ = some (.float .f64 (R.getD n 0)) := hc n (by omega)
  have HC0 := Lib.hid c0
  have HCn := Lib.hid cn
  have HBW := Lib.hid hbw
  have dl : R.getD n 0 < 18446744073709551616 := hR.2.2 _ (getD_mem R n (by omega))
  have df : R.getD 0 0 < 18446744073709551616 := hR.2.2 _ (getD_mem R 0 (by omega))
  obtain ⟨zl, hzl⟩ : ∃ z, z = R.getD n 0 := ⟨_, rfl⟩
  obtain ⟨zf, hzf⟩ : ∃ z, z = R.getD 0 0 := ⟨_, rfl⟩
  rw [← hzl] at HCn dl
  rw [← hzf] at HC0 df
  have HZL := Lib.hid hzl
  have HZF := Lib.hid hzf
  clear hb1 hR hv1 hRl hc c0 cn hbw hzl hzf
  go_wp2_with fail
  refine (hMin _ L _ HV1.out (by rw [HL.out.2]; omega) HL.out.1 HF.out).mono ?_
  rintro e w2 ⟨x, hx, ix, rfl, hb2⟩
  have HV2 := Lib.hid (view_below HV1.out hb2)
  have HB2 := Lib.hid (below_next HB1.out hb2)
  have HC0b := Lib.hid ((hb2.cell (p := ⟨b, off, none⟩) HBW.out).trans HC0.out)
  have HCnb := Lib.hid ((hb2.cell (p := ⟨b, off + n, none⟩) HBW.out).trans HCn.out)
  have HBW2 := Lib.hid (Nat.lt_of_lt_of_le HBW.out hb2.size)
  have HIX := Lib.hid ix
  clear hb2 ix
  go_wp2_with fail
  refine (hMax _ L _ HV2.out (by rw [HL.out.2]; omega) HL.out.1 HF.out).mono ?_
  rintro e w3 ⟨y, hy, iy, rfl, hb3⟩
  have HB3 := Lib.hid (below_next HB2.out hb3)
  have d0 := (hb3.cell (p := ⟨b, off, none⟩) HBW2.out).trans HC0b.out
  have dn := (hb3.cell (p := ⟨b, off + n, none⟩) HBW2.out).trans HCnb.out
  have HIY := Lib.hid iy
  clear hb3 iy
  by_cases hN : isN zl = true
  · have o1 := ord_nan_l zl zl dl hN
    have e1 := most_nan (-1) HS1.out n HL.out.2 HF.out x (by rw [← HZL.out]; exact hN) HIX.out
    have e2 := most_nan 1 HS1.out n HL.out.2 HF.out y (by rw [← HZL.out]; exact hN) HIY.out
    subst e1 e2
    have o2 := ord_nan_l 9221120237041090560 9221120237041090560 (by decide) (by decide)
    clear hN
    go_wp2_with (first | (go_at_call 12; refine (awake2_any hS hM hC _).mono ?_; rintro e w' ⟨rfl, hbelow⟩))
    go_ret
    exact ⟨rfl, below_next HB3.out (by assumption)⟩
  · have hN : isN zl = false := by simpa using hN
    have o1 := ord_self zl dl hN
    have s1 : smB x zf = true := by rw [HZF.out]; exact least_first HS1.out n HL.out.2 HF.out x hx (by rw [← HZL.out]; exact hN) HIX.out
    have s2 : smB y zl = true := by rw [HZL.out]; exact greatest_last HS1.out n HL.out.2 HF.out y hy (by rw [← HZL.out]; exact hN) HIY.out
    clear hN
    go_wp2_with (first | (go_at_call 21; refine (rsame_any _ _ (by assumption) (by assumption) _).mono ?_; rintro e w' ⟨rfl, rfl⟩) | (go_at_call 12; refine (awake2_any hS hM hC _).mono ?_; rintro e w' ⟨rfl, hbelow⟩))
    go_ret
    exact ⟨rfl, below_next HB3.out (by assumption)⟩

end Go.Proofs.Ytfpiojohodgncaa
