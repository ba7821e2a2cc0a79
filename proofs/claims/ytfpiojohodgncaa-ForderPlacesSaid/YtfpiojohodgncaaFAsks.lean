/- Proved: the law ForderAsks answers true at every two numbers and every list, and leaves what there was as it was, if forder keeps its chapter (said as hypotheses on its functions' calls). -/
import Derived.Test.YtfpiojohodgncaaFClamps
namespace Go.Proofs.Ytfpiojohodgncaa
open Go.RowKit Fl

set_option maxHeartbeats 400000 in
theorem small_any (a : Option Addr) (n cap : Nat) (w : World) :
    Calls Try.prog 11 #[.slice a n cap] w fun e w' => e = .returned (.bool (decide (n ≤ 300))) ∧ w = w' := by
  by_cases h : n ≤ 300
  · have h1 : decide ((n : Int) ≤ 300) = true := decide_eq_true (by omega)
    have h2 : decide (n ≤ 300) = true := decide_eq_true h
    have H := Lib.hid h2
    clear h h2
    go_enter Try.func11, Try.ntmps11
    go_wp2
    go_ret
    exact ⟨by rw [H.out]; rfl, rfl⟩
  · have h1 : decide ((n : Int) ≤ 300) = false := decide_eq_false (by omega)
    have h2 : decide (n ≤ 300) = false := decide_eq_false h
    have H := Lib.hid h2
    clear h h2
    go_enter Try.func11, Try.ntmps11
    go_wp2
    go_ret
    exact ⟨by rw [H.out]; rfl, rfl⟩

theorem below_first {w w' : World} (m : Nat) (h : w' = w.drewN m) : Below w.heap.size w w' := by rw [h]; exact below_drewN (Below.refl _ _) m
theorem below_next {w w1 w2 : World} (h : Below w.heap.size w w1) (k : Below w1.heap.size w1 w2) : Below w.heap.size w w2 := h.trans (k.mono h.size)
theorem sorts_bound {L R : List Nat} (h : Sorts L R) : ∀ x ∈ R, x < 18446744073709551616 := h.2.2

theorem rmost_below (v : Value) (L : List Nat) (way : Int) (hw : way = 1 ∨ way = -1) (w : World) (hv : View w v L) (hb : L.length ≤ 1000000) (hf : ∀ x ∈ L, x < 18446744073709551616) (h0 : 0 < L.length) :
    Calls Try.prog 14 #[v, .int .i64 way] w fun e w' => ∃ x, x < 18446744073709551616 ∧ IsMost way L.length (L.getD · 0) x ∧ e = .returned (.tuple #[.float .f64 x, .int .i64 0]) ∧ Below w.heap.size w w' :=
  (rmost_view v L way hw w hv hb hf h0).mono fun _ _ ⟨x, a, b, c, m, d⟩ => ⟨x, a, b, c, below_first m d⟩

set_option maxHeartbeats 2000000 in
theorem fasks_big (hC : DCompare) (hS : DSort) (hM : DMost0 13) (a b : Nat) (a0 : Option Addr) (len cap : Nat) (hl : 300 < len) (w : World) :
    Calls Try.prog 3 #[.float .f64 a, .float .f64 b, .slice a0 len cap] w fun e w' => e = .returned (.bool true) ∧ Below w.heap.size w w' := by
  have q : decide (len ≤ 300) = false := decide_eq_false (by omega)
  have hl := Lib.hid hl
  go_enter Try.func3, Try.ntmps3
  go_wp2_with (first | (go_at_call 11; refine (small_any _ _ _ _).mono ?_; rintro e w' ⟨rfl, rfl⟩) | (go_at_call 12; refine (awake2_any hS hM hC _).mono ?_; rintro e w' ⟨rfl, hbelow⟩))
  go_ret
  exact ⟨rfl, by assumption⟩

set_option maxHeartbeats 4000000 in
theorem fasks_small (hC : DCompare) (hS : DSort) (hMin : DMost 13 (-1)) (hMax : DMost 15 1) (hM : DMost0 13) (hM2 : DMost0 15)
    (a b : Nat) (ha : a < 18446744073709551616) (hb : b < 18446744073709551616) (a0 : Option Addr) (len cap : Nat) (L : List Nat) (hl : len ≤ 300) (hL : L.length = len) (w : World) (hv : View w (.slice a0 len cap) L) (hf : ∀ x ∈ L, x < 18446744073709551616) :
    Calls Try.prog 3 #[.float .f64 a, .float .f64 b, .slice a0 len cap] w fun e w' => e = .returned (.bool true) ∧ Below w.heap.size w w' := by
  have q : decide (len ≤ 300) = true := decide_eq_true hl
  have HL : Hid (L.length ≤ 300 ∧ L.length = len) := Lib.hid ⟨by omega, hL⟩
  have HF := Lib.hid hf
  have HV := Lib.hid hv
  clear hl hL hf hv
  go_enter Try.func3, Try.ntmps3
  go_wp2_with (go_at_call 11; refine (small_any _ _ _ _).mono ?_; rintro e w' ⟨rfl, rfl⟩)
  have most : ∀ (f : FuncId) (way : Int), (way = 1 ∨ way = -1) → DMost f way → DMost0 f → ∀ (w : World), View w (.slice a0 len cap) L →
      Calls Try.prog f #[.slice a0 len cap] w fun e w1 => ∃ x er, e = .returned (.tuple #[.float .f64 x, .int .i64 er]) ∧ Below w.heap.size w w1 ∧ x < 18446744073709551616 ∧
        ∀ w2 : World, View w2 (.slice a0 len cap) L → Calls Try.prog 14 #[.slice a0 len cap, .int .i64 way] w2 fun e w3 => ∃ y, y < 18446744073709551616 ∧ smB x y = true ∧ e = .returned (.tuple #[.float .f64 y, .int .i64 er]) ∧ Below w2.heap.size w2 w3 := by
    intro f way hway h1 h0 w hw
    by_cases hz : 0 < L.length
    · refine (h1 _ L w hw hz (by have := HL.out.1; omega) HF.out).mono fun e w1 h => ?_
      obtain ⟨x, hx, ix, he, hb1⟩ := h
      refine ⟨x, 0, he, hb1, hx, fun w2 hw2 => (rmost_below _ L way hway w2 hw2 (by have := HL.out.1; omega) HF.out hz).mono fun e w3 h => ?_⟩
      obtain ⟨y, hy, iy, he, hb3⟩ := h
      exact ⟨y, hy, most_same way hway _ _ x y (getD_lt L HF.out) ix iy, he, hb3⟩
    · have hnil : L = [] := List.eq_nil_of_length_eq_zero (by omega)
      refine (h0 _ w (by rw [← hnil]; exact hw)).mono fun e w1 h => ?_
      refine ⟨0, 14, h.1, h.2, by decide, fun w2 hw2 => (rmost_empty _ way w2 (by rw [← hnil]; exact hw2)).mono fun e w3 h => ?_⟩
      exact ⟨0, by decide, by decide, h.1, by rw [← h.2]; exact Below.refl _ _⟩
  have HMost := Lib.hid most
  clear most
  refine (HMost.out 13 (-1) (Or.inr rfl) hMin hM _ HV.out).mono ?_
  rintro e w1 ⟨x, er, rfl, hb1, hxl, hr1⟩
  have HV1 := Lib.hid (view_below HV.out hb1)
  have HR1 := Lib.hid hr1
  have HB1 := Lib.hid hb1
  clear hr1 hb1
  go_wp2_with fail
  refine (HR1.out _ HV1.out).mono ?_
  rintro e w2 ⟨y, hyl, hs1, rfl, hb2⟩
  have HV2 := Lib.hid (view_below HV1.out hb2)
  have HB2 := Lib.hid (below_next HB1.out hb2)
  clear hb2
  go_wp2_with fail
  refine (HMost.out 15 1 (Or.inl rfl) hMax hM2 _ HV2.out).mono ?_
  rintro e w3 ⟨z, er2, rfl, hb3, hzl, hr3⟩
  have HV3 := Lib.hid (view_below HV2.out hb3)
  have HR3 := Lib.hid hr3
  have HB3 := Lib.hid (below_next HB2.out hb3)
  clear hr3 hb3
  go_wp2_with fail
  refine (HR3.out _ HV3.out).mono ?_
  rintro e w4 ⟨u, hul, hs2, rfl, hb4⟩
  have HV4 := Lib.hid (view_below HV3.out hb4)
  have HB4 := Lib.hid (below_next HB3.out hb4)
  clear hb4
  go_wp2_with (first | (go_at_call 16; refine (hC _ _ (by assumption) (by assumption) _).mono ?_; rintro e w' ⟨rfl, rfl⟩) | (go_at_call 17; refine (rcompare_any _ _ (by assumption) (by assumption) _).mono ?_; rintro e w' ⟨rfl, rfl⟩))
  refine (hS _ L _ HV4.out (by have := HL.out.1; omega) HF.out).mono ?_
  rintro e w5 ⟨v5, R5, rfl, hR5, hv5, hb5⟩
  have HV5 := Lib.hid (view_below HV4.out hb5)
  have HB5 := Lib.hid (below_next HB4.out hb5)
  have HS5 := Lib.hid hR5
  have HW5 := Lib.hid hv5
  clear hb5 hR5 hv5
  go_wp2_with fail
  refine (rsort_view _ L _ HV5.out (by have := HL.out.1; omega) HF.out).mono ?_
  rintro e w6 ⟨v6, R6, rfl, hR6, hv6, hb6⟩
  have HB6 := Lib.hid (below_next HB5.out hb6)
  have HW6 := Lib.hid (view_below HW5.out hb6)
  have HS6 := Lib.hid hR6
  have HX6 := Lib.hid hv6
  clear hb6 hR6 hv6
  go_wp2_with fail
  refine (nums_view v5 v6 R5 R6 _ HW6.out HX6.out (by rw [sorts_len HS5.out]; have := HL.out.1; omega) (by rw [sorts_len HS5.out, sorts_len HS6.out]) HS5.out.2.2 HS6.out.2.2 (sorts_same HS5.out HS6.out (List.Perm.refl _))).mono ?_
  rintro e w7 ⟨rfl, m7, hw7⟩
  have HB7 := Lib.hid (below_next HB6.out (below_first m7 hw7))
  clear hw7
  go_wp2_with (first | (go_at_call 21; refine (rsame_any _ _ (by assumption) (by assumption) _).mono ?_; rintro e w' ⟨rfl, rfl⟩) | (go_at_call 12; refine (awake2_any hS hM hC _).mono ?_; rintro e w' ⟨rfl, hbelow⟩))
  go_ret
  exact ⟨rfl, below_next HB7.out (by assumption)⟩

end Go.Proofs.Ytfpiojohodgncaa
