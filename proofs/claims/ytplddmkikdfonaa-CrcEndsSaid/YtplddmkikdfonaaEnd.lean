/- Proved: the law CrcEnds answers true at any bytes and leaves what there was as it was: bytes with their own sum behind them have all one sum. -/
import Derived.Test.YtplddmkikdfonaaApp
namespace Go.Proofs.Ytplddmkikdfonaa
open Go.RowKit

set_option maxHeartbeats 1000000 in
set_option maxRecDepth 100000 in
theorem ends_big (A : Option Addr) (m c : Nat) (h : 2000 < m) (w : World) :
    Calls Try.prog 7 #[.slice A m c] w (Gives (.bool true) w) := by
  have q : decide ((2000 : Int) < (m : Int)) = true := decide_eq_true (by omega)
  go_enter Try.func7, Try.ntmps7
  go_wp2_with (go_at_call 8; refine (awake_any _).mono ?_; rintro e w' ⟨rfl, hb⟩)
  go_ret
  exact ⟨rfl, hb⟩

set_option maxHeartbeats 2000000 in
set_option maxRecDepth 100000 in
theorem ends_none (w : World) :
    Calls Try.prog 7 #[.slice none 0 0] w (Gives (.bool true) w) := by
  obtain ⟨i0, hi, hz0, hz1, hz2⟩ := info_parts info_u8
  have hl : ([] : List Nat).length = 0 := rfl
  have hL : AllB [] := fun _ h => by cases h
  have hb : BV w none [] := BV.nil _ _
  have HO := Lib.hid (fun w' (h : At w w') => of_any none 0 0 ([] : List Nat) (by omega) hl hL w' (h.bv hb))
  have hs := cr_lt ([] : List Nat) hL
  have HE : Hid (cr (([] : List Nat) ++ pt 4 (cr ([] : List Nat))) = cr (pt 4 0)) := Lib.hid (cr_ends ([] : List Nat) hL)
  have HZ := Lib.hid (fun w' A' c' (h : BV w' A' (pt 4 0)) => of_any A' 4 c' (pt 4 0) (by omega) rfl (allB_pt 4 0) w' h)
  have HN := Lib.hid (fun w' => of_any none 0 0 [] (by omega) rfl (fun _ h => by cases h) w' (BV.nil _ _))
  rw [cr_nil] at HN
  have HC := Lib.hid (fun w' A' c' s (h : BV w' A' (([] : List Nat) ++ pt 4 s)) => of_any A' (0 + 4) c' (([] : List Nat) ++ pt 4 s) (by omega) (by rw [List.length_append, pt_len, hl]) (allB_app hL (allB_pt 4 s)) w' h)
  obtain ⟨s, hse⟩ : ∃ s, s = cr ([] : List Nat) := ⟨_, rfl⟩
  rw [← hse] at HO hs HE
  obtain ⟨z, hze⟩ : ∃ z, z = cr (pt 4 0) := ⟨_, rfl⟩
  rw [← hze] at HE HZ
  have HL := Lib.hid hl
  have HB := Lib.hid hb
  have HP : Hid (pt 4 s = [s % 256, s / 256 % 256, s / 65536 % 256, s / 16777216]) := Lib.hid (by rw [pt4, Nat.mod_eq_of_lt (show s / 16777216 < 256 by omega)])
  clear hse hze hl hL hb
  go_enter Try.func7, Try.ntmps7
  go_wp2_with fail
  refine (HO.out _ (At.start _)).mono ?_
  rintro e w1 ⟨rfl, a1⟩
  have A1 : Hid (At w w1) := Lib.hid a1
  clear a1
  have HM := Lib.hid (made_own w1)
  have HS := Lib.hid (row_bv (w1.alloc (.cells #[] 5)) #[.int .u8 ((s : Int) % 256), .int .u8 ((s : Int) / 256 % 256), .int .u8 ((s : Int) / 65536 % 256), .int .u8 ((s : Int) / 16777216)] (0, 0) (pt 4 s) (by rw [HP.out]; rfl))
  rw [show (w1.alloc (.cells #[] 5)).heap.size = w1.heap.size + 1 by simp] at HS
  go_wp2_with (first
    | (at_builtin; refine wpList_append_own_none rfl (.tmp 12) (.tmp 13) 22 rfl w1.heap.size 5 i0 1 Try.underlying22 hi _ 0 [] rfl HM.out rfl ?_)
    | (at_builtin; refine wpList_append_own _ rfl (.tmp 14) (.tmp 26) 22 rfl w1.heap.size 5 i0 (.int .u8 0) 1 1 Try.underlying22 hi hz0 hz1 hz2 rfl (by decide) _ 0 [] rfl (HM.out.alloc _) ⟨w1.heap.size + 1, 0, none⟩ 4 4 ((pt 4 s).map bt) rfl rfl HS.out.src (bt_one _) (by unfold maxLen; omega) (by omega) (by simp; omega) ?_; intro v3 w3 ho hg _; have HO3 : Hid (w3.ownsRow w1.heap.size 5 1 v3 (0 + 4) (([] ++ pt 4 s).map bt)) := Lib.hid (by simpa using ho); have HA3 : Hid (At w1 w3) := Lib.hid ((((At.start w1).alloc _).alloc _).grown hg (by simp; omega) (fun j hj => (HM.out.lt j hj).1)); clear ho hg; obtain ⟨D3, c3, rfl, _, hv3⟩ := own_view HO3.out; have HV3 := Lib.hid hv3; clear hv3))
  have A3 : Hid (At w w3) := Lib.hid (A1.out.next HA3.out)
  have HZ4 := Lib.hid (HZ.out _ _ 4 (row_bv w3 #[.int .u8 0, .int .u8 0, .int .u8 0, .int .u8 0] (0, 0) (pt 4 0) rfl))
  go_wp2_with fail
  refine HZ4.out.mono ?_
  rintro e w4 ⟨rfl, a4⟩
  have A34 : Hid (At w3 w4) := Lib.hid (((At.start w3).alloc _).next a4)
  have A4 : Hid (At w w4) := Lib.hid (A3.out.next A34.out)
  have HC4 := Lib.hid (HC.out w4 _ c3 s (A34.out.bv HV3.out))
  rw [HE.out] at HC4
  clear a4
  go_wp2_with fail
  refine HC4.out.mono ?_
  rintro e w5 ⟨rfl, a5⟩
  have A5 : Hid (At w w5) := Lib.hid (A4.out.next a5)
  clear a5
  go_wp2_with fail
  refine (HN.out _).mono ?_
  rintro e w6 ⟨rfl, a6⟩
  have A6 : Hid (At w w6) := Lib.hid (A5.out.next a6)
  clear a6
  go_wp2_with fail
  refine (awake_any _).mono ?_
  rintro e w7 ⟨rfl, a7⟩
  have A7 : Hid (At w w7) := Lib.hid (A6.out.next a7)
  clear a7
  go_wp2
  go_ret
  exact ⟨rfl, A7.out⟩

set_option maxHeartbeats 2000000 in
set_option maxRecDepth 100000 in
theorem ends_some (ad : Addr) (m cp : Nat) (L : List Nat) (hm : m ≤ 2000) (hl : L.length = m) (hL : AllB L) (w : World) (hb : BV w (some ad) L) :
    Calls Try.prog 7 #[.slice (some ad) m cp] w (Gives (.bool true) w) := by
  obtain ⟨i0, hi, hz0, hz1, hz2⟩ := info_parts info_u8
  have q : decide ((2000 : Int) < (m : Int)) = false := decide_eq_false (by omega)
  have HO := Lib.hid (fun w' (h : At w w') => of_any (some ad) m cp L (by omega) hl hL w' (h.bv hb))
  have hs := cr_lt L hL
  have HE : Hid (cr (L ++ pt 4 (cr L)) = cr (pt 4 0)) := Lib.hid (cr_ends L hL)
  have HZ := Lib.hid (fun w' A' c' (h : BV w' A' (pt 4 0)) => of_any A' 4 c' (pt 4 0) (by omega) rfl (allB_pt 4 0) w' h)
  have HN := Lib.hid (fun w' => of_any none 0 0 [] (by omega) rfl (fun _ h => by cases h) w' (BV.nil _ _))
  rw [cr_nil] at HN
  have HC := Lib.hid (fun w' A' c' s (h : BV w' A' (L ++ pt 4 s)) => of_any A' (m + 4) c' (L ++ pt 4 s) (by omega) (by rw [List.length_append, pt_len, hl]) (allB_app hL (allB_pt 4 s)) w' h)
  obtain ⟨s, hse⟩ : ∃ s, s = cr L := ⟨_, rfl⟩
  rw [← hse] at HO hs HE
  obtain ⟨z, hze⟩ : ∃ z, z = cr (pt 4 0) := ⟨_, rfl⟩
  rw [← hze] at HE HZ
  have HL := Lib.hid hl
  have HB := Lib.hid hb
  have HP : Hid (pt 4 s = [s % 256, s / 256 % 256, s / 65536 % 256, s / 16777216]) := Lib.hid (by rw [pt4, Nat.mod_eq_of_lt (show s / 16777216 < 256 by omega)])
  clear hse hze hl hL hb
  go_enter Try.func7, Try.ntmps7
  go_wp2_with fail
  refine (HO.out _ (At.start _)).mono ?_
  rintro e w1 ⟨rfl, a1⟩
  have A1 : Hid (At w w1) := Lib.hid a1
  clear a1
  have HM := Lib.hid (made_own w1)
  go_wp2_with (first
    | (at_builtin; refine wpList_append_own _ rfl (.tmp 12) (.tmp 13) 22 rfl w1.heap.size 5 i0 (.int .u8 0) 1 1 Try.underlying22 hi hz0 hz1 hz2 rfl (by decide) _ 0 [] rfl HM.out ad m cp (L.map bt) rfl (by rw [List.length_map, HL.out, Nat.mul_one]) (((A1.out.alloc _).bv HB.out).src) (bt_one _) (by unfold maxLen; omega) (by omega) (by simp) ?_; intro v2 w2 ho hg _; obtain ⟨HO2, HA2⟩ := grow_one HM.out ho hg; clear ho hg; obtain ⟨D2, c2, rfl, _, _⟩ := own_view HO2.out; have HS := Lib.hid (row_bv w2 #[.int .u8 ((s : Int) % 256), .int .u8 ((s : Int) / 256 % 256), .int .u8 ((s : Int) / 65536 % 256), .int .u8 ((s : Int) / 16777216)] (0, 0) (pt 4 s) (by rw [HP.out]; rfl)))
    | (at_builtin; refine wpList_append_own _ rfl (.tmp 14) (.tmp 26) 22 rfl w1.heap.size 5 i0 (.int .u8 0) 1 1 Try.underlying22 hi hz0 hz1 hz2 rfl (by decide) _ m (L.map bt) rfl (HO2.out.alloc _) ⟨w2.heap.size, 0, none⟩ 4 4 ((pt 4 s).map bt) rfl rfl HS.out.src (bt_one _) (by unfold maxLen; omega) (by omega) (by have := HA2.out.size; simp; omega) ?_; intro v3 w3 ho hg _; obtain ⟨HO3, HA3⟩ := grow_two (HO2.out.alloc _) (HA2.out.alloc _) ho hg; clear ho hg; obtain ⟨D3, c3, rfl, _, hv3⟩ := own_view HO3.out; have HV3 := Lib.hid hv3; clear hv3))
  have A3 : Hid (At w w3) := Lib.hid (A1.out.next HA3.out)
  have HZ4 := Lib.hid (HZ.out _ _ 4 (row_bv w3 #[.int .u8 0, .int .u8 0, .int .u8 0, .int .u8 0] (0, 0) (pt 4 0) rfl))
  go_wp2_with fail
  refine HZ4.out.mono ?_
  rintro e w4 ⟨rfl, a4⟩
  have A34 : Hid (At w3 w4) := Lib.hid (((At.start w3).alloc _).next a4)
  have A4 : Hid (At w w4) := Lib.hid (A3.out.next A34.out)
  have HC4 := Lib.hid (HC.out w4 _ c3 s (A34.out.bv HV3.out))
  rw [HE.out] at HC4
  clear a4
  go_wp2_with fail
  refine HC4.out.mono ?_
  rintro e w5 ⟨rfl, a5⟩
  have A5 : Hid (At w w5) := Lib.hid (A4.out.next a5)
  clear a5
  go_wp2_with fail
  refine (HN.out _).mono ?_
  rintro e w6 ⟨rfl, a6⟩
  have A6 : Hid (At w w6) := Lib.hid (A5.out.next a6)
  clear a6
  go_wp2_with fail
  refine (awake_any _).mono ?_
  rintro e w7 ⟨rfl, a7⟩
  have A7 : Hid (At w w7) := Lib.hid (A6.out.next a7)
  clear a7
  go_wp2
  go_ret
  exact ⟨rfl, A7.out⟩

end Go.Proofs.Ytplddmkikdfonaa
