/- Proved: the law BitsAsks answers true at any bytes and numbers and leaves what there was as it was: the landed functions lay and read as the document's own do. -/
import Derived.Test.YtennafmbefnnmaaHlv
namespace Go.Proofs.Ytennafmbefnnmaa
open Go.RowKit

set_option maxHeartbeats 1000000 in
set_option maxRecDepth 100000 in
theorem ask_big (A : Option Addr) (m c v u : Nat) (h : 1000 < m) (w : World) :
    Calls Try.prog 3 #[.slice A m c, .int .u64 (v : Int), .int .u32 (u : Int)] w (Gives (.bool true) w) := by
  have q : decide ((1000 : Int) < (m : Int)) = true := decide_eq_true (by omega)
  go_enter Try.func3, Try.ntmps3
  go_wp2_with (go_at_call 8; refine (awake_any _).mono ?_; rintro e w' ⟨rfl, hb⟩)
  go_ret
  exact ⟨rfl, hb⟩

/-- Two rows that hold one list are the same. -/
theorem same_rows (A1 A2 : Option Addr) (n c1 c2 : Nat) (L : List Nat) (w : World) (hn : n ≤ 1000000) (hl : L.length = n) (hL : AllB L) (hx : BV w A1 L) (hy : BV w A2 L) :
    Calls Try.prog 14 #[.slice A1 n c1, .slice A2 n c2] w fun e w' => e = .returned (.bool true) ∧ ∃ k, w' = w.drewN k := by
  have := bytes_any A1 A2 n c1 c2 L L w hn hl hl hL hL hx hy
  rwa [decide_eq_true rfl] at this

set_option maxHeartbeats 4000000 in
set_option maxRecDepth 100000 in
theorem ask_small (A : Option Addr) (m c v u : Nat) (L : List Nat) (hm : m ≤ 1000) (hv : v < 18446744073709551616) (hu : u < 4294967296) (hc : m ≤ c) (hl : L.length = m) (hL : AllB L) (w : World) (hb : BV w A L) :
    Calls Try.prog 3 #[.slice A m c, .int .u64 (v : Int), .int .u32 (u : Int)] w (Gives (.bool true) w) := by
  have q : decide ((1000 : Int) < (m : Int)) = false := decide_eq_false (by omega)
  have H1 := Lib.hid (unv_any A m c L (by omega) hl hL w hb)
  have H2 := Lib.hid (runv_any A m c L (by omega) hl hL w hb)
  have H3 := Lib.hid (get32_any A m c L hc hl hL w hb)
  have H4 := Lib.hid (rget_any A m c 4 L (by omega) (by omega) hl hL w hb)
  have H5 := Lib.hid (get64_any A m c L hc hl hL w hb)
  have H6 := Lib.hid (rget_any A m c 8 L (by omega) (by omega) hl hL w hb)
  have hg : gn L 4 < 4294967296 := gn_lt L 4 hL
  have hvt := vi_ten hv
  have HV := Lib.hid (fun w => varint_any v hv w)
  have HR := Lib.hid (fun w => rvarint_any v hv w)
  have HP := Lib.hid (fun w => put32_any u hu w)
  have HQ := Lib.hid (fun w => rput_any u 4 (by omega) (by omega) w)
  have HP8 := Lib.hid (fun w => put64_any v hv w)
  have HQ8 := Lib.hid (fun w => rput_any v 8 (by omega) (by omega) w)
  obtain ⟨x1, e1⟩ : ∃ x, x = (uv L).1 := ⟨_, rfl⟩
  obtain ⟨x2, e2⟩ : ∃ x, x = (uv L).2 := ⟨_, rfl⟩
  obtain ⟨x3, e3⟩ : ∃ x, x = gn L 4 := ⟨_, rfl⟩
  obtain ⟨x4, e4⟩ : ∃ x, x = gn L 8 := ⟨_, rfl⟩
  obtain ⟨q1, e5⟩ : ∃ q, q = decide (4 ≤ m) := ⟨_, rfl⟩
  obtain ⟨q2, e6⟩ : ∃ q, q = decide (8 ≤ m) := ⟨_, rfl⟩
  obtain ⟨n, e7⟩ : ∃ n, n = (vi v).length := ⟨_, rfl⟩
  rw [← e1, ← e2] at H1 H2
  rw [← e3] at H3 H4 hg
  rw [← e4] at H5 H6
  rw [← e5] at H3 H4
  rw [← e6] at H5 H6
  rw [← e7] at hvt
  have HN := Lib.hid e7
  clear e1 e2 e3 e4 e5 e6 e7 hl hL hb
  go_enter Try.func3, Try.ntmps3
  go_wp2_with fail
  refine H1.out.mono ?_
  rintro e w' ⟨rfl, rfl⟩
  go_wp2_with fail
  refine H2.out.mono ?_
  rintro e w' ⟨rfl, rfl⟩
  go_wp2_with fail
  refine H3.out.mono ?_
  rintro e w' ⟨rfl, rfl⟩
  go_wp2_with fail
  refine H4.out.mono ?_
  rintro e w' ⟨rfl, rfl⟩
  go_wp2_with fail
  refine H5.out.mono ?_
  rintro e w' ⟨rfl, rfl⟩
  go_wp2_with fail
  refine H6.out.mono ?_
  rintro e w' ⟨rfl, rfl⟩
  go_wp2_with fail
  refine (HV.out _).mono ?_
  rintro e w1 ⟨g1, c1, rfl, _, v1, b1⟩
  rw [← HN.out]
  have HV1 := Lib.hid v1
  have HB1 : Hid (At w w1) := Lib.hid b1
  clear v1 b1
  go_wp2_with fail
  refine (HR.out _).mono ?_
  rintro e w2 ⟨g2, c2, rfl, _, v2, b2⟩
  rw [← HN.out]
  have HX := Lib.hid (same_rows (some ⟨g1, 0, none⟩) (some ⟨g2, 0, none⟩) n c1 c2 (vi v) w2 (by omega) HN.out.symm (allB_vi v) (HV1.out.below b2) v2)
  have HB2 := Lib.hid (HB1.out.next b2)
  clear v2 b2 HB1 HV1
  go_wp2_with fail
  refine HX.out.mono ?_
  rintro e w3 ⟨rfl, k, rfl⟩
  have HB3 := Lib.hid (HB2.out.drewN k)
  clear HB2 HX
  go_wp2_with fail
  refine (HP.out _).mono ?_
  rintro e w4 ⟨g4, c4, rfl, _, v4, b4⟩
  rw [pt_len]
  have HV4 := Lib.hid v4
  have HB4 := Lib.hid (HB3.out.next b4)
  clear v4 b4 HB3
  go_wp2_with fail
  refine (HQ.out _).mono ?_
  rintro e w5 ⟨g5, c5, rfl, _, v5, b5⟩
  rw [pt_len]
  have HX := Lib.hid (same_rows (some ⟨g4, 0, none⟩) (some ⟨g5, 0, none⟩) 4 c4 c5 (pt 4 u) w5 (by omega) (pt_len 4 u) (allB_pt 4 u) (HV4.out.below b5) v5)
  have HB5 := Lib.hid (HB4.out.next b5)
  clear v5 b5 HB4 HV4
  go_wp2_with fail
  refine HX.out.mono ?_
  rintro e w6 ⟨rfl, k6, rfl⟩
  have HB6 := Lib.hid (HB5.out.drewN k6)
  clear HB5 HX
  go_wp2_with fail
  refine (HP8.out _).mono ?_
  rintro e w7 ⟨g7, c7, rfl, _, v7, b7⟩
  rw [pt_len]
  have HV7 := Lib.hid v7
  have HB7 := Lib.hid (HB6.out.next b7)
  clear v7 b7 HB6
  go_wp2_with fail
  refine (HQ8.out _).mono ?_
  rintro e w8 ⟨g8, c8, rfl, _, v8, b8⟩
  rw [pt_len]
  have HX := Lib.hid (same_rows (some ⟨g7, 0, none⟩) (some ⟨g8, 0, none⟩) 8 c7 c8 (pt 8 v) w8 (by omega) (pt_len 8 v) (allB_pt 8 v) (HV7.out.below b8) v8)
  have HB8 := Lib.hid (HB7.out.next b8)
  clear v8 b8 HB7 HV7
  go_wp2_with fail
  refine HX.out.mono ?_
  rintro e w9 ⟨rfl, k9, rfl⟩
  have HB9 := Lib.hid (HB8.out.drewN k9)
  clear HB8 HX
  go_wp2_with (go_at_call 8; refine (awake_any _).mono ?_; rintro e w10 ⟨rfl, b10⟩; have HB10 := Lib.hid (HB9.out.next b10); clear b10)
  go_ret
  exact ⟨rfl, HB10.out⟩

end Go.Proofs.Ytennafmbefnnmaa
