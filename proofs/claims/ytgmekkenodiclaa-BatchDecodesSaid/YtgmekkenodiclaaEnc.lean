/- Proved: what the landed Encode answers: the 64 bytes of a block that may be, in memory of their own; or which error. -/
import Derived.Test.YtgmekkenodiclaaRow
import Derived.Deep.RegionHeld3
import Derived.Deep.DrawnRows
namespace Go.Proofs.Ytgmekkenodiclaa
open Go.RowKit
attribute [local go_sem ↓] Go.wp_at_zero Go.wp_at_succ

/-- A call hands back v and writes only what is new. -/
def Gives (v : Value) (w : World) (e : Ending) (w' : World) : Prop := e = .returned v ∧ Below w.heap.size w w'

set_option maxHeartbeats 1000000 in
set_option maxRecDepth 100000 in
theorem encode_yes (A : Option Addr) (k e s l n c : Nat) (L : List Nat) (hm : May k e s l L) (hl : L.length = n) (w : World) (hx : BV w A L) :
    Calls Try.prog 30 #[.agg #[.int .i64 (k : Int), .int .i64 (e : Int), .int .i64 (s : Int), .int .i64 (l : Int), .slice A n c]] w fun x w' => ∃ g, x = .returned (.tuple #[.slice (some ⟨g, 0, none⟩) 64 64, .int .i64 0]) ∧ w.heap.size ≤ g ∧ BV w' (some ⟨g, 0, none⟩) (en k e s l L) ∧ At w w' := by
  have hk1 := hm.k1
  have hk4 := hm.k4
  have he := hm.e32
  have hs := hm.s40
  have hll := hm.l20
  have hn := hm.n
  rw [hl] at hn
  have HM := Lib.hid hm
  have HL := Lib.hid hl
  have HX := Lib.hid hx
  clear hm hl hx
  obtain ⟨b, hb⟩ : ∃ b, b = w.heap.size := ⟨_, rfl⟩
  obtain ⟨w1, hw1⟩ : ∃ w1, w1 = w.alloc (.cells #[.int .i64 (k : Int), .int .i64 (e : Int), .int .i64 (s : Int), .int .i64 (l : Int), .slice A n c] 57) := ⟨_, rfl⟩
  have HB1 : Hid (Bx w1 b 57 (k : Int) (e : Int) (s : Int) (l : Int) (.slice A n c)) := Lib.hid (by rw [hw1, hb]; exact bx_new _ _ _ _ _ _ _)
  have HA1 : Hid (At w w1) := Lib.hid (by rw [hw1]; exact (At.start w).alloc _)
  have hs1 : w1.heap.size = b + 1 := by rw [hw1, hb]; simp
  have hmk : (Instr.makeSlice 39 (.int .i64 64) (.int .i64 64)).run Try.prog w1 = .ok (.slice (some ⟨b + 1, 0, none⟩) 64 64) (w1.alloc (.cells ((zr 64).map bt).toArray 5)) := by
    have := make_u8 64 (by omega) w1
    rwa [made_zr, hs1] at this
  obtain ⟨g, hg⟩ : ∃ g, g = b + 1 := ⟨_, rfl⟩
  obtain ⟨w2, hw2⟩ : ∃ w2, w2 = w1.alloc (.cells ((zr 64).map bt).toArray 5) := ⟨_, rfl⟩
  rw [← hg, ← hw2] at hmk
  have HR2 : Row w2 g (zr 64) := by rw [hw2, hg, ← hs1]; exact row_new _ _ _ rfl
  have HB2 : Bx w2 b 57 (k : Int) (e : Int) (s : Int) (l : Int) (.slice A n c) := by rw [hw2]; exact HB1.out.on ((At.start w1).alloc _)
  have HA2 : Hid (At w w2) := Lib.hid (by rw [hw2]; exact HA1.out.alloc _)
  have HBG : Hid (b < g) := Lib.hid (by omega)
  have hne : ¬ b = g := by omega
  have HSB := Lib.hid hb
  obtain ⟨c10, c11, c12, c13, c14⟩ := HB1.out.cells
  obtain ⟨c20, c21, c22, c23, c24⟩ := HB2.cells
  have r0 := HR2.cell 0 (by rw [zr_len]; omega)
  have r1 := HR2.cell 1 (by rw [zr_len]; omega)
  have f0 := HR2.free 0
  have f1 := HR2.free 1
  have HR2 := Lib.hid HR2
  have HB2 := Lib.hid HB2
  obtain ⟨w3, hw3⟩ : ∃ w3, w3 = (w2.setCell ⟨g, 0, none⟩ (.int .u8 (k : Int))).setCell ⟨g, 1, none⟩ (.int .u8 (n : Int)) := ⟨_, rfl⟩
  have HR3 : Row w3 g ([k, n] ++ zr 62) := by rw [hw3, ← fill_two]; exact (HR2.out.set 0 k).set 1 n
  have HB3 : Bx w3 b 57 (k : Int) (e : Int) (s : Int) (l : Int) (.slice A n c) := by rw [hw3]; exact (HB2.out.other hne _ _).other hne _ _
  have HA3 : Hid (At w w3) := Lib.hid (by
    rw [hw3]
    have hsg : w.heap.size ≤ g := by omega
    exact Below.setCell (p := ⟨g, 1, none⟩) (Below.setCell (p := ⟨g, 0, none⟩) HA2.out hsg _) hsg _)
  have E3 : Hid (En w b g 57 (k : Int) (e : Int) (s : Int) (l : Int) (.slice A n c) ([k, n] ++ zr 62) w3) := Lib.hid ⟨HR3, HB3, HA3.out, HBG.out, by omega⟩
  clear HR3 HB3
  have HW3 := Lib.hid hw3
  have e32 : IntKind.u32.wrap (e : Int) = (e : Int) := by rw [IntKind.wrap_u32]; omega
  have s64 : IntKind.u64.wrap (s : Int) = (s : Int) := by rw [IntKind.wrap_u64]; omega
  have l32 : IntKind.u32.wrap (l : Int) = (l : Int) := by rw [IntKind.wrap_u32]; omega
  have K1 := iskind_any (k : Int) w1
  rw [decide_eq_true (by omega)] at K1
  have U1 := upto_any (e : Int) 4294967295 w1
  rw [decide_eq_true (by omega)] at U1
  have U2 := upto_any (s : Int) 1099511627776 w1
  rw [decide_eq_true (by omega)] at U2
  have U3 := upto_any (l : Int) 1048576 w1
  rw [decide_eq_true (by omega)] at U3
  have HK1 := Lib.hid K1
  have HU1 := Lib.hid U1
  have HU2 := Lib.hid U2
  have HU3 := Lib.hid U3
  have HW1 := Lib.hid hw1
  clear K1 U1 U2 U3 hs1 hg hb hw2 hw1 hw3
  go_enter Try.func30, Try.ntmps30
  go_wp2_with fail
  rw [← HW1.out, ← HSB.out]
  refine HK1.out.mono ?_
  rintro e' w' ⟨rfl, rfl⟩
  go_wp2_with (go_at_call 37; (first | (with_reducible refine HU1.out.mono ?_) | (with_reducible refine HU2.out.mono ?_) | (with_reducible refine HU3.out.mono ?_)); rintro e' w' ⟨rfl, rfl⟩)
  rw [← HW3.out]
  have c31 := E3.out.box.cells.2.1
  go_region_held3 (fun w' => w'.cell? ⟨b, 1, none⟩ = some (.int .i64 (e : Int))) (first | go_keep | exact (E3.out.box.on hb4).cells.2.1 | exact ((E3.out.box.on hb4).low HBG.out hb5).cells.2.1)
    (first
      | (go_at_call 47; refine (four_any e he _).mono ?_; rintro e' w4 ⟨g4, c4, rfl, hv4, hb4⟩; replace hb4 := undrew hb4)
      | (refine step_lay (by rfl) (.tmp 40) (.tmp 44) (by rfl) g 2 62 62 4 c4 _ _ _ (by rfl) (by rfl) (E3.out.row.on hb4) hv4 (pt_len _ _) (by omega) (by simp [zr_len]) ?_; intro w5 hr5 hb5))
  have e5 := E3.out.lay hb4 hr5 hb5 rfl
  have E5 : Hid (En w b g 57 (k : Int) (e : Int) (s : Int) (l : Int) (.slice A n c) (([k, n] ++ pt 4 e) ++ zr 58) w5) := Lib.hid (by rw [pt_len] at e5; exact e5)
  clear e5 hr5 hb5 hb4 hv4 c31 E3
  have c52 := E5.out.box.cells.2.2.1
  go_wp2_with fail
  go_region_held3 (fun w' => w'.cell? ⟨b, 2, none⟩ = some (.int .i64 (s : Int))) (first | go_keep | exact (E5.out.box.on hb6).cells.2.2.1 | exact ((E5.out.box.on hb6).low HBG.out hb7).cells.2.2.1)
    (first
      | (go_at_call 46; refine (eight_any s (by omega) _).mono ?_; rintro e' w6 ⟨g6, c6, rfl, hv6, hb6⟩; replace hb6 := undrew hb6)
      | (refine step_lay (by rfl) (.tmp 47) (.tmp 51) (by rfl) g 6 58 58 8 c6 _ _ _ (by rfl) (by rfl) (E5.out.row.on hb6) hv6 (pt_len _ _) (by omega) (by simp [zr_len, pt_len]) ?_; intro w7 hr7 hb7))
  have e7 := E5.out.lay hb6 hr7 hb7 (by simp [pt_len])
  have E7 : Hid (En w b g 57 (k : Int) (e : Int) (s : Int) (l : Int) (.slice A n c) ((([k, n] ++ pt 4 e) ++ pt 8 s) ++ zr 50) w7) := Lib.hid (by rw [pt_len] at e7; exact e7)
  clear e7 hr7 hb7 hb6 hv6 c52 E5
  have c73 := E7.out.box.cells.2.2.2.1
  go_wp2_with fail
  go_region_held3 (fun w' => w'.cell? ⟨b, 3, none⟩ = some (.int .i64 (l : Int))) (first | go_keep | exact (E7.out.box.on hb8).cells.2.2.2.1 | exact ((E7.out.box.on hb8).low HBG.out hb9).cells.2.2.2.1)
    (first
      | (go_at_call 47; refine (four_any l (by omega) _).mono ?_; rintro e' w8 ⟨g8, c8, rfl, hv8, hb8⟩; replace hb8 := undrew hb8)
      | (refine step_lay (by rfl) (.tmp 54) (.tmp 58) (by rfl) g 14 50 50 4 c8 _ _ _ (by rfl) (by rfl) (E7.out.row.on hb8) hv8 (pt_len _ _) (by omega) (by simp [zr_len, pt_len]) ?_; intro w9 hr9 hb9))
  have e9 := E7.out.lay hb8 hr9 hb9 (by simp [pt_len])
  have E9 : Hid (En w b g 57 (k : Int) (e : Int) (s : Int) (l : Int) (.slice A n c) (((([k, n] ++ pt 4 e) ++ pt 8 s) ++ pt 4 l) ++ zr 46) w9) := Lib.hid (by rw [pt_len] at e9; exact e9)
  clear e9 hr9 hb9 hb8 hv8 c73 E7
  have c94 := E9.out.box.cells.2.2.2.2
  go_wp2_with fail
  go_region_held3 (fun w' => w'.cell? ⟨b, 4, none⟩ = some (.slice A n c)) (first | go_keep | exact (E9.out.box.low HBG.out hb11).cells.2.2.2.2)
    (first
      | (refine step_lay (by rfl) (.tmp 61) (.tmp 63) (by rfl) g 18 46 46 n c _ _ _ (by rfl) (by rfl) (show Row w9.drew g _ from E9.out.row) (E9.out.stands.bv HX.out) HL.out (by omega) (by simp [zr_len, pt_len]; omega) ?_; intro w11 hr11 hb11; replace hb11 := undrew hb11))
  have e11 := E9.out.lay (Below.refl _ _) hr11 hb11 (by simp [pt_len])
  have E11 : Hid (En w b g 57 (k : Int) (e : Int) (s : Int) (l : Int) (.slice A n c) ((((([k, n] ++ pt 4 e) ++ pt 8 s) ++ pt 4 l) ++ L) ++ zr (46 - n)) w11) := Lib.hid (by rw [HL.out] at e11; exact e11)
  clear e11 hr11 hb11 c94 E9
  rw [hd_row k e s l n L HL.out hn] at E11
  have hq60 := hd_len (k := k) (e := e) (s := s) (l := l) (L := L) (by rw [HL.out]; exact hn)
  have hqB := hd_byte HM.out
  have hen : en k e s l L = hd k e s l L ++ pt 4 (cr (hd k e s l L)) := rfl
  have hx32 := cr_lt _ hqB
  obtain ⟨H, hH⟩ : ∃ H, H = hd k e s l L := ⟨_, rfl⟩
  rw [← hH] at E11 hq60 hqB hen hx32
  obtain ⟨x, hx⟩ : ∃ x, x = cr H := ⟨_, rfl⟩
  rw [← hx] at hen hx32
  have hbv : BV w11 (some ⟨g, 0, none⟩) H := by
    have := E11.out.row.bv.take 60
    rwa [List.take_left' hq60] at this
  have HOF := Lib.hid (of_any (some ⟨g, 0, none⟩) 60 64 H (by omega) hq60 hqB w11.drew hbv)
  rw [← hx] at HOF
  have HQ := Lib.hid hq60
  have HEN := Lib.hid hen
  clear hH hx hq60 hqB hbv hen
  go_wp2_with fail
  go_region_held3 (fun _ => True) (exact trivial)
    (first
      | (go_at_call 48; refine HOF.out.mono ?_; rintro e' w12 ⟨rfl, hb12⟩; replace hb12 := undrew hb12)
      | (go_at_call 47; refine (four_any x hx32 _).mono ?_; rintro e' w13 ⟨g13, c13, rfl, hv13, hb13⟩)
      | (refine step_lay (by rfl) (.tmp 66) (.tmp 70) (by rfl) g 60 4 4 4 c13 _ _ _ (by rfl) (by rfl) ((E11.out.row.on hb12).on hb13) hv13 (pt_len _ _) (by omega) (by simp [zr_len, HQ.out]) ?_; intro w14 hr14 hb14))
  have e14 := E11.out.lay (hb12.trans (hb13.mono hb12.size)) hr14 hb14 HQ.out
  have E14 : Hid (En w b g 57 (k : Int) (e : Int) (s : Int) (l : Int) (.slice A n c) (en k e s l L) w14) := Lib.hid (by
    rw [pt_len] at e14
    have h0 : zr (4 - 4) = [] := rfl
    rw [h0, List.append_nil] at e14
    rw [HEN.out]; exact e14)
  clear e14 hr14 hb14 hb12 hb13 hv13 E11 HOF
  go_wp2
  go_ret2
  exact ⟨g, rfl, E14.out.sz, E14.out.row.bv, E14.out.stands⟩

set_option maxHeartbeats 1000000 in
set_option maxRecDepth 100000 in
theorem encode_kind (A : Option Addr) (k e s l : Int) (n c : Nat) (h : ¬ (1 ≤ k ∧ k ≤ 4)) (w : World) :
    Calls Try.prog 30 #[.agg #[.int .i64 k, .int .i64 e, .int .i64 s, .int .i64 l, .slice A n c]] w (Gives (.tuple #[.slice none 0 0, .int .i64 1]) w) := by
  have K0 : Hid (∀ w, Calls Try.prog 34 #[.int .i64 k] w fun e w' => e = .returned (.bool false) ∧ w = w') := Lib.hid fun w => by
    have := iskind_any k w
    rwa [decide_eq_false (by omega)] at this
  have HA := Lib.hid ((At.start w).alloc (.cells #[.int .i64 k, .int .i64 e, .int .i64 s, .int .i64 l, .slice A n c] 57))
  go_enter Try.func30, Try.ntmps30
  go_wp2_with (first
    | (go_at_call 34; with_reducible refine (K0.out _).mono ?_; rintro e' w' ⟨rfl, rfl⟩))
  go_ret2
  exact ⟨rfl, HA.out⟩

set_option maxHeartbeats 1000000 in
set_option maxRecDepth 100000 in
theorem encode_epoch (A : Option Addr) (k e s l : Int) (n c : Nat) (h0 : 1 ≤ k ∧ k ≤ 4) (h : ¬ (0 ≤ e ∧ e ≤ 4294967295)) (w : World) :
    Calls Try.prog 30 #[.agg #[.int .i64 k, .int .i64 e, .int .i64 s, .int .i64 l, .slice A n c]] w (Gives (.tuple #[.slice none 0 0, .int .i64 1]) w) := by
  have K0 : Hid (∀ w, Calls Try.prog 34 #[.int .i64 k] w fun e w' => e = .returned (.bool true) ∧ w = w') := Lib.hid fun w => by
    have := iskind_any k w
    rwa [decide_eq_true (by omega)] at this
  have K1 : Hid (∀ w, Calls Try.prog 37 #[.int .i64 e, .int .i64 4294967295] w fun e w' => e = .returned (.bool false) ∧ w = w') := Lib.hid fun w => by
    have := upto_any e 4294967295 w
    rwa [decide_eq_false (by omega)] at this
  have HA := Lib.hid ((At.start w).alloc (.cells #[.int .i64 k, .int .i64 e, .int .i64 s, .int .i64 l, .slice A n c] 57))
  go_enter Try.func30, Try.ntmps30
  go_wp2_with (first
    | (go_at_call 34; with_reducible refine (K0.out _).mono ?_; rintro e' w' ⟨rfl, rfl⟩)
    | (go_at_call 37; with_reducible refine (K1.out _).mono ?_; rintro e' w' ⟨rfl, rfl⟩))
  go_ret2
  exact ⟨rfl, HA.out⟩

set_option maxHeartbeats 1000000 in
set_option maxRecDepth 100000 in
theorem encode_seq (A : Option Addr) (k e s l : Int) (n c : Nat) (h0 : 1 ≤ k ∧ k ≤ 4) (h1 : 0 ≤ e ∧ e ≤ 4294967295) (h : ¬ (0 ≤ s ∧ s ≤ 1099511627776)) (w : World) :
    Calls Try.prog 30 #[.agg #[.int .i64 k, .int .i64 e, .int .i64 s, .int .i64 l, .slice A n c]] w (Gives (.tuple #[.slice none 0 0, .int .i64 1]) w) := by
  have K0 : Hid (∀ w, Calls Try.prog 34 #[.int .i64 k] w fun e w' => e = .returned (.bool true) ∧ w = w') := Lib.hid fun w => by
    have := iskind_any k w
    rwa [decide_eq_true (by omega)] at this
  have K1 : Hid (∀ w, Calls Try.prog 37 #[.int .i64 e, .int .i64 4294967295] w fun e w' => e = .returned (.bool true) ∧ w = w') := Lib.hid fun w => by
    have := upto_any e 4294967295 w
    rwa [decide_eq_true (by omega)] at this
  have K2 : Hid (∀ w, Calls Try.prog 37 #[.int .i64 s, .int .i64 1099511627776] w fun e w' => e = .returned (.bool false) ∧ w = w') := Lib.hid fun w => by
    have := upto_any s 1099511627776 w
    rwa [decide_eq_false (by omega)] at this
  have HA := Lib.hid ((At.start w).alloc (.cells #[.int .i64 k, .int .i64 e, .int .i64 s, .int .i64 l, .slice A n c] 57))
  go_enter Try.func30, Try.ntmps30
  go_wp2_with (first
    | (go_at_call 34; with_reducible refine (K0.out _).mono ?_; rintro e' w' ⟨rfl, rfl⟩)
    | (go_at_call 37; with_reducible refine (K1.out _).mono ?_; rintro e' w' ⟨rfl, rfl⟩)
    | (go_at_call 37; with_reducible refine (K2.out _).mono ?_; rintro e' w' ⟨rfl, rfl⟩))
  go_ret2
  exact ⟨rfl, HA.out⟩

set_option maxHeartbeats 1000000 in
set_option maxRecDepth 100000 in
theorem encode_lba (A : Option Addr) (k e s l : Int) (n c : Nat) (h0 : 1 ≤ k ∧ k ≤ 4) (h1 : 0 ≤ e ∧ e ≤ 4294967295) (h2 : 0 ≤ s ∧ s ≤ 1099511627776) (h : ¬ (0 ≤ l ∧ l ≤ 1048576)) (w : World) :
    Calls Try.prog 30 #[.agg #[.int .i64 k, .int .i64 e, .int .i64 s, .int .i64 l, .slice A n c]] w (Gives (.tuple #[.slice none 0 0, .int .i64 1]) w) := by
  have K0 : Hid (∀ w, Calls Try.prog 34 #[.int .i64 k] w fun e w' => e = .returned (.bool true) ∧ w = w') := Lib.hid fun w => by
    have := iskind_any k w
    rwa [decide_eq_true (by omega)] at this
  have K1 : Hid (∀ w, Calls Try.prog 37 #[.int .i64 e, .int .i64 4294967295] w fun e w' => e = .returned (.bool true) ∧ w = w') := Lib.hid fun w => by
    have := upto_any e 4294967295 w
    rwa [decide_eq_true (by omega)] at this
  have K2 : Hid (∀ w, Calls Try.prog 37 #[.int .i64 s, .int .i64 1099511627776] w fun e w' => e = .returned (.bool true) ∧ w = w') := Lib.hid fun w => by
    have := upto_any s 1099511627776 w
    rwa [decide_eq_true (by omega)] at this
  have K3 : Hid (∀ w, Calls Try.prog 37 #[.int .i64 l, .int .i64 1048576] w fun e w' => e = .returned (.bool false) ∧ w = w') := Lib.hid fun w => by
    have := upto_any l 1048576 w
    rwa [decide_eq_false (by omega)] at this
  have HA := Lib.hid ((At.start w).alloc (.cells #[.int .i64 k, .int .i64 e, .int .i64 s, .int .i64 l, .slice A n c] 57))
  go_enter Try.func30, Try.ntmps30
  go_wp2_with (first
    | (go_at_call 34; with_reducible refine (K0.out _).mono ?_; rintro e' w' ⟨rfl, rfl⟩)
    | (go_at_call 37; with_reducible refine (K1.out _).mono ?_; rintro e' w' ⟨rfl, rfl⟩)
    | (go_at_call 37; with_reducible refine (K2.out _).mono ?_; rintro e' w' ⟨rfl, rfl⟩)
    | (go_at_call 37; with_reducible refine (K3.out _).mono ?_; rintro e' w' ⟨rfl, rfl⟩))
  go_ret2
  exact ⟨rfl, HA.out⟩

set_option maxHeartbeats 1000000 in
set_option maxRecDepth 100000 in
theorem encode_len (A : Option Addr) (k e s l : Int) (n c : Nat) (h0 : 1 ≤ k ∧ k ≤ 4) (h1 : 0 ≤ e ∧ e ≤ 4294967295) (h2 : 0 ≤ s ∧ s ≤ 1099511627776) (h3 : 0 ≤ l ∧ l ≤ 1048576) (h : 40 < n) (w : World) :
    Calls Try.prog 30 #[.agg #[.int .i64 k, .int .i64 e, .int .i64 s, .int .i64 l, .slice A n c]] w (Gives (.tuple #[.slice none 0 0, .int .i64 3]) w) := by
  have K0 : Hid (∀ w, Calls Try.prog 34 #[.int .i64 k] w fun e w' => e = .returned (.bool true) ∧ w = w') := Lib.hid fun w => by
    have := iskind_any k w
    rwa [decide_eq_true (by omega)] at this
  have K1 : Hid (∀ w, Calls Try.prog 37 #[.int .i64 e, .int .i64 4294967295] w fun e w' => e = .returned (.bool true) ∧ w = w') := Lib.hid fun w => by
    have := upto_any e 4294967295 w
    rwa [decide_eq_true (by omega)] at this
  have K2 : Hid (∀ w, Calls Try.prog 37 #[.int .i64 s, .int .i64 1099511627776] w fun e w' => e = .returned (.bool true) ∧ w = w') := Lib.hid fun w => by
    have := upto_any s 1099511627776 w
    rwa [decide_eq_true (by omega)] at this
  have K3 : Hid (∀ w, Calls Try.prog 37 #[.int .i64 l, .int .i64 1048576] w fun e w' => e = .returned (.bool true) ∧ w = w') := Lib.hid fun w => by
    have := upto_any l 1048576 w
    rwa [decide_eq_true (by omega)] at this
  have HA := Lib.hid ((At.start w).alloc (.cells #[.int .i64 k, .int .i64 e, .int .i64 s, .int .i64 l, .slice A n c] 57))
  go_enter Try.func30, Try.ntmps30
  go_wp2_with (first
    | (go_at_call 34; with_reducible refine (K0.out _).mono ?_; rintro e' w' ⟨rfl, rfl⟩)
    | (go_at_call 37; with_reducible refine (K1.out _).mono ?_; rintro e' w' ⟨rfl, rfl⟩)
    | (go_at_call 37; with_reducible refine (K2.out _).mono ?_; rintro e' w' ⟨rfl, rfl⟩)
    | (go_at_call 37; with_reducible refine (K3.out _).mono ?_; rintro e' w' ⟨rfl, rfl⟩))
  go_ret2
  exact ⟨rfl, HA.out⟩

/-- What a block's numbers may be. -/
def Nums (k e s l : Int) : Prop := (1 ≤ k ∧ k ≤ 4) ∧ (0 ≤ e ∧ e ≤ 4294967295) ∧ (0 ≤ s ∧ s ≤ 1099511627776) ∧ (0 ≤ l ∧ l ≤ 1048576)
theorem encode_arg (A : Option Addr) (k e s l : Int) (n c : Nat) (h : ¬ Nums k e s l) (w : World) :
    Calls Try.prog 30 #[.agg #[.int .i64 k, .int .i64 e, .int .i64 s, .int .i64 l, .slice A n c]] w (Gives (.tuple #[.slice none 0 0, .int .i64 1]) w) := by
  by_cases h0 : 1 ≤ k ∧ k ≤ 4
  · by_cases h1 : 0 ≤ e ∧ e ≤ 4294967295
    · by_cases h2 : 0 ≤ s ∧ s ≤ 1099511627776
      · exact encode_lba A k e s l n c h0 h1 h2 (fun h3 => h ⟨h0, h1, h2, h3⟩) w
      · exact encode_seq A k e s l n c h0 h1 h2 w
    · exact encode_epoch A k e s l n c h0 h1 w
  · exact encode_kind A k e s l n c h0 w

end Go.Proofs.Ytgmekkenodiclaa
