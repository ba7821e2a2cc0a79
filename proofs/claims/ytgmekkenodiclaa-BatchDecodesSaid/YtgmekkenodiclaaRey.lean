/- Proved: the document's own Encode writes a block that may be as its 64 bytes, in memory of their own. -/
import Derived.Test.YtgmekkenodiclaaRen
namespace Go.Proofs.Ytgmekkenodiclaa
open Go.RowKit

theorem made_two (w : World) (a b : Nat) : (w.alloc (.cells #[.int .u8 (a : Int), .int .u8 (b : Int)] 5)).ownsRow w.heap.size 5 1 (.slice (some ⟨w.heap.size, 0, none⟩) 2 2) 2 ([a, b].map bt) :=
  ⟨rfl, .inr ⟨w.heap.size, 2, #[.int .u8 (a : Int), .int .u8 (b : Int)], rfl, Nat.le_refl _, heap_alloc_new w _, Nat.le_refl _, by unfold maxLen; omega, rfl, rfl⟩⟩
theorem hd_sum (k e s l n : Nat) (L : List Nat) (hl : L.length = n) (hn : n ≤ 40) : ((((([k, n] ++ pt 4 e) ++ pt 8 s) ++ pt 4 l) ++ L) ++ zr (42 - n)) = hd k e s l L := by
  subst hl
  simp [hd, zr, List.append_assoc]

theorem rfour (v : Nat) (w : World) : Calls Try.prog 44 #[.int .u64 (v : Int), .int .i64 4] w fun e w' => ∃ g c, e = .returned (.slice (some ⟨g, 0, none⟩) 4 c) ∧ BV w' (some ⟨g, 0, none⟩) (pt 4 v) ∧ At w w' := by
  refine (rput_any v 4 (by omega) (by omega) w).mono ?_
  rintro e w' ⟨g, c, rfl, _, h2, h3⟩
  rw [pt_len]
  exact ⟨g, c, rfl, h2, h3⟩
theorem reight (v : Nat) (w : World) : Calls Try.prog 44 #[.int .u64 (v : Int), .int .i64 8] w fun e w' => ∃ g c, e = .returned (.slice (some ⟨g, 0, none⟩) 8 c) ∧ BV w' (some ⟨g, 0, none⟩) (pt 8 v) ∧ At w w' := by
  refine (rput_any v 8 (by omega) (by omega) w).mono ?_
  rintro e w' ⟨g, c, rfl, _, h2, h3⟩
  rw [pt_len]
  exact ⟨g, c, rfl, h2, h3⟩

set_option maxHeartbeats 2000000 in
set_option maxRecDepth 100000 in
theorem rencode_yes (k e s l : Nat) (A : Option Addr) (n c : Nat) (L : List Nat) (hm : May k e s l L) (hl : L.length = n) (hz : A = none → n = 0 ∧ c = 0) (w : World) (hx : BV w A L) :
    Calls Try.prog 42 #[.agg #[.int .i64 (k : Int), .int .i64 (e : Int), .int .i64 (s : Int), .int .i64 (l : Int), .slice A n c]] w fun x w' => ∃ g c', x = .returned (.tuple #[.slice (some ⟨g, 0, none⟩) 64 c', .int .i64 0]) ∧ BV w' (some ⟨g, 0, none⟩) (en k e s l L) ∧ At w w' := by
  have h1 := hm.k1
  have h2 := hm.k4
  have h3 := hm.e32
  have h4 := hm.s40
  have h5 := hm.l20
  have hn := hm.n
  rw [hl] at hn
  have d0 : decide ((k : Int) < 1) = false := decide_eq_false (by omega)
  have d1 : decide (4 < (k : Int)) = false := decide_eq_false (by omega)
  have d2 : decide ((e : Int) < 0) = false := decide_eq_false (by omega)
  have d3 : decide (4294967295 < (e : Int)) = false := decide_eq_false (by omega)
  have d4 : decide ((s : Int) < 0) = false := decide_eq_false (by omega)
  have d5 : decide (1099511627776 < (s : Int)) = false := decide_eq_false (by omega)
  have d6 : decide ((l : Int) < 0) = false := decide_eq_false (by omega)
  have d7 : decide (1048576 < (l : Int)) = false := decide_eq_false (by omega)
  have d8 : decide ((40 : Int) < (n : Int)) = false := decide_eq_false (by omega)
  have e64 : IntKind.u64.wrap (e : Int) = (e : Int) := by rw [IntKind.wrap_u64]; omega
  have s64 : IntKind.u64.wrap (s : Int) = (s : Int) := by rw [IntKind.wrap_u64]; omega
  have l64 : IntKind.u64.wrap (l : Int) = (l : Int) := by rw [IntKind.wrap_u64]; omega
  obtain ⟨b, hb⟩ : ∃ b, b = w.heap.size := ⟨_, rfl⟩
  obtain ⟨w1, hw1⟩ : ∃ w1, w1 = w.alloc (.cells #[.int .i64 (k : Int), .int .i64 (e : Int), .int .i64 (s : Int), .int .i64 (l : Int), .slice A n c] 63) := ⟨_, rfl⟩
  have B1 : Hid (Bx w1 b 63 (k : Int) (e : Int) (s : Int) (l : Int) (.slice A n c)) := Lib.hid (by rw [hw1, hb]; exact bx_new _ _ _ _ _ _ _)
  have HA : Hid (At w w1) := Lib.hid (by rw [hw1]; exact (At.start w).alloc _)
  have HX : Hid (BV w1 A L) := Lib.hid (HA.out.bv hx)
  have HS1 : Hid (b + 1 = w1.heap.size) := Lib.hid (by rw [hw1, hb]; simp)
  obtain ⟨w2, hw2⟩ : ∃ w2, w2 = w1.alloc (.cells #[.int .u8 (k : Int), .int .u8 (n : Int)] 5) := ⟨_, rfl⟩
  have O2 : Hid (w2.ownsRow w1.heap.size 5 1 (.slice (some ⟨w1.heap.size, 0, none⟩) 2 2) 2 ([k, n].map bt)) := Lib.hid (by rw [hw2]; exact made_two w1 k n)
  have A2 : Hid (At w1 w2) := Lib.hid (by rw [hw2]; exact (At.start w1).alloc _)
  have x1 : ((w.alloc (.cells #[.int .i64 (k : Int), .int .i64 (e : Int), .int .i64 (s : Int), .int .i64 (l : Int), .slice A n c] 63)).alloc (.cells #[.int .u8 (k : Int), .int .u8 (n : Int)] 5)).cell? ⟨w.heap.size, 1, none⟩ = some (.int .i64 (e : Int)) := by
    rw [← hw1, ← hb, ← hw2]; exact (B1.out.on A2.out).cells.2.1
  have HP := Lib.hid hd_sum
  have HL := Lib.hid hl
  have HM := Lib.hid hm
  have HZ := Lib.hid hz
  have HW1 := Lib.hid hw1
  have HW2 := Lib.hid hw2
  have HB := Lib.hid hb
  clear hm hl hz hx hw1 hw2 hb
  go_enter Try.func42, Try.ntmps42
  go_wp2_with fail
  rw [← HW1.out, ← HW2.out, ← HB.out, HS1.out]
  refine (rfour e _).mono ?_
  rintro x w3 ⟨g3, c3, rfl, v3, a3⟩
  have O3 := Lib.hid (own_at O2.out a3)
  have A3 := Lib.hid (A2.out.next a3)
  have V3 := Lib.hid v3
  clear v3 a3 x1
  go_wp2_with (at_builtin; refine list_append rfl (.tmp 55) (.tmp 59) rfl w1.heap.size _ 2 [k, n] rfl O3.out (some ⟨g3, 0, none⟩) 4 c3 (pt 4 e) rfl (fun h => by cases h) V3.out (pt_len _ _) (by omega) A3.out.size ?_; intro u4 w4 o4 t4; have A4 := Lib.hid (t4 w1 A3.out (Nat.le_refl _)); have O4 := Lib.hid o4; have x2 := (B1.out.on A4.out).cells.2.2.1; clear t4 o4)
  refine (reight s _).mono ?_
  rintro x w5 ⟨g5, c5, rfl, v5, a5⟩
  have O5 := Lib.hid (own_at O4.out a5)
  have A5 := Lib.hid (A4.out.next a5)
  have V5 := Lib.hid v5
  clear v5 a5 x2
  go_wp2_with (at_builtin; refine list_append rfl (.tmp 61) (.tmp 65) rfl w1.heap.size _ 6 _ rfl O5.out (some ⟨g5, 0, none⟩) 8 c5 (pt 8 s) rfl (fun h => by cases h) V5.out (pt_len _ _) (by omega) A5.out.size ?_; intro u6 w6 o6 t6; have A6 := Lib.hid (t6 w1 A5.out (Nat.le_refl _)); have O6 := Lib.hid o6; have x3 := (B1.out.on A6.out).cells.2.2.2.1; clear t6 o6)
  refine (rfour l _).mono ?_
  rintro x w7 ⟨g7, c7, rfl, v7, a7⟩
  have O7 := Lib.hid (own_at O6.out a7)
  have A7 := Lib.hid (A6.out.next a7)
  have V7 := Lib.hid v7
  clear v7 a7 x3
  go_wp2_with (first
    | (at_builtin; refine list_append rfl (.tmp 67) (.tmp 71) rfl w1.heap.size _ 14 _ rfl O7.out (some ⟨g7, 0, none⟩) 4 c7 (pt 4 l) rfl (fun h => by cases h) V7.out (pt_len _ _) (by omega) A7.out.size ?_; intro u8 w8 o8 t8; have A8 := Lib.hid (t8 w1 A7.out (Nat.le_refl _)); have O8 := Lib.hid o8; have x4 := (B1.out.on A8.out).cells.2.2.2.2; clear t8 o8)
    | (at_builtin; refine list_append rfl (.tmp 73) (.tmp 75) rfl w1.heap.size _ 18 _ rfl O8.out A n c L rfl HZ.out (HX.out.below A8.out) HL.out (by omega) A8.out.size ?_; intro u9 w9 o9 t9; have A9 := Lib.hid (t9 w1 A8.out (Nat.le_refl _)); obtain ⟨B9, k9, rfl, _, _⟩ := own_view o9; have O9 := Lib.hid o9; clear t9 o9 x4))
  obtain ⟨D, hD⟩ : ∃ D, D = [k, n] ++ pt 4 e ++ pt 8 s ++ pt 4 l ++ L := ⟨_, rfl⟩
  rw [← hD] at O9
  have HD := Lib.hid hD
  have HDL : Hid (D.length = 18 + n) := Lib.hid (by rw [hD]; simp [pt_len, HL.out]; omega)
  clear hD
  go_loopw [4] (fun c4 wr => ∃ (m cp : Nat) (B : Option Addr), m ≤ 42 - n ∧ c4 = .slice B (18 + n + m) cp ∧ Hid (wr.ownsRow w1.heap.size 5 1 (.slice B (18 + n + m) cp) (18 + n + m) ((D ++ zr m).map bt)) ∧ Hid (At w1 wr)) (fun c4 _ => match c4 with | .slice _ q _ => 60 - q | _ => 0)
  case atStart => exact ⟨0, k9, B9, by omega, rfl, Lib.hid (by rw [show zr 0 = [] from rfl, List.append_nil]; exact O9.out), A9⟩
  case round =>
    obtain ⟨m, cp, B, hmn, rfl, HO, HAW⟩ := hrel
    by_cases hlt : m < 42 - n
    · have q1 : (18 + (n : Int) + (m : Int)) < 60 := by omega
      go_wp2_with (at_builtin; refine list_append rfl (.tmp 80) (.tmp 81) rfl w1.heap.size _ (18 + n + m) (D ++ zr m) rfl (HO.out.alloc _) (some ⟨wr.heap.size, 0, none⟩) 1 1 [0] rfl (fun h => by cases h) (row_new wr #[.int .u8 0] [0] rfl).bv rfl (by omega) (by simp; have := HAW.out.size; omega) ?_; intro v' w' o' t'; have A' := Lib.hid (t' w1 (At.alloc HAW.out _) (Nat.le_refl _)); obtain ⟨B', k', rfl, _, _⟩ := own_view o'; have O' := Lib.hid o'; clear t' o')
      go_roundw
      case rel => exact ⟨m + 1, k', B', by omega, rfl, Lib.hid (by
        have := O'.out
        rw [List.append_assoc] at this
        rw [show zr (m + 1) = zr m ++ [0] from List.replicate_succ']
        exact this), A'⟩
      case measure => simp; omega
    · have hme : m = 42 - n := by omega
      subst hme
      have q1 : ¬ (18 + (n : Int) + ((42 - n : Nat) : Int)) < 60 := by omega
      have ho := HO.out
      have e60 : 18 + n + (42 - n) = 60 := by omega
      have hh : D ++ zr (42 - n) = hd k e s l L := by rw [HD.out]; exact HP.out k e s l n L HL.out hn
      rw [hh] at ho
      have hq60 := hd_len (k := k) (e := e) (s := s) (l := l) (L := L) (by rw [HL.out]; exact hn)
      have hqB := hd_byte HM.out
      have hen : en k e s l L = hd k e s l L ++ pt 4 (cr (hd k e s l L)) := rfl
      obtain ⟨H, hH⟩ : ∃ H, H = hd k e s l L := ⟨_, rfl⟩
      rw [← hH] at ho hq60 hqB hen
      have hbv := (own_bv ho).2
      rw [e60] at ho ⊢
      have K := Lib.hid (rcrc_any B 60 cp H (by omega) hq60 hqB wr hbv)
      have hy32 := cr_lt H hqB
      obtain ⟨y, hy⟩ : ∃ x, x = cr H := ⟨_, rfl⟩
      rw [← hy] at K hen hy32
      have y64 : IntKind.u64.wrap (y : Int) = (y : Int) := by rw [IntKind.wrap_u64]; omega
      have HEN := Lib.hid hen
      have OO := Lib.hid ho
      clear hH hy hh hq60 hqB hen hbv ho HO
      go_wp2_with fail
      with_reducible refine K.out.mono ?_
      rintro x w' ⟨rfl, rfl⟩
      go_wp2_with fail
      with_reducible refine (rfour y _).mono ?_
      rintro x wx ⟨gx, cx, rfl, vx, ax⟩
      have OX := Lib.hid (own_at OO.out ax)
      have AX := Lib.hid (HAW.out.next ax)
      have VX := Lib.hid vx
      clear vx ax
      go_wp2_with (at_builtin; refine list_append rfl (.tmp 83) (.tmp 87) rfl w1.heap.size _ 60 _ rfl OX.out (some ⟨gx, 0, none⟩) 4 cx (pt 4 y) rfl (fun h => by cases h) VX.out (pt_len _ _) (by omega) AX.out.size ?_; intro uz wz oz tz; have AZ := Lib.hid (tz w1 AX.out (Nat.le_refl _)); rw [← HEN.out] at oz; have OZ := Lib.hid oz; obtain ⟨gz, cz, rfl, _, _⟩ := oz.form (by omega); clear tz oz)
      go_ret2
      exact ⟨gz, cz, rfl, (own_bv OZ.out).2, HA.out.next AZ.out⟩

end Go.Proofs.Ytgmekkenodiclaa
