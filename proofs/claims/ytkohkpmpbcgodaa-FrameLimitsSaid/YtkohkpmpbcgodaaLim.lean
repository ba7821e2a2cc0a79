/- Proved: the law FrameLimits answers true at any numbers and leaves what there was as it was: a body may have so many bytes, an LBA, a number, an epoch be so great, and not one more. -/
import Derived.Test.YtkohkpmpbcgodaaLaw
namespace Go.Proofs.Ytkohkpmpbcgodaa
open Go.RowKit

theorem made_zn (n : Nat) : madeCells (Value.int .u8 0).cells n = ((zr n).map bt).toArray := by
  apply Array.toList_inj.1
  show (madeCells #[Value.int .u8 0] n).toList = _
  rw [toList_madeCells_one]
  simp [zr, bt]

set_option maxHeartbeats 1000000 in
set_option maxRecDepth 100000 in
/-- So many bytes that hang on a number. -/
theorem block_any (n : Nat) (hn : n ≤ 60) (w : World) :
    Calls Try.prog 18 #[.int .i64 (n : Int), .int .i64 1] w fun x w' => ∃ (g : Nat) (L : List Nat), x = .returned (.slice (some ⟨g, 0, none⟩) n n) ∧ L.length = n ∧ AllB L ∧ BV w' (some ⟨g, 0, none⟩) L ∧ At w w' := by
  obtain ⟨g, hg⟩ : ∃ g, g = w.heap.size := ⟨_, rfl⟩
  have hmk := make_u8 n (by omega) w
  rw [made_zn, ← hg] at hmk
  obtain ⟨w1, hw1⟩ : ∃ w1, w1 = w.alloc (.cells ((zr n).map bt).toArray 5) := ⟨_, rfl⟩
  rw [← hw1] at hmk
  have R1 : Hid (Row w1 g (zr n)) := Lib.hid (by rw [hw1, hg]; exact row_new _ _ _ rfl)
  have A1 : Hid (At w w1) := Lib.hid (by rw [hw1]; exact (At.start w).alloc _)
  have HG := Lib.hid hg
  have hmx : max (n : Int) 0 = (n : Int) := by omega
  have HR := Lib.hid (fun k w' => round_any k 251 (by omega) (by omega) w')
  clear hg hw1
  go_enter Try.func18, Try.ntmps18
  go_wp2
  go_loopw [6] (fun c6 wr => ∃ (j : Nat) (Q : List Nat), j ≤ n ∧ c6 = .int .i64 (j : Int) ∧ Hid (Q.length = n) ∧ Hid (AllB Q) ∧ Hid (Row wr g Q) ∧ Hid (At w wr)) (fun c6 _ => n - (intOf c6).toNat)
  case atStart => exact ⟨0, zr n, Nat.zero_le _, rfl, Lib.hid (zr_len n), Lib.hid (allB_zr n), R1, A1⟩
  case round =>
    obtain ⟨j, Q, hj, rfl, HL, HB, HQ, HA⟩ := hrel
    by_cases hlt : j < n
    · have e1 := HQ.out.cell j (by rw [HL.out]; exact hlt)
      have f1 := HQ.out.free j
      have hjj : j * j ≤ 3600 := Nat.le_trans (Nat.mul_le_mul (show j ≤ 60 by omega) (show j ≤ 60 by omega)) (by omega)
      obtain ⟨m, hm⟩ : ∃ m, m = j * j := ⟨_, rfl⟩
      rw [← hm] at hjj
      have hm2 : (j : Int) * (j : Int) = (m : Int) := by rw [hm]; simp
      have hr := rd_lt ((m : Int) + 7 + 1) 251 (by omega)
      have hr8 : rd ((m : Int) + 8) 251 < 251 := rd_lt _ 251 (by omega)
      clear hm
      obtain ⟨r, hre⟩ : ∃ r, r = rd ((m : Int) + 7 + 1) 251 := ⟨_, rfl⟩
      rw [← hre] at hr
      obtain ⟨HQ2, HA2⟩ := (⟨Lib.hid (HQ.out.set j r), Lib.hid (Below.setCell (p := ⟨g, j, none⟩) HA.out (by rw [HG.out]; exact Nat.le_refl _) _)⟩ : Hid (Row (wr.setCell ⟨g, j, none⟩ (.int .u8 (r : Int))) g (Q.set j r)) ∧ Hid (At w (wr.setCell ⟨g, j, none⟩ (.int .u8 (r : Int)))))
      have HRE := Lib.hid hre
      clear hre hr8
      go_wp2_with fail
      refine (HR.out _ _).mono ?_
      rintro x w' ⟨rfl, rfl⟩
      rw [← HRE.out]
      go_wp2
      go_roundw
      case rel => exact ⟨j + 1, Q.set j r, by omega, by go_num, Lib.hid (by rw [List.length_set]; exact HL.out), Lib.hid (allB_set HB.out j (by omega)), HQ2, HA2⟩
      case measure => simp [intOf]; omega
    · have hjn : j = n := by omega
      subst hjn
      go_wp2
      go_ret
      exact ⟨g, Q, rfl, HL.out, HB.out, HQ.out.bv, HA.out⟩

set_option maxHeartbeats 1000000 in
set_option maxRecDepth 100000 in
theorem limits_out (n l s e k : Int) (h : n < 0 ∨ 60 < n) (w : World) :
    Calls Try.prog 6 #[.int .i64 n, .int .i64 l, .int .i64 s, .int .i64 e, .int .i64 k] w (Gives (.bool true) w) := by
  rcases h with h | h
  · have q : decide (n < 0) = true := decide_eq_true h
    go_enter Try.func6, Try.ntmps6
    go_wp2_with (go_at_call 8; refine (awake_any _).mono ?_; rintro x w' ⟨rfl, hb⟩)
    go_ret
    exact ⟨rfl, hb⟩
  · have q0 : ¬ n < 0 := by omega
    have q : decide (60 < n) = true := decide_eq_true h
    go_enter Try.func6, Try.ntmps6
    go_wp2_with (go_at_call 8; refine (awake_any _).mono ?_; rintro x w' ⟨rfl, hb⟩)
    go_ret
    exact ⟨rfl, hb⟩

set_option maxHeartbeats 1000000 in
set_option maxRecDepth 100000 in
theorem limits_0 (n : Nat) (l s e k : Int) (hn : n ≤ 60) (t0 : k < 1) (w : World) :
    Calls Try.prog 6 #[.int .i64 (n : Int), .int .i64 l, .int .i64 s, .int .i64 e, .int .i64 k] w (Gives (.bool true) w) := by
  have he := fun A w => encode_arg A k e s l n n (fun h => by obtain ⟨⟨_, _⟩, ⟨_, _⟩, ⟨_, _⟩, ⟨_, _⟩⟩ := h; omega) w
  have HE := Lib.hid he
  clear he
  have d0 : decide (k < 1) = true := decide_eq_true t0
  go_enter Try.func6, Try.ntmps6
  go_wp2_with fail
  refine (block_any n hn _).mono ?_
  rintro x w1 ⟨g, L, rfl, _, _, _, h1⟩
  have H1 := Lib.hid h1
  clear h1
  go_wp2_with fail
  refine (HE.out _ _).mono ?_
  rintro x w2 ⟨rfl, h2⟩
  have H2 := Lib.hid (H1.out.next h2)
  clear h2
  go_wp2_with fail
  refine (awake_any _).mono ?_
  rintro x w3 ⟨rfl, h3⟩
  have H3 := Lib.hid (H2.out.next h3)
  clear h3
  go_wp2
  go_ret
  exact ⟨rfl, H3.out⟩

set_option maxHeartbeats 1000000 in
set_option maxRecDepth 100000 in
theorem limits_1 (n : Nat) (l s e k : Int) (hn : n ≤ 60) (t0 : ¬ k < 1) (t1 : 4 < k) (w : World) :
    Calls Try.prog 6 #[.int .i64 (n : Int), .int .i64 l, .int .i64 s, .int .i64 e, .int .i64 k] w (Gives (.bool true) w) := by
  have he := fun A w => encode_arg A k e s l n n (fun h => by obtain ⟨⟨_, _⟩, ⟨_, _⟩, ⟨_, _⟩, ⟨_, _⟩⟩ := h; omega) w
  have HE := Lib.hid he
  clear he
  have d0 : decide (k < 1) = false := decide_eq_false t0
  have d1 : decide (4 < k) = true := decide_eq_true t1
  go_enter Try.func6, Try.ntmps6
  go_wp2_with fail
  refine (block_any n hn _).mono ?_
  rintro x w1 ⟨g, L, rfl, _, _, _, h1⟩
  have H1 := Lib.hid h1
  clear h1
  go_wp2_with fail
  refine (HE.out _ _).mono ?_
  rintro x w2 ⟨rfl, h2⟩
  have H2 := Lib.hid (H1.out.next h2)
  clear h2
  go_wp2_with fail
  refine (awake_any _).mono ?_
  rintro x w3 ⟨rfl, h3⟩
  have H3 := Lib.hid (H2.out.next h3)
  clear h3
  go_wp2
  go_ret
  exact ⟨rfl, H3.out⟩

set_option maxHeartbeats 1000000 in
set_option maxRecDepth 100000 in
theorem limits_2 (n : Nat) (l s e k : Int) (hn : n ≤ 60) (t0 : ¬ k < 1) (t1 : ¬ 4 < k) (t2 : l < 0) (w : World) :
    Calls Try.prog 6 #[.int .i64 (n : Int), .int .i64 l, .int .i64 s, .int .i64 e, .int .i64 k] w (Gives (.bool true) w) := by
  have he := fun A w => encode_arg A k e s l n n (fun h => by obtain ⟨⟨_, _⟩, ⟨_, _⟩, ⟨_, _⟩, ⟨_, _⟩⟩ := h; omega) w
  have HE := Lib.hid he
  clear he
  have d0 : decide (k < 1) = false := decide_eq_false t0
  have d1 : decide (4 < k) = false := decide_eq_false t1
  have d2 : decide (l < 0) = true := decide_eq_true t2
  go_enter Try.func6, Try.ntmps6
  go_wp2_with fail
  refine (block_any n hn _).mono ?_
  rintro x w1 ⟨g, L, rfl, _, _, _, h1⟩
  have H1 := Lib.hid h1
  clear h1
  go_wp2_with fail
  refine (HE.out _ _).mono ?_
  rintro x w2 ⟨rfl, h2⟩
  have H2 := Lib.hid (H1.out.next h2)
  clear h2
  go_wp2_with fail
  refine (awake_any _).mono ?_
  rintro x w3 ⟨rfl, h3⟩
  have H3 := Lib.hid (H2.out.next h3)
  clear h3
  go_wp2
  go_ret
  exact ⟨rfl, H3.out⟩

set_option maxHeartbeats 1000000 in
set_option maxRecDepth 100000 in
theorem limits_3 (n : Nat) (l s e k : Int) (hn : n ≤ 60) (t0 : ¬ k < 1) (t1 : ¬ 4 < k) (t2 : ¬ l < 0) (t3 : 1048576 < l) (w : World) :
    Calls Try.prog 6 #[.int .i64 (n : Int), .int .i64 l, .int .i64 s, .int .i64 e, .int .i64 k] w (Gives (.bool true) w) := by
  have he := fun A w => encode_arg A k e s l n n (fun h => by obtain ⟨⟨_, _⟩, ⟨_, _⟩, ⟨_, _⟩, ⟨_, _⟩⟩ := h; omega) w
  have HE := Lib.hid he
  clear he
  have d0 : decide (k < 1) = false := decide_eq_false t0
  have d1 : decide (4 < k) = false := decide_eq_false t1
  have d2 : decide (l < 0) = false := decide_eq_false t2
  have d3 : decide (1048576 < l) = true := decide_eq_true t3
  go_enter Try.func6, Try.ntmps6
  go_wp2_with fail
  refine (block_any n hn _).mono ?_
  rintro x w1 ⟨g, L, rfl, _, _, _, h1⟩
  have H1 := Lib.hid h1
  clear h1
  go_wp2_with fail
  refine (HE.out _ _).mono ?_
  rintro x w2 ⟨rfl, h2⟩
  have H2 := Lib.hid (H1.out.next h2)
  clear h2
  go_wp2_with fail
  refine (awake_any _).mono ?_
  rintro x w3 ⟨rfl, h3⟩
  have H3 := Lib.hid (H2.out.next h3)
  clear h3
  go_wp2
  go_ret
  exact ⟨rfl, H3.out⟩

set_option maxHeartbeats 1000000 in
set_option maxRecDepth 100000 in
theorem limits_4 (n : Nat) (l s e k : Int) (hn : n ≤ 60) (t0 : ¬ k < 1) (t1 : ¬ 4 < k) (t2 : ¬ l < 0) (t3 : ¬ 1048576 < l) (t4 : s < 0) (w : World) :
    Calls Try.prog 6 #[.int .i64 (n : Int), .int .i64 l, .int .i64 s, .int .i64 e, .int .i64 k] w (Gives (.bool true) w) := by
  have he := fun A w => encode_arg A k e s l n n (fun h => by obtain ⟨⟨_, _⟩, ⟨_, _⟩, ⟨_, _⟩, ⟨_, _⟩⟩ := h; omega) w
  have HE := Lib.hid he
  clear he
  have d0 : decide (k < 1) = false := decide_eq_false t0
  have d1 : decide (4 < k) = false := decide_eq_false t1
  have d2 : decide (l < 0) = false := decide_eq_false t2
  have d3 : decide (1048576 < l) = false := decide_eq_false t3
  have d4 : decide (s < 0) = true := decide_eq_true t4
  go_enter Try.func6, Try.ntmps6
  go_wp2_with fail
  refine (block_any n hn _).mono ?_
  rintro x w1 ⟨g, L, rfl, _, _, _, h1⟩
  have H1 := Lib.hid h1
  clear h1
  go_wp2_with fail
  refine (HE.out _ _).mono ?_
  rintro x w2 ⟨rfl, h2⟩
  have H2 := Lib.hid (H1.out.next h2)
  clear h2
  go_wp2_with fail
  refine (awake_any _).mono ?_
  rintro x w3 ⟨rfl, h3⟩
  have H3 := Lib.hid (H2.out.next h3)
  clear h3
  go_wp2
  go_ret
  exact ⟨rfl, H3.out⟩

set_option maxHeartbeats 1000000 in
set_option maxRecDepth 100000 in
theorem limits_5 (n : Nat) (l s e k : Int) (hn : n ≤ 60) (t0 : ¬ k < 1) (t1 : ¬ 4 < k) (t2 : ¬ l < 0) (t3 : ¬ 1048576 < l) (t4 : ¬ s < 0) (t5 : 1099511627776 < s) (w : World) :
    Calls Try.prog 6 #[.int .i64 (n : Int), .int .i64 l, .int .i64 s, .int .i64 e, .int .i64 k] w (Gives (.bool true) w) := by
  have he := fun A w => encode_arg A k e s l n n (fun h => by obtain ⟨⟨_, _⟩, ⟨_, _⟩, ⟨_, _⟩, ⟨_, _⟩⟩ := h; omega) w
  have HE := Lib.hid he
  clear he
  have d0 : decide (k < 1) = false := decide_eq_false t0
  have d1 : decide (4 < k) = false := decide_eq_false t1
  have d2 : decide (l < 0) = false := decide_eq_false t2
  have d3 : decide (1048576 < l) = false := decide_eq_false t3
  have d4 : decide (s < 0) = false := decide_eq_false t4
  have d5 : decide (1099511627776 < s) = true := decide_eq_true t5
  go_enter Try.func6, Try.ntmps6
  go_wp2_with fail
  refine (block_any n hn _).mono ?_
  rintro x w1 ⟨g, L, rfl, _, _, _, h1⟩
  have H1 := Lib.hid h1
  clear h1
  go_wp2_with fail
  refine (HE.out _ _).mono ?_
  rintro x w2 ⟨rfl, h2⟩
  have H2 := Lib.hid (H1.out.next h2)
  clear h2
  go_wp2_with fail
  refine (awake_any _).mono ?_
  rintro x w3 ⟨rfl, h3⟩
  have H3 := Lib.hid (H2.out.next h3)
  clear h3
  go_wp2
  go_ret
  exact ⟨rfl, H3.out⟩

set_option maxHeartbeats 1000000 in
set_option maxRecDepth 100000 in
theorem limits_6 (n : Nat) (l s e k : Int) (hn : n ≤ 60) (t0 : ¬ k < 1) (t1 : ¬ 4 < k) (t2 : ¬ l < 0) (t3 : ¬ 1048576 < l) (t4 : ¬ s < 0) (t5 : ¬ 1099511627776 < s) (t6 : e < 0) (w : World) :
    Calls Try.prog 6 #[.int .i64 (n : Int), .int .i64 l, .int .i64 s, .int .i64 e, .int .i64 k] w (Gives (.bool true) w) := by
  have he := fun A w => encode_arg A k e s l n n (fun h => by obtain ⟨⟨_, _⟩, ⟨_, _⟩, ⟨_, _⟩, ⟨_, _⟩⟩ := h; omega) w
  have HE := Lib.hid he
  clear he
  have d0 : decide (k < 1) = false := decide_eq_false t0
  have d1 : decide (4 < k) = false := decide_eq_false t1
  have d2 : decide (l < 0) = false := decide_eq_false t2
  have d3 : decide (1048576 < l) = false := decide_eq_false t3
  have d4 : decide (s < 0) = false := decide_eq_false t4
  have d5 : decide (1099511627776 < s) = false := decide_eq_false t5
  have d6 : decide (e < 0) = true := decide_eq_true t6
  go_enter Try.func6, Try.ntmps6
  go_wp2_with fail
  refine (block_any n hn _).mono ?_
  rintro x w1 ⟨g, L, rfl, _, _, _, h1⟩
  have H1 := Lib.hid h1
  clear h1
  go_wp2_with fail
  refine (HE.out _ _).mono ?_
  rintro x w2 ⟨rfl, h2⟩
  have H2 := Lib.hid (H1.out.next h2)
  clear h2
  go_wp2_with fail
  refine (awake_any _).mono ?_
  rintro x w3 ⟨rfl, h3⟩
  have H3 := Lib.hid (H2.out.next h3)
  clear h3
  go_wp2
  go_ret
  exact ⟨rfl, H3.out⟩

set_option maxHeartbeats 1000000 in
set_option maxRecDepth 100000 in
theorem limits_7 (n : Nat) (l s e k : Int) (hn : n ≤ 60) (t0 : ¬ k < 1) (t1 : ¬ 4 < k) (t2 : ¬ l < 0) (t3 : ¬ 1048576 < l) (t4 : ¬ s < 0) (t5 : ¬ 1099511627776 < s) (t6 : ¬ e < 0) (t7 : 4294967295 < e) (w : World) :
    Calls Try.prog 6 #[.int .i64 (n : Int), .int .i64 l, .int .i64 s, .int .i64 e, .int .i64 k] w (Gives (.bool true) w) := by
  have he := fun A w => encode_arg A k e s l n n (fun h => by obtain ⟨⟨_, _⟩, ⟨_, _⟩, ⟨_, _⟩, ⟨_, _⟩⟩ := h; omega) w
  have HE := Lib.hid he
  clear he
  have d0 : decide (k < 1) = false := decide_eq_false t0
  have d1 : decide (4 < k) = false := decide_eq_false t1
  have d2 : decide (l < 0) = false := decide_eq_false t2
  have d3 : decide (1048576 < l) = false := decide_eq_false t3
  have d4 : decide (s < 0) = false := decide_eq_false t4
  have d5 : decide (1099511627776 < s) = false := decide_eq_false t5
  have d6 : decide (e < 0) = false := decide_eq_false t6
  have d7 : decide (4294967295 < e) = true := decide_eq_true t7
  go_enter Try.func6, Try.ntmps6
  go_wp2_with fail
  refine (block_any n hn _).mono ?_
  rintro x w1 ⟨g, L, rfl, _, _, _, h1⟩
  have H1 := Lib.hid h1
  clear h1
  go_wp2_with fail
  refine (HE.out _ _).mono ?_
  rintro x w2 ⟨rfl, h2⟩
  have H2 := Lib.hid (H1.out.next h2)
  clear h2
  go_wp2_with fail
  refine (awake_any _).mono ?_
  rintro x w3 ⟨rfl, h3⟩
  have H3 := Lib.hid (H2.out.next h3)
  clear h3
  go_wp2
  go_ret
  exact ⟨rfl, H3.out⟩

set_option maxHeartbeats 1000000 in
set_option maxRecDepth 100000 in
theorem limits_len (n : Nat) (l s e k : Int) (hn : n ≤ 60) (h40 : 40 < n) (t0 : ¬ k < 1) (t1 : ¬ 4 < k) (t2 : ¬ l < 0) (t3 : ¬ 1048576 < l) (t4 : ¬ s < 0) (t5 : ¬ 1099511627776 < s) (t6 : ¬ e < 0) (t7 : ¬ 4294967295 < e) (w : World) :
    Calls Try.prog 6 #[.int .i64 (n : Int), .int .i64 l, .int .i64 s, .int .i64 e, .int .i64 k] w (Gives (.bool true) w) := by
  have he := fun A w => encode_len A k e s l n n (by omega) (by omega) (by omega) (by omega) h40 w
  have HE := Lib.hid he
  clear he
  have d8 : decide ((40 : Int) < (n : Int)) = true := decide_eq_true (by omega)
  have d0 : decide (k < 1) = false := decide_eq_false t0
  have d1 : decide (4 < k) = false := decide_eq_false t1
  have d2 : decide (l < 0) = false := decide_eq_false t2
  have d3 : decide (1048576 < l) = false := decide_eq_false t3
  have d4 : decide (s < 0) = false := decide_eq_false t4
  have d5 : decide (1099511627776 < s) = false := decide_eq_false t5
  have d6 : decide (e < 0) = false := decide_eq_false t6
  have d7 : decide (4294967295 < e) = false := decide_eq_false t7
  go_enter Try.func6, Try.ntmps6
  go_wp2_with fail
  refine (block_any n hn _).mono ?_
  rintro x w1 ⟨g, L, rfl, _, _, _, h1⟩
  have H1 := Lib.hid h1
  clear h1
  go_wp2_with fail
  refine (HE.out _ _).mono ?_
  rintro x w2 ⟨rfl, h2⟩
  have H2 := Lib.hid (H1.out.next h2)
  clear h2
  go_wp2_with fail
  refine (awake_any _).mono ?_
  rintro x w3 ⟨rfl, h3⟩
  have H3 := Lib.hid (H2.out.next h3)
  clear h3
  go_wp2
  go_ret
  exact ⟨rfl, H3.out⟩

set_option maxHeartbeats 1000000 in
set_option maxRecDepth 100000 in
theorem limits_in (n : Nat) (l s e k : Int) (h40 : n ≤ 40) (t0 : ¬ k < 1) (t1 : ¬ 4 < k) (t2 : ¬ l < 0) (t3 : ¬ 1048576 < l) (t4 : ¬ s < 0) (t5 : ¬ 1099511627776 < s) (t6 : ¬ e < 0) (t7 : ¬ 4294967295 < e) (w : World) :
    Calls Try.prog 6 #[.int .i64 (n : Int), .int .i64 l, .int .i64 s, .int .i64 e, .int .i64 k] w (Gives (.bool true) w) := by
  obtain ⟨k, rfl⟩ : ∃ k' : Nat, k = (k' : Int) := ⟨k.toNat, by omega⟩
  obtain ⟨e, rfl⟩ : ∃ k' : Nat, e = (k' : Int) := ⟨e.toNat, by omega⟩
  obtain ⟨s, rfl⟩ : ∃ k' : Nat, s = (k' : Int) := ⟨s.toNat, by omega⟩
  obtain ⟨l, rfl⟩ : ∃ k' : Nat, l = (k' : Int) := ⟨l.toNat, by omega⟩
  have HE := Lib.hid (fun A L w hl hB hx => encode_yes A k e s l n n L ⟨by omega, by omega, by omega, by omega, by omega, by omega, hB⟩ hl w hx)
  have d8 : decide ((40 : Int) < (n : Int)) = false := decide_eq_false (by omega)
  have d0 : decide ((k : Int) < 1) = false := decide_eq_false t0
  have d1 : decide (4 < (k : Int)) = false := decide_eq_false t1
  have d2 : decide ((l : Int) < 0) = false := decide_eq_false t2
  have d3 : decide (1048576 < (l : Int)) = false := decide_eq_false t3
  have d4 : decide ((s : Int) < 0) = false := decide_eq_false t4
  have d5 : decide (1099511627776 < (s : Int)) = false := decide_eq_false t5
  have d6 : decide ((e : Int) < 0) = false := decide_eq_false t6
  have d7 : decide (4294967295 < (e : Int)) = false := decide_eq_false t7
  go_enter Try.func6, Try.ntmps6
  go_wp2_with fail
  refine (block_any n (by omega) _).mono ?_
  rintro x w1 ⟨g, L, rfl, hl, hB, hv, h1⟩
  have H1 := Lib.hid h1
  have HE2 := Lib.hid (HE.out _ L w1 hl hB hv)
  clear h1 hl hB hv
  go_wp2_with fail
  refine HE2.out.mono ?_
  rintro x w2 ⟨g2, rfl, _, _, h2⟩
  have H2 := Lib.hid (H1.out.next h2)
  clear h2
  go_wp2_with fail
  refine (awake_any _).mono ?_
  rintro x w3 ⟨rfl, h3⟩
  have H3 := Lib.hid (H2.out.next h3)
  clear h3
  go_wp2
  go_ret
  exact ⟨rfl, H3.out⟩

theorem limits_any (n l s e k : Int) (w : World) :
    Calls Try.prog 6 #[.int .i64 n, .int .i64 l, .int .i64 s, .int .i64 e, .int .i64 k] w (Gives (.bool true) w) := by
  by_cases h : n < 0 ∨ 60 < n
  · exact limits_out n l s e k h w
  obtain ⟨n, rfl⟩ : ∃ m : Nat, n = (m : Int) := ⟨n.toNat, by omega⟩
  have hn : n ≤ 60 := by omega
  by_cases t0 : k < 1
  · exact limits_0 n l s e k hn t0 w
  by_cases t1 : 4 < k
  · exact limits_1 n l s e k hn t0 t1 w
  by_cases t2 : l < 0
  · exact limits_2 n l s e k hn t0 t1 t2 w
  by_cases t3 : 1048576 < l
  · exact limits_3 n l s e k hn t0 t1 t2 t3 w
  by_cases t4 : s < 0
  · exact limits_4 n l s e k hn t0 t1 t2 t3 t4 w
  by_cases t5 : 1099511627776 < s
  · exact limits_5 n l s e k hn t0 t1 t2 t3 t4 t5 w
  by_cases t6 : e < 0
  · exact limits_6 n l s e k hn t0 t1 t2 t3 t4 t5 t6 w
  by_cases t7 : 4294967295 < e
  · exact limits_7 n l s e k hn t0 t1 t2 t3 t4 t5 t6 t7 w
  by_cases h40 : n ≤ 40
  · exact limits_in n l s e k h40 t0 t1 t2 t3 t4 t5 t6 t7 w
  · exact limits_len n l s e k hn (by omega) t0 t1 t2 t3 t4 t5 t6 t7 w

end Go.Proofs.Ytkohkpmpbcgodaa
