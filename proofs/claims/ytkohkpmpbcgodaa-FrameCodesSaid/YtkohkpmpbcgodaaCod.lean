/- Proved: the law FrameCodes answers true at any block and any bytes and leaves what there was as it was: any block is written, or refused; any bytes are read as the block that they are, or refused. -/
import Derived.Test.YtkohkpmpbcgodaaRde
namespace Go.Proofs.Ytkohkpmpbcgodaa
open Go.RowKit

theorem allB_nil : AllB [] := fun _ h => by cases h
/-- Both Encodes hand back the same bytes and the same number. -/
theorem enc_both (k e s l : Int) (A : Option Addr) (n c : Nat) (L : List Nat) (hl : L.length = n) (hL : AllB L) (hz : A = none → n = 0 ∧ c = 0) : ∃ (r : Nat) (Q : List Nat), AllB Q ∧ Q.length ≤ 64 ∧
    (∀ w, BV w A L → Calls Try.prog 9 #[.agg #[.int .i64 k, .int .i64 e, .int .i64 s, .int .i64 l, .slice A n c]] w fun x w' => ∃ B d, x = .returned (.tuple #[.slice B Q.length d, .int .i64 (r : Int)]) ∧ BV w' B Q ∧ At w w') ∧
    (∀ w, BV w A L → Calls Try.prog 11 #[.agg #[.int .i64 k, .int .i64 e, .int .i64 s, .int .i64 l, .slice A n c]] w fun x w' => ∃ B d, x = .returned (.tuple #[.slice B Q.length d, .int .i64 (r : Int)]) ∧ BV w' B Q ∧ At w w') := by
  by_cases h : Nums k e s l
  · by_cases h40 : n ≤ 40
    · obtain ⟨h1, h2, h3, h4⟩ := h
      obtain ⟨k, rfl⟩ : ∃ m : Nat, k = (m : Int) := ⟨k.toNat, by omega⟩
      obtain ⟨e, rfl⟩ : ∃ m : Nat, e = (m : Int) := ⟨e.toNat, by omega⟩
      obtain ⟨s, rfl⟩ : ∃ m : Nat, s = (m : Int) := ⟨s.toNat, by omega⟩
      obtain ⟨l, rfl⟩ : ∃ m : Nat, l = (m : Int) := ⟨l.toNat, by omega⟩
      have hm : May k e s l L := ⟨by omega, by omega, by omega, by omega, by omega, by omega, hL⟩
      have hq := en_len (k := k) (e := e) (s := s) (l := l) hm.n
      refine ⟨0, en k e s l L, en_byte hm, by omega, fun w hx => ?_, fun w hx => ?_⟩
      · refine (encode_yes A k e s l n c L hm hl w hx).mono ?_
        rintro x w' ⟨g, rfl, _, hv, h⟩
        rw [hq]
        exact ⟨_, _, rfl, hv, h⟩
      · refine (rencode_yes k e s l A n c L hm hl hz w hx).mono ?_
        rintro x w' ⟨g, d, rfl, hv, h⟩
        rw [hq]
        exact ⟨_, _, rfl, hv, h⟩
    · refine ⟨3, [], allB_nil, by simp, fun w _ => ?_, fun w _ => ?_⟩
      · refine (encode_len A k e s l n c h.1 h.2.1 h.2.2.1 h.2.2.2 (by omega) w).mono ?_
        rintro x w' ⟨rfl, h⟩
        exact ⟨_, _, rfl, BV.nil _ _, h⟩
      · obtain ⟨h1, h2, h3, h4⟩ := h
        refine (rencode_len k e s l A n c (by omega) (by omega) (by omega) (by omega) (by omega) (by omega) (by omega) (by omega) (by omega) w).mono ?_
        rintro x w' ⟨rfl, h⟩
        exact ⟨_, _, rfl, BV.nil _ _, h⟩
  · refine ⟨1, [], allB_nil, by simp, fun w _ => ?_, fun w _ => ?_⟩
    · refine (encode_arg A k e s l n c h w).mono ?_
      rintro x w' ⟨rfl, h⟩
      exact ⟨_, _, rfl, BV.nil _ _, h⟩
    · refine (rencode_no k e s l A n c h w).mono ?_
      rintro x w' ⟨rfl, h⟩
      exact ⟨_, _, rfl, BV.nil _ _, h⟩
/-- Both Decodes hand back the same block and the same number. -/
theorem dec_both (A : Option Addr) (m c : Nat) (M : List Nat) (hl : M.length = m) (hM : AllB M) (hc : m ≤ c) : ∃ (k e s l : Int) (Y : List Nat) (r : Nat), AllB Y ∧ Y.length ≤ 1000 ∧
    (∀ w, BV w A M → Calls Try.prog 12 #[.slice A m c] w fun x w' => ∃ B d, x = .returned (.tuple #[.agg #[.int .i64 k, .int .i64 e, .int .i64 s, .int .i64 l, .slice B Y.length d], .int .i64 (r : Int)]) ∧ BV w' B Y ∧ At w w') ∧
    (∀ w, BV w A M → Calls Try.prog 13 #[.slice A m c] w fun x w' => ∃ B d, x = .returned (.tuple #[.agg #[.int .i64 k, .int .i64 e, .int .i64 s, .int .i64 l, .slice B Y.length d], .int .i64 (r : Int)]) ∧ BV w' B Y ∧ At w w') := by
  by_cases h : m = 64
  · subst h
    by_cases hg : Good M
    · refine ⟨(fk M : Int), (fe M : Int), (fs M : Int), (fl M : Int), fb M, 0, part_byte hM _ _, by have := fb_len M hl hg.n; have := hg.n; omega, fun w hx => ?_, fun w hx => ?_⟩
      · refine (decode_row A c M hl hM w hx hc).mono ?_
        rintro x w' (⟨_, B, n, d, rfl, hn, hv, h⟩ | ⟨h, _⟩)
        · subst hn
          exact ⟨B, d, rfl, hv, h⟩
        · exact absurd hg h
      · refine (rdecode_row A c M hl hM w hx hc).mono ?_
        rintro x w' (⟨_, B, n, d, rfl, hn, hv, h⟩ | ⟨h, _⟩)
        · subst hn
          exact ⟨B, d, rfl, hv, h⟩
        · exact absurd hg h
    · refine ⟨0, 0, 0, 0, [], 13, allB_nil, by simp, fun w hx => ?_, fun w hx => ?_⟩
      · refine (decode_row A c M hl hM w hx hc).mono ?_
        rintro x w' (⟨h, _⟩ | ⟨_, rfl, h⟩)
        · exact absurd h hg
        · exact ⟨none, 0, rfl, BV.nil _ _, h⟩
      · refine (rdecode_row A c M hl hM w hx hc).mono ?_
        rintro x w' (⟨h, _⟩ | ⟨_, rfl, h⟩)
        · exact absurd h hg
        · exact ⟨none, 0, rfl, BV.nil _ _, h⟩
  · refine ⟨0, 0, 0, 0, [], 3, allB_nil, by simp, fun w _ => ?_, fun w _ => ?_⟩
    · refine (decode_len A m c w h).mono ?_
      rintro x w' ⟨rfl, h⟩
      exact ⟨none, 0, rfl, BV.nil _ _, h⟩
    · refine (rdecode_len A m c w h).mono ?_
      rintro x w' ⟨rfl, h⟩
      exact ⟨none, 0, rfl, BV.nil _ _, h⟩

set_option maxHeartbeats 1000000 in
set_option maxRecDepth 100000 in
theorem codes_big1 (k e s l : Int) (A A' : Option Addr) (n c m c' : Nat) (h : 300 < n) (w : World) :
    Calls Try.prog 3 #[.agg #[.int .i64 k, .int .i64 e, .int .i64 s, .int .i64 l, .slice A n c], .slice A' m c'] w (Gives (.bool true) w) := by
  have q : decide ((300 : Int) < (n : Int)) = true := decide_eq_true (by omega)
  have HA := Lib.hid ((At.start w).alloc (.cells #[.int .i64 k, .int .i64 e, .int .i64 s, .int .i64 l, .slice A n c] 24))
  go_enter Try.func3, Try.ntmps3
  go_wp2_with (go_at_call 8; refine (awake_any _).mono ?_; rintro x w' ⟨rfl, hb⟩)
  go_ret
  exact ⟨rfl, HA.out.next hb⟩
set_option maxHeartbeats 1000000 in
set_option maxRecDepth 100000 in
theorem codes_big2 (k e s l : Int) (A A' : Option Addr) (n c m c' : Nat) (h0 : n ≤ 300) (h : 300 < m) (w : World) :
    Calls Try.prog 3 #[.agg #[.int .i64 k, .int .i64 e, .int .i64 s, .int .i64 l, .slice A n c], .slice A' m c'] w (Gives (.bool true) w) := by
  have q0 : decide ((300 : Int) < (n : Int)) = false := decide_eq_false (by omega)
  have q : decide ((300 : Int) < (m : Int)) = true := decide_eq_true (by omega)
  have HA := Lib.hid ((At.start w).alloc (.cells #[.int .i64 k, .int .i64 e, .int .i64 s, .int .i64 l, .slice A n c] 24))
  go_enter Try.func3, Try.ntmps3
  go_wp2_with (go_at_call 8; refine (awake_any _).mono ?_; rintro x w' ⟨rfl, hb⟩)
  go_ret
  exact ⟨rfl, HA.out.next hb⟩

/-- What the loop gathers. -/
def pl (m : Nat) (M : List Nat) (i : Nat) : Bool := decide (m = 64) && zs (M.take i)
theorem pl_zero (m : Nat) (M : List Nat) : pl m M 0 = decide (m = 64) := by simp [pl, zs]
theorem pl_all (m : Nat) (M : List Nat) (h : M.length = m) : pl m M m = (decide (m = 64) && zs M) := by rw [pl, List.take_of_length_le (by omega)]
theorem pl_more (m : Nat) (M : List Nat) (i : Nat) (h : i < M.length) : pl m M (i + 1) = (pl m M i && decide (M.getD i 0 = 0)) := by
  rw [pl, pl, take_more M i h, Bool.and_assoc]
  congr 1
  unfold zs
  rw [← Bool.decide_and]
  congr 1
  simp only [List.mem_append, List.mem_singleton, eq_iff_iff]
  constructor
  · intro h'; exact ⟨fun c hc => h' c (Or.inl hc), h' _ (Or.inr rfl)⟩
  · rintro ⟨h1, h2⟩ c (hc | hc)
    · exact h1 c hc
    · rw [hc]; exact h2

set_option maxHeartbeats 4000000 in
set_option maxRecDepth 100000 in
theorem codes_some (k e s l : Int) (A A' : Option Addr) (n c m c' : Nat) (L M : List Nat) (h1 : n ≤ 300) (h2 : m ≤ 300) (hl : L.length = n) (hL : AllB L) (hz : A = none → n = 0 ∧ c = 0) (hm : M.length = m) (hM : AllB M) (hc : m ≤ c') (w : World) (hx : BV w A L) (hy : BV w A' M) :
    Calls Try.prog 3 #[.agg #[.int .i64 k, .int .i64 e, .int .i64 s, .int .i64 l, .slice A n c], .slice A' m c'] w (Gives (.bool true) w) := by
  have q1 : decide ((300 : Int) < (n : Int)) = false := decide_eq_false (by omega)
  have q2 : decide ((300 : Int) < (m : Int)) = false := decide_eq_false (by omega)
  obtain ⟨r, Q, hQ, hQl, he1, he2⟩ := enc_both k e s l A n c L hl hL hz
  obtain ⟨k2, e2, s2, l2, Y, r2, hY, hYl, hd1, hd2⟩ := dec_both A' m c' M hm hM hc
  have HPL := Lib.hid (fun w (hx : BV w A' M) => plain_any A' m c' M (by omega) hm hM w hx)
  have HE1 := Lib.hid he1
  have HE2 := Lib.hid he2
  have HD1 := Lib.hid hd1
  have HD2 := Lib.hid hd2
  have HQ := Lib.hid hQ
  have HY := Lib.hid hY
  have HX := Lib.hid hx
  have HYY := Lib.hid hy
  have HML := Lib.hid hm
  have HMB := Lib.hid hM
  obtain ⟨p0, hp0⟩ : ∃ p, p = decide (m = 64) := ⟨_, rfl⟩
  have hmm : ((m : Int) == 64) = p0 := by rw [hp0, Bool.eq_iff_iff]; simp; omega
  have HP0 : Hid (pl m M 0 = p0) := Lib.hid (by rw [pl_zero, hp0])
  have HPA : Hid (pl m M m = (decide (m = 64) && zs M)) := Lib.hid (pl_all m M hm)
  have HPM : Hid (∀ i, i < m → pl m M (i + 1) = (pl m M i && decide (M.getD i 0 = 0))) := Lib.hid (fun i hi => pl_more m M i (by omega))
  clear hp0
  obtain ⟨ql, hql⟩ : ∃ q, q = Q.length := ⟨_, rfl⟩
  obtain ⟨yl, hyl⟩ : ∃ q, q = Y.length := ⟨_, rfl⟩
  rw [← hql] at HE1 HE2 hQl
  rw [← hyl] at HD1 HD2 hYl
  have HQL := Lib.hid hql.symm
  have HYL := Lib.hid hyl.symm
  obtain ⟨b, hb⟩ : ∃ b, b = w.heap.size := ⟨_, rfl⟩
  obtain ⟨w0, hw0⟩ : ∃ w0, w0 = w.alloc (.cells #[.int .i64 k, .int .i64 e, .int .i64 s, .int .i64 l, .slice A n c] 24) := ⟨_, rfl⟩
  have B0 : Hid (Bx w0 b 24 k e s l (.slice A n c)) := Lib.hid (by rw [hw0, hb]; exact bx_new _ _ _ _ _ _ _)
  have HA : Hid (At w w0) := Lib.hid (by rw [hw0]; exact (At.start w).alloc _)
  have HW := Lib.hid hw0
  have HBB := Lib.hid hb
  clear hl hL hz hm hM hx hy he1 he2 hd1 hd2 hQ hY hql hyl hw0 hb
  go_enter Try.func3, Try.ntmps3
  go_wp2_with fail
  rw [← HW.out, ← HBB.out]
  refine (made_any _ _ _ _ A n c _).mono ?_
  rintro x1 w1 ⟨rfl, a1⟩
  have B1 := Lib.hid (B0.out.on a1)
  have A1 := Lib.hid (HA.out.next a1)
  clear a1 B0
  go_wp2_with fail
  refine (HE1.out _ (A1.out.bv HX.out)).mono ?_
  rintro x2 w2 ⟨B2, d2, rfl, v2, a2⟩
  have A2 := Lib.hid (A1.out.next a2)
  have V2 := Lib.hid v2
  obtain ⟨c0, c1, c2, c3, c4⟩ := (B1.out.on a2).cells
  clear a2 v2 B1
  go_wp2_with fail
  refine (HE2.out _ (A2.out.bv HX.out)).mono ?_
  rintro x3 w3 ⟨B3, d3, rfl, v3, a3⟩
  have A3 := Lib.hid (A2.out.next a3)
  have V23 := Lib.hid (V2.out.below a3)
  have V3 := Lib.hid v3
  clear a3 v3 c0 c1 c2 c3 c4 V2
  go_wp2_with fail
  refine (HD1.out _ (A3.out.bv HYY.out)).mono ?_
  rintro x4 w4 ⟨B4, d4, rfl, v4, a4⟩
  obtain ⟨x9, hx9⟩ : ∃ x, x = w4.heap.size := ⟨_, rfl⟩
  obtain ⟨w5, hw5⟩ : ∃ w5, w5 = w4.alloc (.cells #[.int .i64 k2, .int .i64 e2, .int .i64 s2, .int .i64 l2, .slice B4 yl d4] 29) := ⟨_, rfl⟩
  have g5 : At w4 w5 := by rw [hw5]; exact (At.start w4).alloc _
  have X5 : Hid (Bx w5 x9 29 k2 e2 s2 l2 (.slice B4 yl d4)) := Lib.hid (by rw [hw5, hx9]; exact bx_new _ _ _ _ _ _ _)
  have A5 := Lib.hid ((A3.out.next a4).next g5)
  have V25 := Lib.hid ((V23.out.below a4).below g5)
  have V35 := Lib.hid ((V3.out.below a4).below g5)
  have V45 := Lib.hid (v4.below g5)
  have HW5 := Lib.hid hw5
  have HX9 := Lib.hid hx9
  clear a4 g5 hw5 hx9 v4 V23 V3
  go_wp2_with fail
  rw [← HW5.out, ← HX9.out]
  refine (HD2.out _ (A5.out.bv HYY.out)).mono ?_
  rintro x6 w6 ⟨B6, d6, rfl, v6, a6⟩
  obtain ⟨z9, hz9⟩ : ∃ x, x = w6.heap.size := ⟨_, rfl⟩
  obtain ⟨w7, hw7⟩ : ∃ w7, w7 = w6.alloc (.cells #[.int .i64 k2, .int .i64 e2, .int .i64 s2, .int .i64 l2, .slice B6 yl d6] 24) := ⟨_, rfl⟩
  have g7 : At w6 w7 := by rw [hw7]; exact (At.start w6).alloc _
  have Z7 : Hid (Bx w7 z9 24 k2 e2 s2 l2 (.slice B6 yl d6)) := Lib.hid (by rw [hw7, hz9]; exact bx_new _ _ _ _ _ _ _)
  have A7 := Lib.hid ((A5.out.next a6).next g7)
  have X7 := Lib.hid ((X5.out.on a6).on g7)
  have V27 := Lib.hid ((V25.out.below a6).below g7)
  have V37 := Lib.hid ((V35.out.below a6).below g7)
  have V47 := Lib.hid ((V45.out.below a6).below g7)
  have V67 := Lib.hid (v6.below g7)
  have HW7 := Lib.hid hw7
  have HZ9 := Lib.hid hz9
  clear a6 g7 hw7 hz9 v6 V25 V35 V45 X5
  go_wp2_with fail
  rw [← HW7.out, ← HZ9.out]
  have HM7 := Lib.hid (A7.out.bv HYY.out)
  go_loop [13, 14] (fun c13 c14 => ∃ i : Nat, i ≤ m ∧ c14 = .int .i64 (i : Int) ∧ ∃ g : Bool, c13 = .bool g ∧ Hid (g = pl m M i)) (fun _ c14 => m - (intOf c14).toNat)
  case atStart => exact ⟨0, Nat.zero_le _, rfl, p0, rfl, Lib.hid HP0.out.symm⟩
  case round =>
    obtain ⟨i, hi, rfl, g, rfl, HGI⟩ := hrel
    by_cases hlt : i < m
    · obtain ⟨bb, oo, rfl, _, hcell⟩ := HM7.out.pos (by rw [HML.out]; omega)
      have e1 := hcell i (by rw [HML.out]; exact hlt)
      have hnx := HPM.out i hlt
      rw [← HGI.out] at hnx
      obtain ⟨y, hy⟩ : ∃ y, y = M.getD i 0 := ⟨_, rfl⟩
      rw [← hy] at e1 hnx
      have g1 : (0 : Int) ≤ (i : Int) := by omega
      have HNX := Lib.hid hnx
      clear hcell hnx hy
      cases g with
      | false =>
        go_wp2
        go_round
        case rel => exact ⟨i + 1, by omega, by go_num, false, rfl, Lib.hid (by rw [HNX.out]; rfl)⟩
        case measure => simp [intOf]; omega
      | true =>
        by_cases h0 : y = 0
        · subst h0
          go_wp2
          go_round
          case rel => exact ⟨i + 1, by omega, by go_num, true, rfl, Lib.hid (by rw [HNX.out]; rfl)⟩
          case measure => simp [intOf]; omega
        · have nb : ((y : Int) == 0) = false := by simp; omega
          have HNY : Hid (pl m M (i + 1) = false) := Lib.hid (by rw [HNX.out, decide_eq_false h0]; rfl)
          clear h0
          go_wp2
          go_round
          case rel => exact ⟨i + 1, by omega, by go_num, false, rfl, Lib.hid HNY.out.symm⟩
          case measure => simp [intOf]; omega
    · have him : i = m := by omega
      subst him
      have hgi := HGI.out
      rw [HPA.out] at hgi
      have HG := Lib.hid hgi
      clear hgi
      have K1 := Lib.hid (bytes_all B2 B3 ql ql d2 d3 Q Q w7 (by omega) HQL.out HQL.out HQ.out HQ.out V27.out V37.out)
      rw [decide_eq_true rfl] at K1
      go_wp2_with fail
      refine K1.out.mono ?_
      rintro x8 w8 ⟨rfl, a8⟩
      have A8 := Lib.hid (A7.out.next a8)
      obtain ⟨u0, u1, u2, u3, u4⟩ := (X7.out.on a8).cells
      obtain ⟨z0, z1, z2, z3, z4⟩ := (Z7.out.on a8).cells
      have K2 := Lib.hid (same_any k2 e2 s2 l2 k2 e2 s2 l2 B4 B6 yl d4 yl d6 Y Y (by omega) HYL.out HYL.out HY.out HY.out w8 (V47.out.below a8) (V67.out.below a8))
      rw [decide_eq_true ⟨rfl, rfl, rfl, rfl, rfl⟩] at K2
      clear a8 K1
      go_wp2_with fail
      refine K2.out.mono ?_
      rintro x9' w9 ⟨rfl, a9⟩
      have A9 := Lib.hid (A8.out.next a9)
      have K3 := Lib.hid (HPL.out w9 (A9.out.bv HYY.out))
      rw [← HG.out] at K3
      clear a9 K2
      go_wp2_with fail
      refine K3.out.mono ?_
      rintro x10 w' ⟨rfl, rfl⟩
      go_wp2_with fail
      refine (awake_any _).mono ?_
      rintro x11 w11 ⟨rfl, a11⟩
      have A11 := Lib.hid (A9.out.next a11)
      clear a11
      go_wp2
      go_ret
      exact ⟨rfl, A11.out⟩

theorem codes_any (k e s l : Int) (A A' : Option Addr) (n c m c' : Nat) (L M : List Nat) (hl : L.length = n) (hL : AllB L) (hz : A = none → n = 0 ∧ c = 0) (hm : M.length = m) (hM : AllB M) (hc : m ≤ c') (w : World) (hx : BV w A L) (hy : BV w A' M) :
    Calls Try.prog 3 #[.agg #[.int .i64 k, .int .i64 e, .int .i64 s, .int .i64 l, .slice A n c], .slice A' m c'] w (Gives (.bool true) w) := by
  by_cases h1 : 300 < n
  · exact codes_big1 k e s l A A' n c m c' h1 w
  by_cases h2 : 300 < m
  · exact codes_big2 k e s l A A' n c m c' (by omega) h2 w
  exact codes_some k e s l A A' n c m c' L M (by omega) (by omega) hl hL hz hm hM hc w hx hy

end Go.Proofs.Ytkohkpmpbcgodaa
